/-
  The walk of a formula's making out of raw numbers.
-/
import Derived.Test.YtlodenfdcckemaaDoorH46
import Derived.Test.YtlodenfdcckemaaDoorH50
import Derived.Deep.RegionHeld3
namespace Go.Proofs.YtlodenfdcckemaaDoor
open Go.RowKit

/-- Lists that a call has made, in memory: each its own block, all from base on. -/
structure MadeL (w : World) (base : Nat) (v : Value) (vs : List Value) (cs : List (List Int)) : Prop where
  oe : Own w base 24 v vs
  len : vs.length = cs.length
  ls : ∀ i, i < vs.length → Own w base 3 (vs.getD i undef) (ints (cs.getD i []))

theorem MadeL.start (w : World) (base : Nat) : MadeL w base (.slice none 0 0) [] [] := ⟨Own.nil _ _ _, rfl, fun i hi => absurd hi (by simp)⟩

theorem MadeL.chg {w w' : World} {base : Nat} {v : Value} {vs : List Value} {cs : List (List Int)} {S : Nat → Prop} (h : MadeL w base v vs cs) (hc : Chg S w w') (hn : ∀ k, base ≤ k → k < w.heap.size → ¬ S k) : MadeL w' base v vs cs :=
  ⟨h.oe.chg hc (fun k e => hn k (h.oe.lt e).1 (h.oe.lt e).2), h.len, fun i hi => (h.ls i hi).chg hc (fun k e => hn k ((h.ls i hi).lt e).1 ((h.ls i hi).lt e).2)⟩

theorem MadeL.below' {w w' : World} {base : Nat} {v : Value} {vs : List Value} {cs : List (List Int)} (h : MadeL w base v vs cs) (hb : Below w.heap.size w w') : MadeL w' base v vs cs :=
  h.chg (S := fun _ => False) (Chg.of_below hb) (fun _ _ _ e => e)

theorem MadeL.lists {w : World} {base : Nat} {v : Value} {vs : List Value} {cs : List (List Int)} (h : MadeL w base v vs cs) : ∃ ao cap, v = .slice ao cs.length cap ∧ ListsAt w w.heap.size ao cs := by
  obtain ⟨ao, cap, hv⟩ := h.oe.shape
  refine ⟨ao, cap, by rw [hv, h.len], fun hne => ?_⟩
  have hpos : 0 < vs.length := by rw [h.len]; exact List.length_pos_iff.2 hne
  obtain ⟨g, cap', hv', hg, hcells⟩ := h.oe.at hpos
  rw [hv] at hv'
  simp only [Value.slice.injEq] at hv'
  refine ⟨g, 0, hv'.1, hg, fun i hi => ?_⟩
  have hi' : i < vs.length := by rw [h.len]; exact hi
  obtain ⟨A, C, h1, h2⟩ := (h.ls i hi').ints (Nat.le_refl _)
  exact ⟨A, C, by rw [Nat.zero_add, hcells i hi', h1], h2⟩

/-- A list more. -/
theorem MadeL.more {w w' : World} {base g cap n : Nat} {v x : Value} {vs : List Value} {cs : List (List Int)} {c : List Int} (h : MadeL w base v vs cs) (hx : Own w base 3 x (ints c)) (hown : Own w' base 24 (.slice (some ⟨g, 0, none⟩) n cap) (vs ++ [x])) (hC : Chg (fun k => v.ownBlock = some k) w w') : MadeL w' base (.slice (some ⟨g, 0, none⟩) n cap) (vs ++ [x]) (cs ++ [c]) := by
  have hl := h.len
  refine ⟨hown, by simp [hl], fun i hi => ?_⟩
  by_cases hlt : i < vs.length
  · have := (h.ls i hlt).chg hC (fun k e e' => own_ne h.oe (h.ls i hlt) (by decide) e' e)
    rw [getD_lt _ _ _ hi, List.getElem_append_left hlt, getD_lt _ _ _ (by simp; omega), List.getElem_append_left (by omega)]
    rw [getD_lt _ _ _ hlt, getD_lt _ _ _ (by omega)] at this
    exact this
  · have hi' : i = vs.length := by simp at hi; omega
    subst hi'
    have := hx.chg hC (fun k e e' => own_ne h.oe hx (by decide) e' e)
    rw [getD_lt _ _ _ hi, getD_lt _ _ _ (by simp; omega)]
    simpa [hl] using this

/-- Behind a clause's putting in. -/
theorem kf_end {w w3 wq w5 : World} {base Fb Rb g5 n5 c5 : Nat} {V : Int} {v x : Value} {vs : List Value} {cs : List (List Int)} {c : List Int} {o : Obj} (hM : MadeL w3 base v vs cs) (hBq : Below w3.heap.size w3 wq) (hx : Own wq w3.heap.size 3 x (ints c)) (hO5 : Own w5 base 24 (.slice (some ⟨g5, 0, none⟩) n5 c5) (vs ++ [x])) (hgr : (wq.alloc o).grownBy w5 v.ownBlock)
    (hF : Blk w3 Fb 31 [.int .i64 V, v]) (hR : Blk w3 Rb 31 [.int .i64 0, .slice none 0 0]) (hFb : Fb < base) (hRb : Rb < base) (hRF : Rb ≠ Fb) (hwF : w.heap.size ≤ Fb) (hb3 : base ≤ w3.heap.size) (hbe : Below w.heap.size w w3) :
    w5.cell? ⟨Fb, 1, none⟩ = some v ∧ w5.frozen? ⟨Fb, 1, none⟩ = false ∧ MadeL (w5.setCell ⟨Fb, 1, none⟩ (.slice (some ⟨g5, 0, none⟩) n5 c5)) base (.slice (some ⟨g5, 0, none⟩) n5 c5) (vs ++ [x]) (cs ++ [c]) ∧
      Blk (w5.setCell ⟨Fb, 1, none⟩ (.slice (some ⟨g5, 0, none⟩) n5 c5)) Fb 31 [.int .i64 V, .slice (some ⟨g5, 0, none⟩) n5 c5] ∧ Blk (w5.setCell ⟨Fb, 1, none⟩ (.slice (some ⟨g5, 0, none⟩) n5 c5)) Rb 31 [.int .i64 0, .slice none 0 0] ∧ Below w.heap.size w (w5.setCell ⟨Fb, 1, none⟩ (.slice (some ⟨g5, 0, none⟩) n5 c5)) := by
  have hsq := hBq.size
  have hMq := hM.below' hBq
  have hC5 : Chg (fun k => v.ownBlock = some k) wq w5 := (Chg.of_below (alloc_below wq o)).trans (Chg.of_grown (S := fun k => v.ownBlock = some k) hgr (fun k e => e) (fun k e o' ho => (hMq.oe.alloc o).cells e o' ho))
  have hvb : ∀ k, v.ownBlock = some k → base ≤ k := fun k e => (hMq.oe.lt e).1
  have F5 : Blk w5 Fb 31 [.int .i64 V, v] := (hF.below' hBq).chg hC5 (fun e => by have := hvb _ e; omega)
  have R5 : Blk w5 Rb 31 [.int .i64 0, .slice none 0 0] := (hR.below' hBq).chg hC5 (fun e => by have := hvb _ e; omega)
  have hCs : Chg (fun k => k = Fb) w5 (w5.setCell ⟨Fb, 1, none⟩ (.slice (some ⟨g5, 0, none⟩) n5 c5)) := Chg.setB (S := fun k => k = Fb) (Chg.refl _ _) Fb 1 rfl _
  have hM5 := hMq.more (hx.base hb3) hO5 hC5
  refine ⟨F5.cell (i := 1) (by simp) undef, F5.frozen 1, hM5.chg hCs (fun k h1 _ h2 => by omega), F5.set 1 _, R5.setOther (a := ⟨Fb, 1, none⟩) hRF _, ?_⟩
  have h1 : Below w.heap.size w wq := hbe.trans (hBq.mono hbe.size)
  have h2 : Below w.heap.size w w5 := h1.trans (hC5.below h1.size fun k e => by have := hvb k e; omega)
  exact h2.trans (hCs.below h2.size fun k e => by omega)

theorem MadeL.base {w : World} {b b' : Nat} {v : Value} {vs : List Value} {cs : List (List Int)} (h : MadeL w b v vs cs) (hb : b' ≤ b) : MadeL w b' v vs cs := ⟨h.oe.base hb, h.len, fun i hi => (h.ls i hi).base hb⟩

theorem res1 {fn : Func} {tmps : Array Value} {W : World} {R : Nat} {a : Int} {ao : Option Addr} {n cap : Nat} (hf : fn.results = #[.cell 6 31]) (hB : Blk W R 31 [.int .i64 a, .slice ao n cap]) (h2 : tmps[6]? = some (.pointer (some ⟨R, 0, none⟩))) :
    (results fn tmps).run Tryd.prog W = .ok (.agg #[.int .i64 a, .slice ao n cap]) W := by
  have c0 : W.cell? ⟨R, 0, none⟩ = some (.int .i64 a) := hB.cell (i := 0) (by simp) undef
  have c1 : W.cell? ⟨R, 1, none⟩ = some (.slice ao n cap) := hB.cell (i := 1) (by simp) undef
  simp [results, hf, go_sem, c0, c1, h2]

/-- The clause that a raw list spells. -/
def rowBy (V : Int) (r : List Int) : List Int := (r.take 4).map fun c => litBy c V

set_option maxRecDepth 100000 in
set_option maxHeartbeats 8000000 in
theorem kformula_any (vars : Int) (most : Nat) (ao : Option Addr) (cap : Nat) (raw : List (List Int)) (w : World) (hc : ListsAt w w.heap.size ao raw) (hF : Fits raw) (hv0 : -9223372036854775808 ≤ vars) (hv1 : vars ≤ 9223372036854775807) (hm0 : 1 ≤ most) (hm1 : most ≤ 20) :
    Calls Tryd.prog 26 #[.int .i64 vars, .slice ao raw.length cap, .int .i64 most] w fun e w' => ∃ v vs, e = .returned (.agg #[.int .i64 (rawV vars most), v]) ∧ MadeL w' w.heap.size v vs (rawC (rawV vars most) raw) ∧ Below w.heap.size w w' := by
  have hr := pickOf_range vars (show (0 : Int) < (most : Int) by omega)
  have c1 := pick_any vars (most : Int) (w.alloc (.cells #[.int .i64 0, .slice none 0 0] 31)) hv0 hv1 (by omega) (by omega)
  obtain ⟨V, hV⟩ : ∃ V : Nat, rawV vars most = V := ⟨(rawV vars most).toNat, by unfold rawV; omega⟩
  have hV1 : 1 ≤ V := by unfold rawV at hV; omega
  have hV2 : V ≤ 20 := by unfold rawV at hV; omega
  rw [hV]
  go_enter Tryd.func26, Tryd.ntmps26
  go_wp2_with fail
  refine c1.mono ?_
  rintro e w' ⟨rfl, rfl⟩
  clear c1
  have hVp : (1 : Int) + pickOf vars (most : Int) = V := by rw [← hV]; rfl
  have HVp : Hid ((1 : Int) + pickOf vars (most : Int) = V) := hVp
  generalize pickOf vars (most : Int) = pk at *
  obtain ⟨i0, hi, hz0, hz1, hz2⟩ := info_parts Tryd.info3
  go_wp2
  have b1 := alloc_below w (.cells #[.int .i64 0, .slice none 0 0] 31)
  have B1 : Blk (w.alloc (.cells #[.int .i64 0, .slice none 0 0] 31)) w.heap.size 31 [.int .i64 0, .slice none 0 0] := blk_new w [.int .i64 0, .slice none 0 0] 31
  have s1 := alloc_size w (.cells #[.int .i64 0, .slice none 0 0] 31)
  generalize w.alloc (.cells #[.int .i64 0, .slice none 0 0] 31) = w1 at *
  have b2 := alloc_below w1 (.cells #[.int .i64 V, .slice none 0 0] 31)
  have B2 : Blk (w1.alloc (.cells #[.int .i64 V, .slice none 0 0] 31)) w1.heap.size 31 [.int .i64 V, .slice none 0 0] := blk_new w1 [.int .i64 V, .slice none 0 0] 31
  have s2 := alloc_size w1 (.cells #[.int .i64 V, .slice none 0 0] 31)
  replace B1 := B1.below' b2
  generalize w1.alloc (.cells #[.int .i64 V, .slice none 0 0] 31) = w2 at *
  rw [s1] at B2
  have hb2 : Below w.heap.size w w2 := b1.trans (b2.mono (by omega))
  have hs2 : w2.heap.size = w.heap.size + 1 + 1 := by omega
  have HS2 : Hid (w2.heap.size = w.heap.size + 1 + 1) := hs2
  clear b1 b2 s1 s2 hr hV hVp hs2
  obtain ⟨Rb, HRb⟩ : ∃ Rb, Hid (Rb = w.heap.size) := ⟨_, rfl⟩
  obtain ⟨Fb, HFb⟩ : ∃ Fb, Hid (Fb = w.heap.size + 1) := ⟨_, rfl⟩
  obtain ⟨base, HBa⟩ : ∃ base, Hid (base = w.heap.size + 1 + 1) := ⟨_, rfl⟩
  rw [← HFb.out] at B2
  rw [← HRb.out] at B1
  rw [← HFb.out, ← HRb.out]
  have HB2 : Hid (Below w.heap.size w w2) := hb2
  clear hb2
  go_loopw [8] (fun x wr => ∃ (k : Nat) (v : Value) (vs : List Value), k ≤ raw.length ∧ k ≤ 60 ∧ x = .int .i64 k ∧ Hid (Blk wr Rb 31 [.int .i64 0, .slice none 0 0]) ∧ Hid (Blk wr Fb 31 [.int .i64 V, v]) ∧ Hid (MadeL wr base v vs ((raw.take k).map (rowBy V))) ∧ Hid (Below w.heap.size w wr)) (fun x _ => 60 - (intOf x).toNat)
  case atStart => exact ⟨0, .slice none 0 0, [], Nat.zero_le _, Nat.zero_le _, rfl, B1, B2, MadeL.start _ _, HB2⟩
  case round =>
    obtain ⟨k, v, vs, hk, hk60, rfl, HR, HF1, HM, HBe⟩ := hrel
    have hFl := HF1.out.lt
    have hRl := HR.out.lt
    have hbr : base ≤ wr.heap.size := by have h1 := HBa.out; have h2 := HFb.out; omega
    by_cases hlt : k < raw.length <;> by_cases hlt60 : k < 60
    · have hcr := hc.below HBe.out (Nat.le_refl _)
      obtain ⟨b, o, rfl, hb, hcell⟩ := hcr (by intro h; rw [h] at hlt; simp at hlt)
      obtain ⟨A, Cc, hck, hin⟩ := hcell k hlt
      have hmem := mem_lists hlt
      have hnm := hF.nums _ hmem
      have hel := hF.each _ hmem
      have HT : Hid (raw.take (k + 1) = raw.take k ++ [raw.getD k []]) := take_succ_lists raw k hlt
      generalize raw.getD k [] = r at hck hin HT hnm hel
      have HIn : Hid (IntsAt wr w.heap.size A r) := hin
      have HNm : Hid (∀ l ∈ r, -9223372036854775808 ≤ l ∧ l ≤ 9223372036854775807) := hnm
      have HCK : Hid (wr.cell? ⟨b, o + k, none⟩ = some (.slice A r.length Cc)) := hck
      have hwl : w.heap.size ≤ wr.heap.size := HBe.out.size
      have hbl : b < wr.heap.size := by omega
      clear hcell hmem hin hnm hcr hck
      obtain ⟨w3, rfl⟩ : ∃ x, x = wr := ⟨wr, rfl⟩
      have hck0 := HCK.out
      have hk60' : (k : Int) < 60 := by omega
      have hkr' : (k : Int) < (raw.length : Int) := by omega
      go_wp2
      clear hck0
      go_loopw [9, 10] (fun vc x wq => ∃ (j : Nat), j ≤ r.length ∧ j ≤ 4 ∧ x = .int .i64 j ∧ Hid (Own wq w3.heap.size 3 vc (ints ((r.take j).map fun c => litBy c V))) ∧ Hid (Below w3.heap.size w3 wq)) (fun _ x _ => 4 - (intOf x).toNat)
      case atStart => exact ⟨0, Nat.zero_le _, Nat.zero_le _, rfl, Own.nil _ _ _, Below.refl _ _⟩
      case round =>
        obtain ⟨j, hj, hj4, rfl, HO, HBq⟩ := hrel
        have hck : wr.cell? ⟨b, o + k, none⟩ = some (.slice A r.length Cc) := (HBq.out.cell (p := ⟨b, o + k, none⟩) hbl).trans HCK.out
        have hsq := HBq.out.size
        have hVc : wr.cell? ⟨Fb, 0, none⟩ = some (.int .i64 V) := (HF1.out.below' HBq.out).cell (i := 0) (by simp) undef
        by_cases hlj : j < r.length <;> by_cases hlj4 : j < 4
        · have hinq := HIn.out.below HBq.out hwl
          obtain ⟨b', o', rfl, hb', hcell'⟩ := hinq (by intro h; rw [h] at hlj; simp at hlj)
          have hcx := hcell' j hlj
          have hmem : r.getD j 0 ∈ r := by rw [getD_lt _ _ _ hlj]; exact List.getElem_mem hlj
          obtain ⟨hx0, hx1⟩ := HNm.out _ hmem
          have HRT : Hid (r.take (j + 1) = r.take j ++ [r.getD j 0]) := take_succ_getD r j hlj
          generalize r.getD j 0 = x at hcx hx0 hx1 HRT
          clear hcell' hinq hmem
          have c2 := kliteral_any x V
          have hlb := litBy_lit x hV1
          generalize hy : litBy x V = y at c2
          have HY : Hid (litBy x V = y) := hy
          clear hy hlb
          have hjl : ((r.take j).map fun c => litBy c V).length = j := by simp; omega
          have hck3 : wr.drew.cell? ⟨b, o + k, none⟩ = _ := hck
          have hcx3 : wr.drew.cell? ⟨b', o' + j, none⟩ = _ := hcx
          have hVc3 : wr.drew.cell? ⟨Fb, 0, none⟩ = _ := hVc
          have OA : Own (wr.alloc (.cells #[.int .i64 y] 3)).drew w3.heap.size 3 u9 (ints ((r.take j).map fun c => litBy c V)) := (HO.out.alloc (.cells #[.int .i64 y] 3)).chg (S := fun _ => False) (Chg.drew (Chg.refl _ _)) (fun _ _ h => h)
          have BA0 := alloc_below wr (.cells #[.int .i64 y] 3)
          have BA : Below wr.heap.size wr (wr.alloc (.cells #[.int .i64 y] 3)).drew := ⟨BA0.os, BA0.tape, BA0.output, BA0.size, BA0.block⟩
          have NA : Blk (wr.alloc (.cells #[.int .i64 y] 3)).drew wr.heap.size 3 [.int .i64 y] := (blk_new wr [.int .i64 y] 3).drew
          have SA : (wr.alloc (.cells #[.int .i64 y] 3)).drew.heap.size = wr.heap.size + 1 := alloc_size wr _
          have hbw : b' < wr.heap.size := by omega
          have hone : ∀ u ∈ [Value.int .i64 y], u.oneCell' = true := by intro u hu; simp at hu; rw [hu]; rfl
          have OA' : (wr.alloc (.cells #[.int .i64 y] 3)).drew.ownsRow w3.heap.size 3 1 u9 j (ints ((r.take j).map fun c => litBy c V)) := by
            have := OA.own
            rwa [List.length_map, hjl] at this
          have hlow : ∀ q, q < w3.heap.size → u9.ownBlock ≠ some q := fun q hq e => by have := (OA.lt e).1; omega
          have hb3 : b < w3.heap.size := hbl
          have hb'3 : b' < w3.heap.size := by omega
          have hF3 : Fb < w3.heap.size := hFl
          have hbq1 : b < wr.heap.size := by omega
          have hFq1 : Fb < wr.heap.size := by omega
          go_wp2
          go_region_held3 (fun q => q.cell? ⟨b, o + k, none⟩ = some (.slice (some ⟨b', o', none⟩) r.length Cc) ∧ q.cell? ⟨b', o' + j, none⟩ = some (.int .i64 x) ∧ q.cell? ⟨Fb, 0, none⟩ = some (.int .i64 V))
            (first | exact ⟨k1, k2, k3⟩ | exact ⟨hck3, hcx3, hVc3⟩ | exact ⟨(BA.cell (p := ⟨b, o + k, none⟩) hbq1).trans hck, (BA.cell (p := ⟨b', o' + j, none⟩) hbw).trans hcx, (BA.cell (p := ⟨Fb, 0, none⟩) hFq1).trans hVc⟩ | go_keep)
            (first
              | (go_at_call 31; refine (c2 _ hx0 hx1 hV1 hV2).mono ?_; rintro e q ⟨rfl, rfl⟩)
              | (refine step_append_lies _ (by rfl) (.tmp 39) (.tmp 50) 24 (by rfl) w3.heap.size 3 i0 (.int .i64 0) 1 8 Tryd.underlying24 hi hz0 hz1 hz2 (by rfl) (by decide) u9 j (ints ((r.take j).map fun c => litBy c V)) (by rfl) (by exact OA') ⟨wr.heap.size, 0, none⟩ 1 1 [.int .i64 y] (by rfl) (by rfl) (by exact World.news_of_block NA) hone (by decide) (by unfold maxLen; omega) (by omega) (by rw [SA]; omega) (wr.heap.size + 1) SA ?_; intro g5 cap5 w5 hO5 hgr5 hat5 hlt5; have k1 : w5.cell? ⟨b, o + k, none⟩ = some (.slice (some ⟨b', o', none⟩) r.length Cc) := (World.cell?_of_block (w := (wr.alloc (.cells #[.int .i64 y] 3)).drew) (hgr5.block b (by rw [SA]; omega) (fun e => hlow b hb3 e.symm))).trans ((BA.cell (p := ⟨b, o + k, none⟩) hbq1).trans hck); have k2 : w5.cell? ⟨b', o' + j, none⟩ = some (.int .i64 x) := (World.cell?_of_block (w := (wr.alloc (.cells #[.int .i64 y] 3)).drew) (hgr5.block b' (by rw [SA]; omega) (fun e => hlow b' hb'3 e.symm))).trans ((BA.cell (p := ⟨b', o' + j, none⟩) hbw).trans hcx); have k3 : w5.cell? ⟨Fb, 0, none⟩ = some (.int .i64 V) := (World.cell?_of_block (w := (wr.alloc (.cells #[.int .i64 y] 3)).drew) (hgr5.block Fb (by rw [SA]; omega) (fun e => hlow Fb hF3 e.symm))).trans ((BA.cell (p := ⟨Fb, 0, none⟩) hFq1).trans hVc)))
          go_wp2
          go_roundw
          case rel =>
            refine ⟨j + 1, by omega, by omega, by go_num, ?_, ?_⟩
            · have e : ints ((r.take (j + 1)).map fun c => litBy c V) = ints ((r.take j).map fun c => litBy c V) ++ [.int .i64 y] := by rw [HRT.out, ← HY.out]; simp
              rw [e]
              exact own_of hO5
            · refine HBq.out.trans ((BA.mono hsq).trans ⟨hgr5.os, hgr5.tape, hgr5.output, hgr5.size, fun q hq => hgr5.block q (by rw [SA]; omega) (fun e => hlow q hq e.symm)⟩)
          case measure => simp [intOf]; omega
        all_goals
          have HJ : Hid (r.take j = r.take 4) := by
            unfold Hid
            by_cases h4 : j = 4
            · rw [h4]
            · have : j = r.length := by omega
              rw [this, List.take_length, List.take_of_length_le (by omega)]
          have HOv := HO.out
          rw [HJ.out] at HOv
          have HO1 : Hid (Own wr w3.heap.size 3 u9 (ints (rowBy V r))) := HOv
          have hMq := HM.out.below' HBq.out
          obtain ⟨ve, vcap, hvs⟩ := hMq.oe.shape
          have hvl := HM.out.len
          rw [List.length_map, List.length_take, Nat.min_eq_left hk] at hvl
          rw [hvl] at hvs
          obtain ⟨ua, uc, hu9⟩ := HO1.out.shape
          rw [List.length_map] at hu9
          subst hu9
          subst hvs
          have cv : wr.cell? ⟨Fb, 1, none⟩ = some (.slice ve k vcap) := (HF1.out.below' HBq.out).cell (i := 1) (by simp) undef
          have OA := hMq.oe.alloc (.cells #[.slice ua (rowBy V r).length uc] 24)
          have NA : Blk (wr.alloc (.cells #[.slice ua (rowBy V r).length uc] 24)) wr.heap.size 24 [.slice ua (rowBy V r).length uc] := blk_new wr [.slice ua (rowBy V r).length uc] 24
          have hone : ∀ u ∈ [Value.slice ua (rowBy V r).length uc], u.oneCell' = true := by intro u hu; simp at hu; rw [hu]; rfl
          have hFq1 : Fb < wr.heap.size := by omega
          have hFbb : Fb < base := by have h1 := HFb.out; have h2 := HBa.out; omega
          have hRbb : Rb < base := by have h1 := HRb.out; have h2 := HBa.out; omega
          have hRF : Rb ≠ Fb := by have h1 := HRb.out; have h2 := HFb.out; omega
          have hwF : w.heap.size ≤ Fb := by have h2 := HFb.out; omega
          clear HOv hVc
          generalize hrl : (rowBy V r).length = rl at *
          have HRL : Hid ((rowBy V r).length = rl) := hrl
          clear hrl
          go_wp2_with (first | (at_builtin; refine wpList_append_new (.tmp 53) (.tmp 55) 23 24 (.slice none 0 0) 24 Tryd.underlying23 Tryd.info24 rfl base wr.heap.size (.slice ve k vcap) vs [.slice ua rl uc] 1 k hvl rfl (by decide) (by rfl) (by rfl) OA NA hone (by unfold maxLen; omega) (by omega) (by rw [alloc_size]; omega) ?_; intro g5 cap5 w5 hO5 hgr5 hat5 hlt5; obtain ⟨E1, E2, E3, E4, E5, E6⟩ := kf_end HM.out HBq.out HO1.out hO5 hgr5 HF1.out HR.out hFbb hRbb hRF hwF hbr HBe.out))
          go_roundw
          case rel =>
            refine ⟨k + 1, _, vs ++ [.slice ua rl uc], by omega, by omega, by go_num, E5, E4, ?_, E6⟩
            rw [HT.out, List.map_append]
            exact E3
          case measure => simp [intOf]; omega
    all_goals
      have HK : Hid (raw.take k = raw.take 60) := by
        unfold Hid
        by_cases h6 : k = 60
        · rw [h6]
        · have : k = raw.length := by omega
          rw [this, List.take_length, List.take_of_length_le (by omega)]
      have c0 : wr.cell? ⟨Fb, 0, none⟩ = some (.int .i64 V) := HF1.out.cell (i := 0) (by simp) undef
      have c1 : wr.cell? ⟨Fb, 1, none⟩ = some v := HF1.out.cell (i := 1) (by simp) undef
      have r0 : wr.cell? ⟨Rb, 0, none⟩ = some (.int .i64 0) := HR.out.cell (i := 0) (by simp) undef
      have r1 : wr.cell? ⟨Rb, 1, none⟩ = some (.slice none 0 0) := HR.out.cell (i := 1) (by simp) undef
      have f0 := HR.out.frozen 0
      have f1 := HR.out.frozen 1
      obtain ⟨ve, vcap, hvs⟩ := HM.out.oe.shape
      subst hvs
      have HL : Hid (rawC V raw = (raw.take k).map (rowBy V)) := by unfold Hid rawC; rw [HK.out]; rfl
      have hbase : w.heap.size ≤ base := by have h2 := HBa.out; omega
      have hRw : w.heap.size ≤ Rb := by have h2 := HRb.out; omega
      have hRbb : Rb < base := by have h1 := HRb.out; have h2 := HBa.out; omega
      have B0 := (HR.out.set 0 (.int .i64 V)).set 1 (.slice ve vs.length vcap)
      have hCs : Chg (fun k => k = Rb) wr ((wr.setCell ⟨Rb, 0, none⟩ (.int .i64 V)).setCell ⟨Rb, 1, none⟩ (.slice ve vs.length vcap)) := Chg.setB (S := fun k => k = Rb) (Chg.setB (S := fun k => k = Rb) (Chg.refl _ _) Rb 0 rfl _) Rb 1 rfl _
      have HM2 : Hid (MadeL ((wr.setCell ⟨Rb, 0, none⟩ (.int .i64 V)).setCell ⟨Rb, 1, none⟩ (.slice ve vs.length vcap)) w.heap.size (.slice ve vs.length vcap) vs (rawC V raw)) := by
        unfold Hid
        rw [HL.out]
        exact (HM.out.chg hCs (fun q h1 _ h2 => by omega)).base hbase
      have HB9 : Hid (Below w.heap.size w ((wr.setCell ⟨Rb, 0, none⟩ (.int .i64 V)).setCell ⟨Rb, 1, none⟩ (.slice ve vs.length vcap))) := HBe.out.trans (hCs.below HBe.out.size fun q e => by omega)
      have HB0 : Hid (Blk ((wr.setCell ⟨Rb, 0, none⟩ (.int .i64 V)).setCell ⟨Rb, 1, none⟩ (.slice ve vs.length vcap)) Rb 31 [.int .i64 V, .slice ve vs.length vcap]) := B0
      clear B0 hCs
      go_wp2
      exact bodyPost_ret (res1 rfl HB0.out rfl) rfl ⟨_, vs, rfl, HM2.out, HB9.out⟩
end Go.Proofs.YtlodenfdcckemaaDoor
