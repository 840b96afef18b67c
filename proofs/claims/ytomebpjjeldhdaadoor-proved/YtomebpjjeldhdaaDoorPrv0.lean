/-
  The walk of Proved.
-/
import Derived.Test.YtomebpjjeldhdaaDoorPrvK
import Derived.Deep.RegionHeld3
namespace Go.Proofs.YtomebpjjeldhdaaDoor
open Go.RowKit

set_option maxRecDepth 100000 in
set_option maxHeartbeats 8000000 in
theorem proved_any (vars : Int) (ao mo so : Option Addr) (cap mcap scap : Nat) (raw more steps : List (List Int)) (w : World) (hc : ListsAt w w.heap.size ao raw) (hF : Fits raw) (hmc : ListsAt w w.heap.size mo more) (hmF : Fits more) (hsc : ListsAt w w.heap.size so steps) (hsF : Fits steps) (hv0 : -9223372036854775808 ≤ vars) (hv1 : vars ≤ 9223372036854775807) (hT : Tab w) (hw0 : 0 < w.heap.size) :
    Calls Tryd.prog 9 #[.int .i64 vars, .slice ao raw.length cap, .slice mo more.length mcap, .slice so steps.length scap] w fun e w' => e = .returned (.bool true) ∧ Below w.heap.size w w' := by
  have hr := pickOf_range vars (show (0 : Int) < ((8 : Nat) : Int) by omega)
  obtain ⟨V, hV⟩ : ∃ V : Nat, rawV vars ((8 : Nat) : Int) = V := ⟨(rawV vars ((8 : Nat) : Int)).toNat, by unfold rawV; omega⟩
  have hV1 : 1 ≤ V := by unfold rawV at hV; omega
  have hV2 : V ≤ 8 := by unfold rawV at hV; omega
  clear hr
  have HGood : Hid (Good V (rawC V raw)) := rawC_good hV1 (by omega) raw
  obtain ⟨i0, hi, hz0, hz1, hz2⟩ := info_parts Tryd.infoInts
  go_enter Tryd.func9, Tryd.ntmps9
  go_wp2_with fail
  refine (known_any w hT hw0).mono ?_
  rintro e w1 ⟨rfl, hb1⟩
  have hs1 := hb1.size
  have cf := kformula_any vars 8 ao cap raw w1 ((hc.below hb1 (Nat.le_refl _)).mono hs1) hF hv0 hv1 (by omega) (by omega)
  rw [hV] at cf
  go_wp2_with fail
  refine cf.mono ?_
  rintro e w2 ⟨v, fvs, rfl, hM, hb2⟩
  obtain ⟨ve, vcap, rfl, hL2⟩ := hM.lists
  clear cf
  have hs2 := hb2.size
  have b3 := alloc_below w2 (.cells #[.int .i64 V, .slice ve (rawC V raw).length vcap] 31)
  have B3 : Blk (w2.alloc (.cells #[.int .i64 V, .slice ve (rawC V raw).length vcap] 31)) w2.heap.size 31 [.int .i64 V, .slice ve (rawC V raw).length vcap] := blk_new w2 [.int .i64 V, .slice ve (rawC V raw).length vcap] 31
  have s3 := alloc_size w2 (.cells #[.int .i64 V, .slice ve (rawC V raw).length vcap] 31)
  go_wp2_with fail
  generalize w2.alloc (.cells #[.int .i64 V, .slice ve (rawC V raw).length vcap] 31) = w3 at *
  have k3 : Below w.heap.size w w3 := hb1.trans ((hb2.mono hs1).trans (b3.mono (by omega)))
  have hM3 := hM.below' b3
  have hL3 : ListsAt w3 w3.heap.size ve (rawC V raw) := (hL2.below b3 (Nat.le_refl _)).mono b3.size
  have hTp := hT.below k3 hw0
  refine (solve_good V ve vcap (rawC V raw) w3 hL3 HGood.out (fault_good HGood.out) hTp (by omega)).mono ?_
  rintro e w4 ⟨en, -, hOk, hS, hb4⟩
  obtain ⟨vm, vp, vs, rfl, hA⟩ := solEnd_ans hS
  obtain ⟨z1, z2, z3⟩ := ans_few HGood.out.vars hOk
  obtain ⟨pa, pc, hvp, -, -⟩ := hA.proof.lists
  obtain ⟨ma, mc, hvm⟩ := hA.model.shape
  rw [List.length_map] at hvm
  subst hvp
  subst hvm
  have HOk : Hid _ := hOk
  clear hOk hS
  have s4 := hb4.size
  have k4 : Below w.heap.size w w4 := k3.trans (hb4.mono (by omega))
  have B4 := B3.below' hb4
  have hM4 := hM3.below' hb4
  have hbA := alloc_below w4 (.cells #[.bool (ansOf en).1, .slice ma (ansOf en).2.1.length mc, .slice pa (ansOf en).2.2.length pc] 50)
  have BA := blk_new w4 [.bool (ansOf en).1, .slice ma (ansOf en).2.1.length mc, .slice pa (ansOf en).2.2.length pc] 50
  have hsA := alloc_size w4 (.cells #[.bool (ansOf en).1, .slice ma (ansOf en).2.1.length mc, .slice pa (ansOf en).2.2.length pc] 50)
  dsimp only [List.toArray] at BA
  have B5 := B4.below' hbA
  have m0 : w4.cell? ⟨w2.heap.size, 0, none⟩ = some (.int .i64 V) := B4.cell (i := 0) (by simp) undef
  have m1 : w4.cell? ⟨w2.heap.size, 1, none⟩ = some (.slice ve (rawC V raw).length vcap) := B4.cell (i := 1) (by simp) undef
  have m0' := B5.cell (i := 0) (by simp) undef
  have m1' := B5.cell (i := 1) (by simp) undef
  have hFl := B4.lt
  go_wp2_with fail
  generalize w4.alloc (.cells #[.bool (ansOf en).1, .slice ma (ansOf en).2.1.length mc, .slice pa (ansOf en).2.2.length pc] 50) = W4 at *
  have k5 : Below w.heap.size w W4 := k4.trans (hbA.mono (by omega))
  have hM5 := hM4.below' hbA
  have hA5 := hA.below' hbA
  obtain ⟨ve', vcap', hve, hL5⟩ := hM5.lists
  simp only [Value.slice.injEq] at hve
  obtain ⟨rfl, -, rfl⟩ := hve
  refine (answered_any V ve vcap (rawC V raw) en _ _ vs _ W4 hL5 HGood.out HOk.out hA5).mono ?_
  rintro e w5 ⟨rfl, hb5⟩
  have s5 := hb5.size
  have k6 : Below w.heap.size w w5 := k5.trans (hb5.mono (by omega))
  have hM6 := hM5.below' hb5
  have hA6 := hA5.below' hb5
  have B6 := B5.below' hb5
  have BA6 := BA.below' hb5
  clear m0 m1 m0' m1' hL5 hL3 hL2 hM hM3 hM4 hM5 hA hA5 B3 B4 B5 BA
  cases en with
  | sat S =>
    simp only [ansOf] at *
    have cf := kformula_any vars 8 so scap steps w5 ((hsc.below k6 (Nat.le_refl _)).mono k6.size) hsF hv0 hv1 (by omega) (by omega)
    rw [hV] at cf
    obtain ⟨q0, q1, q2⟩ : _ ∧ _ ∧ _ := ⟨BA6.cell (i := 0) (by simp) undef, BA6.cell (i := 1) (by simp) undef, BA6.cell (i := 2) (by simp) undef⟩
    go_wp2_with fail
    refine cf.mono ?_
    rintro e w6 ⟨v6, svs, rfl, hSM, hb6⟩
    obtain ⟨sa, sc, rfl, hL6⟩ := hSM.lists
    have s6 := hb6.size
    clear cf q0 q1 q2
    have b7 := alloc_below w6 (.cells #[.int .i64 V, .slice sa (rawC V steps).length sc] 31)
    have B7 : Blk (w6.alloc (.cells #[.int .i64 V, .slice sa (rawC V steps).length sc] 31)) w6.heap.size 31 [.int .i64 V, .slice sa (rawC V steps).length sc] := blk_new w6 [.int .i64 V, .slice sa (rawC V steps).length sc] 31
    have s7 := alloc_size w6 (.cells #[.int .i64 V, .slice sa (rawC V steps).length sc] 31)
    have BF7 := (B6.below' hb6).below' b7
    have hSM7 := hSM.below' b7
    have k7 : Below w.heap.size w (w6.alloc (.cells #[.int .i64 V, .slice sa (rawC V steps).length sc] 31)) := (k6.trans (hb6.mono (by omega))).trans (b7.mono (by omega))
    have hM7 := (hM6.below' hb6).below' b7
    have c0 := BF7.cell (i := 0) (by simp) undef
    have c1 := BF7.cell (i := 1) (by simp) undef
    have c2 := B7.cell (i := 1) (by simp) undef
    simp only [List.getD_cons_zero, List.getD_cons_succ] at c0 c1 c2
    go_wp2
    generalize w6.alloc (.cells #[.int .i64 V, .slice sa (rawC V steps).length sc] 31) = W7 at *
    obtain ⟨ve', vcap', hve, hLf⟩ := hM6.lists
    simp only [Value.slice.injEq] at hve
    obtain ⟨rfl, -, rfl⟩ := hve
    have hn60 := rawC_len V steps
    have hsl : svs.length = (rawC V steps).length := hSM.len
    have H7 : Hid (∀ i, (checkOf V (rawC V raw) i (rawC V steps ++ [[]])).2 = 7) := fun i => check_none (b := toldOf S V) _ _ _ (told_makes HOk.out.2.1 HOk.out.2.2) (fun c hc l hl => (HGood.out.lits c hc l hl).1) (rawC_steps hV1 (by omega) steps)
    have e0 := alloc_below W7 (.cells #[] 3)
    have E0 := blk_new W7 [] 3
    have t0 := alloc_size W7 (.cells #[] 3)
    dsimp only [List.toArray] at E0
    have e1 := alloc_below (W7.alloc (.cells #[] 3)) (.cells #[.slice (some ⟨w6.heap.size + 1, 0, none⟩) 0 0] 24)
    have E1 := blk_new (W7.alloc (.cells #[] 3)) [.slice (some ⟨w6.heap.size + 1, 0, none⟩) 0 0] 24
    have t1 := alloc_size (W7.alloc (.cells #[] 3)) (.cells #[.slice (some ⟨w6.heap.size + 1, 0, none⟩) 0 0] 24)
    dsimp only [List.toArray] at E1
    have bX : Below W7.heap.size W7 ((W7.alloc (.cells #[] 3)).alloc (.cells #[.slice (some ⟨w6.heap.size + 1, 0, none⟩) 0 0] 24)).drew := (e0.trans (e1.mono e0.size)).drew
    have hSX := hSM7.below' bX
    have E0X : Blk ((W7.alloc (.cells #[] 3)).alloc (.cells #[.slice (some ⟨w6.heap.size + 1, 0, none⟩) 0 0] 24)).drew (w6.heap.size + 1) 3 [] := by
      have := (E0.below' e1).drew
      rw [s7] at this
      exact this
    have E1X : Blk ((W7.alloc (.cells #[] 3)).alloc (.cells #[.slice (some ⟨w6.heap.size + 1, 0, none⟩) 0 0] 24)).drew (w6.heap.size + 1 + 1) 24 [.slice (some ⟨w6.heap.size + 1, 0, none⟩) 0 0] := by
      have := E1.drew
      rw [t0, s7] at this
      exact this
    have sX : ((W7.alloc (.cells #[] 3)).alloc (.cells #[.slice (some ⟨w6.heap.size + 1, 0, none⟩) 0 0] 24)).drew.heap.size = w6.heap.size + 1 + 1 + 1 := by
      show ((W7.alloc (.cells #[] 3)).alloc (.cells #[.slice (some ⟨w6.heap.size + 1, 0, none⟩) 0 0] 24)).heap.size = _
      omega
    have BFX := BF7.below' bX
    have BSX := B7.below' bX
    have d0 := BFX.cell (i := 0) (by simp) undef
    have d1 := BFX.cell (i := 1) (by simp) undef
    have d2 := BSX.cell (i := 1) (by simp) undef
    simp only [List.getD_cons_zero, List.getD_cons_succ] at d0 d1 d2
    have hone : ∀ u ∈ [Value.slice (some ⟨w6.heap.size + 1, 0, none⟩) 0 0], u.oneCell' = true := by intro u hu; rw [List.mem_singleton] at hu; rw [hu]; rfl
    have OA : ((W7.alloc (.cells #[] 3)).alloc (.cells #[.slice (some ⟨w6.heap.size + 1, 0, none⟩) 0 0] 24)).drew.ownsRow w5.heap.size 24 1 (.slice sa (rawC V steps).length sc) (rawC V steps).length svs := by have := hSX.oe.own; rw [hsl] at this; exact this
    have hfin : ∀ g5 cap5 w8, w8.ownsRow w5.heap.size 24 1 (.slice (some ⟨g5, 0, none⟩) ((rawC V steps).length + 1) cap5) ((rawC V steps).length + 1) (svs ++ [.slice (some ⟨w6.heap.size + 1, 0, none⟩) 0 0]) → World.grownBy ((W7.alloc (.cells #[] 3)).alloc (.cells #[.slice (some ⟨w6.heap.size + 1, 0, none⟩) 0 0] 24)).drew w8 (Value.slice sa (rawC V steps).length sc).ownBlock →
        (w8.cell? ⟨w2.heap.size, 0, none⟩ = some (.int .i64 V) ∧ w8.cell? ⟨w2.heap.size, 1, none⟩ = some (.slice ve (rawC V raw).length vcap) ∧ w8.cell? ⟨w6.heap.size, 1, none⟩ = some (.slice sa (rawC V steps).length sc)) ∧
        ∀ q, Below w8.heap.size w8 q → Calls Tryd.prog 19 #[.agg #[.int .i64 V, .slice ve (rawC V raw).length vcap], .slice (some ⟨g5, 0, none⟩) ((rawC V steps).length + 1) cap5] q fun e w' => ∃ n, e = .returned (.tuple #[.int .i64 n, .int .i64 7]) ∧ Below w.heap.size w w' ∧ (w'.cell? ⟨w2.heap.size, 0, none⟩ = some (.int .i64 V) ∧ w'.cell? ⟨w2.heap.size, 1, none⟩ = some (.slice ve (rawC V raw).length vcap) ∧ w'.cell? ⟨w6.heap.size, 1, none⟩ = some (.slice sa (rawC V steps).length sc)) := by
      intro g5 cap5 w8 hO8 hg8
      have hC : Chg (fun k => (Value.slice sa (rawC V steps).length sc).ownBlock = some k) _ w8 := Chg.of_grown hg8 (fun k e => e) (fun k e o ho => hSX.oe.cells e o ho)
      have hxO : Own ((W7.alloc (.cells #[] 3)).alloc (.cells #[.slice (some ⟨w6.heap.size + 1, 0, none⟩) 0 0] 24)).drew w5.heap.size 3 (.slice (some ⟨w6.heap.size + 1, 0, none⟩) 0 0) (ints []) := Or.inr ⟨w6.heap.size + 1, 0, rfl, by omega, by decide, ⟨[], by simpa using E0X, rfl⟩⟩
      have hM8 := hSX.more hxO (own_of hO8) hC
      have F8 := BFX.chg hC (own_blk hSX.oe BFX (by decide))
      have S8 := BSX.chg hC (own_blk hSX.oe BSX (by decide))
      have f0 := F8.cell (i := 0) (by simp) undef
      have f1 := F8.cell (i := 1) (by simp) undef
      have f2 := S8.cell (i := 1) (by simp) undef
      simp only [List.getD_cons_zero, List.getD_cons_succ] at f0 f1 f2
      refine ⟨⟨f0, f1, f2⟩, fun q hq => ?_⟩
      have k8 : Below w5.heap.size w5 q := by
        have h1 : Below w5.heap.size w5 ((W7.alloc (.cells #[] 3)).alloc (.cells #[.slice (some ⟨w6.heap.size + 1, 0, none⟩) 0 0] 24)).drew := (hb6.trans (b7.mono (by omega))).trans (bX.mono (by omega))
        have h2 := hC.below (B := w5.heap.size) (by rw [sX]; omega) (fun k e => (hSX.oe.lt e).1)
        exact (h1.trans h2).trans (hq.mono (by have := h2.size; omega))
      obtain ⟨pa', pc', hpe, hpL⟩ := (hM8.below' hq).lists
      simp only [Value.slice.injEq] at hpe
      obtain ⟨rfl, -, rfl⟩ := hpe
      have := check_good V ve (some ⟨g5, 0, none⟩) vcap cap5 (rawC V raw) (rawC V steps ++ [[]]) q ((hLf.below k8 (Nat.le_refl _)).mono k8.size) hpL HGood.out (fault_good HGood.out) (by rw [List.length_append]; simp; omega)
      rw [H7.out, List.length_append] at this
      refine this.mono ?_
      rintro e w' ⟨rfl, hb⟩
      have F9 := (F8.below' hq).below' hb
      have S9 := (S8.below' hq).below' hb
      have g0 := F9.cell (i := 0) (by simp) undef
      have g1 := F9.cell (i := 1) (by simp) undef
      have g2 := S9.cell (i := 1) (by simp) undef
      simp only [List.getD_cons_zero, List.getD_cons_succ] at g0 g1 g2
      exact ⟨_, rfl, (k6.trans (k8.mono k6.size)).trans (hb.mono (k6.trans (k8.mono k6.size)).size), g0, g1, g2⟩
    have HFin : Hid _ := hfin
    clear hfin
    go_region_held3 (fun q => q.cell? ⟨w2.heap.size, 0, none⟩ = some (.int .i64 V) ∧ q.cell? ⟨w2.heap.size, 1, none⟩ = some (.slice ve (rawC V raw).length vcap) ∧ q.cell? ⟨w6.heap.size, 1, none⟩ = some (.slice sa (rawC V steps).length sc))
      (first | exact ⟨c0, c1, c2⟩ | exact ⟨d0, d1, d2⟩ | exact hFd | exact hFc | go_keep)
      (first
        | (refine step_append_lies _ (by rfl) (.tmp 58) (.tmp 60) 23 (by rfl) w5.heap.size 24 i0 (.slice none 0 0) 1 24 Tryd.underlying23 hi hz0 hz1 hz2 (by rfl) (by decide) (.slice sa (rawC V steps).length sc) (rawC V steps).length svs (by rfl) (by exact OA) ⟨w6.heap.size + 1 + 1, 0, none⟩ 1 1 [.slice (some ⟨w6.heap.size + 1, 0, none⟩) 0 0] (by rfl) (by rfl) (by exact World.news_of_block E1X) hone (by decide) (by unfold maxLen; omega) (by omega) (by rw [sX]; omega) (w6.heap.size + 1 + 1 + 1) sX ?_; intro g5 cap5 w8 hO8 hg8 hat8 hlt8; obtain ⟨hFc, cC⟩ := HFin.out g5 cap5 w8 hO8 hg8)
        | (go_at_call 19; refine (cC _ (by first | exact Below.refl _ _ | exact (Below.refl _ _).drew)).mono ?_; rintro e w9 ⟨n9, rfl, hb9, hFd⟩))
    go_wp2
    go_ret
    exact ⟨rfl, hb9⟩
  | unsat F =>
    obtain ⟨e1, -, -, e4⟩ := endOk_check HGood.out.vars HOk.out
    have hlast := endOk_last HOk.out
    simp only [ansOf] at *
    have hck : checkOf V (rawC V raw) 0 (F.map (litsOf 64)) = (((F.map (litsOf 64)).length : Int), 0) := by rw [e1, List.length_map]
    have H3 : Hid _ := proof_three (ms := rawC V more) hlast hck
    have hps4 : (F.map (litsOf 64)).length ≤ 3486784402 := by rw [List.length_map]; exact e4
    clear e1 e4 hlast hck HOk z1 z2 z3
    generalize F.map (litsOf 64) = ps at *
    have cf := kformula_any vars 8 mo mcap more w5 ((hmc.below k6 (Nat.le_refl _)).mono k6.size) hmF hv0 hv1 (by omega) (by omega)
    rw [hV] at cf
    have q0 := BA6.cell (i := 0) (by simp) undef
    have q1 := BA6.cell (i := 1) (by simp) undef
    have q2 := BA6.cell (i := 2) (by simp) undef
    simp only [List.getD_cons_zero, List.getD_cons_succ] at q0 q1 q2
    go_wp2_with fail
    refine cf.mono ?_
    rintro e w6 ⟨v6, mvs, rfl, hMM, hb6⟩
    obtain ⟨sa, sc, rfl, hL6⟩ := hMM.lists
    have s6 := hb6.size
    clear cf q0 q1 q2
    have b7 := alloc_below w6 (.cells #[.int .i64 V, .slice sa (rawC V more).length sc] 31)
    have B7 : Blk (w6.alloc (.cells #[.int .i64 V, .slice sa (rawC V more).length sc] 31)) w6.heap.size 31 [.int .i64 V, .slice sa (rawC V more).length sc] := blk_new w6 [.int .i64 V, .slice sa (rawC V more).length sc] 31
    have s7 := alloc_size w6 (.cells #[.int .i64 V, .slice sa (rawC V more).length sc] 31)
    have BF7 := (B6.below' hb6).below' b7
    have BA7 := (BA6.below' hb6).below' b7
    have c0 := BF7.cell (i := 0) (by simp) undef
    have c1 := BF7.cell (i := 1) (by simp) undef
    simp only [List.getD_cons_zero, List.getD_cons_succ] at c0 c1
    have b8 := alloc_below (w6.alloc (.cells #[.int .i64 V, .slice sa (rawC V more).length sc] 31)) (.cells #[.int .i64 V, .slice none 0 0] 31)
    have B8 := blk_new (w6.alloc (.cells #[.int .i64 V, .slice sa (rawC V more).length sc] 31)) [.int .i64 V, .slice none 0 0] 31
    have s8 := alloc_size (w6.alloc (.cells #[.int .i64 V, .slice sa (rawC V more).length sc] 31)) (.cells #[.int .i64 V, .slice none 0 0] 31)
    dsimp only [List.toArray] at B8
    rw [s7] at B8
    have BM8 := B7.below' b8
    have BF8 := BF7.below' b8
    have BA8 := BA7.below' b8
    have d0 := BF8.cell (i := 0) (by simp) undef
    have d1 := BF8.cell (i := 1) (by simp) undef
    have d2 := BM8.cell (i := 1) (by simp) undef
    have d3 := B8.cell (i := 1) (by simp) undef
    simp only [List.getD_cons_zero, List.getD_cons_succ] at d0 d1 d2 d3
    have hMM8 := (hMM.below' b7).below' b8
    have hF8 := ((hM6.below' hb6).below' b7).below' b8
    have hA8 := ((hA6.below' hb6).below' b7).below' b8
    have k8 : Below w5.heap.size w5 ((w6.alloc (.cells #[.int .i64 V, .slice sa (rawC V more).length sc] 31)).alloc (.cells #[.int .i64 V, .slice none 0 0] 31)) := (hb6.trans (b7.mono (by omega))).trans (b8.mono (by omega))
    have hml : mvs.length = (rawC V more).length := hMM.len
    have hfl : fvs.length = (rawC V raw).length := hM6.len
    have hm60 := rawC_len V more
    have hr60 := rawC_len V raw
    have hone := hMM.els.one
    have hone2 := hM6.els.one
    have hGl := B8.lt
    have nF : w2.heap.size ≠ w6.heap.size + 1 := by omega
    have nA : w4.heap.size ≠ w6.heap.size + 1 := by omega
    have a2 := BA8.cell (i := 2) (by simp) undef
    simp only [List.getD_cons_zero, List.getD_cons_succ] at a2
    go_wp2_with (first
      | (at_builtin; refine wpList_append_any (.tmp 74) (.tmp 76) 23 24 (.slice none 0 0) 24 Tryd.underlying23 Tryd.infoInts rfl _ _ [] (by rfl) (Own.nil _ _ _) w5.heap.size _ mvs (by rfl) hMM8.oe hone (by unfold maxLen; simp only [List.length_nil]; omega) (by simp only [List.length_nil]; omega) (Nat.le_refl _) ?_; intro v9 w9 hO9 hg9; rw [List.nil_append] at hO9; obtain ⟨xa, xc, hxs⟩ := hO9.shape; rw [hml] at hxs; subst hxs; obtain ⟨G9, C9, G10, O10, C10⟩ := app_put B8 (Chg.refl _ _) (Own.nil _ _ _) hO9 hg9; have f9 := G9.frozen 1; have x9 : w9.cell? ⟨w6.heap.size + 1, 1, none⟩ = some (.slice none 0 0) := G9.cell (i := 1) (by simp) undef; have y10 := C10.cell nF d1; have f10 := hF8.oe.chg C10 (fun k e e' => own_blk hF8.oe B8 (by decide) (by rw [e, e'])))
      | (at_builtin; refine wpList_append_any (.tmp 80) (.tmp 82) 23 24 (.slice none 0 0) 24 Tryd.underlying23 Tryd.infoInts rfl _ _ mvs (by rfl) O10 w1.heap.size _ fvs (by rfl) f10 hone2 (by unfold maxLen; omega) (by omega) C10.size ?_; intro v11 w11 hO11 hg11; obtain ⟨za, zc, hzs⟩ := hO11.shape; rw [List.length_append, hml, hfl] at hzs; subst hzs; obtain ⟨G11, C11, G12, O12, C12⟩ := app_put G10 C10 O10 hO11 hg11; have f11 := G11.frozen 1; have x11 : w11.cell? ⟨w6.heap.size + 1, 1, none⟩ = some _ := G11.cell (i := 1) (by simp) undef; have y12 := C12.cell nA a2; have x12 : w11.cell? ⟨w6.heap.size + 1, 0, none⟩ = some (.int .i64 V) := G11.cell (i := 0) (by simp) undef; have z12 : (w11.setCell ⟨w6.heap.size + 1, 1, none⟩ (.slice za ((rawC V more).length + (rawC V raw).length) zc)).cell? ⟨w6.heap.size + 1, 0, none⟩ = some (.int .i64 V) := G12.cell (i := 0) (by simp) undef))
    generalize w11.setCell ⟨w6.heap.size + 1, 1, none⟩ (.slice za ((rawC V more).length + (rawC V raw).length) zc) = w12 at *
    have b12 := C12.below (B := w6.heap.size) (by omega) (fun k e => by omega)
    have k12 : Below w6.heap.size w6 w12 := (b7.trans (b8.mono (by omega))).trans b12
    have s12 := b12.size
    have kw12 : Below w5.heap.size w5 w12 := hb6.trans (k12.mono s6)
    obtain ⟨ve', vcap', hve, hLf⟩ := hM6.lists
    simp only [Value.slice.injEq] at hve
    obtain ⟨rfl, -, rfl⟩ := hve
    obtain ⟨pa', pc', hpe, hLp, hpcap⟩ := hA6.proof.lists
    simp only [Value.slice.injEq] at hpe
    obtain ⟨rfl, -, rfl⟩ := hpe
    have hEls : Els w12 w6.heap.size (mvs ++ fvs) (rawC V more ++ rawC V raw) := (hMM.els.below k12).append ((hM6.els.below kw12).mono s6)
    obtain ⟨za', zc', hze, hLg⟩ := hEls.lists (by omega) O12
    rw [List.length_append] at hze
    simp only [Value.slice.injEq] at hze
    obtain ⟨rfl, -, rfl⟩ := hze
    have hGa : Good V (rawC V more ++ rawC V raw) := good_append (rawC_good hV1 (by omega) more) HGood.out hm60 hr60
    have ck := check_good V za pa zc pc (rawC V more ++ rawC V raw) ps w12 hLg ((hLp.below kw12 (Nat.le_refl _)).mono kw12.size) hGa (fault_good hGa) (by omega)
    rw [H3.out.1] at ck
    unfold fm at ck
    rw [List.length_append] at ck
    refine ck.mono ?_
    rintro e w13 ⟨rfl, hb13⟩
    have BF13 := (BF8.chg C12 nF).below' hb13
    have BA13 := (BA8.chg C12 nA).below' hb13
    have k13 : Below w5.heap.size w5 w13 := kw12.trans (hb13.mono kw12.size)
    have kk13 : Below w.heap.size w w13 := k6.trans (k13.mono k6.size)
    have hP13 := MadeS.els (hA6.proof.below' k13)
    have s13 := k13.size
    clear ck hGa hLg hEls hMM hMM8 hF8 hA8 G9 C9 G10 O10 C10 G11 C11 G12 O12 C12 f9 x9 y10 f10 f11 x11 y12 x12 z12 B8 BM8 BF8 BA8 d0 d1 d2 d3 a2 c0 c1 BF7 BA7 B7 hO9 hg9 hO11 hg11 b12 k12 hone hone2 hL6 k8
    have c0 : w13.cell? ⟨w2.heap.size, 0, none⟩ = some (.int .i64 V) := BF13.cell (i := 0) (by simp) undef
    have c1 : w13.cell? ⟨w2.heap.size, 1, none⟩ = some (.slice ve (rawC V raw).length vcap) := BF13.cell (i := 1) (by simp) undef
    have c2 : w13.cell? ⟨w4.heap.size, 2, none⟩ = some (.slice pa ps.length pc) := BA13.cell (i := 2) (by simp) undef
    have hpos := H3.out.2.2.2
    obtain ⟨pg, pcap', hpe, hpgl, hpcell⟩ := (hA6.proof.oe.below' k13).at (by rw [hA6.proof.len]; exact hpos)
    simp only [Value.slice.injEq] at hpe
    obtain ⟨rfl, -, rfl⟩ := hpe
    have HPc : Hid _ := hpcell
    go_wp2
    obtain ⟨L, hLn⟩ : ∃ L : Nat, (ps.length : Int) - 1 = L := ⟨ps.length - 1, by omega⟩
    simp only [hLn]
    have hLf13 := (hLf.below k13 (Nat.le_refl _)).mono k13.size
    have hLp13 := (hLp.below k13 (Nat.le_refl _)).mono k13.size
    have hL1 : L = ps.length - 1 := by omega
    have j0 : (0 : Int) ≤ (L : Int) := by omega
    have j3 : ¬ pc = 0 := by omega
    have j4 : L ≤ pc := by omega
    have j1 : (L : Int) ≤ (pc : Int) := by omega
    have j2 : (L : Int) ≤ (ps.length : Int) := by omega
    have hfin : ∀ q, Below w13.heap.size w13 q → Calls Tryd.prog 19 #[.agg #[.int .i64 V, .slice ve (rawC V raw).length vcap], .slice (some ⟨pg, 0, none⟩) L pc] q fun e w' => e = .returned (.tuple #[.int .i64 L, .int .i64 8]) ∧ Below w13.heap.size w13 w' ∧ (w'.cell? ⟨w2.heap.size, 0, none⟩ = some (.int .i64 V) ∧ w'.cell? ⟨w2.heap.size, 1, none⟩ = some (.slice ve (rawC V raw).length vcap) ∧ w'.cell? ⟨w4.heap.size, 2, none⟩ = some (.slice (some ⟨pg, 0, none⟩) ps.length pc)) := by
      intro q hq
      have := check_good V ve (some ⟨pg, 0, none⟩) vcap pc (rawC V raw) (ps.take (ps.length - 1)) q ((hLf13.below hq (Nat.le_refl _)).mono hq.size) (((hLp13.below hq (Nat.le_refl _)).mono hq.size).take _) HGood.out (fault_good HGood.out) (by rw [List.length_take]; omega)
      rw [H3.out.2.1, List.length_take, Nat.min_eq_left (by omega), ← hL1] at this
      refine this.mono ?_
      rintro e w' ⟨rfl, hb⟩
      have F9 := (BF13.below' hq).below' hb
      have S9 := (BA13.below' hq).below' hb
      exact ⟨rfl, hq.trans (hb.mono hq.size), F9.cell (i := 0) (by simp) undef, F9.cell (i := 1) (by simp) undef, S9.cell (i := 2) (by simp) undef⟩
    have HFin : Hid _ := hfin
    have HL1 : Hid (L = ps.length - 1) := hL1
    have HLn : Hid ((ps.length : Int) - 1 = L) := hLn
    clear hfin hL1 hLn hml hfl hpcell
    go_region_held3 (fun q => q.cell? ⟨w2.heap.size, 0, none⟩ = some (.int .i64 V) ∧ q.cell? ⟨w2.heap.size, 1, none⟩ = some (.slice ve (rawC V raw).length vcap) ∧ q.cell? ⟨w4.heap.size, 2, none⟩ = some (.slice (some ⟨pg, 0, none⟩) ps.length pc))
      (first | exact ⟨c0, c1, c2⟩ | exact hFd | go_keep)
      (first
        | (go_at_call 19; refine (HFin.out _ (by first | exact Below.refl _ _ | exact (Below.refl _ _).drew)).mono ?_; rintro e w14 ⟨rfl, hb14, hFd⟩)
        | fail)
    go_wp2
    obtain ⟨c0, c1, c2⟩ := hFd
    have BF14 := BF13.below' hb14
    have BA14 := BA13.below' hb14
    have s14 := hb14.size
    have hvl : vs.length = ps.length := hP13.len
    have HE14 : Hid (Els w14 w14.heap.size vs ps) := (hP13.below hb14).mono s14
    have hA4 := BA14.lt
    have hLf14 := (hLf13.below hb14 (Nat.le_refl _)).mono s14
    have HLf14 : Hid (ListsAt w14 w14.heap.size ve (rawC V raw)) := hLf14
    have HB14 : Hid (Below w.heap.size w w14) := kk13.trans (hb14.mono kk13.size)
    have hw14 : w.heap.size ≤ w14.heap.size := HB14.out.size
    have HPd : Hid (∀ i, i < vs.length → w14.cell? ⟨pg, i, none⟩ = some (vs.getD i undef)) := fun i hi => (hb14.cell (p := ⟨pg, i, none⟩) hpgl).trans (HPc.out i hi)
    have hpg14 : pg < w14.heap.size := by omega
    clear hLf14 hLf13 hLp13 hP13 hLf hLp hM6 hA6 B6 BA6 BF13 BA13 HFin HPc c0 c1 c2 hvl
    go_loopw [24, 25] (fun vd x wr => ∃ i : Nat, i ≤ ps.length ∧ x = .int .i64 i ∧ Hid (Own wr w14.heap.size 24 vd (dblV (vs.take i))) ∧ Hid (Below w14.heap.size w14 wr)) (fun _ x _ => ps.length - (intOf x).toNat)
    case atStart => exact ⟨0, Nat.zero_le _, rfl, by rw [List.take_zero]; exact Own.nil _ _ _, Below.refl _ _⟩
    case round =>
      obtain ⟨i, hi', rfl, HO, HBq⟩ := hrel
      have hsq := HBq.out.size
      have a2 : wr.cell? ⟨w4.heap.size, 2, none⟩ = some (.slice (some ⟨pg, 0, none⟩) ps.length pc) := (BA14.below' HBq.out).cell (i := 2) (by simp) undef
      by_cases hlt : i < ps.length
      · have hpi : wr.cell? ⟨pg, i, none⟩ = some (vs.getD i undef) := (HBq.out.cell (p := ⟨pg, i, none⟩) hpg14).trans (HPd.out i (by rw [HE14.out.len]; exact hlt))
        obtain ⟨A, Cc, hvi, hin⟩ := HE14.out.els i hlt
        rw [hvi] at hpi
        have HD : Hid (dblV (vs.take (i + 1)) = dblV (vs.take i) ++ [.slice A (ps.getD i []).length Cc, .slice A (ps.getD i []).length Cc]) := by
          have := dblV_take vs i (by rw [HE14.out.len]; exact hlt)
          rw [hvi] at this
          exact this
        have hdl : (dblV (vs.take i)).length = 2 * i := by rw [dblV_len, List.length_take, HE14.out.len]; omega
        clear hin hvi
        generalize (ps.getD i []).length = cl at *
        have i0' : (0 : Int) ≤ (i : Int) := by omega
        have i1' : (i : Int) < (ps.length : Int) := by omega
        have OA : Own (wr.alloc (.cells #[.slice A cl Cc, .slice A cl Cc] 24)).drew w14.heap.size 24 u24 (dblV (vs.take i)) := (HO.out.alloc (.cells #[.slice A cl Cc, .slice A cl Cc] 24)).chg (S := fun _ => False) (Chg.drew (Chg.refl _ _)) (fun _ _ h => h)
        have BA0 := alloc_below wr (.cells #[.slice A cl Cc, .slice A cl Cc] 24)
        have BX : Below wr.heap.size wr (wr.alloc (.cells #[.slice A cl Cc, .slice A cl Cc] 24)).drew := BA0.drew
        have NA : Blk (wr.alloc (.cells #[.slice A cl Cc, .slice A cl Cc] 24)).drew wr.heap.size 24 [.slice A cl Cc, .slice A cl Cc] := (blk_new wr [.slice A cl Cc, .slice A cl Cc] 24).drew
        have SA : (wr.alloc (.cells #[.slice A cl Cc, .slice A cl Cc] 24)).drew.heap.size = wr.heap.size + 1 := alloc_size wr _
        have hone : ∀ u ∈ [Value.slice A cl Cc, .slice A cl Cc], u.oneCell' = true := by intro u hu; simp at hu; rw [hu]; rfl
        have OA' : (wr.alloc (.cells #[.slice A cl Cc, .slice A cl Cc] 24)).drew.ownsRow w14.heap.size 24 1 u24 (2 * i) (dblV (vs.take i)) := by
          have := OA.own
          rwa [hdl] at this
        have hlow : ∀ q, q < w14.heap.size → u24.ownBlock ≠ some q := fun q hq e => by have := (OA.lt e).1; omega
        have hpw : pg < wr.heap.size := by omega
        have haw : w4.heap.size < wr.heap.size := by omega
        have hp3 : wr.drew.cell? ⟨pg, i, none⟩ = _ := hpi
        have ha3 : wr.drew.cell? ⟨w4.heap.size, 2, none⟩ = _ := a2
        have hpx := (BX.cell (p := ⟨pg, i, none⟩) hpw).trans hpi
        have hax := (BX.cell (p := ⟨w4.heap.size, 2, none⟩) haw).trans a2
        clear hdl
        go_wp2
        go_region_held3 (fun q => q.cell? ⟨w4.heap.size, 2, none⟩ = some (.slice (some ⟨pg, 0, none⟩) ps.length pc) ∧ q.cell? ⟨pg, i, none⟩ = some (.slice A cl Cc))
          (first | exact ⟨k2, k3⟩ | exact ⟨a2, hpi⟩ | exact ⟨ha3, hp3⟩ | exact ⟨hax, hpx⟩ | go_keep)
          (first
            | (refine step_append_lies _ (by rfl) (.tmp 112) (.tmp 123) 23 (by rfl) w14.heap.size 24 i0 (.slice none 0 0) 1 24 Tryd.underlying23 hi hz0 hz1 hz2 (by rfl) (by decide) u24 (2 * i) (dblV (vs.take i)) (by rfl) (by exact OA') ⟨wr.heap.size, 0, none⟩ 2 2 [.slice A cl Cc, .slice A cl Cc] (by rfl) (by rfl) (by exact World.news_of_block NA) hone (by decide) (by unfold maxLen; omega) (by omega) (by rw [SA]; omega) (wr.heap.size + 1) SA ?_; intro g5 cap5 w5' hO5 hgr5 hat5 hlt5; have k3 : w5'.cell? ⟨pg, i, none⟩ = some (.slice A cl Cc) := (World.cell?_of_block (w := (wr.alloc (.cells #[.slice A cl Cc, .slice A cl Cc] 24)).drew) (hgr5.block pg (by rw [SA]; omega) (fun e => hlow pg hpg14 e.symm))).trans hpx; have k2 : w5'.cell? ⟨w4.heap.size, 2, none⟩ = some (.slice (some ⟨pg, 0, none⟩) ps.length pc) := (World.cell?_of_block (w := (wr.alloc (.cells #[.slice A cl Cc, .slice A cl Cc] 24)).drew) (hgr5.block w4.heap.size (by rw [SA]; omega) (fun e => hlow w4.heap.size hA4 e.symm))).trans hax)
            | fail)
        go_wp2
        go_roundw
        case rel =>
          refine ⟨i + 1, by omega, by go_num, ?_, ?_⟩
          · rw [HD.out]
            exact own_of hO5
          · refine HBq.out.trans ((BX.mono hsq).trans ⟨hgr5.os, hgr5.tape, hgr5.output, hgr5.size, fun q hq => hgr5.block q (by rw [SA]; omega) (fun e => hlow q hq e.symm)⟩)
        case measure => simp [intOf]; omega
      · obtain rfl : i = ps.length := by omega
        have hOv := HO.out
        rw [List.take_of_length_le (by rw [HE14.out.len]; exact Nat.le_refl _)] at hOv
        obtain ⟨da, dc, hda, hLd⟩ := (HE14.out.below HBq.out).dbl.lists hsq hOv
        subst hda
        have ck := check_good V ve da vcap dc (rawC V raw) (dbl ps) wr ((HLf14.out.below HBq.out (Nat.le_refl _)).mono hsq) hLd HGood.out (fault_good HGood.out) (by rw [dbl_len]; omega)
        rw [H3.out.2.2.1, show (((2 * ps.length - 1 : Nat)) : Int) = 2 * (ps.length : Int) - 1 by omega] at ck
        unfold fm at ck
        have c0 : wr.cell? ⟨w2.heap.size, 0, none⟩ = some (.int .i64 V) := (BF14.below' HBq.out).cell (i := 0) (by simp) undef
        have c1 : wr.cell? ⟨w2.heap.size, 1, none⟩ = some (.slice ve (rawC V raw).length vcap) := (BF14.below' HBq.out).cell (i := 1) (by simp) undef
        go_wp2_with fail
        refine ck.mono ?_
        rintro e w15 ⟨rfl, hb15⟩
        have a15 : w15.cell? ⟨w4.heap.size, 2, none⟩ = some (.slice (some ⟨pg, 0, none⟩) ps.length pc) := ((BA14.below' HBq.out).below' hb15).cell (i := 2) (by simp) undef
        have HBe : Hid (Below w.heap.size w w15) := HB14.out.trans ((HBq.out.mono hw14).trans (hb15.mono (by omega)))
        clear ck a2 c0 c1 hOv hLd HO
        have hLe : ((L : Int)) = (ps.length : Int) - 1 := HLn.out.symm
        have HLe : Hid _ := hLe
        clear hLe
        go_wp2
        go_ret
        exact ⟨rfl, HBe.out⟩
end Go.Proofs.YtomebpjjeldhdaaDoor
