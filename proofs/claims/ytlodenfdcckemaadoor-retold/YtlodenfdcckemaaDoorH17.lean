/-
  Several texts, one behind the other.
-/
import Derived.Test.YtlodenfdcckemaaDoorH15
import Derived.Test.YtlodenfdcckemaaDoorH16
import Derived.Deep.RegionLaw
import Derived.Deep.RegionHeld3
/-
  The walk of a clause's putting in.
-/

namespace Go.Proofs.YtlodenfdcckemaaDoor
open Go.RowKit

theorem Cls.chg {w w' : World} {H : Nat} {v : Value} {K : List Nat} {S : Nat → Prop} (h : Cls w H v K) (hc : Chg S w w') (hH : ¬ S H) (hv : ∀ k, v.ownBlock = some k → ¬ S k) : Cls w' H v K := ⟨h.head.chg hc hH, h.own.chg hc hv⟩

/-- Behind the append, ahead of the store. -/
theorem add_mid {W w2 w3 : World} {H N g cap l : Nat} {v v2 : Value} {K L : List Nat} {m : Nat} (hcW : Cls W H v K) (hC : Chg (fun k => v.ownBlock = some k) W w2) (hvb : v2.ownBlock = v.ownBlock) (hO2 : Own w2 0 71 v2 (svs L)) (hN : Blk W N 71 [sv m]) (hNv : v.ownBlock ≠ some N) (hneH : v.ownBlock ≠ some H) (hNH : N ≠ H)
    (hown3 : w3.ownsRow 0 71 1 (.slice (some ⟨g, 0, none⟩) l cap) l (svs L ++ [sv m])) (hgrow : w2.grownBy w3 v2.ownBlock) (hat : v2.ownBlock = some g ∨ g = w2.heap.size) :
    w3.cell? ⟨H, 0, none⟩ = some v ∧ w3.frozen? ⟨H, 0, none⟩ = false ∧ w3.cell? ⟨N, 0, none⟩ = some (sv m) ∧ (w3.setCell ⟨H, 0, none⟩ (.slice (some ⟨g, 0, none⟩) l cap)).cell? ⟨N, 0, none⟩ = some (sv m) ∧
      Cls (w3.setCell ⟨H, 0, none⟩ (.slice (some ⟨g, 0, none⟩) l cap)) H (.slice (some ⟨g, 0, none⟩) l cap) (L ++ [m]) ∧ (v.ownBlock = some g ∨ W.heap.size ≤ g) ∧ Chg (fun k => k = H ∨ v.ownBlock = some k) W (w3.setCell ⟨H, 0, none⟩ (.slice (some ⟨g, 0, none⟩) l cap)) := by
  have hs := hC.size
  have B2 := hcW.head.chg hC hneH
  have B3 : Blk w3 H 102 [v] := B2.grown hgrow (by rw [hvb]; exact hneH)
  have N3 : Blk w3 N 71 [sv m] := (hN.chg hC hNv).grown hgrow (by rw [hvb]; exact hNv)
  have hgH : g ≠ H := by
    rcases hat with h | h
    · rw [hvb] at h; exact fun e => hneH (by rw [h, e])
    · have := B2.lt; omega
  have hC3 : Chg (fun k => v.ownBlock = some k) W w3 := hC.trans2 (Chg.of_grown (S := fun k => v.ownBlock = some k) hgrow (fun k e => by rw [← hvb]; exact e) (fun k e o ho => hO2.cells e o ho)) (fun i _ h => h)
  have hC4 : Chg (fun k => k = H ∨ v.ownBlock = some k) W (w3.setCell ⟨H, 0, none⟩ (.slice (some ⟨g, 0, none⟩) l cap)) := Chg.setB (S := fun k => k = H ∨ v.ownBlock = some k) (hC3.mono fun k _ h => Or.inr h) H 0 (Or.inl rfl) _
  obtain ⟨hr, _, h63, hl⟩ := row1_of hown3
  refine ⟨B3.cell (i := 0) (by simp) undef, B3.frozen 0, N3.cell (i := 0) (by simp) undef, (N3.setOther (a := ⟨H, 0, none⟩) hNH _).cell (i := 0) (by simp) undef, ⟨B3.set 0 _, ?_⟩, ?_, hC4⟩
  · have hl2 : l = (svs (L ++ [m])).length := by rw [← hl]; simp
    rw [show svs L ++ [sv m] = svs (L ++ [m]) by simp] at hr
    exact Or.inr ⟨g, cap, by rw [hl2], Nat.zero_le _, h63, hr.setOther (a := ⟨H, 0, none⟩) hgH _⟩
  · rcases hat with h | h
    · rw [hvb] at h; exact Or.inl h
    · exact Or.inr (by omega)

theorem Own.own' {w : World} {base : Nat} {t : TypeId} {v : Value} {L : List Nat} (h : Own w base t v (svs L)) : w.ownsRow base t 1 v L.length (svs L) := by
  have := h.own
  rwa [List.length_map] at this

theorem info_parts {P : Program} {e : TypeId} {z : Value} {s b : Nat} (h : (P.info? e).map (fun i => (i.zero, i.size, i.bytes)) = some (some z, s, b)) : ∃ i, P.info? e = some i ∧ i.zero = some z ∧ i.size = s ∧ i.bytes = b := by
  obtain ⟨i, hi, hz⟩ := Option.map_eq_some_iff.1 h
  simp only [Prod.mk.injEq] at hz
  exact ⟨i, hi, hz.1, hz.2.1, hz.2.2⟩

set_option maxRecDepth 100000 in
set_option maxHeartbeats 4000000 in
theorem add_any (H : Nat) (v : Value) (K : List Nat) (m : Nat) (w : World) (hc : Cls w H v K) (hK : ∀ k ∈ K, k < 18446744073709551616) (hm : m < 18446744073709551616) (hlen : K.length ≤ 10000000000000) :
    Calls Tryd.prog 68 #[.pointer (some ⟨H, 0, none⟩), sv m] w fun e w' => e = .returned (.tuple #[]) ∧ ∃ v', Cls w' H v' (addTo K m) ∧ (∀ k, v'.ownBlock = some k → v.ownBlock = some k ∨ w.heap.size ≤ k) ∧ Chg (fun k => k = H ∨ v.ownBlock = some k) w w' := by
  have hHw := hc.head.lt
  have hcl64 := clash_lt _ hm
  have c1 := clash_any m hm
  have hneH : v.ownBlock ≠ some H := own_blk hc.own hc.head (by decide)
  go_enter Tryd.func68, Tryd.ntmps68
  go_wp2_with fail
  have b1 := alloc_below w (.cells #[sv m] 71)
  have B1 : Blk (w.alloc (.cells #[sv m] 71)) w.heap.size 71 [sv m] := blk_new w [sv m] 71
  have s1 := alloc_size w (.cells #[sv m] 71)
  have hc1 : Cls (w.alloc (.cells #[sv m] 71)) H v K := ⟨hc.head.below' b1, hc.own.below' b1⟩
  have hown0 : ∀ k, v.ownBlock = some k → k < w.heap.size := fun k e => (hc.own.lt e).2
  generalize w.alloc (.cells #[sv m] 71) = W at *
  generalize hN : w.heap.size = N at *
  have HNw : Hid (w.heap.size = N) := hN
  clear hc hN
  have hNW : N < W.heap.size := by omega
  have hHW : H < W.heap.size := by omega
  have cN : W.cell? ⟨N, 0, none⟩ = some (sv m) := B1.cell (i := 0) (by simp) undef
  have cH : W.cell? ⟨H, 0, none⟩ = some v := hc1.head.cell (i := 0) (by simp) undef
  have fH : W.frozen? ⟨H, 0, none⟩ = false := hc1.head.frozen 0
  refine (c1 _).mono ?_
  rintro e w' ⟨rfl, rfl⟩
  by_cases hcl : clash m = 0
  · have hcl' : (((clash m : Nat) : Int) != 0) = false := by simp [hcl]
    have Hcl : Hid (clash m = 0) := hcl
    clear hcl c1
    have c2 := contains_any v K m N w' hc1.own hK hm cN (by omega)
    generalize hx : clash m = x at *
    cases hany : K.any (fun k => within k m) with
    | true =>
      rw [hany] at c2
      have HA : Hid (addTo K m = K) := by
        unfold Hid addTo
        simp only [hany]
        split <;> rfl
      clear hany hx
      go_wp2_with (go_at_call 92; refine c2.mono ?_; rintro e w'' ⟨rfl, hw''⟩; obtain rfl := hw''.symm)
      (try simp only [Exit.inBlock, Exit.then])
      refine bodyPost_ret (results_none rfl _ _ _) rfl ?_
      exact ⟨rfl, v, by rw [HA.out]; exact hc1, fun k h => Or.inl h, Chg.of_below (by rw [HNw.out]; exact b1)⟩
    | false =>
      rw [hany] at c2
      have HA : Hid (x = 0 → addTo K m = stay m K ++ [m]) := by
        intro h
        unfold addTo
        simp only [hany]
        rw [if_neg (by rw [hx, h]; simp)]
        rfl
      clear hany hx
      go_wp2_with (go_at_call 92; refine c2.mono ?_; rintro e w'' ⟨rfl, hw''⟩; obtain rfl := hw''.symm)
      clear c2
      obtain ⟨i0, hi, hz0, hz1, hz2⟩ := info_parts Tryd.infoSet
      have hNv : v.ownBlock ≠ some N := fun e => by have := hown0 N e; omega
      have hNH : N ≠ H := by omega
      have hone : ∀ u ∈ [sv m], u.oneCell' = true := by intro u hu; simp at hu; rw [hu]; rfl
      have hst : (stay m K).length ≤ K.length := List.length_filter_le _ _
      have oD : Own w'.drew 0 71 v (svs K) := hc1.own.chg (S := fun _ => False) (Chg.drew (Chg.refl _ _)) (fun _ _ h => h)
      have oDA : Own (w'.drew.alloc (.cells #[sv m] 71)) 0 71 v (svs K) := oD.alloc _
      have dD := delete_any v K m _ oD hK hm (by omega)
      have dDA := delete_any v K m _ oDA hK hm (by omega)
      have cD : w'.drew.cell? ⟨N, 0, none⟩ = some (sv m) := cN
      have cDA : (w'.drew.alloc (.cells #[sv m] 71)).cell? ⟨N, 0, none⟩ = some (sv m) := by
        have := (B1.drew.alloc (.cells #[sv m] 71)).cell (i := 0) (by simp) undef
        simpa using this
      have bA : Chg (fun k => v.ownBlock = some k) w' (w'.drew.alloc (.cells #[sv m] 71)) := (Chg.drew (Chg.refl _ _)).trans (Chg.of_below (alloc_below _ _))
      have bN : Blk (w'.drew.alloc (.cells #[sv m] 71)) w'.heap.size 71 [sv m] := blk_new w'.drew [sv m] 71
      have sA : (w'.drew.alloc (.cells #[sv m] 71)).heap.size = w'.heap.size + 1 := alloc_size w'.drew _
      have HS1 : Hid (w'.heap.size = N + 1) := s1
      clear s1
      have cHD : w'.drew.cell? ⟨H, 0, none⟩ = some v := cH
      have cHA : (w'.drew.alloc (.cells #[sv m] 71)).cell? ⟨H, 0, none⟩ = some v := by
        have := (hc1.head.drew.alloc (.cells #[sv m] 71)).cell (i := 0) (by simp) undef
        simpa using this
      go_region_law (first
          | (refine step_append_lies _ (by rfl) (.tmp 22) (.tmp 24) 100 (by rfl) 0 71 i0 (.int .u64 0) 1 8 Tryd.underlying100 hi hz0 hz1 hz2 (by rfl) (by decide) v2 (stay m K).length (svs (stay m K)) (by rfl) (by exact oA.own') ⟨w2.heap.size, 0, none⟩ 1 1 [sv m] (by rfl) (by rfl) (by exact World.news_of_block nA) hone (by decide) (by unfold maxLen; omega) (by omega) (Nat.zero_le _) (w2.heap.size + 1) sW ?_; intro g cap w3 hown3 hgrow hat hlt; obtain ⟨PD1, PD2, PD3, PD4, PD5, PD6, PD7⟩ := add_mid hc1 CW hvb oA B1 hNv hneH hNH hown3 hgrow (by rw [sW]; exact hat))
          | (refine step_append_lies _ (by rfl) (.tmp 22) (.tmp 24) 100 (by rfl) 0 71 i0 (.int .u64 0) 1 8 Tryd.underlying100 hi hz0 hz1 hz2 (by rfl) (by decide) v2 (stay m K).length (svs (stay m K)) (by rfl) (by exact oA.own') ⟨w'.heap.size, 0, none⟩ 1 1 [sv m] (by rfl) (by rfl) (by exact World.news_of_block nA) hone (by decide) (by unfold maxLen; omega) (by omega) (Nat.zero_le _) w2.heap.size rfl ?_; intro g cap w3 hown3 hgrow hat hlt; obtain ⟨PD1, PD2, PD3, PD4, PD5, PD6, PD7⟩ := add_mid hc1 CW hvb oA B1 hNv hneH hNH hown3 hgrow hat)
          | (go_simp; go_at_call 93; first | (refine dD.mono ?_; rintro e w2 ⟨v2, rfl, hO2, hvb, hC2⟩; have cN2 : w2.cell? ⟨N, 0, none⟩ = some (sv m) := hC2.cell hNv cD; have oA := hO2.alloc (.cells #[sv m] 71); have nA : Blk (w2.alloc (.cells #[sv m] 71)) w2.heap.size 71 [sv m] := blk_new w2 [sv m] 71; have CW : Chg (fun k => v.ownBlock = some k) w' (w2.alloc (.cells #[sv m] 71)) := ((Chg.drew (Chg.refl _ _)).trans hC2).trans (Chg.of_below (alloc_below _ _)); have sW := alloc_size w2 (.cells #[sv m] 71); dsimp only) | (refine dDA.mono ?_; rintro e w2 ⟨v2, rfl, hO2, hvb, hC2⟩; have cN2 : w2.cell? ⟨N, 0, none⟩ = some (sv m) := hC2.cell hNv cDA; have nA : Blk w2 w'.heap.size 71 [sv m] := bN.chg hC2 (fun e => by have := hown0 _ e; have := HS1.out; omega); have CW : Chg (fun k => v.ownBlock = some k) w' w2 := bA.trans hC2; have oA := hO2; dsimp only)))
      all_goals
        go_wp2
        go_end0
        refine ⟨rfl, _, by rw [HA.out Hcl.out]; exact PD5, ?_, ?_⟩
        · intro k e
          simp [Value.ownBlock] at e
          rw [← e]
          rw [HNw.out]
          rcases PD6 with h | h
          · exact Or.inl h
          · exact Or.inr (by have := HS1.out; omega)
        · exact (Chg.of_below (S := fun k => k = H ∨ v.ownBlock = some k) (by rw [HNw.out]; exact b1)).trans PD7
  · have hcl' : (((clash m : Nat) : Int) != 0) = true := by simp [hcl]
    have HA : Hid (addTo K m = K) := by unfold Hid addTo; rw [if_pos hcl]
    clear hcl
    go_wp2
    (try simp only [Exit.inBlock, Exit.then])
    refine bodyPost_ret (results_none rfl _ _ _) rfl ?_
    exact ⟨rfl, v, by rw [HA.out]; exact hc1, fun k h => Or.inl h, Chg.of_below (by rw [HNw.out]; exact b1)⟩
end Go.Proofs.YtlodenfdcckemaaDoor

/-
  The walks of the clauses' making, and of a proof's step.
-/

namespace Go.Proofs.YtlodenfdcckemaaDoor
open Go.RowKit

theorem addTo_len (K : List Nat) (m : Nat) : (addTo K m).length ≤ K.length + 1 := by
  unfold addTo
  split
  · omega
  · split
    · omega
    · simp only [List.length_append, List.length_singleton]
      have := List.length_filter_le (fun k => !within m k) K
      omega

theorem take_succ_lists (cs : List (List Int)) (k : Nat) (hk : k < cs.length) : cs.take (k + 1) = cs.take k ++ [cs.getD k []] := by
  rw [List.take_succ_eq_append_getElem hk, getD_lt _ _ _ hk]

theorem mem_lists {cs : List (List Int)} {k : Nat} (hk : k < cs.length) : cs.getD k [] ∈ cs := by rw [getD_lt _ _ _ hk]; exact List.getElem_mem hk

set_option maxRecDepth 100000 in
set_option maxHeartbeats 4000000 in
theorem folOf_any (V : Nat) (hV : V ≤ 20) (ao : Option Addr) (cap : Nat) (cs : List (List Int)) (w : World) (hc : ListsAt w w.heap.size ao cs) (hlit : ∀ c ∈ cs, ∀ l ∈ c, IsLit V l) (hlen : cs.length ≤ 200) (heach : ∀ c ∈ cs, c.length ≤ 20) :
    Calls Tryd.prog 47 #[.agg #[.int .i64 V, .slice ao cs.length cap]] w fun e w' => ∃ H v K, e = .returned (.pointer (some ⟨H, 0, none⟩)) ∧ Cls w' H v K ∧ Cover V K cs ∧ K.length ≤ cs.length ∧ w.heap.size ≤ H ∧ (∀ k, v.ownBlock = some k → w.heap.size ≤ k) ∧ Below w.heap.size w w' := by
  go_enter Tryd.func47, Tryd.ntmps47
  go_wp2
  have b1 := alloc_below w (.cells #[.int .i64 V, .slice ao cs.length cap] 31)
  have s1 := alloc_size w (.cells #[.int .i64 V, .slice ao cs.length cap] 31)
  generalize w.alloc (.cells #[.int .i64 V, .slice ao cs.length cap] 31) = w1 at *
  have b2 := alloc_below w1 (.cells #[.slice none 0 0] 102)
  have s2 := alloc_size w1 (.cells #[.slice none 0 0] 102)
  have B2 : Blk (w1.alloc (.cells #[.slice none 0 0] 102)) w1.heap.size 102 [.slice none 0 0] := blk_new w1 [.slice none 0 0] 102
  have HW2 : Hid (Cls (w1.alloc (.cells #[.slice none 0 0] 102)) w1.heap.size (.slice none 0 0) [] ∧ Below w.heap.size w (w1.alloc (.cells #[.slice none 0 0] 102))) := ⟨⟨B2, Own.nil _ _ _⟩, b1.trans (b2.mono b1.size)⟩
  generalize w1.alloc (.cells #[.slice none 0 0] 102) = w2 at *
  have hH : w1.heap.size = w.heap.size + 1 := s1
  rw [hH] at HW2
  clear B2 b2 s2 hH b1 s1
  go_loopw [11] (fun x wr => ∃ (i : Nat) (v : Value) (K : List Nat), i ≤ cs.length ∧ x = .int .i64 i ∧ Hid (Cls wr (w.heap.size + 1) v K) ∧ Hid (Cover V K (cs.take i)) ∧ Hid (K.length ≤ i) ∧ Hid (∀ k, v.ownBlock = some k → w.heap.size ≤ k) ∧ Hid (Below w.heap.size w wr)) (fun x _ => cs.length - (intOf x).toNat)
  case atStart => exact ⟨0, .slice none 0 0, [], Nat.zero_le _, rfl, HW2.out.1, Cover.none V, Nat.zero_le _, fun k e => by simp [Value.ownBlock] at e, HW2.out.2⟩
  case round =>
    obtain ⟨i, v, K, hi, rfl, HCl, HCo, HLe, HOw, HBe⟩ := hrel
    by_cases hlt : i < cs.length
    · have hcr := (hc.below HBe.out (Nat.le_refl _))
      obtain ⟨b, o, rfl, hb, hcell⟩ := hcr (by intro h; rw [h] at hlt; simp at hlt)
      obtain ⟨A, Cc, hck, hin⟩ := hcell i hlt
      have hmem := mem_lists hlt
      have hl := hlit _ hmem
      have he := heach _ hmem
      have HT : Hid (cs.take (i + 1) = cs.take i ++ [cs.getD i []]) := take_succ_lists cs i hlt
      generalize cs.getD i [] = c at hck hin hl he HT
      have HK64 : Hid (∀ k ∈ K, k < 18446744073709551616) := fun k hk => lt64 hV (HCo.out.small hk)
      have hm64 := lt64 hV (maskOf_lt hl)
      have c1 := litsOf_any V hV A Cc c wr w.heap.size hin hl (by omega)
      have c2 := add_any (w.heap.size + 1) v K (maskOf c) wr HCl.out HK64.out hm64 (by have := HLe.out; omega)
      have HL : Hid (∀ l ∈ c, IsLit V l) := hl
      generalize hmk : maskOf c = mk at *
      have HM : Hid (maskOf c = mk) := hmk
      clear hcell hin hmem hl hcr hmk
      go_wp2_with (first | (go_at_call 44; refine c1.mono ?_; rintro e w' ⟨rfl, hw'⟩; obtain rfl := hw'.symm) | (go_at_call 68; refine c2.mono ?_; rintro e w3 ⟨rfl, v3, hC3, hO3, hChg⟩))
      go_roundw
      case rel =>
        refine ⟨i + 1, v3, addTo K mk, by omega, by go_num, hC3, ?_, ?_, ?_, ?_⟩
        · rw [HT.out, ← HM.out]
          exact HCo.out.add hV HL.out
        · have := addTo_len K mk
          have := HLe.out
          exact Nat.le_trans (addTo_len K mk) (by omega)
        · intro k e
          rcases hO3 k e with h | h
          · exact HOw.out k h
          · exact Nat.le_trans HBe.out.size h
        · refine HBe.out.trans (hChg.below HBe.out.size ?_)
          rintro k (h | h)
          · omega
          · exact HOw.out k h
      case measure => simp [intOf]; omega
    · obtain rfl : i = cs.length := by omega
      go_wp2
      go_ret
      have h := HCo.out
      rw [List.take_length] at h
      exact ⟨_, v, K, rfl, HCl.out, h, HLe.out, by omega, HOw.out, HBe.out⟩

/-! A step of a proof. -/

theorem opp_mask {V : Nat} (hV : V ≤ 20) {c : List Int} (hc : ∀ l ∈ c, IsLit V l) : opp (maskOf c) = maskOf (c.map fun l => -l) := by
  apply Nat.eq_of_testBit_eq
  intro n
  rw [Bool.eq_iff_iff, opp_bit' hV (maskOf_lt hc), maskOf_bit, maskOf_bit]
  constructor
  · rintro ⟨l, hl, e⟩
    exact ⟨-l, List.mem_map.2 ⟨l, hl, rfl⟩, by rw [pl_neg (hc l hl).1, e, mir_mir]⟩
  · rintro ⟨l, hl, e⟩
    obtain ⟨m, hm, rfl⟩ := List.mem_map.1 hl
    rw [pl_neg (hc m hm).1] at e
    exact ⟨m, hm, by rw [← e, mir_mir]⟩

theorem negs_lit {V : Nat} {c : List Int} (hc : ∀ l ∈ c, IsLit V l) : ∀ l ∈ c.map (fun l => -l), IsLit V l := by
  intro l hl
  obtain ⟨m, hm, rfl⟩ := List.mem_map.1 hl
  exact (hc m hm).neg

/-- The box of a truth, and the kept clauses. -/
structure Box (w0 w : World) (H : Nat) (v : Value) (K : List Nat) (R : Nat) (b : Bool) : Prop where
  cls : Cls w H v K
  box : Blk w R 4 [.bool b]
  old : Below w0.heap.size w0 w

theorem pf1_any (o k : Nat) (w : World) : Calls Tryd.prog 110 #[sv o, sv k] w fun e w' => e = .returned (.tuple #[]) ∧ w' = w := by
  go_enter Tryd.func110, Tryd.ntmps110
  go_wp2
  go_end0
  exact ⟨rfl, rfl⟩

theorem pf2_any (k R : Nat) (b : Bool) (w : World) (h : Blk w R 4 [.bool b]) : Calls Tryd.prog 111 #[sv k, .pointer (some ⟨R, 0, none⟩)] w fun e w' => e = .returned (.tuple #[]) ∧ w' = w.setCell ⟨R, 0, none⟩ (.bool true) := by
  have c0 : w.cell? ⟨R, 0, none⟩ = some (.bool b) := h.cell (i := 0) (by simp) undef
  have f0 := h.frozen 0
  go_enter Tryd.func111, Tryd.ntmps111
  go_wp2
  go_end0
  exact ⟨rfl, rfl⟩

theorem Box.turn {w0 w : World} {H : Nat} {v : Value} {K : List Nat} {R : Nat} {b : Bool} (h : Box w0 w H v K R b) (hR : w0.heap.size ≤ R) (hH : H ≠ R) (hv : v.ownBlock ≠ some R) (c : Bool) : Box w0 (w.setCell ⟨R, 0, none⟩ (.bool c)) H v K R c := by
  have hC : Chg (fun k => k = R) w (w.setCell ⟨R, 0, none⟩ (.bool c)) := Chg.setB (S := fun k => k = R) (Chg.refl _ _) R 0 rfl _
  refine ⟨h.cls.chg hC hH (fun k e h' => hv (by rw [e, h'])), h.box.set 0 _, h.old.trans (hC.below h.old.size fun k e => by omega)⟩

set_option maxHeartbeats 1000000 in
open Classical in
theorem pfollows_any (H : Nat) (v : Value) (K : List Nat) (V : Nat) (hV : V ≤ 20) (C : List (List Int)) (hC : Cover V K C) (c : List Int) (hc : ∀ l ∈ c, IsLit V l) (hlen : K.length ≤ 4611686018427387904) (w : World) (hw : Cls w H v K) :
    Calls Tryd.prog 89 #[sv (maskOf c), .pointer (some ⟨H, 0, none⟩)] w fun e w' => e = .returned (.bool (decide (Conf C (fun l => l ∈ c.map fun l => -l)))) ∧ Cls w' H v K ∧ Below w.heap.size w w' := by
  have hm64 := lt64 hV (maskOf_lt hc)
  have c1 := opposites_any (maskOf c) hm64
  rw [opp_mask hV hc] at c1
  have hHw := hw.head.lt
  have hvw : v.ownBlock ≠ some w.heap.size := fun e => by have := (hw.own.lt e).2; omega
  go_enter Tryd.func89, Tryd.ntmps89
  go_wp2_with (go_at_call 70; refine (c1 _).mono ?_; rintro e w' ⟨rfl, rfl⟩)
  have b1 := alloc_below w (.cells #[.bool false] 4)
  have X1 : Box w (w.alloc (.cells #[.bool false] 4)) H v K w.heap.size false := ⟨⟨hw.head.below' b1, hw.own.below' b1⟩, blk_new w [.bool false] 4, b1⟩
  refine (from_any 110 111 #[] #[.pointer (some ⟨w.heap.size, 0, none⟩)] (enters_of Tryd.func110 (by kernel_rfl) rfl) (enters_of Tryd.func111 (by kernel_rfl) rfl) H v K V hV C hC (c.map fun l => -l) (negs_lit hc) hlen
    (fun _ w' => Box w w' H v K w.heap.size false) (fun w' => Box w w' H v K w.heap.size true) (fun _ _ h => h.cls) ?_ ?_ _ X1).mono ?_
  · intro S o k w' h _ _
    exact (pf1_any o k w').mono fun e w'' ⟨h1, h2⟩ => ⟨h1, by rw [h2]; exact h⟩
  · intro S k w' h
    exact (pf2_any k w.heap.size false w' h.box).mono fun e w'' ⟨h1, h2⟩ => ⟨h1, by rw [h2]; exact h.turn (Nat.le_refl _) (by omega) hvw true⟩
  · rintro e w2 ⟨rfl, h⟩
    rcases h with ⟨hconf, hX⟩ | ⟨S, hS, hcalm, hX⟩
    · have HX : Hid (Box w w2 H v K w.heap.size true) := hX
      have c2 : w2.cell? ⟨w.heap.size, 0, none⟩ = some (.bool true) := hX.box.cell (i := 0) (by simp) undef
      have HC : Hid (Conf C (fun l => l ∈ c.map fun l => -l)) := hconf
      clear hX hconf X1 c1
      go_wp2
      go_ret
      refine ⟨?_, HX.out.cls, HX.out.old⟩
      rw [decide_eq_true HC.out]; rfl
    · have HX : Hid (Box w w2 H v K w.heap.size false) := hX
      have c2 : w2.cell? ⟨w.heap.size, 0, none⟩ = some (.bool false) := hX.box.cell (i := 0) (by simp) undef
      have HN : Hid (¬ Conf C (fun l => l ∈ c.map fun l => -l)) := (hS.shut hV hC (negs_lit hc) (fun k hk => hcalm k hk)).noconf
      clear hX hS hcalm X1 c1
      go_wp2
      go_ret
      refine ⟨?_, HX.out.cls, HX.out.old⟩
      rw [decide_eq_false HN.out]; rfl

end Go.Proofs.YtlodenfdcckemaaDoor
