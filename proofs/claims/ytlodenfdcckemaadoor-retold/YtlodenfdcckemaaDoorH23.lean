/-
  The walk of a clause's putting in.
-/
import Derived.Test.YtlodenfdcckemaaDoorH21
import Derived.Test.YtlodenfdcckemaaDoorH22
import Derived.Deep.RegionLaw
import Derived.Deep.RegionHeld3
namespace Go.Proofs.YtlodenfdcckemaaDoor
open Go.RowKit

theorem Cls.chg {w w' : World} {H : Nat} {v : Value} {K : List Nat} {S : Nat → Prop} (h : Cls w H v K) (hc : Chg S w w') (hH : ¬ S H) (hv : ∀ k, v.ownBlock = some k → ¬ S k) : Cls w' H v K := ⟨h.head.chg hc hH, h.own.chg hc hv⟩

/-- Behind the append, ahead of the store. -/
theorem add_mid {W w2 w3 : World} {H N g cap l : Nat} {v v2 : Value} {K L : List Nat} {m : Nat} (hcW : Cls W H v K) (hC : Chg (fun k => v.ownBlock = some k) W w2) (hvb : v2.ownBlock = v.ownBlock) (hO2 : Own w2 0 71 v2 (svs L)) (hN : Blk W N 71 [sv m]) (hNv : v.ownBlock ≠ some N) (hneH : v.ownBlock ≠ some H) (hNH : N ≠ H)
    (hown3 : w3.ownsRow 0 71 1 (.slice (some ⟨g, 0, none⟩) l cap) l (svs L ++ [sv m])) (hgrow : w2.grownBy w3 v2.ownBlock) (hat : v2.ownBlock = some g ∨ g = w2.heap.size) :
    w3.cell? ⟨H, 0, none⟩ = some v ∧ w3.frozen? ⟨H, 0, none⟩ = false ∧ w3.cell? ⟨N, 0, none⟩ = some (sv m) ∧ (w3.setCell ⟨H, 0, none⟩ (.slice (some ⟨g, 0, none⟩) l cap)).cell? ⟨N, 0, none⟩ = some (sv m) ∧
      Cls (w3.setCell ⟨H, 0, none⟩ (.slice (some ⟨g, 0, none⟩) l cap)) H (.slice (some ⟨g, 0, none⟩) l cap) (L ++ [m]) ∧ (v.ownBlock = some g ∨ W.heap.size ≤ g) ∧ Chg (fun k => k = H ∨ v.ownBlock = some k) W (w3.setCell ⟨H, 0, none⟩ (.slice (some ⟨g, 0, none⟩) l cap)) := by
  have hs := hC.size
  have B2 := hcW.head.chg hC hneH
  have B3 : Blk w3 H 102 [v] := B2.grown hgrow (by rw [hvb]; exact hneH)
  have N3 : Blk w3 N 71 [sv m] := (hN.chg hC hNv).grown hgrow (by rw [hvb]; exact hNv)
  have hgH : g ≠ H := by
    rcases hat with h | h
    · rw [hvb] at h; exact fun e => hneH (by rw [h, e])
    · have := B2.lt; omega
  have hC3 : Chg (fun k => v.ownBlock = some k) W w3 := hC.trans2 (Chg.of_grown (S := fun k => v.ownBlock = some k) hgrow (fun k e => by rw [← hvb]; exact e) (fun k e o ho => hO2.cells e o ho)) (fun i _ h => h)
  have hC4 : Chg (fun k => k = H ∨ v.ownBlock = some k) W (w3.setCell ⟨H, 0, none⟩ (.slice (some ⟨g, 0, none⟩) l cap)) := Chg.setB (S := fun k => k = H ∨ v.ownBlock = some k) (hC3.mono fun k _ h => Or.inr h) H 0 (Or.inl rfl) _
  obtain ⟨hr, _, h63, hl⟩ := row1_of hown3
  refine ⟨B3.cell (i := 0) (by simp) undef, B3.frozen 0, N3.cell (i := 0) (by simp) undef, (N3.setOther (a := ⟨H, 0, none⟩) hNH _).cell (i := 0) (by simp) undef, ⟨B3.set 0 _, ?_⟩, ?_, hC4⟩
  · have hl2 : l = (svs (L ++ [m])).length := by rw [← hl]; simp
    rw [show svs L ++ [sv m] = svs (L ++ [m]) by simp] at hr
    exact Or.inr ⟨g, cap, by rw [hl2], Nat.zero_le _, h63, hr.setOther (a := ⟨H, 0, none⟩) hgH _⟩
  · rcases hat with h | h
    · rw [hvb] at h; exact Or.inl h
    · exact Or.inr (by omega)

theorem Own.own' {w : World} {base : Nat} {t : TypeId} {v : Value} {L : List Nat} (h : Own w base t v (svs L)) : w.ownsRow base t 1 v L.length (svs L) := by
  have := h.own
  rwa [List.length_map] at this

theorem info_parts {P : Program} {e : TypeId} {z : Value} {s b : Nat} (h : (P.info? e).map (fun i => (i.zero, i.size, i.bytes)) = some (some z, s, b)) : ∃ i, P.info? e = some i ∧ i.zero = some z ∧ i.size = s ∧ i.bytes = b := by
  obtain ⟨i, hi, hz⟩ := Option.map_eq_some_iff.1 h
  simp only [Prod.mk.injEq] at hz
  exact ⟨i, hi, hz.1, hz.2.1, hz.2.2⟩

set_option maxRecDepth 100000 in
set_option maxHeartbeats 4000000 in
theorem add_any (H : Nat) (v : Value) (K : List Nat) (m : Nat) (w : World) (hc : Cls w H v K) (hK : ∀ k ∈ K, k < 18446744073709551616) (hm : m < 18446744073709551616) (hlen : K.length ≤ 10000000000000) :
    Calls Tryd.prog 68 #[.pointer (some ⟨H, 0, none⟩), sv m] w fun e w' => e = .returned (.tuple #[]) ∧ ∃ v', Cls w' H v' (addTo K m) ∧ (∀ k, v'.ownBlock = some k → v.ownBlock = some k ∨ w.heap.size ≤ k) ∧ Chg (fun k => k = H ∨ v.ownBlock = some k) w w' := by
  have hHw := hc.head.lt
  have hcl64 := clash_lt _ hm
  have c1 := clash_any m hm
  have hneH : v.ownBlock ≠ some H := own_blk hc.own hc.head (by decide)
  go_enter Tryd.func68, Tryd.ntmps68
  go_wp2_with fail
  have b1 := alloc_below w (.cells #[sv m] 71)
  have B1 : Blk (w.alloc (.cells #[sv m] 71)) w.heap.size 71 [sv m] := blk_new w [sv m] 71
  have s1 := alloc_size w (.cells #[sv m] 71)
  have hc1 : Cls (w.alloc (.cells #[sv m] 71)) H v K := ⟨hc.head.below' b1, hc.own.below' b1⟩
  have hown0 : ∀ k, v.ownBlock = some k → k < w.heap.size := fun k e => (hc.own.lt e).2
  generalize w.alloc (.cells #[sv m] 71) = W at *
  generalize hN : w.heap.size = N at *
  have HNw : Hid (w.heap.size = N) := hN
  clear hc hN
  have hNW : N < W.heap.size := by omega
  have hHW : H < W.heap.size := by omega
  have cN : W.cell? ⟨N, 0, none⟩ = some (sv m) := B1.cell (i := 0) (by simp) undef
  have cH : W.cell? ⟨H, 0, none⟩ = some v := hc1.head.cell (i := 0) (by simp) undef
  have fH : W.frozen? ⟨H, 0, none⟩ = false := hc1.head.frozen 0
  refine (c1 _).mono ?_
  rintro e w' ⟨rfl, rfl⟩
  by_cases hcl : clash m = 0
  · have hcl' : (((clash m : Nat) : Int) != 0) = false := by simp [hcl]
    have Hcl : Hid (clash m = 0) := hcl
    clear hcl c1
    have c2 := contains_any v K m N w' hc1.own hK hm cN (by omega)
    generalize hx : clash m = x at *
    cases hany : K.any (fun k => within k m) with
    | true =>
      rw [hany] at c2
      have HA : Hid (addTo K m = K) := by
        unfold Hid addTo
        simp only [hany]
        split <;> rfl
      clear hany hx
      go_wp2_with (go_at_call 92; refine c2.mono ?_; rintro e w'' ⟨rfl, hw''⟩; obtain rfl := hw''.symm)
      (try simp only [Exit.inBlock, Exit.then])
      refine bodyPost_ret (results_none rfl _ _ _) rfl ?_
      exact ⟨rfl, v, by rw [HA.out]; exact hc1, fun k h => Or.inl h, Chg.of_below (by rw [HNw.out]; exact b1)⟩
    | false =>
      rw [hany] at c2
      have HA : Hid (x = 0 → addTo K m = stay m K ++ [m]) := by
        intro h
        unfold addTo
        simp only [hany]
        rw [if_neg (by rw [hx, h]; simp)]
        rfl
      clear hany hx
      go_wp2_with (go_at_call 92; refine c2.mono ?_; rintro e w'' ⟨rfl, hw''⟩; obtain rfl := hw''.symm)
      clear c2
      obtain ⟨i0, hi, hz0, hz1, hz2⟩ := info_parts Tryd.infoSet
      have hNv : v.ownBlock ≠ some N := fun e => by have := hown0 N e; omega
      have hNH : N ≠ H := by omega
      have hone : ∀ u ∈ [sv m], u.oneCell' = true := by intro u hu; simp at hu; rw [hu]; rfl
      have hst : (stay m K).length ≤ K.length := List.length_filter_le _ _
      have oD : Own w'.drew 0 71 v (svs K) := hc1.own.chg (S := fun _ => False) (Chg.drew (Chg.refl _ _)) (fun _ _ h => h)
      have oDA : Own (w'.drew.alloc (.cells #[sv m] 71)) 0 71 v (svs K) := oD.alloc _
      have dD := delete_any v K m _ oD hK hm (by omega)
      have dDA := delete_any v K m _ oDA hK hm (by omega)
      have cD : w'.drew.cell? ⟨N, 0, none⟩ = some (sv m) := cN
      have cDA : (w'.drew.alloc (.cells #[sv m] 71)).cell? ⟨N, 0, none⟩ = some (sv m) := by
        have := (B1.drew.alloc (.cells #[sv m] 71)).cell (i := 0) (by simp) undef
        simpa using this
      have bA : Chg (fun k => v.ownBlock = some k) w' (w'.drew.alloc (.cells #[sv m] 71)) := (Chg.drew (Chg.refl _ _)).trans (Chg.of_below (alloc_below _ _))
      have bN : Blk (w'.drew.alloc (.cells #[sv m] 71)) w'.heap.size 71 [sv m] := blk_new w'.drew [sv m] 71
      have sA : (w'.drew.alloc (.cells #[sv m] 71)).heap.size = w'.heap.size + 1 := alloc_size w'.drew _
      have HS1 : Hid (w'.heap.size = N + 1) := s1
      clear s1
      have cHD : w'.drew.cell? ⟨H, 0, none⟩ = some v := cH
      have cHA : (w'.drew.alloc (.cells #[sv m] 71)).cell? ⟨H, 0, none⟩ = some v := by
        have := (hc1.head.drew.alloc (.cells #[sv m] 71)).cell (i := 0) (by simp) undef
        simpa using this
      go_region_law (first
          | (refine step_append_lies _ (by rfl) (.tmp 22) (.tmp 24) 100 (by rfl) 0 71 i0 (.int .u64 0) 1 8 Tryd.underlying100 hi hz0 hz1 hz2 (by rfl) (by decide) v2 (stay m K).length (svs (stay m K)) (by rfl) (by exact oA.own') ⟨w2.heap.size, 0, none⟩ 1 1 [sv m] (by rfl) (by rfl) (by exact World.news_of_block nA) hone (by decide) (by unfold maxLen; omega) (by omega) (Nat.zero_le _) (w2.heap.size + 1) sW ?_; intro g cap w3 hown3 hgrow hat hlt; obtain ⟨PD1, PD2, PD3, PD4, PD5, PD6, PD7⟩ := add_mid hc1 CW hvb oA B1 hNv hneH hNH hown3 hgrow (by rw [sW]; exact hat))
          | (refine step_append_lies _ (by rfl) (.tmp 22) (.tmp 24) 100 (by rfl) 0 71 i0 (.int .u64 0) 1 8 Tryd.underlying100 hi hz0 hz1 hz2 (by rfl) (by decide) v2 (stay m K).length (svs (stay m K)) (by rfl) (by exact oA.own') ⟨w'.heap.size, 0, none⟩ 1 1 [sv m] (by rfl) (by rfl) (by exact World.news_of_block nA) hone (by decide) (by unfold maxLen; omega) (by omega) (Nat.zero_le _) w2.heap.size rfl ?_; intro g cap w3 hown3 hgrow hat hlt; obtain ⟨PD1, PD2, PD3, PD4, PD5, PD6, PD7⟩ := add_mid hc1 CW hvb oA B1 hNv hneH hNH hown3 hgrow hat)
          | (go_simp; go_at_call 93; first | (refine dD.mono ?_; rintro e w2 ⟨v2, rfl, hO2, hvb, hC2⟩; have cN2 : w2.cell? ⟨N, 0, none⟩ = some (sv m) := hC2.cell hNv cD; have oA := hO2.alloc (.cells #[sv m] 71); have nA : Blk (w2.alloc (.cells #[sv m] 71)) w2.heap.size 71 [sv m] := blk_new w2 [sv m] 71; have CW : Chg (fun k => v.ownBlock = some k) w' (w2.alloc (.cells #[sv m] 71)) := ((Chg.drew (Chg.refl _ _)).trans hC2).trans (Chg.of_below (alloc_below _ _)); have sW := alloc_size w2 (.cells #[sv m] 71); dsimp only) | (refine dDA.mono ?_; rintro e w2 ⟨v2, rfl, hO2, hvb, hC2⟩; have cN2 : w2.cell? ⟨N, 0, none⟩ = some (sv m) := hC2.cell hNv cDA; have nA : Blk w2 w'.heap.size 71 [sv m] := bN.chg hC2 (fun e => by have := hown0 _ e; have := HS1.out; omega); have CW : Chg (fun k => v.ownBlock = some k) w' w2 := bA.trans hC2; have oA := hO2; dsimp only)))
      all_goals
        go_wp2
        go_end0
        refine ⟨rfl, _, by rw [HA.out Hcl.out]; exact PD5, ?_, ?_⟩
        · intro k e
          simp [Value.ownBlock] at e
          rw [← e]
          rw [HNw.out]
          rcases PD6 with h | h
          · exact Or.inl h
          · exact Or.inr (by have := HS1.out; omega)
        · exact (Chg.of_below (S := fun k => k = H ∨ v.ownBlock = some k) (by rw [HNw.out]; exact b1)).trans PD7
  · have hcl' : (((clash m : Nat) : Int) != 0) = true := by simp [hcl]
    have HA : Hid (addTo K m = K) := by unfold Hid addTo; rw [if_pos hcl]
    clear hcl
    go_wp2
    (try simp only [Exit.inBlock, Exit.then])
    refine bodyPost_ret (results_none rfl _ _ _) rfl ?_
    exact ⟨rfl, v, by rw [HA.out]; exact hc1, fun k h => Or.inl h, Chg.of_below (by rw [HNw.out]; exact b1)⟩
end Go.Proofs.YtlodenfdcckemaaDoor
