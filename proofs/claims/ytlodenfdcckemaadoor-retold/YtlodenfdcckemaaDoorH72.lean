/-
  A list of lists among the arguments, opened.
-/
import Derived.Test.YtlodenfdcckemaaDoorH71
namespace Go.Proofs.YtlodenfdcckemaaDoor
open Go.ChangeShapes Go.WideShapes Go.ChangeAt Go.RowKit Go.Joins Go.Deep

set_option maxRecDepth 100000 in
theorem open_lists {H : Type} {enc : TypeId × Value → H} {W : World} {base : Nat} {v : Value} {d : DataW H} {p : List MemPlace} (hval : Value.okWide Tryd.prog W .any base 23 v) (h : DataW.Trod enc Tryd.prog W 0 (fun _ => true) true 23 v d p)
    (hsz : ∀ n ∈ d.weights Tryd.prog 23, n ≤ 140737488351232) : ∃ ao cap cs, v = .slice ao cs.length cap ∧ ListsAt W W.heap.size ao cs ∧ Fits cs ∧ cs.length ≤ cap := by
  obtain ⟨a0, len0, cap0, rfl⟩ := okWide_slice Tryd.underlying23 hval
  obtain ⟨fuel, h⟩ := h
  rcases open_int_rows Tryd.underlying23 Tryd.underlying24 Tryd.underlying3 Tryd.cells24 Tryd.cells3 h with ⟨hcs, hx⟩ | ⟨a1, len, cap, A, L, C, Z, hcs, _, hl, hm, hx, hrow⟩
  · exact ⟨none, 0, [], by simpa [Value.cells] using hcs, fun h => absurd rfl h, ⟨by simp, by simp, by simp⟩, Nat.le_refl _⟩
  · have hgd : ∀ i, i < len → ((List.range len).map fun r => (Z r).take (L r)).getD i [] = (Z i).take (L i) := fun i hi => range_getD _ _ _ _ hi
    have hLl : ∀ i, i < len → ((Z i).take (L i)).length = L i := by
      intro i hi
      obtain ⟨_, h1, _, h3, _⟩ := hrow i (by omega)
      simp; omega
    obtain ⟨rfl, -⟩ := Prod.mk.inj hx
    simp only [DataW.weights, Tryd.underlying23, List.mem_cons, List.mem_append, Tryd.bytes24, List.length_map, List.length_range] at hsz
    refine ⟨some a1, cap, (List.range len).map fun r => (Z r).take (L r), by simpa [Value.cells] using hcs, ?_, ⟨?_, ?_, ?_⟩, ?_⟩
    · intro hne
      have hpos : 0 < len := by
        rcases Nat.eq_zero_or_pos len with h | h
        · subst h; simp at hne
        · exact h
      have h0 := (hrow 0 (by omega)).1
      have ha := plain_addr h0 rfl
      refine ⟨a1.block, a1.off, by rw [← ha], ?_, fun i hi => ?_⟩
      · have := World.block_lt_of_cell? W _ h0
        simpa [Addr.add] using this
      · have hi' : i < len := by simpa using hi
        obtain ⟨h1, h2, h3, h4, h5, h6, h7⟩ := hrow i (by omega)
        refine ⟨A i, C i, ?_, ?_⟩
        · rw [hgd i hi', hLl i hi', ← add_at, ← ha]; exact h1
        · rw [hgd i hi']
          exact intsAt_of h4 h2 h6 (fun a' e c hc => (h7 a' e).2 c hc)
    · have := hsz _ (Or.inl rfl)
      simp; omega
    · intro c hc
      obtain ⟨r, hr, rfl⟩ := List.mem_map.1 hc
      have hr' := List.mem_range.1 hr
      obtain ⟨h1, h2, h3, h4, h5, h6, h7⟩ := hrow r (by omega)
      rw [hLl r hr']
      cases hA : A r with
      | none => have := h6 hA; omega
      | some a' =>
        have hmem : intRow (H := H) .i64 (A r) (L r) (Z r) ∈ (List.range len).map fun r => intRow (H := H) .i64 (A r) (L r) (Z r) := List.mem_map.2 ⟨r, hr, rfl⟩
        have := hsz (((lits (H := H) .i64 ((Z r).take (L r))).length + (lits (H := H) .i64 ((Z r).drop (L r))).length) * 8) (Or.inr (Or.inl (weights_mem_all hmem _ (by rw [hA]; simp [intRow, DataW.weights, Tryd.underlying24, Tryd.bytes3]))))
        simp [lits] at this
        omega
    · intro c hc x hx
      obtain ⟨r, hr, rfl⟩ := List.mem_map.1 hc
      have hr' := List.mem_range.1 hr
      obtain ⟨h1, h2, h3, h4, h5, h6, h7⟩ := hrow r (by omega)
      exact wf_range (h5 x (List.mem_of_mem_take hx))
    · simp; omega

set_option maxRecDepth 100000 in
theorem open_nums {H : Type} {enc : TypeId × Value → H} {W : World} {base : Nat} {v : Value} {d : DataW H} {p : List MemPlace} (hval : Value.okWide Tryd.prog W .any base 24 v) (h : DataW.Trod enc Tryd.prog W 0 (fun _ => true) true 24 v d p)
    (hsz : ∀ n ∈ d.weights Tryd.prog 24, n ≤ 140737488351232) : ∃ ao cap zs, v = .slice ao zs.length cap ∧ IntsAt W W.heap.size ao zs ∧ zs.length * 8 ≤ 140737488351232 ∧ (∀ l ∈ zs, -9223372036854775808 ≤ l ∧ l ≤ 9223372036854775807) ∧ zs.length ≤ cap := by
  obtain ⟨a0, len0, cap0, rfl⟩ := okWide_slice Tryd.underlying24 hval
  obtain ⟨fuel, h⟩ := h
  rcases open_ints Tryd.underlying24 Tryd.underlying3 Tryd.cells3 h with ⟨hcs, hx⟩ | ⟨a1, len, cap, zs, hcs, _, hl, hm, hz, hx, hcell, hwf⟩
  · exact ⟨none, 0, [], by simpa [Value.cells] using hcs, fun h => absurd rfl h, by simp, by simp, Nat.le_refl _⟩
  · obtain ⟨rfl, -⟩ := Prod.mk.inj hx
    simp only [if_true] at hz
    have hlen : (zs.take len).length = len := by simp; omega
    refine ⟨some a1, cap, zs.take len, by rw [hlen]; simpa [Value.cells] using hcs, ?_, ?_, fun l hl => wf_range (hwf l (List.mem_of_mem_take hl)), by omega⟩
    · exact intsAt_of (C := cap) hz hl (fun h => by cases h) (fun a' e c hc => by cases e; exact hcell c (by omega))
    · have := hsz (((lits (H := H) .i64 (zs.take len)).length + (lits (H := H) .i64 (zs.drop len)).length) * 8) (by simp [DataW.weights, Tryd.underlying24, Tryd.bytes3])
      simp [lits] at this
      omega
end Go.Proofs.YtlodenfdcckemaaDoor
