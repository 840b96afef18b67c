/-
  Several texts, one behind the other.
-/
import Derived.Test.YtlodenfdcckemaaDoorH26
import Derived.ProofKit
import Derived.SizedLaws
import Derived.Lib.SmallJoins
import Derived.Deep.Matrix
/-
  A formula among the arguments, opened.
-/

namespace Go.Proofs.YtlodenfdcckemaaDoor
open Go.ChangeShapes Go.WideShapes Go.ChangeAt Go.RowKit Go.Joins Go.Deep

theorem Tryd.own : ownKnob Tryd.prog.godebug = none := by kernel_rfl
theorem Tryd.laidOut : laidOutB Tryd.prog = true := by kernel_rfl
theorem Tryd.cells31 : Tryd.prog.cellsOf 31 = 2 := by kernel_rfl
theorem Tryd.cells3 : Tryd.prog.cellsOf 3 = 1 := by kernel_rfl
theorem Tryd.cells23 : Tryd.prog.cellsOf 23 = 1 := by kernel_rfl
theorem Tryd.cells24 : Tryd.prog.cellsOf 24 = 1 := by kernel_rfl
theorem Tryd.bytes24 : Tryd.prog.bytesOf 24 = 24 := by kernel_rfl
theorem Tryd.bytes3 : Tryd.prog.bytesOf 3 = 8 := by kernel_rfl

theorem plain_addr {w : World} {a : Addr} {i : Nat} {v : Value} (h : w.cell? (a.add i) = some v) (hi : i = 0) : a = ⟨a.block, a.off, none⟩ := by
  subst hi
  have h0 : a.add 0 = a := by unfold Addr.add; simp
  rw [h0] at h
  have := World.cell?_spot h
  cases a
  simp_all

theorem wf_range {n : Int} (h : (Lit.int .i64 n).wf = true) : -9223372036854775808 ≤ n ∧ n ≤ 9223372036854775807 := by
  have e1 : IntKind.i64.min = -9223372036854775808 := by decide
  have e2 : IntKind.i64.max = 9223372036854775807 := by decide
  simp only [Lit.wf, e1, e2, decide_eq_true_eq, Bool.and_eq_true] at h
  exact h

theorem intsAt_of {w : World} {ao : Option Addr} {zs : List Int} {L C : Nat} (hz : zs.length = C) (hL : L ≤ C) (hn : ao = none → C = 0) (hc : ∀ a', ao = some a' → ∀ c, c < C → w.cell? (a'.add c) = some (.int .i64 (zs.getD c 0))) : IntsAt w w.heap.size ao (zs.take L) := by
  intro hne
  have hlen : 0 < (zs.take L).length := List.length_pos_iff.2 hne
  simp at hlen
  match ao, hn, hc with
  | none, hn, _ => have := hn rfl; omega
  | some a, _, hc =>
    have h0 := hc a rfl 0 (by omega)
    have ha := plain_addr h0 rfl
    refine ⟨a.block, a.off, by rw [← ha], ?_, fun i hi => ?_⟩
    · have := World.block_lt_of_cell? w _ h0
      simpa [Addr.add] using this
    · simp at hi
      have := hc a rfl i (by omega)
      rw [ha, add_at] at this
      rw [this]
      have hiL : i < L := by omega
      simp [hiL]

theorem weights_mem_all {H : Type} {P : Program} {e : TypeId} : ∀ {ds : List (DataW H)} {d : DataW H}, d ∈ ds → ∀ n ∈ d.weights P e, n ∈ DataW.weightsAll P e ds
  | [], d, hd, _, _ => by simp at hd
  | d0 :: ds, d, hd, n, hn => by
    simp only [DataW.weightsAll, List.mem_append]
    rcases List.mem_cons.1 hd with rfl | hd
    · exact Or.inl hn
    · exact Or.inr (weights_mem_all hd n hn)

set_option maxRecDepth 100000 in
theorem open_formula {H : Type} {enc : TypeId × Value → H} {W : World} {base : Nat} {v : Value} {d : DataW H} {p : List MemPlace} (hval : Value.okWide Tryd.prog W .any base 31 v) (h : DataW.Trod enc Tryd.prog W 0 (fun _ => true) true 31 v d p)
    (hsz : ∀ n ∈ d.weights Tryd.prog 31, n ≤ 140737488351232) : ∃ vars ao cap cs, v = fm vars ao cap cs ∧ ListsAt W W.heap.size ao cs ∧ Fits cs := by
  obtain ⟨v0, v1, y0, y1, n, rfl, rfl, rfl, hy0, hy1⟩ := open_agg2 Tryd.underlying31 (by kernel_rfl) Tryd.cells31 hval h
  obtain ⟨a, e0, _, wa⟩ := DataW.trod_int Tryd.underlying3 hy0
  simp at e0
  subst e0
  have hsz' : ∀ n ∈ y1.1.weights Tryd.prog 23, n ≤ 140737488351232 := fun n hn => hsz n (by simp only [DataW.weights, Tryd.underlying31, DataW.weightsEach, List.mem_append, List.map_cons, List.map_nil]; exact Or.inr (Or.inl hn))
  rcases open_int_rows Tryd.underlying23 Tryd.underlying24 Tryd.underlying3 Tryd.cells24 Tryd.cells3 hy1 with ⟨hcs, hx⟩ | ⟨a1, len, cap, A, L, C, Z, hcs, _, hl, hm, hx, hrow⟩
  · simp at hcs
    exact ⟨a, none, 0, [], by rw [hcs]; rfl, fun h => absurd rfl h, ⟨by simp, by simp, by simp⟩⟩
  · simp at hcs
    have hgd : ∀ i, i < len → ((List.range len).map fun r => (Z r).take (L r)).getD i [] = (Z i).take (L i) := fun i hi => range_getD _ _ _ _ hi
    have hLl : ∀ i, i < len → ((Z i).take (L i)).length = L i := by
      intro i hi
      obtain ⟨_, h1, _, h3, _⟩ := hrow i (by omega)
      simp; omega
    rw [hx] at hsz'
    simp only [DataW.weights, Tryd.underlying23, List.mem_cons, List.mem_append, Tryd.bytes24, List.length_map, List.length_range] at hsz'
    refine ⟨a, some a1, cap, (List.range len).map fun r => (Z r).take (L r), by rw [hcs]; simp [fm], ?_, ⟨?_, ?_, ?_⟩⟩
    · intro hne
      have hpos : 0 < len := by
        rcases Nat.eq_zero_or_pos len with h | h
        · subst h; simp at hne
        · exact h
      have h0 := (hrow 0 (by omega)).1
      have ha := plain_addr h0 rfl
      refine ⟨a1.block, a1.off, by rw [← ha], ?_, fun i hi => ?_⟩
      · have := World.block_lt_of_cell? W _ h0
        simpa [Addr.add] using this
      · have hi' : i < len := by simpa using hi
        obtain ⟨h1, h2, h3, h4, h5, h6, h7⟩ := hrow i (by omega)
        refine ⟨A i, C i, ?_, ?_⟩
        · rw [hgd i hi', hLl i hi', ← add_at, ← ha]; exact h1
        · rw [hgd i hi']
          exact intsAt_of h4 h2 h6 (fun a' e c hc => (h7 a' e).2 c hc)
    · have := hsz' _ (Or.inl rfl)
      simp; omega
    · intro c hc
      obtain ⟨r, hr, rfl⟩ := List.mem_map.1 hc
      have hr' := List.mem_range.1 hr
      obtain ⟨h1, h2, h3, h4, h5, h6, h7⟩ := hrow r (by omega)
      rw [hLl r hr']
      cases hA : A r with
      | none => have := h6 hA; omega
      | some a' =>
        have hmem : intRow (H := H) .i64 (A r) (L r) (Z r) ∈ (List.range len).map fun r => intRow (H := H) .i64 (A r) (L r) (Z r) := List.mem_map.2 ⟨r, hr, rfl⟩
        have := hsz' (((lits (H := H) .i64 ((Z r).take (L r))).length + (lits (H := H) .i64 ((Z r).drop (L r))).length) * 8) (Or.inr (Or.inl (weights_mem_all hmem _ (by rw [hA]; simp [intRow, DataW.weights, Tryd.underlying24, Tryd.bytes3]))))
        simp [lits] at this
        omega
    · intro c hc x hx
      obtain ⟨r, hr, rfl⟩ := List.mem_map.1 hc
      have hr' := List.mem_range.1 hr
      obtain ⟨h1, h2, h3, h4, h5, h6, h7⟩ := hrow r (by omega)
      exact wf_range (h5 x (List.mem_of_mem_take hx))

end Go.Proofs.YtlodenfdcckemaaDoor

/-
  A list of lists among the arguments, opened.
-/

namespace Go.Proofs.YtlodenfdcckemaaDoor
open Go.ChangeShapes Go.WideShapes Go.ChangeAt Go.RowKit Go.Joins Go.Deep

set_option maxRecDepth 100000 in
theorem open_lists {H : Type} {enc : TypeId × Value → H} {W : World} {base : Nat} {v : Value} {d : DataW H} {p : List MemPlace} (hval : Value.okWide Tryd.prog W .any base 23 v) (h : DataW.Trod enc Tryd.prog W 0 (fun _ => true) true 23 v d p)
    (hsz : ∀ n ∈ d.weights Tryd.prog 23, n ≤ 140737488351232) : ∃ ao cap cs, v = .slice ao cs.length cap ∧ ListsAt W W.heap.size ao cs ∧ Fits cs ∧ cs.length ≤ cap := by
  obtain ⟨a0, len0, cap0, rfl⟩ := okWide_slice Tryd.underlying23 hval
  obtain ⟨fuel, h⟩ := h
  rcases open_int_rows Tryd.underlying23 Tryd.underlying24 Tryd.underlying3 Tryd.cells24 Tryd.cells3 h with ⟨hcs, hx⟩ | ⟨a1, len, cap, A, L, C, Z, hcs, _, hl, hm, hx, hrow⟩
  · exact ⟨none, 0, [], by simpa [Value.cells] using hcs, fun h => absurd rfl h, ⟨by simp, by simp, by simp⟩, Nat.le_refl _⟩
  · have hgd : ∀ i, i < len → ((List.range len).map fun r => (Z r).take (L r)).getD i [] = (Z i).take (L i) := fun i hi => range_getD _ _ _ _ hi
    have hLl : ∀ i, i < len → ((Z i).take (L i)).length = L i := by
      intro i hi
      obtain ⟨_, h1, _, h3, _⟩ := hrow i (by omega)
      simp; omega
    obtain ⟨rfl, -⟩ := Prod.mk.inj hx
    simp only [DataW.weights, Tryd.underlying23, List.mem_cons, List.mem_append, Tryd.bytes24, List.length_map, List.length_range] at hsz
    refine ⟨some a1, cap, (List.range len).map fun r => (Z r).take (L r), by simpa [Value.cells] using hcs, ?_, ⟨?_, ?_, ?_⟩, ?_⟩
    · intro hne
      have hpos : 0 < len := by
        rcases Nat.eq_zero_or_pos len with h | h
        · subst h; simp at hne
        · exact h
      have h0 := (hrow 0 (by omega)).1
      have ha := plain_addr h0 rfl
      refine ⟨a1.block, a1.off, by rw [← ha], ?_, fun i hi => ?_⟩
      · have := World.block_lt_of_cell? W _ h0
        simpa [Addr.add] using this
      · have hi' : i < len := by simpa using hi
        obtain ⟨h1, h2, h3, h4, h5, h6, h7⟩ := hrow i (by omega)
        refine ⟨A i, C i, ?_, ?_⟩
        · rw [hgd i hi', hLl i hi', ← add_at, ← ha]; exact h1
        · rw [hgd i hi']
          exact intsAt_of h4 h2 h6 (fun a' e c hc => (h7 a' e).2 c hc)
    · have := hsz _ (Or.inl rfl)
      simp; omega
    · intro c hc
      obtain ⟨r, hr, rfl⟩ := List.mem_map.1 hc
      have hr' := List.mem_range.1 hr
      obtain ⟨h1, h2, h3, h4, h5, h6, h7⟩ := hrow r (by omega)
      rw [hLl r hr']
      cases hA : A r with
      | none => have := h6 hA; omega
      | some a' =>
        have hmem : intRow (H := H) .i64 (A r) (L r) (Z r) ∈ (List.range len).map fun r => intRow (H := H) .i64 (A r) (L r) (Z r) := List.mem_map.2 ⟨r, hr, rfl⟩
        have := hsz (((lits (H := H) .i64 ((Z r).take (L r))).length + (lits (H := H) .i64 ((Z r).drop (L r))).length) * 8) (Or.inr (Or.inl (weights_mem_all hmem _ (by rw [hA]; simp [intRow, DataW.weights, Tryd.underlying24, Tryd.bytes3]))))
        simp [lits] at this
        omega
    · intro c hc x hx
      obtain ⟨r, hr, rfl⟩ := List.mem_map.1 hc
      have hr' := List.mem_range.1 hr
      obtain ⟨h1, h2, h3, h4, h5, h6, h7⟩ := hrow r (by omega)
      exact wf_range (h5 x (List.mem_of_mem_take hx))
    · simp; omega

set_option maxRecDepth 100000 in
theorem open_nums {H : Type} {enc : TypeId × Value → H} {W : World} {base : Nat} {v : Value} {d : DataW H} {p : List MemPlace} (hval : Value.okWide Tryd.prog W .any base 24 v) (h : DataW.Trod enc Tryd.prog W 0 (fun _ => true) true 24 v d p)
    (hsz : ∀ n ∈ d.weights Tryd.prog 24, n ≤ 140737488351232) : ∃ ao cap zs, v = .slice ao zs.length cap ∧ IntsAt W W.heap.size ao zs ∧ zs.length * 8 ≤ 140737488351232 ∧ (∀ l ∈ zs, -9223372036854775808 ≤ l ∧ l ≤ 9223372036854775807) ∧ zs.length ≤ cap := by
  obtain ⟨a0, len0, cap0, rfl⟩ := okWide_slice Tryd.underlying24 hval
  obtain ⟨fuel, h⟩ := h
  rcases open_ints Tryd.underlying24 Tryd.underlying3 Tryd.cells3 h with ⟨hcs, hx⟩ | ⟨a1, len, cap, zs, hcs, _, hl, hm, hz, hx, hcell, hwf⟩
  · exact ⟨none, 0, [], by simpa [Value.cells] using hcs, fun h => absurd rfl h, by simp, by simp, Nat.le_refl _⟩
  · obtain ⟨rfl, -⟩ := Prod.mk.inj hx
    simp only [if_true] at hz
    have hlen : (zs.take len).length = len := by simp; omega
    refine ⟨some a1, cap, zs.take len, by rw [hlen]; simpa [Value.cells] using hcs, ?_, ?_, fun l hl => wf_range (hwf l (List.mem_of_mem_take hl)), by omega⟩
    · exact intsAt_of (C := cap) hz hl (fun h => by cases h) (fun a' e c hc => by cases e; exact hcell c (by omega))
    · have := hsz (((lits (H := H) .i64 (zs.take len)).length + (lits (H := H) .i64 (zs.drop len)).length) * 8) (by simp [DataW.weights, Tryd.underlying24, Tryd.bytes3])
      simp [lits] at this
      omega
end Go.Proofs.YtlodenfdcckemaaDoor
