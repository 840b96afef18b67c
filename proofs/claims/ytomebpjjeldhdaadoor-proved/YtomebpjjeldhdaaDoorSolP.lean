/-
  What an end of the search is worth, for the document: a proof that checks, an assignment that holds.
-/
import Derived.Test.YtomebpjjeldhdaaDoorSeaR
import Derived.Test.YtomebpjjeldhdaaDoorPCheck
namespace Go.Proofs.YtomebpjjeldhdaaDoor
open Go.RowKit

theorem rup_conf {V : Nat} (hV : V ≤ 20) {C : List (List Int)} {c : Nat} (hc : c < 2 ^ (2 * V)) (h : Rup C c) : Conf C (fun l => l ∈ (litsOf 64 c).map fun l => -l) := by
  refine Conf.trans (fun l hl => .given ?_) h
  have hm := mask_list (lt64 hV hc)
  have hb := hl.2
  rw [← hm, maskOf_bit] at hb
  obtain ⟨x, hx, e⟩ := hb
  have hx0 := (list_lit hc x hx).1
  refine List.mem_map.2 ⟨x, hx, ?_⟩
  have : pl (-x) = pl l := by rw [pl_neg hx0, e, mir_mir]
  exact pl_inj (by omega) hl.1 this

theorem fault_of_lits {V : Nat} {c : List Int} (h1 : c.length ≤ 20) (h2 : ∀ l ∈ c, IsLit V l) : clauseFault V c = 0 := by
  refine clauseFault_all (by omega) (List.all_eq_true.2 fun l hl => ?_)
  obtain ⟨a, b, c⟩ := h2 l hl
  unfold lit
  simp only [Bool.and_eq_true, Bool.not_eq_true', beq_eq_false_iff_ne, decide_eq_true_eq]
  exact ⟨⟨a, b⟩, c⟩

theorem goodLem_fault {V : Nat} (hV : V ≤ 20) {C : List (List Int)} {c : Nat} (h : GoodLem V C c) : clauseFault V (litsOf 64 c) = 0 ∧ (litsOf 64 c).length ≠ 0 ∧ (litsOf 64 c).length ≤ 20 := by
  have h1 : (litsOf 64 c).length ≤ 20 := by
    rw [litsOf_short hV h.small]
    exact Nat.le_trans (litsOf_half c h.half V) hV
  refine ⟨fault_of_lits h1 (list_lit h.small), fun e => ?_, h1⟩
  have hm := mask_list (lt64 hV h.small)
  rw [List.length_eq_zero_iff.1 e] at hm
  exact h.some hm.symm

/-- The lemmas check, one after the other, to the last without literals. -/
theorem check_unsat {V : Nat} (hV : V ≤ 20) {cs : List (List Int)} {F0 : List Nat} (hl : ∀ i c, F0[i]? = some c → GoodLem V (withF cs (F0.take i)) c) (hr : Rup (withF cs F0) 0) : ∀ (k : Nat), k ≤ F0.length → checkOf V (withF cs (F0.take k)) k ((F0.drop k ++ [0]).map (litsOf 64)) = (((F0.length + 1 : Nat) : Int), 0) := by
  intro k hk
  obtain ⟨d, hd⟩ : ∃ d, d = F0.length - k := ⟨_, rfl⟩
  induction d generalizing k with
  | zero =>
    obtain rfl : k = F0.length := by omega
    rw [List.drop_length, List.take_length, List.nil_append]
    have hz : litsOf 64 0 = [] := by simp [litsOf]
    have hc := rup_conf hV (Nat.two_pow_pos _) hr
    rw [List.map_singleton, checkOf, hz]
    rw [hz] at hc
    rw [if_neg (by unfold clauseFault; simp), if_pos hc, if_pos (by rfl)]
  | succ d ih =>
    have hlt : k < F0.length := by omega
    have hg := hl k F0[k] (List.getElem?_eq_getElem hlt)
    obtain ⟨f1, f2, -⟩ := goodLem_fault hV hg
    rw [List.drop_eq_getElem_cons hlt, List.cons_append, List.map_cons, checkOf, if_neg (by rw [f1]; simp), if_pos (rup_conf hV hg.small hg.rup), if_neg f2]
    have := ih (k + 1) (by omega) (by omega)
    rw [List.take_succ_eq_append_getElem hlt, withF_snoc] at this
    exact this

theorem endOk_check {V : Nat} (hV : V ≤ 20) {cs : List (List Int)} {F : List Nat} (h : EndOk V cs (.unsat F)) : checkOf V cs 0 (F.map (litsOf 64)) = ((F.length : Int), 0) ∧ (∀ c ∈ F.map (litsOf 64), c.length ≤ 20 ∧ ∀ l ∈ c, IsLit V l) ∧ 1 ≤ F.length ∧ F.length ≤ 3486784402 := by
  obtain ⟨F0, rfl, hl, hr, hn⟩ := h
  have h4 : 3 ^ V ≤ 3 ^ 20 := Nat.pow_le_pow_right (by decide) hV
  have h5 : (3 : Nat) ^ 20 = 3486784401 := by decide
  refine ⟨?_, fun c hc => ?_, by simp, by simp; omega⟩
  · have := check_unsat hV hl hr 0 (Nat.zero_le _)
    rw [List.take_zero, List.drop_zero] at this
    unfold withF at this
    rw [List.map_nil, List.append_nil] at this
    rw [this]; simp
  · rw [List.map_append, List.mem_append] at hc
    rcases hc with hc | hc
    · obtain ⟨x, hx, rfl⟩ := List.mem_map.1 hc
      obtain ⟨i, hi, rfl⟩ := List.getElem_of_mem hx
      have hg := hl i _ (List.getElem?_eq_getElem hi)
      exact ⟨(goodLem_fault hV hg).2.2, list_lit hg.small⟩
    · have hz : litsOf 64 0 = [] := by simp [litsOf]
      rw [List.map_singleton, List.mem_singleton, hz] at hc
      subst hc
      simp

/-- An assignment, told. -/
theorem endOk_model {V : Nat} (hV : V ≤ 20) {cs : List (List Int)} {S : Nat} (h : EndOk V cs (.sat S)) : litsOf 64 S = modelOf V S ∧ ∀ c ∈ cs, ∃ l ∈ c, IsLit V l ∧ (modelOf V S).getD (pl l / 2) 0 = l := by
  obtain ⟨hs, hb, hc⟩ := h
  refine ⟨by rw [litsOf_short hV hs, litsOf_model S V hb], fun c hcc => ?_⟩
  obtain ⟨l, hl, hlit, hbit⟩ := hc c hcc
  refine ⟨l, hl, hlit, ?_⟩
  have hp := pl_lt hlit
  have hlt : pl l / 2 < V := by omega
  unfold modelOf
  rw [List.getD_eq_getElem?_getD, List.getElem?_map, List.getElem?_range hlt]
  simp only [Option.map_some, Option.getD_some]
  obtain ⟨h0, -, -⟩ := hlit
  by_cases hn : l < 0
  · have e : pl l = 2 * (pl l / 2) + 1 := by unfold pl; rw [if_pos hn]; omega
    have hb' := hb (pl l / 2) hlt
    rw [← e, hbit] at hb'
    have : S.testBit (2 * (pl l / 2)) = false := by cases h : S.testBit (2 * (pl l / 2)) with | false => rfl | true => rw [h] at hb'; cases hb'
    rw [this]
    simp only [Bool.false_eq_true, if_false]
    unfold pl; rw [if_pos hn]; omega
  · have e : pl l = 2 * (pl l / 2) := by unfold pl; rw [if_neg hn]; omega
    rw [← e, hbit]
    simp only [if_true]
    unfold pl; rw [if_neg hn]; omega

end Go.Proofs.YtomebpjjeldhdaaDoor
