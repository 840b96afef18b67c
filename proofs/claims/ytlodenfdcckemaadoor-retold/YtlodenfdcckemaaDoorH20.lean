/-
  What literals weigh, in parts of 2 to the power of minus twenty: plain mathematics.
-/
import Derived.Test.YtlodenfdcckemaaDoorH5
import Derived.Test.YtlodenfdcckemaaDoorH19
namespace Go.Proofs.YtlodenfdcckemaaDoor

/-- A formula without a fault. -/
structure Good (n : Nat) (cs : List (List Int)) : Prop where
  vars : n ≤ 20
  many : cs.length ≤ 200
  long : ∀ c ∈ cs, c.length ≤ 20
  lits : ∀ c ∈ cs, ∀ x ∈ c, x ≠ 0 ∧ x ≤ n ∧ -(n : Int) ≤ x

theorem clausesFault_zero (vars : Int) : ∀ (cs : List (List Int)) (i : Nat), (clausesFault vars i cs).1 = 0 → ∀ c ∈ cs, clauseFault vars c = 0
  | [], _, _, c, hc => by simp at hc
  | c :: cs, i, h, d, hd => by
    unfold clausesFault at h
    by_cases h0 : clauseFault vars c = 0
    · rw [if_pos h0] at h
      rcases List.mem_cons.1 hd with rfl | hd
      · exact h0
      · exact clausesFault_zero vars cs (i + 1) h d hd
    · rw [if_neg h0] at h
      exact absurd h h0

theorem clauseFault_good {vars : Int} {c : List Int} (h : clauseFault vars c = 0) : c.length ≤ 20 ∧ ∀ x ∈ c, lit vars x = true := by
  unfold clauseFault at h
  split at h
  · cases h
  · split at h
    · rename_i h1 h2
      exact ⟨by omega, fun x hx => (List.all_eq_true.1 h2) x hx⟩
    · cases h

theorem good_of {vars : Int} {cs : List (List Int)} (h : (fault vars cs).1 = 0) : ∃ n : Nat, vars = n ∧ Good n cs := by
  unfold fault at h
  split at h
  · cases h
  · split at h
    · cases h
    · rename_i h1 h2
      have hc := clausesFault_zero vars cs 0 h
      refine ⟨vars.toNat, by omega, by omega, by omega, fun c hcc => (clauseFault_good (hc c hcc)).1, fun c hcc x hx => ?_⟩
      have := (clauseFault_good (hc c hcc)).2 x hx
      simp only [lit, Bool.and_eq_true, decide_eq_true_eq, Bool.not_eq_true', beq_eq_false_iff_ne] at this
      exact ⟨this.1.1, by omega, by omega⟩

/-- The literal whose weight stands at place i. -/
def litAt (i : Nat) : Int := if i % 2 = 0 then (i / 2 : Nat) + 1 else -((i / 2 : Nat) + 1)

/-- Where a literal's weight stands. -/
def placeOf (x : Int) : Nat := if x < 0 then 2 * (-x - 1).toNat + 1 else 2 * (x - 1).toNat

theorem litAt_placeOf {x : Int} (h : x ≠ 0) : litAt (placeOf x) = x := by
  unfold litAt placeOf
  split
  · rw [if_neg (by omega)]; omega
  · rw [if_pos (by omega)]; omega

theorem placeOf_litAt (i : Nat) : placeOf (litAt i) = i := by
  unfold litAt placeOf
  split
  · rw [if_neg (by omega)]; omega
  · rw [if_pos (by omega)]; omega

theorem litAt_eq {x : Int} (h : x ≠ 0) (i : Nat) : litAt i = x ↔ i = placeOf x :=
  ⟨fun e => by rw [← e, placeOf_litAt], fun e => by rw [e, litAt_placeOf h]⟩

theorem placeOf_lt {n : Nat} {x : Int} (h : x ≠ 0 ∧ x ≤ n ∧ -(n : Int) ≤ x) : placeOf x < 2 * n := by
  unfold placeOf
  split <;> omega

/-- The parts of a literal in some literals of a clause whose length is len. -/
def partsIn (len : Nat) (c : List Int) (l : Int) : Nat := c.count l * 2 ^ (20 - len)
/-- The parts of a literal. -/
def partsOf : List (List Int) → Int → Nat
  | [], _ => 0
  | c :: cs, l => partsIn c.length c l + partsOf cs l

theorem partsOf_append (a b : List (List Int)) (l : Int) : partsOf (a ++ b) l = partsOf a l + partsOf b l := by
  induction a with
  | nil => simp [partsOf]
  | cons c a ih => simp only [List.cons_append, partsOf, ih]; omega

theorem partsOf_take (cs : List (List Int)) (k : Nat) (hk : k < cs.length) (l : Int) : partsOf (cs.take (k + 1)) l = partsOf (cs.take k) l + partsIn (cs.getD k []).length (cs.getD k []) l := by
  rw [List.take_succ_eq_append_getElem hk, partsOf_append, getD_lt _ _ _ hk]
  simp [partsOf]

theorem partsIn_take (len : Nat) (c : List Int) (k : Nat) (hk : k < c.length) (l : Int) : partsIn len (c.take (k + 1)) l = partsIn len (c.take k) l + if l = c.getD k 0 then 2 ^ (20 - len) else 0 := by
  rw [List.take_succ_eq_append_getElem hk, getD_lt _ _ _ hk]
  unfold partsIn
  rw [List.count_append, Nat.add_mul]
  congr 1
  by_cases h : l = c[k]
  · rw [if_pos h, ← h]; simp
  · rw [if_neg h]
    have : List.count l [c[k]] = 0 := List.count_eq_zero.2 (by simp [h])
    rw [this, Nat.zero_mul]

theorem partsIn_le (len : Nat) (c : List Int) (l : Int) (h : c.length ≤ 20) : partsIn len c l ≤ 20971520 := by
  unfold partsIn
  have h1 : c.count l ≤ c.length := List.count_le_length
  have h2 : 2 ^ (20 - len) ≤ 2 ^ 20 := Nat.pow_le_pow_right (by omega) (by omega)
  have h3 := Nat.mul_le_mul (show c.count l ≤ 20 by omega) h2
  omega

theorem partsOf_le : ∀ (cs : List (List Int)) (l : Int), (∀ c ∈ cs, c.length ≤ 20) → partsOf cs l ≤ cs.length * 20971520
  | [], _, _ => by simp [partsOf]
  | c :: cs, l, h => by
    have h1 := partsIn_le c.length c l (h c (by simp))
    have h2 := partsOf_le cs l (fun d hd => h d (by simp [hd]))
    simp only [partsOf, List.length_cons]
    omega

theorem Good.parts_le {n : Nat} {cs : List (List Int)} (h : Good n cs) (l : Int) : partsOf cs l ≤ 4194304000 := by
  have h1 := partsOf_le cs l h.long
  have h2 := h.many
  omega

theorem Good.parts_take_le {n : Nat} {cs : List (List Int)} (h : Good n cs) (k : Nat) (l : Int) : partsOf (cs.take k) l ≤ 4194304000 := by
  have h1 := partsOf_le (cs.take k) l (fun c hc => h.long c (List.mem_of_mem_take hc))
  have h2 := h.many
  have h3 : (cs.take k).length ≤ cs.length := by simp; omega
  omega

theorem range_set {α : Type} (n i : Nat) (f : Nat → α) (v : α) : ((List.range n).map f).set i v = (List.range n).map (fun j => if j = i then v else f j) := by
  apply List.ext_getElem
  · simp
  · intro j h1 h2
    simp only [List.getElem_set, List.getElem_map, List.getElem_range]
    by_cases e : i = j
    · simp [e]
    · simp [e, Ne.symm e]

theorem range_getD {α : Type} (n i : Nat) (f : Nat → α) (d : α) (h : i < n) : ((List.range n).map f).getD i d = f i := by simp [h]

theorem range_congr {α : Type} (n : Nat) (f g : Nat → α) (h : ∀ i, i < n → f i = g i) : (List.range n).map f = (List.range n).map g :=
  List.map_congr_left fun i hi => h i (List.mem_range.1 hi)

theorem replicate_range {α : Type} (n : Nat) (v : α) : List.replicate n v = (List.range n).map (fun _ => v) := by
  apply List.ext_getElem <;> simp

end Go.Proofs.YtlodenfdcckemaaDoor
