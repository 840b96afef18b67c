/-
  The document's examples 3 and 4, by what follows at once (of no program's walk).
-/
import Derived.Test.YtlodenfdcckemaaDoorH30
import Derived.Test.YtlodenfdcckemaaDoorH31
namespace Go.Proofs.YtlodenfdcckemaaDoor
open Go.RowKit

/-- Example 4's clauses. -/
def ex4 : List (List Int) := [[1, 2], [1, -2], [-1, 2], [-1, -2]]
/-- Example 3's clauses. -/
def ex3 : List (List Int) := [[1, -2], [2]]

theorem ex4_conf1 : Conf ex4 (fun l => l ∈ [(-1 : Int)]) := by
  have f1 : Fol ex4 (fun l => l ∈ [(-1 : Int)]) (-1) := .given (by simp)
  have f2 : Fol ex4 (fun l => l ∈ [(-1 : Int)]) 2 := .unit (c := [1, 2]) (by simp [ex4]) (by simp) (fun m hm hne => by
    simp at hm
    rcases hm with rfl | rfl
    · exact f1
    · exact absurd rfl hne)
  have f3 : Fol ex4 (fun l => l ∈ [(-1 : Int)]) (-2) := .unit (c := [1, -2]) (by simp [ex4]) (by simp) (fun m hm hne => by
    simp at hm
    rcases hm with rfl | rfl
    · exact f1
    · exact absurd rfl hne)
  exact .inl ⟨2, f2, f3⟩

theorem ex4_conf2 : Conf (ex4 ++ [[1]]) (fun l => l ∈ ([] : List Int)) := by
  have f1 : Fol (ex4 ++ [[1]]) (fun l => l ∈ ([] : List Int)) 1 := .unit (c := [1]) (by simp [ex4]) (by simp) (fun m hm hne => by
    simp at hm
    exact absurd hm hne)
  have f2 : Fol (ex4 ++ [[1]]) (fun l => l ∈ ([] : List Int)) 2 := .unit (c := [-1, 2]) (by simp [ex4]) (by simp) (fun m hm hne => by
    simp at hm
    rcases hm with rfl | rfl
    · simpa using f1
    · exact absurd rfl hne)
  have f3 : Fol (ex4 ++ [[1]]) (fun l => l ∈ ([] : List Int)) (-2) := .unit (c := [-1, -2]) (by simp [ex4]) (by simp) (fun m hm hne => by
    simp at hm
    rcases hm with rfl | rfl
    · simpa using f1
    · exact absurd rfl hne)
  exact .inl ⟨2, f2, f3⟩

theorem ex4_free : ¬ Conf ex4 (fun l => l ∈ ([] : List Int)) := by
  have h : Shut ex4 (fun l => l ∈ ([] : List Int)) (fun _ => False) := by
    refine ⟨fun l hl => by simp at hl, fun l h => h.elim, fun c hc => ?_, fun c hc l hl hall => ?_⟩
    · simp [ex4] at hc
      rcases hc with rfl | rfl | rfl | rfl
      · exact ⟨1, by simp, fun h => h⟩
      · exact ⟨1, by simp, fun h => h⟩
      · exact ⟨-1, by simp, fun h => h⟩
      · exact ⟨-1, by simp, fun h => h⟩
    · simp [ex4] at hc
      rcases hc with rfl | rfl | rfl | rfl <;> simp at hl hall <;> rcases hl with rfl | rfl <;> simp at hall
  exact h.noconf

theorem ex4_check : checkOf 2 ex4 0 [[1], []] = (2, 0) := by
  have h1 : clauseFault ((2 : Nat) : Int) [1] = 0 := by decide
  have h2 : clauseFault ((2 : Nat) : Int) [] = 0 := by decide
  rw [checkOf, if_neg (by rw [h1]; simp), if_pos (by simpa using ex4_conf1), if_neg (by simp), checkOf, if_neg (by rw [h2]; simp), if_pos (by simpa using ex4_conf2), if_pos (by simp)]
  rfl

theorem ex4_check0 : checkOf 2 ex4 0 [[]] = (0, 7) := by
  have h2 : clauseFault ((2 : Nat) : Int) [] = 0 := by decide
  rw [checkOf, if_neg (by rw [h2]; simp), if_neg (by simpa using ex4_free)]
  rfl

theorem ex3_prop : PRes 2 ex3 [] [1, 2] false 0 := by
  have f2 : Fol ex3 (fun l => l ∈ ([] : List Int)) 2 := .unit (c := [2]) (by simp [ex3]) (by simp) (fun m hm hne => by
    simp at hm
    exact absurd hm hne)
  have f1 : Fol ex3 (fun l => l ∈ ([] : List Int)) 1 := .unit (c := [1, -2]) (by simp [ex3]) (by simp) (fun m hm hne => by
    simp at hm
    rcases hm with rfl | rfl
    · exact absurd rfl hne
    · simpa using f2)
  have h : Shut ex3 (fun l => l ∈ ([] : List Int)) (fun l => l = 1 ∨ l = 2) := by
    refine ⟨fun l hl => by simp at hl, fun l h => by omega, fun c hc => ?_, fun c hc l hl hall => ?_⟩
    · simp [ex3] at hc
      rcases hc with rfl | rfl
      · exact ⟨1, by simp, by omega⟩
      · exact ⟨2, by simp, by omega⟩
    · simp [ex3] at hc
      rcases hc with rfl | rfl
      · simp at hl
        rcases hl with rfl | rfl
        · exact Or.inl rfl
        · have := hall 1 (by simp) (by omega)
          omega
      · simp at hl
        exact Or.inr hl
  refine Or.inr (Or.inr ⟨by decide, h.noconf, rfl, rfl, fun l => decide (l = 1 ∨ l = 2), fun l _ => ⟨fun ht => ?_, fun hF => by simpa using h.fol hF⟩, fun l hF => ?_, by decide⟩)
  · have ht : l = 1 ∨ l = 2 := by simpa using ht
    rcases ht with rfl | rfl
    · exact f1
    · exact f2
  · rcases h.fol hF with rfl | rfl
    · exact ⟨by decide, by decide, by decide⟩
    · exact ⟨by decide, by decide, by decide⟩

theorem ex4_fault : (fault 2 ex4).1 = 0 := by decide
theorem ex3_fault : (fault 2 ex3).1 = 0 := by decide
theorem ex4_good : Good 2 ex4 := by
  obtain ⟨n, h, hg⟩ := good_of (vars := 2) ex4_fault
  have : n = 2 := by omega
  subst this; exact hg
theorem ex3_good : Good 2 ex3 := by
  obtain ⟨n, h, hg⟩ := good_of (vars := 2) ex3_fault
  have : n = 2 := by omega
  subst this; exact hg

/-! Raw numbers. -/

/-- Which of n things a raw number speaks of. -/
def pickOf (c n : Int) : Int := (if c < 0 then -(c + 1) else c) % n
/-- The literal that a raw number spells. -/
def litBy (c V : Int) : Int := if pickOf c (2 * V) < V then pickOf c (2 * V) + 1 else V - pickOf c (2 * V) - 1

theorem pickOf_range (c : Int) {n : Int} (hn : 0 < n) : 0 ≤ pickOf c n ∧ pickOf c n < n := ⟨Int.emod_nonneg _ (by omega), Int.emod_lt_of_pos _ hn⟩
theorem litBy_lit (c : Int) {V : Nat} (hV : 1 ≤ V) : IsLit V (litBy c V) := by
  have := pickOf_range c (show (0 : Int) < 2 * (V : Int) by omega)
  unfold litBy IsLit
  split <;> refine ⟨?_, ?_, ?_⟩ <;> omega

/-- The formula that raw numbers spell. -/
def rawV (vars most : Int) : Int := 1 + pickOf vars most
def rawC (V : Int) (raw : List (List Int)) : List (List Int) := (raw.take 60).map fun r => (r.take 4).map fun c => litBy c V
end Go.Proofs.YtlodenfdcckemaaDoor
