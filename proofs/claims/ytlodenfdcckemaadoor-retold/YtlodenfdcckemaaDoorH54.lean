/-
  The formula that raw numbers spell has no fault.
-/
import Derived.Test.YtlodenfdcckemaaDoorH53
namespace Go.Proofs.YtlodenfdcckemaaDoor
open Go.RowKit

theorem clausesFault_of (vars : Int) : ∀ (cs : List (List Int)) (i : Nat), (∀ c ∈ cs, clauseFault vars c = 0) → (clausesFault vars i cs).1 = 0
  | [], _, _ => by unfold clausesFault; rfl
  | c :: cs, i, h => by
    rw [clausesFault, if_pos (h c (by simp))]
    exact clausesFault_of vars cs (i + 1) (fun d hd => h d (by simp [hd]))

theorem fault_good {n : Nat} {cs : List (List Int)} (h : Good n cs) : (fault n cs).1 = 0 := by
  have h0 := h.vars
  have h1 := h.many
  rw [fault_rest (by omega) (by omega) (by omega)]
  apply clausesFault_of
  intro c hc
  have := h.long c hc
  rw [clauseFault_lits (by omega)]
  exact litsFault_of (fun l hl => h.lits c hc l hl)

theorem rawC_good {V : Nat} (h1 : 1 ≤ V) (h2 : V ≤ 20) (raw : List (List Int)) : Good V (rawC V raw) := by
  refine ⟨h2, ?_, fun c hc => ?_, fun c hc x hx => ?_⟩
  · unfold rawC; simp; omega
  · obtain ⟨r, _, rfl⟩ := List.mem_map.1 hc
    simp; omega
  · obtain ⟨r, _, rfl⟩ := List.mem_map.1 hc
    obtain ⟨y, _, rfl⟩ := List.mem_map.1 hx
    exact litBy_lit y h1

theorem rowBy_lits {V : Nat} (h1 : 1 ≤ V) (r : List Int) : ∀ l ∈ rowBy V r, IsLit V l := by
  intro l hl
  obtain ⟨y, _, rfl⟩ := List.mem_map.1 hl
  exact litBy_lit y h1

theorem rowBy_len (V : Int) (r : List Int) : (rowBy V r).length ≤ 4 := by unfold rowBy; simp; omega

theorem shl_small {V : Nat} (h : V ≤ 8) : wrap64 ((2 : Int) ^ V) = ((2 ^ V : Nat) : Int) ∧ (2 ^ V : Nat) ≤ 256 := by
  rcases (show V = 0 ∨ V = 1 ∨ V = 2 ∨ V = 3 ∨ V = 4 ∨ V = 5 ∨ V = 6 ∨ V = 7 ∨ V = 8 by omega) with rfl | rfl | rfl | rfl | rfl | rfl | rfl | rfl | rfl <;> exact ⟨by unfold wrap64; omega, by decide⟩

theorem PRes.lits {V : Nat} {C : List (List Int)} {g zs : List Int} {c : Bool} {x : Int} (h : PRes V C g zs c x) (hg : ∀ l ∈ g, IsLit V l) : ∀ l ∈ zs, IsLit V l := by
  cases c with
  | true => rw [h.conf.1]; intro l hl; simp at hl
  | false => exact (h.free hg).2.2
end Go.Proofs.YtlodenfdcckemaaDoor
