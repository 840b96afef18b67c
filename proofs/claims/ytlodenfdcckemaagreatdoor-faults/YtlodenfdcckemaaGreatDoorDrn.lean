/-
  The order of the variables: each of them once.
-/
import Derived.Test.YtlodenfdcckemaaGreatDoorSort
namespace Go.Proofs.YtlodenfdcckemaaGreatDoor
open Go.RowKit

theorem drain_perm (wt : Nat → Nat) (n : Nat) : (drain n (built wt n)).Perm ((List.range n).map fun (j : Nat) => (j : Int) + 1) := by
  obtain ⟨h1, h2⟩ := built_heap wt n
  have h3 := (drainI_sorted n (built wt n) (built_length wt n) h1).2
  rw [drain_fst]
  have h4 := (h3.trans h2).map Prod.fst
  rw [List.map_map] at h4
  exact h4

theorem drain_mem {wt : Nat → Nat} {n : Nat} {v : Int} : v ∈ drain n (built wt n) ↔ 1 ≤ v ∧ v ≤ n := by
  rw [(drain_perm wt n).mem_iff, List.mem_map]
  constructor
  · rintro ⟨j, hj, rfl⟩
    have := List.mem_range.1 hj
    omega
  · rintro ⟨h1, h2⟩
    exact ⟨(v - 1).toNat, List.mem_range.2 (by omega), by omega⟩

theorem drain_len (wt : Nat → Nat) (n : Nat) : (drain n (built wt n)).length = n := by
  rw [(drain_perm wt n).length_eq]; simp

end Go.Proofs.YtlodenfdcckemaaGreatDoor
