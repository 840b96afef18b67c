/-
  Several texts, one behind the other.
-/
import Derived.Test.YtlodenfdcckemabDoorH10
import Derived.Deep.LoopGhost
import Derived.Test.YtlodenfdcckemabDoorH4
/-
  The walk of the document's answer to what follows.
-/

namespace Go.Proofs.YtlodenfdcckemabDoor
open Go.RowKit

/-- What the document's table holds when all has been gone through. -/
structure RDone (V : Nat) (C : List (List Int)) (G : Int → Prop) (bs : List Bool) : Prop where
  come : RCome V C G bs
  shut : crash bs = false → Shut C G (fun l => IsLit V l ∧ there bs l = true)

theorem known_new : bvs (List.replicate 65 false) = List.replicate 65 (Value.bool false) := by simp

end Go.Proofs.YtlodenfdcckemabDoor

/-
  The walks of the document's functions that tell faults.
-/

namespace Go.Proofs.YtlodenfdcckemabDoor
open Go.RowKit

/-- What the document calls the size of a number. -/
def sizeOf (l : Int) : Int := if 0 ≤ l then l else if l = -9223372036854775808 then -1 else -l

theorem lit_size {vars l : Int} (h0 : 0 ≤ vars) (h1 : vars ≤ 20) (hl : -9223372036854775808 ≤ l) : lit vars l = (decide (1 ≤ sizeOf l) && decide (sizeOf l ≤ vars)) := by
  by_cases h : 0 ≤ l
  · have e : sizeOf l = l := by simp [sizeOf, h]
    rw [e, Bool.eq_iff_iff]
    simp only [lit, Bool.and_eq_true, decide_eq_true_eq, Bool.not_eq_true', beq_eq_false_iff_ne]
    constructor <;> intro h <;> omega
  · by_cases hm : l = -9223372036854775808
    · have e : sizeOf l = -1 := by simp [sizeOf, hm]
      rw [e, lit_false (by omega)]; rfl
    · have e : sizeOf l = -l := by simp only [sizeOf, if_neg h, if_neg hm]
      rw [e, Bool.eq_iff_iff]
      simp only [lit, Bool.and_eq_true, decide_eq_true_eq, Bool.not_eq_true', beq_eq_false_iff_ne]
      constructor <;> intro h <;> omega

end Go.Proofs.YtlodenfdcckemabDoor
