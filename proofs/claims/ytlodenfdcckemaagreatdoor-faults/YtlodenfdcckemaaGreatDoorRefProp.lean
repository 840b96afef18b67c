/-
  The walk of the document's Propagate.
-/
import Derived.Test.YtlodenfdcckemaaGreatDoorRefFollow
import Derived.Test.YtlodenfdcckemaaGreatDoorRefFault
import Derived.Test.YtlodenfdcckemaaGreatDoorProp
namespace Go.Proofs.YtlodenfdcckemaaGreatDoor
open Go.RowKit

theorem tellOf_len (V : Nat) (T : Int → Bool) : (tellOf V T).length ≤ 2 * V := by
  unfold tellOf
  exact Nat.le_trans (List.length_filter_le _ _) (by simp)

theorem drewN_below {w : World} (n : Nat) : Below w.heap.size w (w.drewN n) := ⟨rfl, rfl, rfl, Nat.le_refl _, fun _ _ => rfl⟩

/-- What the document answers to literals that are ones. -/
def RPropRes (V : Nat) (C : List (List Int)) (g : List Int) (w0 w' : World) (e : Ending) : Prop :=
  ∃ bs, RDone V C (fun l => l ∈ g) bs ∧ ((crash bs = true ∧ e = .returned (.tuple #[.slice none 0 0, .bool true, .int .i64 0])) ∨ (crash bs = false ∧ ∃ v, e = .returned (.tuple #[v, .bool false, .int .i64 0]) ∧ Own w' w0.heap.size 3 v (ints (tellOf V (there bs)))))

end Go.Proofs.YtlodenfdcckemaaGreatDoor
