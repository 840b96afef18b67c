/-
  Solve, of a formula with a fault.
-/
import Derived.Test.YtlodenfdcckemaaGreatDoorEntryB
namespace Go.Proofs.YtlodenfdcckemaaGreatDoor
open Go.RowKit

set_option maxHeartbeats 400000 in
theorem solve_entry (vars : Int) (ao : Option Addr) (cap : Nat) (cs : List (List Int)) (w : World) (hc : ListsAt w w.heap.size ao cs) (hf : (fault vars cs).1 ≠ 0) :
    Calls Tryz.prog 15 #[fm vars ao cap cs] w fun e w' => e = .returned (.tuple #[.agg #[.bool false, .slice none 0 0, .slice none 0 0], .int .i64 (fault vars cs).1]) ∧ Below w.heap.size w w' := by
  have hw1 : Below w.heap.size w ((w.alloc (.cells #[.int .i64 vars, .slice ao cs.length cap] 24)).alloc (.cells #[.bool false, .slice none 0 0, .slice none 0 0] 44)) := ((Below.refl _ _).alloc (Nat.le_refl _) _).alloc (by simp) _
  have B0 : Blk ((w.alloc (.cells #[.int .i64 vars, .slice ao cs.length cap] 24)).alloc (.cells #[.bool false, .slice none 0 0, .slice none 0 0] 44)) (w.heap.size + 1) 44 [.bool false, .slice none 0 0, .slice none 0 0] := by
    have := blk_new (w.alloc (.cells #[.int .i64 vars, .slice ao cs.length cap] 24)) [.bool false, .slice none 0 0, .slice none 0 0] 44
    simpa using this
  have hne : ((fault vars cs).1 != 0) = true := by simp [hf]
  clear hf
  unfold fm
  go_enter Tryz.func15, Tryz.ntmps15
  go_wp2_with fail
  generalize (w.alloc (.cells #[.int .i64 vars, .slice ao cs.length cap] 24)).alloc (.cells #[.bool false, .slice none 0 0, .slice none 0 0] 44) = W at *
  have hc1 := (hc.below hw1 (Nat.le_refl _)).mono hw1.size
  refine (of_any vars ao cap cs W hc1).mono ?_
  rintro e w1 ⟨rfl, hb1⟩
  have hb : Below w.heap.size w w1 := hw1.trans (hb1.mono hw1.size)
  have B1 := B0.below' hb1
  have c0 : w1.cell? ⟨w.heap.size + 1, 0, none⟩ = some (.bool false) := B1.cell (i := 0) (by simp) undef
  have c1 : w1.cell? ⟨w.heap.size + 1, 1, none⟩ = some (.slice none 0 0) := B1.cell (i := 1) (by simp) undef
  have c2 : w1.cell? ⟨w.heap.size + 1, 2, none⟩ = some (.slice none 0 0) := B1.cell (i := 2) (by simp) undef
  have f0 := B1.frozen 0
  have f1 := B1.frozen 1
  have f2 := B1.frozen 2
  go_wp2
  exact bodyPost_ret (v := .tuple #[.agg #[.bool false, .slice none 0 0, .slice none 0 0], .int .i64 (fault vars cs).1]) (by simp [results, Tryz.results15, go_sem, c0, c1, c2]) rfl ⟨rfl, ((hb.setCell (by simp) _).setCell (by simp) _).setCell (by simp) _⟩
end Go.Proofs.YtlodenfdcckemaaGreatDoor
