/-
  The walks of the program's entry points that answer nothing yet, and of Fault.
-/
import Derived.Test.YtomebpjjeldhdaaDoorEntry
namespace Go.Proofs.YtomebpjjeldhdaaDoor
open Go.RowKit

set_option maxHeartbeats 400000 in
theorem fault_entry (vars : Int) (ao : Option Addr) (cap : Nat) (cs : List (List Int)) (w : World) (hc : ListsAt w w.heap.size ao cs) :
    Calls Tryd.prog 13 #[fm vars ao cap cs] w fun e w' => e = .returned (.tuple #[.int .i64 (fault vars cs).1, .int .i64 (fault vars cs).2]) ∧ Below w.heap.size w w' := by
  have hw1 : Below w.heap.size w (w.alloc (.cells #[.int .i64 vars, .slice ao cs.length cap] 31)) := (Below.refl _ _).alloc (Nat.le_refl _) _
  have B0 := blk_new w [.int .i64 vars, .slice ao cs.length cap] 31
  unfold fm
  go_enter Tryd.func13, Tryd.ntmps13
  go_wp2_with fail
  change Blk (w.alloc (.cells #[.int .i64 vars, .slice ao cs.length cap] 31)) w.heap.size 31 _ at B0
  generalize w.alloc (.cells #[.int .i64 vars, .slice ao cs.length cap] 31) = W at *
  have hc1 := (hc.below hw1 (Nat.le_refl _)).mono hw1.size
  refine (of_any vars ao cap cs W hc1).mono ?_
  rintro e w1 ⟨rfl, hb1⟩
  have hb : Below w.heap.size w w1 := hw1.trans (hb1.mono hw1.size)
  go_wp2
  go_ret2
  exact ⟨rfl, hb⟩

set_option maxHeartbeats 400000 in
theorem cubes_entry (vars : Int) (ao : Option Addr) (cap : Nat) (cs : List (List Int)) (x : Int) (w : World) (hc : ListsAt w w.heap.size ao cs) :
    Calls Tryd.prog 20 #[fm vars ao cap cs, .int .i64 x] w fun e w' => e = .returned (.tuple #[.slice none 0 0, .int .i64 (fault vars cs).1]) ∧ Below w.heap.size w w' := by
  have hw1 : Below w.heap.size w (w.alloc (.cells #[.int .i64 vars, .slice ao cs.length cap] 31)) := (Below.refl _ _).alloc (Nat.le_refl _) _
  have B0 := blk_new w [.int .i64 vars, .slice ao cs.length cap] 31
  unfold fm
  go_enter Tryd.func20, Tryd.ntmps20
  go_wp2_with fail
  change Blk (w.alloc (.cells #[.int .i64 vars, .slice ao cs.length cap] 31)) w.heap.size 31 _ at B0
  generalize w.alloc (.cells #[.int .i64 vars, .slice ao cs.length cap] 31) = W at *
  have hc1 := (hc.below hw1 (Nat.le_refl _)).mono hw1.size
  refine (of_any vars ao cap cs W hc1).mono ?_
  rintro e w1 ⟨rfl, hb1⟩
  have hb : Below w.heap.size w w1 := hw1.trans (hb1.mono hw1.size)
  go_wp2
  go_ret2
  exact ⟨rfl, hb⟩

set_option maxHeartbeats 400000 in
theorem solve_entry (vars : Int) (ao : Option Addr) (cap : Nat) (cs : List (List Int)) (w : World) (hc : ListsAt w w.heap.size ao cs) (hf : (fault vars cs).1 ≠ 0) :
    Calls Tryd.prog 22 #[fm vars ao cap cs] w fun e w' => e = .returned (.tuple #[.agg #[.bool false, .slice none 0 0, .slice none 0 0], .int .i64 (fault vars cs).1]) ∧ Below w.heap.size w w' := by
  have hw1 : Below w.heap.size w ((w.alloc (.cells #[.int .i64 vars, .slice ao cs.length cap] 31)).alloc (.cells #[.bool false, .slice none 0 0, .slice none 0 0] 50)) := ((Below.refl _ _).alloc (Nat.le_refl _) _).alloc (by simp) _
  have B0 : Blk ((w.alloc (.cells #[.int .i64 vars, .slice ao cs.length cap] 31)).alloc (.cells #[.bool false, .slice none 0 0, .slice none 0 0] 50)) (w.heap.size + 1) 50 [.bool false, .slice none 0 0, .slice none 0 0] := by
    have := blk_new (w.alloc (.cells #[.int .i64 vars, .slice ao cs.length cap] 31)) [.bool false, .slice none 0 0, .slice none 0 0] 50
    simpa using this
  have hne : ((fault vars cs).1 != 0) = true := by simp [hf]
  clear hf
  unfold fm
  go_enter Tryd.func22, Tryd.ntmps22
  go_wp2_with fail
  generalize (w.alloc (.cells #[.int .i64 vars, .slice ao cs.length cap] 31)).alloc (.cells #[.bool false, .slice none 0 0, .slice none 0 0] 50) = W at *
  have hc1 := (hc.below hw1 (Nat.le_refl _)).mono hw1.size
  refine (of_any vars ao cap cs W hc1).mono ?_
  rintro e w1 ⟨rfl, hb1⟩
  have hb : Below w.heap.size w w1 := hw1.trans (hb1.mono hw1.size)
  have B1 := B0.below' hb1
  have c0 : w1.cell? ⟨w.heap.size + 1, 0, none⟩ = some (.bool false) := B1.cell (i := 0) (by simp) undef
  have c1 : w1.cell? ⟨w.heap.size + 1, 1, none⟩ = some (.slice none 0 0) := B1.cell (i := 1) (by simp) undef
  have c2 : w1.cell? ⟨w.heap.size + 1, 2, none⟩ = some (.slice none 0 0) := B1.cell (i := 2) (by simp) undef
  have f0 := B1.frozen 0
  have f1 := B1.frozen 1
  have f2 := B1.frozen 2
  go_wp2
  exact bodyPost_ret (v := .tuple #[.agg #[.bool false, .slice none 0 0, .slice none 0 0], .int .i64 (fault vars cs).1]) (by simp [results, Tryd.results22, go_sem, c0, c1, c2]) rfl ⟨rfl, ((hb.setCell (by simp) _).setCell (by simp) _).setCell (by simp) _⟩

set_option maxHeartbeats 400000 in
theorem fleet_entry (vars : Int) (ao : Option Addr) (cap : Nat) (cs : List (List Int)) (x y : Int) (w : World) (hc : ListsAt w w.heap.size ao cs) :
    Calls Tryd.prog 23 #[fm vars ao cap cs, .int .i64 x, .int .i64 y] w fun e w' => e = .returned (.tuple #[.agg #[.bool false, .slice none 0 0, .slice none 0 0], .int .i64 (fault vars cs).1]) ∧ Below w.heap.size w w' := by
  have hw1 : Below w.heap.size w ((w.alloc (.cells #[.int .i64 vars, .slice ao cs.length cap] 31)).alloc (.cells #[.bool false, .slice none 0 0, .slice none 0 0] 50)) := ((Below.refl _ _).alloc (Nat.le_refl _) _).alloc (by simp) _
  have B0 : Blk ((w.alloc (.cells #[.int .i64 vars, .slice ao cs.length cap] 31)).alloc (.cells #[.bool false, .slice none 0 0, .slice none 0 0] 50)) (w.heap.size + 1) 50 [.bool false, .slice none 0 0, .slice none 0 0] := by
    have := blk_new (w.alloc (.cells #[.int .i64 vars, .slice ao cs.length cap] 31)) [.bool false, .slice none 0 0, .slice none 0 0] 50
    simpa using this
  unfold fm
  go_enter Tryd.func23, Tryd.ntmps23
  go_wp2_with fail
  generalize (w.alloc (.cells #[.int .i64 vars, .slice ao cs.length cap] 31)).alloc (.cells #[.bool false, .slice none 0 0, .slice none 0 0] 50) = W at *
  have hc1 := (hc.below hw1 (Nat.le_refl _)).mono hw1.size
  refine (of_any vars ao cap cs W hc1).mono ?_
  rintro e w1 ⟨rfl, hb1⟩
  have hb : Below w.heap.size w w1 := hw1.trans (hb1.mono hw1.size)
  have B1 := B0.below' hb1
  have c0 : w1.cell? ⟨w.heap.size + 1, 0, none⟩ = some (.bool false) := B1.cell (i := 0) (by simp) undef
  have c1 : w1.cell? ⟨w.heap.size + 1, 1, none⟩ = some (.slice none 0 0) := B1.cell (i := 1) (by simp) undef
  have c2 : w1.cell? ⟨w.heap.size + 1, 2, none⟩ = some (.slice none 0 0) := B1.cell (i := 2) (by simp) undef
  have f0 := B1.frozen 0
  have f1 := B1.frozen 1
  have f2 := B1.frozen 2
  go_wp2
  exact bodyPost_ret (v := .tuple #[.agg #[.bool false, .slice none 0 0, .slice none 0 0], .int .i64 (fault vars cs).1]) (by simp [results, Tryd.results23, go_sem, c0, c1, c2]) rfl ⟨rfl, ((hb.setCell (by simp) _).setCell (by simp) _).setCell (by simp) _⟩
end Go.Proofs.YtomebpjjeldhdaaDoor
