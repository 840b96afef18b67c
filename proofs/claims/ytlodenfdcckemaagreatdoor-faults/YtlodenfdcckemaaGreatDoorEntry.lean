/-
  The walks of the program's entry points.
-/
import Derived.Test.YtlodenfdcckemaaGreatDoorEntryB
import Derived.Test.YtlodenfdcckemaaGreatDoorShares
namespace Go.Proofs.YtlodenfdcckemaaGreatDoor
open Go.RowKit

attribute [local go_sem] run_store_float


set_option maxHeartbeats 400000 in
theorem scores_bad (vars : Int) (ao : Option Addr) (cap : Nat) (cs : List (List Int)) (w : World) (hc : ListsAt w w.heap.size ao cs) (hf : (fault vars cs).1 ≠ 0) :
    Calls Tryz.prog 8 #[fm vars ao cap cs] w fun e w' => e = .returned (.tuple #[.slice none 0 0, .int .i64 (fault vars cs).1]) ∧ Below w.heap.size w w' := by
  have hne : ((fault vars cs).1 != 0) = true := by simp [hf]
  have hw1 : Below w.heap.size w (w.alloc (.cells #[.int .i64 vars, .slice ao cs.length cap] 24)) := (Below.refl _ _).alloc (Nat.le_refl _) _
  have B0 := blk_new w [.int .i64 vars, .slice ao cs.length cap] 24
  unfold fm
  go_enter Tryz.func8, Tryz.ntmps8
  go_wp2_with fail
  change Blk (w.alloc (.cells #[.int .i64 vars, .slice ao cs.length cap] 24)) w.heap.size 24 _ at B0
  generalize w.alloc (.cells #[.int .i64 vars, .slice ao cs.length cap] 24) = W at *
  have hc1 := (hc.below hw1 (Nat.le_refl _)).mono hw1.size
  refine (of_any vars ao cap cs W hc1).mono ?_
  rintro e w1 ⟨rfl, hb1⟩
  have hb : Below w.heap.size w w1 := hw1.trans (hb1.mono hw1.size)
  clear hf
  go_wp2
  go_ret2
  exact ⟨rfl, hb⟩

set_option maxHeartbeats 400000 in
theorem order_bad (vars : Int) (ao : Option Addr) (cap : Nat) (cs : List (List Int)) (w : World) (hc : ListsAt w w.heap.size ao cs) (hf : (fault vars cs).1 ≠ 0) :
    Calls Tryz.prog 9 #[fm vars ao cap cs] w fun e w' => e = .returned (.tuple #[.slice none 0 0, .int .i64 (fault vars cs).1]) ∧ Below w.heap.size w w' := by
  have hne : ((fault vars cs).1 != 0) = true := by simp [hf]
  have hw1 : Below w.heap.size w (w.alloc (.cells #[.int .i64 vars, .slice ao cs.length cap] 24)) := (Below.refl _ _).alloc (Nat.le_refl _) _
  have B0 := blk_new w [.int .i64 vars, .slice ao cs.length cap] 24
  unfold fm
  go_enter Tryz.func9, Tryz.ntmps9
  go_wp2_with fail
  change Blk (w.alloc (.cells #[.int .i64 vars, .slice ao cs.length cap] 24)) w.heap.size 24 _ at B0
  generalize w.alloc (.cells #[.int .i64 vars, .slice ao cs.length cap] 24) = W at *
  have hc1 := (hc.below hw1 (Nat.le_refl _)).mono hw1.size
  refine (of_any vars ao cap cs W hc1).mono ?_
  rintro e w1 ⟨rfl, hb1⟩
  have hb : Below w.heap.size w w1 := hw1.trans (hb1.mono hw1.size)
  clear hf
  go_wp2
  go_ret2
  exact ⟨rfl, hb⟩

set_option maxHeartbeats 400000 in
theorem shares_bad (vars : Int) (ao : Option Addr) (cap : Nat) (cs : List (List Int)) (x : Int) (w : World) (hc : ListsAt w w.heap.size ao cs) (hf : (fault vars cs).1 ≠ 0) :
    Calls Tryz.prog 10 #[fm vars ao cap cs, .int .i64 x] w fun e w' => e = .returned (.tuple #[.slice none 0 0, .int .i64 (fault vars cs).1]) ∧ Below w.heap.size w w' := by
  have hne : ((fault vars cs).1 != 0) = true := by simp [hf]
  have hw1 : Below w.heap.size w (w.alloc (.cells #[.int .i64 vars, .slice ao cs.length cap] 24)) := (Below.refl _ _).alloc (Nat.le_refl _) _
  have B0 := blk_new w [.int .i64 vars, .slice ao cs.length cap] 24
  unfold fm
  go_enter Tryz.func10, Tryz.ntmps10
  go_wp2_with fail
  change Blk (w.alloc (.cells #[.int .i64 vars, .slice ao cs.length cap] 24)) w.heap.size 24 _ at B0
  generalize w.alloc (.cells #[.int .i64 vars, .slice ao cs.length cap] 24) = W at *
  have hc1 := (hc.below hw1 (Nat.le_refl _)).mono hw1.size
  refine (of_any vars ao cap cs W hc1).mono ?_
  rintro e w1 ⟨rfl, hb1⟩
  have hb : Below w.heap.size w w1 := hw1.trans (hb1.mono hw1.size)
  clear hf
  go_wp2
  go_ret2
  exact ⟨rfl, hb⟩

set_option maxHeartbeats 400000 in
theorem scores_good (n : Nat) (ao : Option Addr) (cap : Nat) (cs : List (List Int)) (w : World) (hc : ListsAt w w.heap.size ao cs) (hg : Good n cs) (hf : (fault n cs).1 = 0) :
    Calls Tryz.prog 8 #[fm n ao cap cs] w fun e w' => ∃ g, e = .returned (.tuple #[.slice (some ⟨g, 0, none⟩) (2 * n) (2 * n), .int .i64 0]) ∧ w.heap.size ≤ g ∧ Blk w' g 86 (litCells n cs cs.length [] 0) ∧ Below w.heap.size w w' := by
  have hw1 : Below w.heap.size w (w.alloc (.cells #[.int .i64 n, .slice ao cs.length cap] 24)) := (Below.refl _ _).alloc (Nat.le_refl _) _
  have B0 := blk_new w [.int .i64 n, .slice ao cs.length cap] 24
  unfold fm
  go_enter Tryz.func8, Tryz.ntmps8
  go_wp2_with fail
  change Blk (w.alloc (.cells #[.int .i64 n, .slice ao cs.length cap] 24)) w.heap.size 24 _ at B0
  generalize w.alloc (.cells #[.int .i64 n, .slice ao cs.length cap] 24) = W at *
  have hc1 := (hc.below hw1 (Nat.le_refl _)).mono hw1.size
  refine (of_any n ao cap cs W hc1).mono ?_
  rintro e w1 ⟨rfl, hb1⟩
  have hb : Below w.heap.size w w1 := hw1.trans (hb1.mono hw1.size)
  rw [hf]
  have B1 := B0.below' hb1
  have c0 : w1.cell? ⟨w.heap.size, 0, none⟩ = some (.int .i64 n) := B1.cell (i := 0) (by simp) undef
  have c1 : w1.cell? ⟨w.heap.size, 1, none⟩ = some (.slice ao cs.length cap) := B1.cell (i := 1) (by simp) undef
  have hc2 := (hc.below hb (Nat.le_refl _)).mono hb.size
  generalize (fault n cs).2 = pl at *
  clear hf
  go_wp2_with fail
  refine (ofLiterals_any n ao cap cs w1 hc2 hg).mono ?_
  rintro e w2 ⟨g, rfl, hgl, hB2, hb2⟩
  go_wp2
  go_ret2
  exact ⟨g, rfl, Nat.le_trans hb.size hgl, hB2, hb.trans (hb2.mono hb.size)⟩

set_option maxHeartbeats 400000 in
theorem order_good (n : Nat) (ao : Option Addr) (cap : Nat) (cs : List (List Int)) (w : World) (hc : ListsAt w w.heap.size ao cs) (hg : Good n cs) (hf : (fault n cs).1 = 0) :
    Calls Tryz.prog 9 #[fm n ao cap cs] w fun e w' => ∃ g, e = .returned (.tuple #[.slice (some ⟨g, 0, none⟩) (n) (n), .int .i64 0]) ∧ w.heap.size ≤ g ∧ Blk w' g 3 ((drain n (built (weight cs) n)).map (Value.int .i64)) ∧ Below w.heap.size w w' := by
  have hw1 : Below w.heap.size w (w.alloc (.cells #[.int .i64 n, .slice ao cs.length cap] 24)) := (Below.refl _ _).alloc (Nat.le_refl _) _
  have B0 := blk_new w [.int .i64 n, .slice ao cs.length cap] 24
  unfold fm
  go_enter Tryz.func9, Tryz.ntmps9
  go_wp2_with fail
  change Blk (w.alloc (.cells #[.int .i64 n, .slice ao cs.length cap] 24)) w.heap.size 24 _ at B0
  generalize w.alloc (.cells #[.int .i64 n, .slice ao cs.length cap] 24) = W at *
  have hc1 := (hc.below hw1 (Nat.le_refl _)).mono hw1.size
  refine (of_any n ao cap cs W hc1).mono ?_
  rintro e w1 ⟨rfl, hb1⟩
  have hb : Below w.heap.size w w1 := hw1.trans (hb1.mono hw1.size)
  rw [hf]
  have B1 := B0.below' hb1
  have c0 : w1.cell? ⟨w.heap.size, 0, none⟩ = some (.int .i64 n) := B1.cell (i := 0) (by simp) undef
  have c1 : w1.cell? ⟨w.heap.size, 1, none⟩ = some (.slice ao cs.length cap) := B1.cell (i := 1) (by simp) undef
  have hc2 := (hc.below hb (Nat.le_refl _)).mono hb.size
  generalize (fault n cs).2 = pl at *
  clear hf
  go_wp2_with fail
  refine (order_any n ao cap cs w1 hc2 hg).mono ?_
  rintro e w2 ⟨g, rfl, hgl, hB2, hb2⟩
  go_wp2
  go_ret2
  exact ⟨g, rfl, Nat.le_trans hb.size hgl, hB2, hb.trans (hb2.mono hb.size)⟩

set_option maxHeartbeats 400000 in
theorem shares_arg (n : Nat) (ao : Option Addr) (cap : Nat) (cs : List (List Int)) (x : Int) (w : World) (hc : ListsAt w w.heap.size ao cs) (hf : (fault n cs).1 = 0) (hx : x < 0 ∨ 1125899906842624 < x) :
    Calls Tryz.prog 10 #[fm n ao cap cs, .int .i64 x] w fun e w' => e = .returned (.tuple #[.slice none 0 0, .int .i64 9]) ∧ Below w.heap.size w w' := by
  have hw1 : Below w.heap.size w (w.alloc (.cells #[.int .i64 n, .slice ao cs.length cap] 24)) := (Below.refl _ _).alloc (Nat.le_refl _) _
  have B0 := blk_new w [.int .i64 n, .slice ao cs.length cap] 24
  unfold fm
  go_enter Tryz.func10, Tryz.ntmps10
  go_wp2_with fail
  change Blk (w.alloc (.cells #[.int .i64 n, .slice ao cs.length cap] 24)) w.heap.size 24 _ at B0
  generalize w.alloc (.cells #[.int .i64 n, .slice ao cs.length cap] 24) = W at *
  have hc1 := (hc.below hw1 (Nat.le_refl _)).mono hw1.size
  refine (of_any n ao cap cs W hc1).mono ?_
  rintro e w1 ⟨rfl, hb1⟩
  have hb : Below w.heap.size w w1 := hw1.trans (hb1.mono hw1.size)
  rw [hf]
  generalize (fault n cs).2 = pl at *
  clear hf
  rcases hx with hx | hx
  · go_wp2
    go_ret2
    exact ⟨rfl, hb⟩
  · have hx0 : ¬ x < 0 := by omega
    go_wp2
    go_ret2
    exact ⟨rfl, hb⟩

set_option maxHeartbeats 400000 in
theorem shares_good (n : Nat) (ao : Option Addr) (cap : Nat) (cs : List (List Int)) (T : Nat) (w : World) (hc : ListsAt w w.heap.size ao cs) (hg : Good n cs) (hf : (fault n cs).1 = 0) (hT : T ≤ 1125899906842624) :
    Calls Tryz.prog 10 #[fm n ao cap cs, .int .i64 T] w fun e w' => ∃ g, e = .returned (.tuple #[.slice (some ⟨g, 0, none⟩) n n, .int .i64 0]) ∧ w.heap.size ≤ g ∧ Blk w' g 3 (shareCells n cs T n) ∧ Below w.heap.size w w' := by
  have hw1 : Below w.heap.size w (w.alloc (.cells #[.int .i64 n, .slice ao cs.length cap] 24)) := (Below.refl _ _).alloc (Nat.le_refl _) _
  have B0 := blk_new w [.int .i64 n, .slice ao cs.length cap] 24
  unfold fm
  go_enter Tryz.func10, Tryz.ntmps10
  go_wp2_with fail
  change Blk (w.alloc (.cells #[.int .i64 n, .slice ao cs.length cap] 24)) w.heap.size 24 _ at B0
  generalize w.alloc (.cells #[.int .i64 n, .slice ao cs.length cap] 24) = W at *
  have hc1 := (hc.below hw1 (Nat.le_refl _)).mono hw1.size
  refine (of_any n ao cap cs W hc1).mono ?_
  rintro e w1 ⟨rfl, hb1⟩
  have hb : Below w.heap.size w w1 := hw1.trans (hb1.mono hw1.size)
  rw [hf]
  have B1 := B0.below' hb1
  have c0 : w1.cell? ⟨w.heap.size, 0, none⟩ = some (.int .i64 n) := B1.cell (i := 0) (by simp) undef
  have c1 : w1.cell? ⟨w.heap.size, 1, none⟩ = some (.slice ao cs.length cap) := B1.cell (i := 1) (by simp) undef
  have hc2 := (hc.below hb (Nat.le_refl _)).mono hb.size
  generalize (fault n cs).2 = pl at *
  clear hf
  go_wp2_with fail
  refine (shares_any n ao cap cs T w1 hc2 hg hT).mono ?_
  rintro e w2 ⟨g, rfl, hgl, hB2, hb2⟩
  go_wp2
  go_ret2
  exact ⟨g, rfl, Nat.le_trans hb.size hgl, hB2, hb.trans (hb2.mono hb.size)⟩
end Go.Proofs.YtlodenfdcckemaaGreatDoor
