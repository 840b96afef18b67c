/-
  The walks of the program's entry points.
-/
import Derived.Test.YtebdeajhncebpaaFault
import Derived.Test.YtebdeajhncebpaaOrder
import Derived.Test.YtebdeajhncebpaaShares
namespace Go.Proofs.Ytebdeajhncebpaa
open Go.RowKit

attribute [local go_sem] run_store_float

/-- A formula's value. -/
abbrev fm (vars : Int) (ao : Option Addr) (cap : Nat) (cs : List (List Int)) : Value := .agg #[.int .i64 vars, .slice ao cs.length cap]

set_option maxHeartbeats 400000 in
theorem fault_entry (vars : Int) (ao : Option Addr) (cap : Nat) (cs : List (List Int)) (w : World) (hc : ListsAt w w.heap.size ao cs) :
    Calls Try.prog 6 #[fm vars ao cap cs] w fun e w' => e = .returned (.tuple #[.int .i64 (fault vars cs).1, .int .i64 (fault vars cs).2]) ∧ Below w.heap.size w w' := by
  have hw1 : Below w.heap.size w (w.alloc (.cells #[.int .i64 vars, .slice ao cs.length cap] 24)) := (Below.refl _ _).alloc (Nat.le_refl _) _
  have B0 := blk_new w [.int .i64 vars, .slice ao cs.length cap] 24
  unfold fm
  go_enter Try.func6, Try.ntmps6
  go_wp2_with fail
  change Blk (w.alloc (.cells #[.int .i64 vars, .slice ao cs.length cap] 24)) w.heap.size 24 _ at B0
  generalize w.alloc (.cells #[.int .i64 vars, .slice ao cs.length cap] 24) = W at *
  have hc1 := (hc.below hw1 (Nat.le_refl _)).mono hw1.size
  refine (of_any vars ao cap cs W hc1).mono ?_
  rintro e w1 ⟨rfl, hb1⟩
  have hb : Below w.heap.size w w1 := hw1.trans (hb1.mono hw1.size)
  go_wp2
  go_ret2
  exact ⟨rfl, hb⟩

set_option maxHeartbeats 400000 in
theorem scores_bad (vars : Int) (ao : Option Addr) (cap : Nat) (cs : List (List Int)) (w : World) (hc : ListsAt w w.heap.size ao cs) (hf : (fault vars cs).1 ≠ 0) :
    Calls Try.prog 8 #[fm vars ao cap cs] w fun e w' => e = .returned (.tuple #[.slice none 0 0, .int .i64 (fault vars cs).1]) ∧ Below w.heap.size w w' := by
  have hne : ((fault vars cs).1 != 0) = true := by simp [hf]
  have hw1 : Below w.heap.size w (w.alloc (.cells #[.int .i64 vars, .slice ao cs.length cap] 24)) := (Below.refl _ _).alloc (Nat.le_refl _) _
  have B0 := blk_new w [.int .i64 vars, .slice ao cs.length cap] 24
  unfold fm
  go_enter Try.func8, Try.ntmps8
  go_wp2_with fail
  change Blk (w.alloc (.cells #[.int .i64 vars, .slice ao cs.length cap] 24)) w.heap.size 24 _ at B0
  generalize w.alloc (.cells #[.int .i64 vars, .slice ao cs.length cap] 24) = W at *
  have hc1 := (hc.below hw1 (Nat.le_refl _)).mono hw1.size
  refine (of_any vars ao cap cs W hc1).mono ?_
  rintro e w1 ⟨rfl, hb1⟩
  have hb : Below w.heap.size w w1 := hw1.trans (hb1.mono hw1.size)
  clear hf
  go_wp2
  go_ret2
  exact ⟨rfl, hb⟩

set_option maxHeartbeats 400000 in
theorem order_bad (vars : Int) (ao : Option Addr) (cap : Nat) (cs : List (List Int)) (w : World) (hc : ListsAt w w.heap.size ao cs) (hf : (fault vars cs).1 ≠ 0) :
    Calls Try.prog 9 #[fm vars ao cap cs] w fun e w' => e = .returned (.tuple #[.slice none 0 0, .int .i64 (fault vars cs).1]) ∧ Below w.heap.size w w' := by
  have hne : ((fault vars cs).1 != 0) = true := by simp [hf]
  have hw1 : Below w.heap.size w (w.alloc (.cells #[.int .i64 vars, .slice ao cs.length cap] 24)) := (Below.refl _ _).alloc (Nat.le_refl _) _
  have B0 := blk_new w [.int .i64 vars, .slice ao cs.length cap] 24
  unfold fm
  go_enter Try.func9, Try.ntmps9
  go_wp2_with fail
  change Blk (w.alloc (.cells #[.int .i64 vars, .slice ao cs.length cap] 24)) w.heap.size 24 _ at B0
  generalize w.alloc (.cells #[.int .i64 vars, .slice ao cs.length cap] 24) = W at *
  have hc1 := (hc.below hw1 (Nat.le_refl _)).mono hw1.size
  refine (of_any vars ao cap cs W hc1).mono ?_
  rintro e w1 ⟨rfl, hb1⟩
  have hb : Below w.heap.size w w1 := hw1.trans (hb1.mono hw1.size)
  clear hf
  go_wp2
  go_ret2
  exact ⟨rfl, hb⟩

set_option maxHeartbeats 400000 in
theorem shares_bad (vars : Int) (ao : Option Addr) (cap : Nat) (cs : List (List Int)) (x : Int) (w : World) (hc : ListsAt w w.heap.size ao cs) (hf : (fault vars cs).1 ≠ 0) :
    Calls Try.prog 10 #[fm vars ao cap cs, .int .i64 x] w fun e w' => e = .returned (.tuple #[.slice none 0 0, .int .i64 (fault vars cs).1]) ∧ Below w.heap.size w w' := by
  have hne : ((fault vars cs).1 != 0) = true := by simp [hf]
  have hw1 : Below w.heap.size w (w.alloc (.cells #[.int .i64 vars, .slice ao cs.length cap] 24)) := (Below.refl _ _).alloc (Nat.le_refl _) _
  have B0 := blk_new w [.int .i64 vars, .slice ao cs.length cap] 24
  unfold fm
  go_enter Try.func10, Try.ntmps10
  go_wp2_with fail
  change Blk (w.alloc (.cells #[.int .i64 vars, .slice ao cs.length cap] 24)) w.heap.size 24 _ at B0
  generalize w.alloc (.cells #[.int .i64 vars, .slice ao cs.length cap] 24) = W at *
  have hc1 := (hc.below hw1 (Nat.le_refl _)).mono hw1.size
  refine (of_any vars ao cap cs W hc1).mono ?_
  rintro e w1 ⟨rfl, hb1⟩
  have hb : Below w.heap.size w w1 := hw1.trans (hb1.mono hw1.size)
  clear hf
  go_wp2
  go_ret2
  exact ⟨rfl, hb⟩

set_option maxHeartbeats 400000 in
theorem propagate_entry (vars : Int) (ao : Option Addr) (cap : Nat) (cs : List (List Int)) (v : Value) (w : World) (hc : ListsAt w w.heap.size ao cs) :
    Calls Try.prog 11 #[fm vars ao cap cs, v] w fun e w' => e = .returned (.tuple #[.slice none 0 0, .bool false, .int .i64 (fault vars cs).1]) ∧ Below w.heap.size w w' := by
  have hw1 : Below w.heap.size w (w.alloc (.cells #[.int .i64 vars, .slice ao cs.length cap] 24)) := (Below.refl _ _).alloc (Nat.le_refl _) _
  have B0 := blk_new w [.int .i64 vars, .slice ao cs.length cap] 24
  unfold fm
  go_enter Try.func11, Try.ntmps11
  go_wp2_with fail
  change Blk (w.alloc (.cells #[.int .i64 vars, .slice ao cs.length cap] 24)) w.heap.size 24 _ at B0
  generalize w.alloc (.cells #[.int .i64 vars, .slice ao cs.length cap] 24) = W at *
  have hc1 := (hc.below hw1 (Nat.le_refl _)).mono hw1.size
  refine (of_any vars ao cap cs W hc1).mono ?_
  rintro e w1 ⟨rfl, hb1⟩
  have hb : Below w.heap.size w w1 := hw1.trans (hb1.mono hw1.size)
  go_wp2
  go_ret3
  exact ⟨rfl, hb⟩

set_option maxHeartbeats 400000 in
theorem check_entry (vars : Int) (ao : Option Addr) (cap : Nat) (cs : List (List Int)) (v : Value) (w : World) (hc : ListsAt w w.heap.size ao cs) :
    Calls Try.prog 12 #[fm vars ao cap cs, v] w fun e w' => e = .returned (.tuple #[.int .i64 0, .int .i64 (fault vars cs).1]) ∧ Below w.heap.size w w' := by
  have hw1 : Below w.heap.size w (w.alloc (.cells #[.int .i64 vars, .slice ao cs.length cap] 24)) := (Below.refl _ _).alloc (Nat.le_refl _) _
  have B0 := blk_new w [.int .i64 vars, .slice ao cs.length cap] 24
  unfold fm
  go_enter Try.func12, Try.ntmps12
  go_wp2_with fail
  change Blk (w.alloc (.cells #[.int .i64 vars, .slice ao cs.length cap] 24)) w.heap.size 24 _ at B0
  generalize w.alloc (.cells #[.int .i64 vars, .slice ao cs.length cap] 24) = W at *
  have hc1 := (hc.below hw1 (Nat.le_refl _)).mono hw1.size
  refine (of_any vars ao cap cs W hc1).mono ?_
  rintro e w1 ⟨rfl, hb1⟩
  have hb : Below w.heap.size w w1 := hw1.trans (hb1.mono hw1.size)
  go_wp2
  go_ret2
  exact ⟨rfl, hb⟩

set_option maxHeartbeats 400000 in
theorem cubes_entry (vars : Int) (ao : Option Addr) (cap : Nat) (cs : List (List Int)) (x : Int) (w : World) (hc : ListsAt w w.heap.size ao cs) :
    Calls Try.prog 13 #[fm vars ao cap cs, .int .i64 x] w fun e w' => e = .returned (.tuple #[.slice none 0 0, .int .i64 (fault vars cs).1]) ∧ Below w.heap.size w w' := by
  have hw1 : Below w.heap.size w (w.alloc (.cells #[.int .i64 vars, .slice ao cs.length cap] 24)) := (Below.refl _ _).alloc (Nat.le_refl _) _
  have B0 := blk_new w [.int .i64 vars, .slice ao cs.length cap] 24
  unfold fm
  go_enter Try.func13, Try.ntmps13
  go_wp2_with fail
  change Blk (w.alloc (.cells #[.int .i64 vars, .slice ao cs.length cap] 24)) w.heap.size 24 _ at B0
  generalize w.alloc (.cells #[.int .i64 vars, .slice ao cs.length cap] 24) = W at *
  have hc1 := (hc.below hw1 (Nat.le_refl _)).mono hw1.size
  refine (of_any vars ao cap cs W hc1).mono ?_
  rintro e w1 ⟨rfl, hb1⟩
  have hb : Below w.heap.size w w1 := hw1.trans (hb1.mono hw1.size)
  go_wp2
  go_ret2
  exact ⟨rfl, hb⟩

set_option maxHeartbeats 400000 in
theorem scores_good (n : Nat) (ao : Option Addr) (cap : Nat) (cs : List (List Int)) (w : World) (hc : ListsAt w w.heap.size ao cs) (hg : Good n cs) (hf : (fault n cs).1 = 0) :
    Calls Try.prog 8 #[fm n ao cap cs] w fun e w' => ∃ g, e = .returned (.tuple #[.slice (some ⟨g, 0, none⟩) (2 * n) (2 * n), .int .i64 0]) ∧ w.heap.size ≤ g ∧ Blk w' g 54 (litCells n cs cs.length [] 0) ∧ Below w.heap.size w w' := by
  have hw1 : Below w.heap.size w (w.alloc (.cells #[.int .i64 n, .slice ao cs.length cap] 24)) := (Below.refl _ _).alloc (Nat.le_refl _) _
  have B0 := blk_new w [.int .i64 n, .slice ao cs.length cap] 24
  unfold fm
  go_enter Try.func8, Try.ntmps8
  go_wp2_with fail
  change Blk (w.alloc (.cells #[.int .i64 n, .slice ao cs.length cap] 24)) w.heap.size 24 _ at B0
  generalize w.alloc (.cells #[.int .i64 n, .slice ao cs.length cap] 24) = W at *
  have hc1 := (hc.below hw1 (Nat.le_refl _)).mono hw1.size
  refine (of_any n ao cap cs W hc1).mono ?_
  rintro e w1 ⟨rfl, hb1⟩
  have hb : Below w.heap.size w w1 := hw1.trans (hb1.mono hw1.size)
  rw [hf]
  have B1 := B0.below' hb1
  have c0 : w1.cell? ⟨w.heap.size, 0, none⟩ = some (.int .i64 n) := B1.cell (i := 0) (by simp) undef
  have c1 : w1.cell? ⟨w.heap.size, 1, none⟩ = some (.slice ao cs.length cap) := B1.cell (i := 1) (by simp) undef
  have hc2 := (hc.below hb (Nat.le_refl _)).mono hb.size
  generalize (fault n cs).2 = pl at *
  clear hf
  go_wp2_with fail
  refine (ofLiterals_any n ao cap cs w1 hc2 hg).mono ?_
  rintro e w2 ⟨g, rfl, hgl, hB2, hb2⟩
  go_wp2
  go_ret2
  exact ⟨g, rfl, Nat.le_trans hb.size hgl, hB2, hb.trans (hb2.mono hb.size)⟩

set_option maxHeartbeats 400000 in
theorem order_good (n : Nat) (ao : Option Addr) (cap : Nat) (cs : List (List Int)) (w : World) (hc : ListsAt w w.heap.size ao cs) (hg : Good n cs) (hf : (fault n cs).1 = 0) :
    Calls Try.prog 9 #[fm n ao cap cs] w fun e w' => ∃ g, e = .returned (.tuple #[.slice (some ⟨g, 0, none⟩) (n) (n), .int .i64 0]) ∧ w.heap.size ≤ g ∧ Blk w' g 3 ((drain n (built (weight cs) n)).map (Value.int .i64)) ∧ Below w.heap.size w w' := by
  have hw1 : Below w.heap.size w (w.alloc (.cells #[.int .i64 n, .slice ao cs.length cap] 24)) := (Below.refl _ _).alloc (Nat.le_refl _) _
  have B0 := blk_new w [.int .i64 n, .slice ao cs.length cap] 24
  unfold fm
  go_enter Try.func9, Try.ntmps9
  go_wp2_with fail
  change Blk (w.alloc (.cells #[.int .i64 n, .slice ao cs.length cap] 24)) w.heap.size 24 _ at B0
  generalize w.alloc (.cells #[.int .i64 n, .slice ao cs.length cap] 24) = W at *
  have hc1 := (hc.below hw1 (Nat.le_refl _)).mono hw1.size
  refine (of_any n ao cap cs W hc1).mono ?_
  rintro e w1 ⟨rfl, hb1⟩
  have hb : Below w.heap.size w w1 := hw1.trans (hb1.mono hw1.size)
  rw [hf]
  have B1 := B0.below' hb1
  have c0 : w1.cell? ⟨w.heap.size, 0, none⟩ = some (.int .i64 n) := B1.cell (i := 0) (by simp) undef
  have c1 : w1.cell? ⟨w.heap.size, 1, none⟩ = some (.slice ao cs.length cap) := B1.cell (i := 1) (by simp) undef
  have hc2 := (hc.below hb (Nat.le_refl _)).mono hb.size
  generalize (fault n cs).2 = pl at *
  clear hf
  go_wp2_with fail
  refine (order_any n ao cap cs w1 hc2 hg).mono ?_
  rintro e w2 ⟨g, rfl, hgl, hB2, hb2⟩
  go_wp2
  go_ret2
  exact ⟨g, rfl, Nat.le_trans hb.size hgl, hB2, hb.trans (hb2.mono hb.size)⟩

set_option maxHeartbeats 400000 in
theorem shares_arg (n : Nat) (ao : Option Addr) (cap : Nat) (cs : List (List Int)) (x : Int) (w : World) (hc : ListsAt w w.heap.size ao cs) (hf : (fault n cs).1 = 0) (hx : x < 0 ∨ 1125899906842624 < x) :
    Calls Try.prog 10 #[fm n ao cap cs, .int .i64 x] w fun e w' => e = .returned (.tuple #[.slice none 0 0, .int .i64 9]) ∧ Below w.heap.size w w' := by
  have hw1 : Below w.heap.size w (w.alloc (.cells #[.int .i64 n, .slice ao cs.length cap] 24)) := (Below.refl _ _).alloc (Nat.le_refl _) _
  have B0 := blk_new w [.int .i64 n, .slice ao cs.length cap] 24
  unfold fm
  go_enter Try.func10, Try.ntmps10
  go_wp2_with fail
  change Blk (w.alloc (.cells #[.int .i64 n, .slice ao cs.length cap] 24)) w.heap.size 24 _ at B0
  generalize w.alloc (.cells #[.int .i64 n, .slice ao cs.length cap] 24) = W at *
  have hc1 := (hc.below hw1 (Nat.le_refl _)).mono hw1.size
  refine (of_any n ao cap cs W hc1).mono ?_
  rintro e w1 ⟨rfl, hb1⟩
  have hb : Below w.heap.size w w1 := hw1.trans (hb1.mono hw1.size)
  rw [hf]
  generalize (fault n cs).2 = pl at *
  clear hf
  rcases hx with hx | hx
  · go_wp2
    go_ret2
    exact ⟨rfl, hb⟩
  · have hx0 : ¬ x < 0 := by omega
    go_wp2
    go_ret2
    exact ⟨rfl, hb⟩

set_option maxHeartbeats 400000 in
theorem shares_good (n : Nat) (ao : Option Addr) (cap : Nat) (cs : List (List Int)) (T : Nat) (w : World) (hc : ListsAt w w.heap.size ao cs) (hg : Good n cs) (hf : (fault n cs).1 = 0) (hT : T ≤ 1125899906842624) :
    Calls Try.prog 10 #[fm n ao cap cs, .int .i64 T] w fun e w' => ∃ g, e = .returned (.tuple #[.slice (some ⟨g, 0, none⟩) n n, .int .i64 0]) ∧ w.heap.size ≤ g ∧ Blk w' g 3 (shareCells n cs T n) ∧ Below w.heap.size w w' := by
  have hw1 : Below w.heap.size w (w.alloc (.cells #[.int .i64 n, .slice ao cs.length cap] 24)) := (Below.refl _ _).alloc (Nat.le_refl _) _
  have B0 := blk_new w [.int .i64 n, .slice ao cs.length cap] 24
  unfold fm
  go_enter Try.func10, Try.ntmps10
  go_wp2_with fail
  change Blk (w.alloc (.cells #[.int .i64 n, .slice ao cs.length cap] 24)) w.heap.size 24 _ at B0
  generalize w.alloc (.cells #[.int .i64 n, .slice ao cs.length cap] 24) = W at *
  have hc1 := (hc.below hw1 (Nat.le_refl _)).mono hw1.size
  refine (of_any n ao cap cs W hc1).mono ?_
  rintro e w1 ⟨rfl, hb1⟩
  have hb : Below w.heap.size w w1 := hw1.trans (hb1.mono hw1.size)
  rw [hf]
  have B1 := B0.below' hb1
  have c0 : w1.cell? ⟨w.heap.size, 0, none⟩ = some (.int .i64 n) := B1.cell (i := 0) (by simp) undef
  have c1 : w1.cell? ⟨w.heap.size, 1, none⟩ = some (.slice ao cs.length cap) := B1.cell (i := 1) (by simp) undef
  have hc2 := (hc.below hb (Nat.le_refl _)).mono hb.size
  generalize (fault n cs).2 = pl at *
  clear hf
  go_wp2_with fail
  refine (shares_any n ao cap cs T w1 hc2 hg hT).mono ?_
  rintro e w2 ⟨g, rfl, hgl, hB2, hb2⟩
  go_wp2
  go_ret2
  exact ⟨g, rfl, Nat.le_trans hb.size hgl, hB2, hb.trans (hb2.mono hb.size)⟩

set_option maxHeartbeats 400000 in
theorem solve_entry (vars : Int) (ao : Option Addr) (cap : Nat) (cs : List (List Int)) (w : World) (hc : ListsAt w w.heap.size ao cs) :
    Calls Try.prog 15 #[fm vars ao cap cs] w fun e w' => e = .returned (.tuple #[.agg #[.bool false, .slice none 0 0, .slice none 0 0], .int .i64 (fault vars cs).1]) ∧ Below w.heap.size w w' := by
  have hw1 : Below w.heap.size w ((w.alloc (.cells #[.int .i64 vars, .slice ao cs.length cap] 24)).alloc (.cells #[.bool false, .slice none 0 0, .slice none 0 0] 44)) := ((Below.refl _ _).alloc (Nat.le_refl _) _).alloc (by simp) _
  have B0 : Blk ((w.alloc (.cells #[.int .i64 vars, .slice ao cs.length cap] 24)).alloc (.cells #[.bool false, .slice none 0 0, .slice none 0 0] 44)) (w.heap.size + 1) 44 [.bool false, .slice none 0 0, .slice none 0 0] := by
    have := blk_new (w.alloc (.cells #[.int .i64 vars, .slice ao cs.length cap] 24)) [.bool false, .slice none 0 0, .slice none 0 0] 44
    simpa using this
  unfold fm
  go_enter Try.func15, Try.ntmps15
  go_wp2_with fail
  generalize (w.alloc (.cells #[.int .i64 vars, .slice ao cs.length cap] 24)).alloc (.cells #[.bool false, .slice none 0 0, .slice none 0 0] 44) = W at *
  have hc1 := (hc.below hw1 (Nat.le_refl _)).mono hw1.size
  refine (of_any vars ao cap cs W hc1).mono ?_
  rintro e w1 ⟨rfl, hb1⟩
  have hb : Below w.heap.size w w1 := hw1.trans (hb1.mono hw1.size)
  have B1 := B0.below' hb1
  have c0 : w1.cell? ⟨w.heap.size + 1, 0, none⟩ = some (.bool false) := B1.cell (i := 0) (by simp) undef
  have c1 : w1.cell? ⟨w.heap.size + 1, 1, none⟩ = some (.slice none 0 0) := B1.cell (i := 1) (by simp) undef
  have c2 : w1.cell? ⟨w.heap.size + 1, 2, none⟩ = some (.slice none 0 0) := B1.cell (i := 2) (by simp) undef
  have f0 := B1.frozen 0
  have f1 := B1.frozen 1
  have f2 := B1.frozen 2
  go_wp2
  exact bodyPost_ret (v := .tuple #[.agg #[.bool false, .slice none 0 0, .slice none 0 0], .int .i64 (fault vars cs).1]) (by simp [results, Try.results15, go_sem, c0, c1, c2]) rfl ⟨rfl, ((hb.setCell (by simp) _).setCell (by simp) _).setCell (by simp) _⟩

set_option maxHeartbeats 400000 in
theorem fleet_entry (vars : Int) (ao : Option Addr) (cap : Nat) (cs : List (List Int)) (x y : Int) (w : World) (hc : ListsAt w w.heap.size ao cs) :
    Calls Try.prog 16 #[fm vars ao cap cs, .int .i64 x, .int .i64 y] w fun e w' => e = .returned (.tuple #[.agg #[.bool false, .slice none 0 0, .slice none 0 0], .int .i64 (fault vars cs).1]) ∧ Below w.heap.size w w' := by
  have hw1 : Below w.heap.size w ((w.alloc (.cells #[.int .i64 vars, .slice ao cs.length cap] 24)).alloc (.cells #[.bool false, .slice none 0 0, .slice none 0 0] 44)) := ((Below.refl _ _).alloc (Nat.le_refl _) _).alloc (by simp) _
  have B0 : Blk ((w.alloc (.cells #[.int .i64 vars, .slice ao cs.length cap] 24)).alloc (.cells #[.bool false, .slice none 0 0, .slice none 0 0] 44)) (w.heap.size + 1) 44 [.bool false, .slice none 0 0, .slice none 0 0] := by
    have := blk_new (w.alloc (.cells #[.int .i64 vars, .slice ao cs.length cap] 24)) [.bool false, .slice none 0 0, .slice none 0 0] 44
    simpa using this
  unfold fm
  go_enter Try.func16, Try.ntmps16
  go_wp2_with fail
  generalize (w.alloc (.cells #[.int .i64 vars, .slice ao cs.length cap] 24)).alloc (.cells #[.bool false, .slice none 0 0, .slice none 0 0] 44) = W at *
  have hc1 := (hc.below hw1 (Nat.le_refl _)).mono hw1.size
  refine (of_any vars ao cap cs W hc1).mono ?_
  rintro e w1 ⟨rfl, hb1⟩
  have hb : Below w.heap.size w w1 := hw1.trans (hb1.mono hw1.size)
  have B1 := B0.below' hb1
  have c0 : w1.cell? ⟨w.heap.size + 1, 0, none⟩ = some (.bool false) := B1.cell (i := 0) (by simp) undef
  have c1 : w1.cell? ⟨w.heap.size + 1, 1, none⟩ = some (.slice none 0 0) := B1.cell (i := 1) (by simp) undef
  have c2 : w1.cell? ⟨w.heap.size + 1, 2, none⟩ = some (.slice none 0 0) := B1.cell (i := 2) (by simp) undef
  have f0 := B1.frozen 0
  have f1 := B1.frozen 1
  have f2 := B1.frozen 2
  go_wp2
  exact bodyPost_ret (v := .tuple #[.agg #[.bool false, .slice none 0 0, .slice none 0 0], .int .i64 (fault vars cs).1]) (by simp [results, Try.results16, go_sem, c0, c1, c2]) rfl ⟨rfl, ((hb.setCell (by simp) _).setCell (by simp) _).setCell (by simp) _⟩
end Go.Proofs.Ytebdeajhncebpaa
