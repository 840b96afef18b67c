/-
  The walk of the law on faults.
-/
import Derived.Test.YtlodenfdcckemaaGreatDoorFaultsLaw
import Derived.Test.YtlodenfdcckemaaGreatDoorEntry
import Derived.Test.YtlodenfdcckemaaGreatDoorEntryF
import Derived.Test.YtlodenfdcckemaaGreatDoorEntryS
import Derived.Test.YtlodenfdcckemaaGreatDoorEntryC
import Derived.Test.YtlodenfdcckemaaGreatDoorCheckEntry
import Derived.Test.YtlodenfdcckemaaGreatDoorPropAll
namespace Go.Proofs.YtlodenfdcckemaaGreatDoor
open Go.RowKit

theorem ints_one_at {w : World} {N : Nat} {x : Int} (h : Blk w N 3 [.int .i64 x]) : IntsAt w w.heap.size (some ⟨N, 0, none⟩) [x] := by
  intro _
  refine ⟨N, 0, rfl, h.lt, fun i hi => ?_⟩
  have : i = 0 := by simpa using hi
  subst this
  exact h.cell (i := 0) (by simp) undef

set_option maxRecDepth 100000 in
set_option maxHeartbeats 4000000 in
theorem faults_bad (vars : Int) (ao : Option Addr) (cap : Nat) (cs : List (List Int)) (x : Int) (w : World) (hc : ListsAt w w.heap.size ao cs) (hF : Fits cs) (hf : (fault vars cs).1 ≠ 0) :
    Calls Tryz.prog 3 #[fm vars ao cap cs, .int .i64 x] w fun e w' => e = .returned (.bool true) ∧ Below w.heap.size w w' := by
  have hne : ((fault vars cs).1 == 0) = false := by simp [hf]
  have hee : ((fault vars cs).1 == (fault vars cs).1) = true := by simp
  have hpp : ((fault vars cs).2 == (fault vars cs).2) = true := by simp
  have hw1 : Below w.heap.size w (w.alloc (.cells #[.int .i64 vars, .slice ao cs.length cap] 24)) := (Below.refl _ _).alloc (Nat.le_refl _) _
  have hc1 : Hid (ListsAt (w.alloc (.cells #[.int .i64 vars, .slice ao cs.length cap] 24)) (w.alloc (.cells #[.int .i64 vars, .slice ao cs.length cap] 24)).heap.size ao cs) := (hc.below hw1 (Nat.le_refl _)).mono hw1.size
  unfold fm
  go_enter Tryz.func3, Tryz.ntmps3
  go_wp2_with fail
  refine (handed_any vars ao cap cs _ hc1.out hF.len hF.each).mono ?_
  rintro e w1 ⟨g, rfl, hg1, hH1, hb1⟩
  have I := Inv.start hc hH1 (by simpa using hb1)
  clear hw1 hc1 hc hb1 hH1 hg1
  obtain ⟨n0, n1, m0, m1, hl⟩ := I.cells
  have hlf := I.lists
  go_wp2_with fail
  refine (fault_entry vars (some ⟨g, 0, none⟩) (cs.length + 4) cs _ hl).mono ?_
  rintro e w2 ⟨rfl, hbn⟩
  replace I := I.step hbn
  clear n0 n1 m0 m1 hl hlf
  obtain ⟨n0, n1, m0, m1, hl⟩ := I.cells
  have hlf := I.lists
  go_wp2_with fail
  refine (refFault_any vars ao cap cs _ hlf hF.nums).mono ?_
  rintro e w3 ⟨rfl, hbn⟩
  replace I := I.step hbn
  clear n0 n1 m0 m1 hl hlf
  obtain ⟨n0, n1, m0, m1, hl⟩ := I.cells
  have hlf := I.lists
  go_wp2_with fail
  refine (scores_bad vars (some ⟨g, 0, none⟩) (cs.length + 4) cs _ hl hf).mono ?_
  rintro e w4 ⟨rfl, hbn⟩
  replace I := I.step hbn
  clear n0 n1 m0 m1 hl hlf
  obtain ⟨n0, n1, m0, m1, hl⟩ := I.cells
  have hlf := I.lists
  go_wp2_with fail
  refine (order_bad vars (some ⟨g, 0, none⟩) (cs.length + 4) cs _ hl hf).mono ?_
  rintro e w5 ⟨rfl, hbn⟩
  replace I := I.step hbn
  clear n0 n1 m0 m1 hl hlf
  obtain ⟨n0, n1, m0, m1, hl⟩ := I.cells
  have hlf := I.lists
  go_wp2_with fail
  refine (shares_bad vars (some ⟨g, 0, none⟩) (cs.length + 4) cs x _ hl hf).mono ?_
  rintro e w6 ⟨rfl, hbn⟩
  replace I := I.step hbn
  clear n0 n1 m0 m1 hl hlf
  obtain ⟨n0, n1, m0, m1, hl⟩ := I.cells
  replace I := I.alloc (.cells #[.int .i64 x] 3)
  obtain ⟨-, -, -, -, hl2⟩ := I.cells
  go_wp2_with fail
  refine (propagate_bad vars (some ⟨g, 0, none⟩) (cs.length + 4) cs _ _ hl2 hf).mono ?_
  rintro e w7 ⟨rfl, hbn⟩
  replace I := I.step hbn
  clear n0 n1 m0 m1 hl hl2
  obtain ⟨n0, n1, m0, m1, hl⟩ := I.cells
  have hlf := I.lists
  go_wp2_with fail
  refine (check_bad vars (some ⟨g, 0, none⟩) (cs.length + 4) cs _ _ hl hf).mono ?_
  rintro e w8 ⟨rfl, hbn⟩
  replace I := I.step hbn
  clear n0 n1 m0 m1 hl hlf
  obtain ⟨n0, n1, m0, m1, hl⟩ := I.cells
  have hlf := I.lists
  go_wp2_with fail
  refine (cubes_bad vars (some ⟨g, 0, none⟩) (cs.length + 4) cs x _ hl (by rw [partFault_bad x hf]; exact hf)).mono ?_
  rw [partFault_bad x hf]
  rintro e w9 ⟨rfl, hbn⟩
  replace I := I.step hbn
  clear n0 n1 m0 m1 hl hlf
  obtain ⟨n0, n1, m0, m1, hl⟩ := I.cells
  have hlf := I.lists
  go_wp2_with fail
  refine (keptLists_any g ao cap cs _ I.hand hlf hF.len hF.each).mono ?_
  rintro e w10 ⟨rfl, hbn⟩
  replace I := I.step hbn
  clear n0 n1 m0 m1 hl hlf
  obtain ⟨n0, n1, m0, m1, hl⟩ := I.cells
  go_wp2_with fail
  refine (solve_entry vars (some ⟨g, 0, none⟩) (cs.length + 4) cs _ hl hf).mono ?_
  rintro e w11 ⟨rfl, hbn⟩
  replace I := I.step hbn
  clear n0 n1 m0 m1 hl
  have BJ : Blk (w11.alloc (.cells #[.bool false, .slice none 0 0, .slice none 0 0] 44)) w11.heap.size 44 [.bool false, .slice none 0 0, .slice none 0 0] := blk_new w11 [.bool false, .slice none 0 0, .slice none 0 0] 44
  obtain ⟨n0, n1, m0, m1, hl⟩ := I.cells
  replace I := I.alloc (.cells #[.bool false, .slice none 0 0, .slice none 0 0] 44)
  obtain ⟨n0', n1', m0', m1', hl2⟩ := I.cells
  go_wp2_with fail
  refine (fleet_bad vars (some ⟨g, 0, none⟩) (cs.length + 4) cs x x _ hl2 hf).mono ?_
  rintro e w12 ⟨rfl, hbn⟩
  replace I := I.step hbn
  replace BJ := BJ.below' hbn
  clear n0 n1 m0 m1 hl hl2 n0' n1' m0' m1'
  have j0 : w12.cell? ⟨w11.heap.size, 0, none⟩ = some (.bool false) := BJ.cell (i := 0) (by simp) undef
  have j1 : w12.cell? ⟨w11.heap.size, 1, none⟩ = some (.slice none 0 0) := BJ.cell (i := 1) (by simp) undef
  have j2 : w12.cell? ⟨w11.heap.size, 2, none⟩ = some (.slice none 0 0) := BJ.cell (i := 2) (by simp) undef
  have hlt := BJ.lt
  go_wp2
  go_ret
  exact ⟨rfl, (I.alloc _).old⟩

theorem shares_some (n : Nat) (ao : Option Addr) (cap : Nat) (cs : List (List Int)) (x : Int) (w : World) (hc : ListsAt w w.heap.size ao cs) (hg : Good n cs) (hf : (fault n cs).1 = 0) :
    Calls Tryz.prog 10 #[fm n ao cap cs, .int .i64 x] w fun e w' => ∃ v i, e = .returned (.tuple #[v, .int .i64 i]) ∧ Below w.heap.size w w' := by
  by_cases hx : x < 0 ∨ 1125899906842624 < x
  · exact (shares_arg n ao cap cs x w hc hf hx).mono fun e w' ⟨h1, h2⟩ => ⟨_, _, h1, h2⟩
  · have : x = (x.toNat : Int) := by omega
    rw [this]
    exact (shares_good n ao cap cs x.toNat w hc hg hf (by omega)).mono fun e w' ⟨g, h1, _, _, h2⟩ => ⟨_, _, h1, h2⟩

set_option maxRecDepth 100000 in
set_option maxHeartbeats 4000000 in
theorem faults_good (n : Nat) (ao : Option Addr) (cap : Nat) (cs : List (List Int)) (x : Int) (w : World) (hc : ListsAt w w.heap.size ao cs) (hF : Fits cs) (hg : Good n cs) (hf : (fault n cs).1 = 0) (hT : Tab w) (hw0 : 0 < w.heap.size) :
    Calls Tryz.prog 3 #[fm n ao cap cs, .int .i64 x] w fun e w' => e = .returned (.bool true) ∧ Below w.heap.size w w' := by
  have hne : ((fault n cs).1 == 0) = true := by simp [hf]
  have hee : ((fault n cs).1 == (fault n cs).1) = true := by simp
  have hpp : ((fault n cs).2 == (fault n cs).2) = true := by simp
  have h0e : ((0 : Int) == (fault n cs).1) = true := by simp [hf]
  have HF : Hid ((fault n cs).1 = 0) := hf
  clear hf
  have hw1 : Below w.heap.size w (w.alloc (.cells #[.int .i64 n, .slice ao cs.length cap] 24)) := (Below.refl _ _).alloc (Nat.le_refl _) _
  have hc1 : Hid (ListsAt (w.alloc (.cells #[.int .i64 n, .slice ao cs.length cap] 24)) (w.alloc (.cells #[.int .i64 n, .slice ao cs.length cap] 24)).heap.size ao cs) := (hc.below hw1 (Nat.le_refl _)).mono hw1.size
  unfold fm
  go_enter Tryz.func3, Tryz.ntmps3
  go_wp2_with fail
  refine (handed_any n ao cap cs _ hc1.out hF.len hF.each).mono ?_
  rintro e w1 ⟨g, rfl, hg1, hH1, hb1⟩
  have I := Inv.start hc hH1 (by simpa using hb1)
  clear hw1 hc1 hc hb1 hH1 hg1
  obtain ⟨n0, n1, m0, m1, hl⟩ := I.cells
  have hlf := I.lists
  go_wp2_with fail
  refine (fault_entry n (some ⟨g, 0, none⟩) (cs.length + 4) cs _ hl).mono ?_
  rintro e w2 ⟨rfl, hbn⟩
  replace I := I.step hbn
  clear n0 n1 m0 m1 hl hlf
  obtain ⟨n0, n1, m0, m1, hl⟩ := I.cells
  have hlf := I.lists
  go_wp2_with fail
  refine (refFault_any n ao cap cs _ hlf hF.nums).mono ?_
  rintro e w3 ⟨rfl, hbn⟩
  replace I := I.step hbn
  clear n0 n1 m0 m1 hl hlf
  obtain ⟨n0, n1, m0, m1, hl⟩ := I.cells
  have hlf := I.lists
  go_wp2_with fail
  refine (scores_good n (some ⟨g, 0, none⟩) (cs.length + 4) cs _ hl hg HF.out).mono ?_
  rintro e w4 ⟨g4, rfl, hg4, hB4, hbn⟩
  replace I := I.step hbn
  clear n0 n1 m0 m1 hl hlf
  clear hB4 hg4
  obtain ⟨n0, n1, m0, m1, hl⟩ := I.cells
  have hlf := I.lists
  go_wp2_with fail
  refine (order_good n (some ⟨g, 0, none⟩) (cs.length + 4) cs _ hl hg HF.out).mono ?_
  rintro e w5 ⟨g5, rfl, hg5, hB5, hbn⟩
  replace I := I.step hbn
  clear n0 n1 m0 m1 hl hlf
  clear hB5 hg5
  obtain ⟨n0, n1, m0, m1, hl⟩ := I.cells
  have hlf := I.lists
  go_wp2_with fail
  refine (shares_some n (some ⟨g, 0, none⟩) (cs.length + 4) cs x _ hl hg HF.out).mono ?_
  rintro e w6 ⟨v6, e6, rfl, hbn⟩
  replace I := I.step hbn
  clear n0 n1 m0 m1 hl hlf
  obtain ⟨n0, n1, m0, m1, hl⟩ := I.cells
  replace I := I.alloc (.cells #[.int .i64 x] 3)
  obtain ⟨-, -, -, -, hl2⟩ := I.cells
  have NB : Blk (w6.alloc (.cells #[.int .i64 x] 3)) w6.heap.size 3 [.int .i64 x] := blk_new w6 [.int .i64 x] 3
  have hgi : IntsAt (w6.alloc (.cells #[.int .i64 x] 3)) (w6.alloc (.cells #[.int .i64 x] 3)).heap.size (some ⟨w6.heap.size, 0, none⟩) [x] := ints_one_at NB
  go_wp2_with fail
  refine (propagate_all n (some ⟨g, 0, none⟩) (some ⟨w6.heap.size, 0, none⟩) (cs.length + 4) 1 cs [x] _ hl2 hgi hg HF.out (by simp) (hT.below I.old hw0) (Nat.lt_of_lt_of_le hw0 I.old.size)).mono ?_
  rintro e w7 ⟨v7, z7, c7, x7, rfl, -, -, hbn⟩
  clear NB hgi
  replace I := I.step hbn
  clear n0 n1 m0 m1 hl hl2
  obtain ⟨n0, n1, m0, m1, hl⟩ := I.cells
  have hlf := I.lists
  go_wp2_with fail
  refine (check_good n (some ⟨g, 0, none⟩) none (cs.length + 4) 0 cs [] _ hl (fun h => absurd rfl h) hg HF.out (by simp)).mono ?_
  rintro e w8 ⟨rfl, hbn⟩
  replace I := I.step hbn
  clear n0 n1 m0 m1 hl hlf
  obtain ⟨n0, n1, m0, m1, hl⟩ := I.cells
  have hlf := I.lists
  go_wp2_with fail
  refine (cubes_some n (some ⟨g, 0, none⟩) (cs.length + 4) cs x _ hl hg).mono ?_
  rintro e w9 ⟨⟨vq, zq, rfl⟩, hbn⟩
  replace I := I.step hbn
  clear n0 n1 m0 m1 hl hlf
  obtain ⟨n0, n1, m0, m1, hl⟩ := I.cells
  have hlf := I.lists
  go_wp2_with fail
  refine (keptLists_any g ao cap cs _ I.hand hlf hF.len hF.each).mono ?_
  rintro e w10 ⟨rfl, hbn⟩
  replace I := I.step hbn
  clear n0 n1 m0 m1 hl hlf
  obtain ⟨n0, n1, m0, m1, hl⟩ := I.cells
  go_wp2
  go_ret
  exact ⟨rfl, I.old⟩

theorem faults_any (vars : Int) (ao : Option Addr) (cap : Nat) (cs : List (List Int)) (x : Int) (w : World) (hc : ListsAt w w.heap.size ao cs) (hF : Fits cs) (hT : Tab w) (hw0 : 0 < w.heap.size) :
    Calls Tryz.prog 3 #[fm vars ao cap cs, .int .i64 x] w fun e w' => e = .returned (.bool true) ∧ Below w.heap.size w w' := by
  by_cases hf : (fault vars cs).1 = 0
  · obtain ⟨n, rfl, hg⟩ := good_of hf
    exact faults_good n ao cap cs x w hc hF hg hf hT hw0
  · exact faults_bad vars ao cap cs x w hc hF hf
end Go.Proofs.YtlodenfdcckemaaGreatDoor
