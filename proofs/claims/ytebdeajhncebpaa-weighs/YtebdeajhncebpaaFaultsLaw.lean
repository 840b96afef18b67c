/-
  The walk of the law on faults.
-/
import Derived.Test.YtebdeajhncebpaaEntry
import Derived.Test.YtebdeajhncebpaaRefFault
import Derived.Test.YtebdeajhncebpaaKept
namespace Go.Proofs.Ytebdeajhncebpaa
open Go.RowKit

/-- What stays as it is while the law runs: the formula, in its box at block N; the one that is handed in, at block g, in its box at block hb. -/
structure Inv (w w' : World) (N hb g : Nat) (vars : Int) (ao : Option Addr) (cap : Nat) (cs : List (List Int)) : Prop where
  old : Below w.heap.size w w'
  sz : w.heap.size = N
  boxF : Blk w' N 24 [.int .i64 vars, .slice ao cs.length cap]
  boxH : Blk w' hb 24 [.int .i64 vars, .slice (some ⟨g, 0, none⟩) cs.length (cs.length + 4)]
  lists : ListsAt w' w'.heap.size ao cs
  hand : Handed w' w'.heap.size g cs

theorem Inv.step {w w' w'' : World} {N hb g : Nat} {vars : Int} {ao : Option Addr} {cap : Nat} {cs : List (List Int)} (h : Inv w w' N hb g vars ao cap cs) (hb' : Below w'.heap.size w' w'') : Inv w w'' N hb g vars ao cap cs :=
  ⟨h.old.trans (hb'.mono h.old.size), h.sz, h.boxF.below' hb', h.boxH.below' hb', (h.lists.below hb' (Nat.le_refl _)).mono hb'.size, (HandedTo.below h.hand hb' (Nat.le_refl _)).mono hb'.size⟩

theorem Inv.alloc {w w' : World} {N hb g : Nat} {vars : Int} {ao : Option Addr} {cap : Nat} {cs : List (List Int)} (h : Inv w w' N hb g vars ao cap cs) (o : Obj) : Inv w (w'.alloc o) N hb g vars ao cap cs :=
  h.step ((Below.refl _ _).alloc (Nat.le_refl _) o)

theorem Inv.cells {w w' : World} {N hb g : Nat} {vars : Int} {ao : Option Addr} {cap : Nat} {cs : List (List Int)} (h : Inv w w' N hb g vars ao cap cs) :
    w'.cell? ⟨N, 0, none⟩ = some (.int .i64 vars) ∧ w'.cell? ⟨N, 1, none⟩ = some (.slice ao cs.length cap) ∧ w'.cell? ⟨hb, 0, none⟩ = some (.int .i64 vars) ∧ w'.cell? ⟨hb, 1, none⟩ = some (.slice (some ⟨g, 0, none⟩) cs.length (cs.length + 4)) ∧
      ListsAt w' w'.heap.size (some ⟨g, 0, none⟩) cs :=
  ⟨h.boxF.cell (i := 0) (by simp) undef, h.boxF.cell (i := 1) (by simp) undef, h.boxH.cell (i := 0) (by simp) undef, h.boxH.cell (i := 1) (by simp) undef, Handed.lists h.hand⟩

theorem Inv.start {w w1 : World} {g : Nat} {vars : Int} {ao : Option Addr} {cap : Nat} {cs : List (List Int)} (hc : ListsAt w w.heap.size ao cs) (hH : Handed w1 w1.heap.size g cs)
    (hb : Below (w.heap.size + 1) (w.alloc (.cells #[.int .i64 vars, .slice ao cs.length cap] 24)) w1) :
    Inv w (w1.alloc (.cells #[.int .i64 vars, .slice (some ⟨g, 0, none⟩) cs.length (cs.length + 4)] 24)) w.heap.size w1.heap.size g vars ao cap cs := by
  have hw1 : Below w.heap.size w (w.alloc (.cells #[.int .i64 vars, .slice ao cs.length cap] 24)) := (Below.refl _ _).alloc (Nat.le_refl _) _
  have hw2 : Below w.heap.size w w1 := hw1.trans (hb.mono (by omega))
  have hb3 : Below w1.heap.size w1 (w1.alloc (.cells #[.int .i64 vars, .slice (some ⟨g, 0, none⟩) cs.length (cs.length + 4)] 24)) := (Below.refl _ _).alloc (Nat.le_refl _) _
  have hw3 := hw2.trans (hb3.mono hw2.size)
  refine ⟨hw3, rfl, ?_, ?_, (hc.below hw3 (Nat.le_refl _)).mono hw3.size, (HandedTo.below hH hb3 (Nat.le_refl _)).mono hb3.size⟩
  · have B0 : Blk (w.alloc (.cells #[.int .i64 vars, .slice ao cs.length cap] 24)) w.heap.size 24 [.int .i64 vars, .slice ao cs.length cap] := blk_new w [.int .i64 vars, .slice ao cs.length cap] 24
    exact (B0.below hb (by omega)).below' hb3
  · exact blk_new w1 [.int .i64 vars, .slice (some ⟨g, 0, none⟩) cs.length (cs.length + 4)] 24

/-- What is asked of a formula's size and numbers: what Go's own memory gives. -/
structure Fits (cs : List (List Int)) : Prop where
  len : cs.length * 24 ≤ 140737488351232
  each : ∀ c ∈ cs, c.length * 8 ≤ 140737488351232
  nums : ∀ c ∈ cs, ∀ l ∈ c, -9223372036854775808 ≤ l ∧ l ≤ 9223372036854775807


set_option maxRecDepth 100000 in
set_option maxHeartbeats 4000000 in
theorem faults_bad (vars : Int) (ao : Option Addr) (cap : Nat) (cs : List (List Int)) (x : Int) (w : World) (hc : ListsAt w w.heap.size ao cs) (hF : Fits cs) (hf : (fault vars cs).1 ≠ 0) :
    Calls Try.prog 3 #[fm vars ao cap cs, .int .i64 x] w fun e w' => e = .returned (.bool true) ∧ Below w.heap.size w w' := by
  have hne : ((fault vars cs).1 == 0) = false := by simp [hf]
  have hee : ((fault vars cs).1 == (fault vars cs).1) = true := by simp
  have hpp : ((fault vars cs).2 == (fault vars cs).2) = true := by simp
  have hw1 : Below w.heap.size w (w.alloc (.cells #[.int .i64 vars, .slice ao cs.length cap] 24)) := (Below.refl _ _).alloc (Nat.le_refl _) _
  have hc1 : Hid (ListsAt (w.alloc (.cells #[.int .i64 vars, .slice ao cs.length cap] 24)) (w.alloc (.cells #[.int .i64 vars, .slice ao cs.length cap] 24)).heap.size ao cs) := (hc.below hw1 (Nat.le_refl _)).mono hw1.size
  unfold fm
  go_enter Try.func3, Try.ntmps3
  go_wp2_with fail
  refine (handed_any vars ao cap cs _ hc1.out hF.len hF.each).mono ?_
  rintro e w1 ⟨g, rfl, hg1, hH1, hb1⟩
  have I := Inv.start hc hH1 (by simpa using hb1)
  clear hw1 hc1 hc hb1 hH1 hg1
  obtain ⟨n0, n1, m0, m1, hl⟩ := I.cells
  have hlf := I.lists
  go_wp2_with fail
  refine (fault_entry vars (some ⟨g, 0, none⟩) (cs.length + 4) cs _ hl).mono ?_
  rintro e w2 ⟨rfl, hbn⟩
  replace I := I.step hbn
  clear n0 n1 m0 m1 hl hlf
  obtain ⟨n0, n1, m0, m1, hl⟩ := I.cells
  have hlf := I.lists
  go_wp2_with fail
  refine (refFault_any vars ao cap cs _ hlf hF.nums).mono ?_
  rintro e w3 ⟨rfl, hbn⟩
  replace I := I.step hbn
  clear n0 n1 m0 m1 hl hlf
  obtain ⟨n0, n1, m0, m1, hl⟩ := I.cells
  have hlf := I.lists
  go_wp2_with fail
  refine (scores_bad vars (some ⟨g, 0, none⟩) (cs.length + 4) cs _ hl hf).mono ?_
  rintro e w4 ⟨rfl, hbn⟩
  replace I := I.step hbn
  clear n0 n1 m0 m1 hl hlf
  obtain ⟨n0, n1, m0, m1, hl⟩ := I.cells
  have hlf := I.lists
  go_wp2_with fail
  refine (order_bad vars (some ⟨g, 0, none⟩) (cs.length + 4) cs _ hl hf).mono ?_
  rintro e w5 ⟨rfl, hbn⟩
  replace I := I.step hbn
  clear n0 n1 m0 m1 hl hlf
  obtain ⟨n0, n1, m0, m1, hl⟩ := I.cells
  have hlf := I.lists
  go_wp2_with fail
  refine (shares_bad vars (some ⟨g, 0, none⟩) (cs.length + 4) cs x _ hl hf).mono ?_
  rintro e w6 ⟨rfl, hbn⟩
  replace I := I.step hbn
  clear n0 n1 m0 m1 hl hlf
  obtain ⟨n0, n1, m0, m1, hl⟩ := I.cells
  replace I := I.alloc (.cells #[.int .i64 x] 3)
  obtain ⟨-, -, -, -, hl2⟩ := I.cells
  go_wp2_with fail
  refine (propagate_entry vars (some ⟨g, 0, none⟩) (cs.length + 4) cs _ _ hl2).mono ?_
  rintro e w7 ⟨rfl, hbn⟩
  replace I := I.step hbn
  clear n0 n1 m0 m1 hl hl2
  obtain ⟨n0, n1, m0, m1, hl⟩ := I.cells
  have hlf := I.lists
  go_wp2_with fail
  refine (check_entry vars (some ⟨g, 0, none⟩) (cs.length + 4) cs _ _ hl).mono ?_
  rintro e w8 ⟨rfl, hbn⟩
  replace I := I.step hbn
  clear n0 n1 m0 m1 hl hlf
  obtain ⟨n0, n1, m0, m1, hl⟩ := I.cells
  have hlf := I.lists
  go_wp2_with fail
  refine (cubes_entry vars (some ⟨g, 0, none⟩) (cs.length + 4) cs x _ hl).mono ?_
  rintro e w9 ⟨rfl, hbn⟩
  replace I := I.step hbn
  clear n0 n1 m0 m1 hl hlf
  obtain ⟨n0, n1, m0, m1, hl⟩ := I.cells
  have hlf := I.lists
  go_wp2_with fail
  refine (keptLists_any g ao cap cs _ I.hand hlf hF.len hF.each).mono ?_
  rintro e w10 ⟨rfl, hbn⟩
  replace I := I.step hbn
  clear n0 n1 m0 m1 hl hlf
  obtain ⟨n0, n1, m0, m1, hl⟩ := I.cells
  go_wp2_with fail
  refine (solve_entry vars (some ⟨g, 0, none⟩) (cs.length + 4) cs _ hl).mono ?_
  rintro e w11 ⟨rfl, hbn⟩
  replace I := I.step hbn
  clear n0 n1 m0 m1 hl
  have BJ : Blk (w11.alloc (.cells #[.bool false, .slice none 0 0, .slice none 0 0] 44)) w11.heap.size 44 [.bool false, .slice none 0 0, .slice none 0 0] := blk_new w11 [.bool false, .slice none 0 0, .slice none 0 0] 44
  obtain ⟨n0, n1, m0, m1, hl⟩ := I.cells
  replace I := I.alloc (.cells #[.bool false, .slice none 0 0, .slice none 0 0] 44)
  obtain ⟨n0', n1', m0', m1', hl2⟩ := I.cells
  go_wp2_with fail
  refine (fleet_entry vars (some ⟨g, 0, none⟩) (cs.length + 4) cs x x _ hl2).mono ?_
  rintro e w12 ⟨rfl, hbn⟩
  replace I := I.step hbn
  replace BJ := BJ.below' hbn
  clear n0 n1 m0 m1 hl hl2 n0' n1' m0' m1'
  have j0 : w12.cell? ⟨w11.heap.size, 0, none⟩ = some (.bool false) := BJ.cell (i := 0) (by simp) undef
  have j1 : w12.cell? ⟨w11.heap.size, 1, none⟩ = some (.slice none 0 0) := BJ.cell (i := 1) (by simp) undef
  have j2 : w12.cell? ⟨w11.heap.size, 2, none⟩ = some (.slice none 0 0) := BJ.cell (i := 2) (by simp) undef
  have hlt := BJ.lt
  go_wp2
  go_ret
  exact ⟨rfl, (I.alloc _).old⟩

theorem shares_some (n : Nat) (ao : Option Addr) (cap : Nat) (cs : List (List Int)) (x : Int) (w : World) (hc : ListsAt w w.heap.size ao cs) (hg : Good n cs) (hf : (fault n cs).1 = 0) :
    Calls Try.prog 10 #[fm n ao cap cs, .int .i64 x] w fun e w' => ∃ v i, e = .returned (.tuple #[v, .int .i64 i]) ∧ Below w.heap.size w w' := by
  by_cases hx : x < 0 ∨ 1125899906842624 < x
  · exact (shares_arg n ao cap cs x w hc hf hx).mono fun e w' ⟨h1, h2⟩ => ⟨_, _, h1, h2⟩
  · have : x = (x.toNat : Int) := by omega
    rw [this]
    exact (shares_good n ao cap cs x.toNat w hc hg hf (by omega)).mono fun e w' ⟨g, h1, _, _, h2⟩ => ⟨_, _, h1, h2⟩

set_option maxRecDepth 100000 in
set_option maxHeartbeats 4000000 in
theorem faults_good (n : Nat) (ao : Option Addr) (cap : Nat) (cs : List (List Int)) (x : Int) (w : World) (hc : ListsAt w w.heap.size ao cs) (hF : Fits cs) (hg : Good n cs) (hf : (fault n cs).1 = 0) :
    Calls Try.prog 3 #[fm n ao cap cs, .int .i64 x] w fun e w' => e = .returned (.bool true) ∧ Below w.heap.size w w' := by
  have hne : ((fault n cs).1 == 0) = true := by simp [hf]
  have hee : ((fault n cs).1 == (fault n cs).1) = true := by simp
  have hpp : ((fault n cs).2 == (fault n cs).2) = true := by simp
  have h0e : ((0 : Int) == (fault n cs).1) = true := by simp [hf]
  have HF : Hid ((fault n cs).1 = 0) := hf
  clear hf
  have hw1 : Below w.heap.size w (w.alloc (.cells #[.int .i64 n, .slice ao cs.length cap] 24)) := (Below.refl _ _).alloc (Nat.le_refl _) _
  have hc1 : Hid (ListsAt (w.alloc (.cells #[.int .i64 n, .slice ao cs.length cap] 24)) (w.alloc (.cells #[.int .i64 n, .slice ao cs.length cap] 24)).heap.size ao cs) := (hc.below hw1 (Nat.le_refl _)).mono hw1.size
  unfold fm
  go_enter Try.func3, Try.ntmps3
  go_wp2_with fail
  refine (handed_any n ao cap cs _ hc1.out hF.len hF.each).mono ?_
  rintro e w1 ⟨g, rfl, hg1, hH1, hb1⟩
  have I := Inv.start hc hH1 (by simpa using hb1)
  clear hw1 hc1 hc hb1 hH1 hg1
  obtain ⟨n0, n1, m0, m1, hl⟩ := I.cells
  have hlf := I.lists
  go_wp2_with fail
  refine (fault_entry n (some ⟨g, 0, none⟩) (cs.length + 4) cs _ hl).mono ?_
  rintro e w2 ⟨rfl, hbn⟩
  replace I := I.step hbn
  clear n0 n1 m0 m1 hl hlf
  obtain ⟨n0, n1, m0, m1, hl⟩ := I.cells
  have hlf := I.lists
  go_wp2_with fail
  refine (refFault_any n ao cap cs _ hlf hF.nums).mono ?_
  rintro e w3 ⟨rfl, hbn⟩
  replace I := I.step hbn
  clear n0 n1 m0 m1 hl hlf
  obtain ⟨n0, n1, m0, m1, hl⟩ := I.cells
  have hlf := I.lists
  go_wp2_with fail
  refine (scores_good n (some ⟨g, 0, none⟩) (cs.length + 4) cs _ hl hg HF.out).mono ?_
  rintro e w4 ⟨g4, rfl, hg4, hB4, hbn⟩
  replace I := I.step hbn
  clear n0 n1 m0 m1 hl hlf
  clear hB4 hg4
  obtain ⟨n0, n1, m0, m1, hl⟩ := I.cells
  have hlf := I.lists
  go_wp2_with fail
  refine (order_good n (some ⟨g, 0, none⟩) (cs.length + 4) cs _ hl hg HF.out).mono ?_
  rintro e w5 ⟨g5, rfl, hg5, hB5, hbn⟩
  replace I := I.step hbn
  clear n0 n1 m0 m1 hl hlf
  clear hB5 hg5
  obtain ⟨n0, n1, m0, m1, hl⟩ := I.cells
  have hlf := I.lists
  go_wp2_with fail
  refine (shares_some n (some ⟨g, 0, none⟩) (cs.length + 4) cs x _ hl hg HF.out).mono ?_
  rintro e w6 ⟨v6, e6, rfl, hbn⟩
  replace I := I.step hbn
  clear n0 n1 m0 m1 hl hlf
  obtain ⟨n0, n1, m0, m1, hl⟩ := I.cells
  replace I := I.alloc (.cells #[.int .i64 x] 3)
  obtain ⟨-, -, -, -, hl2⟩ := I.cells
  go_wp2_with fail
  refine (propagate_entry n (some ⟨g, 0, none⟩) (cs.length + 4) cs _ _ hl2).mono ?_
  rintro e w7 ⟨rfl, hbn⟩
  replace I := I.step hbn
  clear n0 n1 m0 m1 hl hl2
  obtain ⟨n0, n1, m0, m1, hl⟩ := I.cells
  have hlf := I.lists
  go_wp2_with fail
  refine (check_entry n (some ⟨g, 0, none⟩) (cs.length + 4) cs _ _ hl).mono ?_
  rintro e w8 ⟨rfl, hbn⟩
  replace I := I.step hbn
  clear n0 n1 m0 m1 hl hlf
  obtain ⟨n0, n1, m0, m1, hl⟩ := I.cells
  have hlf := I.lists
  go_wp2_with fail
  refine (cubes_entry n (some ⟨g, 0, none⟩) (cs.length + 4) cs x _ hl).mono ?_
  rintro e w9 ⟨rfl, hbn⟩
  replace I := I.step hbn
  clear n0 n1 m0 m1 hl hlf
  obtain ⟨n0, n1, m0, m1, hl⟩ := I.cells
  have hlf := I.lists
  go_wp2_with fail
  refine (keptLists_any g ao cap cs _ I.hand hlf hF.len hF.each).mono ?_
  rintro e w10 ⟨rfl, hbn⟩
  replace I := I.step hbn
  clear n0 n1 m0 m1 hl hlf
  obtain ⟨n0, n1, m0, m1, hl⟩ := I.cells
  go_wp2
  go_ret
  exact ⟨rfl, I.old⟩

theorem faults_any (vars : Int) (ao : Option Addr) (cap : Nat) (cs : List (List Int)) (x : Int) (w : World) (hc : ListsAt w w.heap.size ao cs) (hF : Fits cs) :
    Calls Try.prog 3 #[fm vars ao cap cs, .int .i64 x] w fun e w' => e = .returned (.bool true) ∧ Below w.heap.size w w' := by
  by_cases hf : (fault vars cs).1 = 0
  · obtain ⟨n, rfl, hg⟩ := good_of hf
    exact faults_good n ao cap cs x w hc hF hg hf
  · exact faults_bad vars ao cap cs x w hc hF hf
end Go.Proofs.Ytebdeajhncebpaa
