/-
  The calls Cubes and (of a formula or a number with a fault) Fleet.
-/
import Derived.Test.YtlodenfdcckemaaGreatDoorCub
namespace Go.Proofs.YtlodenfdcckemaaGreatDoor
open Go.RowKit

/-- What is wrong with a formula, or with how many variables part it. -/
def partFault (vars : Int) (cs : List (List Int)) (k : Int) : Int := if (fault vars cs).1 ≠ 0 then (fault vars cs).1 else if k < 0 ∨ 5 < k ∨ vars < k then 9 else 0

set_option maxHeartbeats 400000 in
theorem faultOfParts_any (vars : Int) (ao : Option Addr) (cap : Nat) (cs : List (List Int)) (k : Int) (w : World) (hc : ListsAt w w.heap.size ao cs) :
    Calls Tryz.prog 34 #[fm vars ao cap cs, .int .i64 k] w fun e w' => e = .returned (.int .i64 (partFault vars cs k)) ∧ Below w.heap.size w w' := by
  have hw1 : Below w.heap.size w (w.alloc (.cells #[.int .i64 vars, .slice ao cs.length cap] 24)) := (Below.refl _ _).alloc (Nat.le_refl _) _
  have B0 := blk_new w [.int .i64 vars, .slice ao cs.length cap] 24
  unfold fm
  go_enter Tryz.func34, Tryz.ntmps34
  go_wp2_with fail
  change Blk (w.alloc (.cells #[.int .i64 vars, .slice ao cs.length cap] 24)) w.heap.size 24 _ at B0
  generalize w.alloc (.cells #[.int .i64 vars, .slice ao cs.length cap] 24) = W at *
  have hc1 := (hc.below hw1 (Nat.le_refl _)).mono hw1.size
  refine (of_any vars ao cap cs W hc1).mono ?_
  rintro e w1 ⟨rfl, hb1⟩
  have hb : Below w.heap.size w w1 := hw1.trans (hb1.mono hw1.size)
  have B1 := B0.below' hb1
  have m0 : w1.cell? ⟨w.heap.size, 0, none⟩ = some (.int .i64 vars) := B1.cell (i := 0) (by simp) undef
  have HP : Hid (partFault vars cs k = if (fault vars cs).1 ≠ 0 then (fault vars cs).1 else if k < 0 ∨ 5 < k ∨ vars < k then 9 else 0) := rfl
  generalize (fault vars cs).1 = f at *
  by_cases hf : f = 0
  · have hne : (f != 0) = false := by simp [hf]
    have HF : Hid (f = 0) := hf
    clear hf
    by_cases h1 : k < 0
    · have HR : Hid (partFault vars cs k = 9) := by unfold Hid; rw [HP.out, if_neg (by simp [HF.out]), if_pos (Or.inl h1)]
      go_wp2
      go_ret
      exact ⟨by rw [HR.out]; rfl, hb⟩
    · by_cases h2 : 5 < k
      · have HR : Hid (partFault vars cs k = 9) := by unfold Hid; rw [HP.out, if_neg (by simp [HF.out]), if_pos (Or.inr (Or.inl h2))]
        go_wp2
        go_ret
        exact ⟨by rw [HR.out]; rfl, hb⟩
      · by_cases h3 : vars < k
        · have HR : Hid (partFault vars cs k = 9) := by unfold Hid; rw [HP.out, if_neg (by simp [HF.out]), if_pos (Or.inr (Or.inr h3))]
          go_wp2
          go_ret
          exact ⟨by rw [HR.out]; rfl, hb⟩
        · have HR : Hid (partFault vars cs k = 0) := by unfold Hid; rw [HP.out, if_neg (by simp [HF.out]), if_neg (by omega)]
          go_wp2
          go_ret
          exact ⟨by rw [HR.out]; rfl, hb⟩
  · have hne : (f != 0) = true := by simp [hf]
    have HR : Hid (partFault vars cs k = f) := by unfold Hid; rw [HP.out, if_pos hf]
    go_wp2
    go_ret
    exact ⟨by rw [HR.out]; rfl, hb⟩

set_option maxHeartbeats 400000 in
theorem cubes_bad (vars : Int) (ao : Option Addr) (cap : Nat) (cs : List (List Int)) (k : Int) (w : World) (hc : ListsAt w w.heap.size ao cs) (hf : partFault vars cs k ≠ 0) :
    Calls Tryz.prog 13 #[fm vars ao cap cs, .int .i64 k] w fun e w' => e = .returned (.tuple #[.slice none 0 0, .int .i64 (partFault vars cs k)]) ∧ Below w.heap.size w w' := by
  have hw1 : Below w.heap.size w (w.alloc (.cells #[.int .i64 vars, .slice ao cs.length cap] 24)) := (Below.refl _ _).alloc (Nat.le_refl _) _
  have hne : (partFault vars cs k != 0) = true := by simp [hf]
  clear hf
  unfold fm
  go_enter Tryz.func13, Tryz.ntmps13
  go_wp2_with fail
  generalize w.alloc (.cells #[.int .i64 vars, .slice ao cs.length cap] 24) = W at *
  have hc1 := (hc.below hw1 (Nat.le_refl _)).mono hw1.size
  refine (faultOfParts_any vars ao cap cs k W hc1).mono ?_
  rintro e w1 ⟨rfl, hb1⟩
  have hb : Below w.heap.size w w1 := hw1.trans (hb1.mono hw1.size)
  go_wp2
  go_ret2
  exact ⟨rfl, hb⟩

set_option maxHeartbeats 400000 in
theorem cubes_good (n : Nat) (ao : Option Addr) (cap : Nat) (cs : List (List Int)) (k : Nat) (w : World) (hc : ListsAt w w.heap.size ao cs) (hg : Good n cs) (hf : partFault n cs k = 0) (hk : k ≤ 5) (hkn : k ≤ n) :
    Calls Tryz.prog 13 #[fm n ao cap cs, .int .i64 k] w fun e w' => ∃ v vs, e = .returned (.tuple #[v, .int .i64 0]) ∧ MadeS w' w.heap.size v vs (cubesOf n cs k) ∧ Below w.heap.size w w' := by
  have hw1 : Below w.heap.size w (w.alloc (.cells #[.int .i64 n, .slice ao cs.length cap] 24)) := (Below.refl _ _).alloc (Nat.le_refl _) _
  have B0 := blk_new w [.int .i64 n, .slice ao cs.length cap] 24
  unfold fm
  go_enter Tryz.func13, Tryz.ntmps13
  go_wp2_with fail
  change Blk (w.alloc (.cells #[.int .i64 n, .slice ao cs.length cap] 24)) w.heap.size 24 _ at B0
  generalize w.alloc (.cells #[.int .i64 n, .slice ao cs.length cap] 24) = W at *
  have hc1 := (hc.below hw1 (Nat.le_refl _)).mono hw1.size
  refine (faultOfParts_any n ao cap cs k W hc1).mono ?_
  rw [hf]
  rintro e w1 ⟨rfl, hb1⟩
  have hb : Below w.heap.size w w1 := hw1.trans (hb1.mono hw1.size)
  have B1 := B0.below' hb1
  have m0 : w1.cell? ⟨w.heap.size, 0, none⟩ = some (.int .i64 n) := B1.cell (i := 0) (by simp) undef
  have m1 : w1.cell? ⟨w.heap.size, 1, none⟩ = some (.slice ao cs.length cap) := B1.cell (i := 1) (by simp) undef
  have hs := hb.size
  go_wp2_with fail
  refine (pcubes_any n ao cap cs k w1 ((hc.below hb (Nat.le_refl _)).mono hs) hg hk hkn).mono ?_
  rintro e w2 ⟨v, vs, rfl, hM, hb2⟩
  have HM : Hid _ := hM
  have HB : Hid (Below w.heap.size w w2) := hb.trans (hb2.mono hs)
  clear hM
  go_wp2
  go_ret2
  exact ⟨v, vs, rfl, HM.out.lower hs, HB.out⟩

theorem partFault_bad {vars : Int} {cs : List (List Int)} (k : Int) (hf : (fault vars cs).1 ≠ 0) : partFault vars cs k = (fault vars cs).1 := by unfold partFault; rw [if_pos hf]

theorem partFault_good {n : Nat} {cs : List (List Int)} {k : Int} (h : partFault n cs k = 0) : ∃ j : Nat, k = j ∧ j ≤ 5 ∧ j ≤ n := by
  unfold partFault at h
  split at h
  · rename_i hf; exact absurd h hf
  · split at h
    · cases h
    · rename_i hx; exact ⟨k.toNat, by omega, by omega, by omega⟩

theorem cubes_some (n : Nat) (ao : Option Addr) (cap : Nat) (cs : List (List Int)) (k : Int) (w : World) (hc : ListsAt w w.heap.size ao cs) (hg : Good n cs) :
    Calls Tryz.prog 13 #[fm n ao cap cs, .int .i64 k] w fun e w' => (∃ v z, e = .returned (.tuple #[v, .int .i64 z])) ∧ Below w.heap.size w w' := by
  by_cases hf : partFault n cs k = 0
  · obtain ⟨j, rfl, h1, h2⟩ := partFault_good hf
    refine (cubes_good n ao cap cs j w hc hg hf h1 h2).mono ?_
    rintro e w' ⟨v, vs, rfl, -, hb⟩
    exact ⟨⟨v, 0, rfl⟩, hb⟩
  · refine (cubes_bad n ao cap cs k w hc hf).mono ?_
    rintro e w' ⟨rfl, hb⟩
    exact ⟨⟨_, _, rfl⟩, hb⟩

set_option maxHeartbeats 400000 in
theorem fleet_bad (vars : Int) (ao : Option Addr) (cap : Nat) (cs : List (List Int)) (x y : Int) (w : World) (hc : ListsAt w w.heap.size ao cs) (hf : (fault vars cs).1 ≠ 0) :
    Calls Tryz.prog 16 #[fm vars ao cap cs, .int .i64 x, .int .i64 y] w fun e w' => e = .returned (.tuple #[.agg #[.bool false, .slice none 0 0, .slice none 0 0], .int .i64 (fault vars cs).1]) ∧ Below w.heap.size w w' := by
  have hw1 : Below w.heap.size w ((((w.alloc (.cells #[.int .i64 vars, .slice ao cs.length cap] 24)).alloc (.cells #[.int .i64 x] 3)).alloc (.cells #[.int .i64 y] 3)).alloc (.cells #[.bool false, .slice none 0 0, .slice none 0 0] 44)) := ((((Below.refl _ _).alloc (Nat.le_refl _) _).alloc (by simp) _).alloc (by simp; omega) _).alloc (by simp; omega) _
  have B1 := (((blk_new w [.int .i64 vars, .slice ao cs.length cap] 24).alloc (.cells #[.int .i64 x] 3)).alloc (.cells #[.int .i64 y] 3)).alloc (.cells #[.bool false, .slice none 0 0, .slice none 0 0] 44)
  have B0 := blk_new (((w.alloc (.cells #[.int .i64 vars, .slice ao cs.length cap] 24)).alloc (.cells #[.int .i64 x] 3)).alloc (.cells #[.int .i64 y] 3)) [.bool false, .slice none 0 0, .slice none 0 0] 44
  simp only [World.size_alloc] at B0
  dsimp only [List.toArray] at B0 B1
  have hne : ((fault vars cs).1 != 0) = true := by simp [hf]
  unfold fm
  go_enter Tryz.func16, Tryz.ntmps16
  go_wp2_with fail
  generalize (((w.alloc (.cells #[.int .i64 vars, .slice ao cs.length cap] 24)).alloc (.cells #[.int .i64 x] 3)).alloc (.cells #[.int .i64 y] 3)).alloc (.cells #[.bool false, .slice none 0 0, .slice none 0 0] 44) = W at *
  have hc1 := (hc.below hw1 (Nat.le_refl _)).mono hw1.size
  refine (faultOfParts_any vars ao cap cs x W hc1).mono ?_
  rw [partFault_bad x hf]
  rintro e w1 ⟨rfl, hb1⟩
  have hb : Below w.heap.size w w1 := hw1.trans (hb1.mono hw1.size)
  have B2 := B0.below' hb1
  have c0 : w1.cell? ⟨w.heap.size + 1 + 1 + 1, 0, none⟩ = some (.bool false) := B2.cell (i := 0) (by simp) undef
  have c1 : w1.cell? ⟨w.heap.size + 1 + 1 + 1, 1, none⟩ = some (.slice none 0 0) := B2.cell (i := 1) (by simp) undef
  have c2 : w1.cell? ⟨w.heap.size + 1 + 1 + 1, 2, none⟩ = some (.slice none 0 0) := B2.cell (i := 2) (by simp) undef
  have f0 := B2.frozen 0
  have f1 := B2.frozen 1
  have f2 := B2.frozen 2
  clear hf
  go_wp2
  exact bodyPost_ret (v := .tuple #[.agg #[.bool false, .slice none 0 0, .slice none 0 0], .int .i64 (fault vars cs).1]) (by simp [results, Tryz.results16, go_sem, c0, c1, c2]) rfl ⟨rfl, ((hb.setCell (by simp; omega) _).setCell (by simp; omega) _).setCell (by simp; omega) _⟩
end Go.Proofs.YtlodenfdcckemaaGreatDoor
