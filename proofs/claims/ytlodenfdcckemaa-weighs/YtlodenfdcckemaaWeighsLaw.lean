/-
  The walk of the law on weights: formulas with a fault; small facts for the others.
-/
import Derived.Test.YtlodenfdcckemaaFaultsLaw
import Derived.Test.YtlodenfdcckemaaEntry
import Derived.Test.YtlodenfdcckemaaRefOrder
import Derived.Test.YtlodenfdcckemaaBooksKept
namespace Go.Proofs.Ytlodenfdcckemaa
open Go.RowKit

theorem booksAt_new (w : World) : BooksAt (w.alloc (.cells #[.slice none 0 0, .slice none 0 0, .slice none 0 0] 33)) w.heap.size (.slice none 0 0) (.slice none 0 0) (fun _ => False) [] :=
  ⟨blk_new w [.slice none 0 0, .slice none 0 0, .slice none 0 0] 33, Own.nil _ _ _, Own.nil _ _ _, by simp, by simp [Value.ownBlock], by simp [Value.ownBlock], by simp [Value.ownBlock], fun _ h => h.elim, fun _ h => h.elim⟩

theorem Inv.start' {w wa w1 : World} {g : Nat} {vars : Int} {ao : Option Addr} {cap : Nat} {cs : List (List Int)} (hc : ListsAt w w.heap.size ao cs) (hba : Below (w.heap.size + 1) (w.alloc (.cells #[.int .i64 vars, .slice ao cs.length cap] 24)) wa) (hH : Handed w1 w1.heap.size g cs)
    (hb : Below wa.heap.size wa w1) :
    Inv w (w1.alloc (.cells #[.int .i64 vars, .slice (some ⟨g, 0, none⟩) cs.length (cs.length + 4)] 24)) w.heap.size w1.heap.size g vars ao cap cs := by
  refine Inv.start hc hH (hba.trans (hb.mono ?_))
  have := hba.size
  have := alloc_size w (.cells #[.int .i64 vars, .slice ao cs.length cap] 24)
  omega

set_option maxRecDepth 100000 in
set_option maxHeartbeats 4000000 in
theorem weighs_bad (vars : Int) (ao : Option Addr) (cap : Nat) (cs : List (List Int)) (x : Int) (w : World) (hc : ListsAt w w.heap.size ao cs) (hF : Fits cs) (hf : (fault vars cs).1 ≠ 0) :
    Calls Try.prog 3 #[fm vars ao cap cs, .int .i64 x] w fun e w' => e = .returned (.bool true) ∧ Below w.heap.size w w' := by
  have hne : ((fault vars cs).1 != 0) = true := by simp [hf]
  have hee : ((fault vars cs).1 == (fault vars cs).1) = true := by simp
  have hnn : ((fault vars cs).1 != (fault vars cs).1) = false := by simp
  have hw1 : Below w.heap.size w (w.alloc (.cells #[.int .i64 vars, .slice ao cs.length cap] 24)) := (Below.refl _ _).alloc (Nat.le_refl _) _
  have hc1 : Hid (ListsAt (w.alloc (.cells #[.int .i64 vars, .slice ao cs.length cap] 24)) (w.alloc (.cells #[.int .i64 vars, .slice ao cs.length cap] 24)).heap.size ao cs) := (hc.below hw1 (Nat.le_refl _)).mono hw1.size
  have B0 : Blk (w.alloc (.cells #[.int .i64 vars, .slice ao cs.length cap] 24)) w.heap.size 24 [.int .i64 vars, .slice ao cs.length cap] := blk_new w [.int .i64 vars, .slice ao cs.length cap] 24
  unfold fm
  go_enter Try.func3, Try.ntmps3
  go_wp2_with fail
  refine (refFault_any vars ao cap cs _ hc1.out hF.nums).mono ?_
  rintro e wa ⟨rfl, hba⟩
  have Ba := B0.below' hba
  have n0 : wa.cell? ⟨w.heap.size, 0, none⟩ = some (.int .i64 vars) := Ba.cell (i := 0) (by simp) undef
  have n1 : wa.cell? ⟨w.heap.size, 1, none⟩ = some (.slice ao cs.length cap) := Ba.cell (i := 1) (by simp) undef
  have hbwa := hw1.trans (hba.mono hw1.size)
  have hca := (hc.below hbwa (Nat.le_refl _)).mono hbwa.size
  go_wp2_with fail
  refine (handed_any vars ao cap cs _ hca hF.len hF.each).mono ?_
  rintro e w1 ⟨g, rfl, hg1, hH1, hb1⟩
  have I := Inv.start' hc (by simpa using hba) hH1 hb1
  replace I := I.alloc (.cells #[.slice none 0 0, .slice none 0 0, .slice none 0 0] 33)
  clear hw1 hc1 hc hb1 hH1 hg1 hba B0 Ba n0 n1 hbwa hca
  obtain ⟨n0, n1, m0, m1, hl⟩ := I.cells
  go_wp2
  refine wp_loop_rounds 1 ?_
  rw [rounds_succ]
  go_wp2_with fail
  refine (scores_bad vars (some ⟨g, 0, none⟩) (cs.length + 4) cs _ hl hf).mono ?_
  rintro e w4 ⟨rfl, hbn⟩
  replace I := I.step hbn
  clear n0 n1 m0 m1 hl
  obtain ⟨n0, n1, m0, m1, hl⟩ := I.cells
  go_wp2_with fail
  refine (order_bad vars (some ⟨g, 0, none⟩) (cs.length + 4) cs _ hl hf).mono ?_
  rintro e w5 ⟨rfl, hbn⟩
  replace I := I.step hbn
  clear n0 n1 m0 m1 hl
  obtain ⟨n0, n1, m0, m1, hl⟩ := I.cells
  go_wp2_with fail
  refine (shares_bad vars (some ⟨g, 0, none⟩) (cs.length + 4) cs x _ hl hf).mono ?_
  rintro e w6 ⟨rfl, hbn⟩
  replace I := I.step hbn
  clear n0 n1 m0 m1 hl
  obtain ⟨n0, n1, m0, m1, hl⟩ := I.cells
  go_wp2_with fail
  refine (keptLists_any g ao cap cs _ I.hand I.lists hF.len hF.each).mono ?_
  rintro e w7 ⟨rfl, hbn⟩
  replace I := I.step hbn
  clear n0 n1 m0 m1 hl
  go_wp2
  go_ret
  exact ⟨rfl, I.old⟩
end Go.Proofs.Ytlodenfdcckemaa
