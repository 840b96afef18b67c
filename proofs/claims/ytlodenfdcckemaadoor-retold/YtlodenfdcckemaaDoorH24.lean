/-
  Check, whole.
-/
import Derived.Test.YtlodenfdcckemaaDoorH22
import Derived.Test.YtlodenfdcckemaaDoorH23
namespace Go.Proofs.YtlodenfdcckemaaDoor
open Go.RowKit

set_option maxHeartbeats 400000 in
theorem check_bad (vars : Int) (ao : Option Addr) (cap : Nat) (cs : List (List Int)) (v : Value) (w : World) (hc : ListsAt w w.heap.size ao cs) (hf : (fault vars cs).1 ≠ 0) :
    Calls Tryd.prog 36 #[fm vars ao cap cs, v] w fun e w' => e = .returned (.tuple #[.int .i64 0, .int .i64 (fault vars cs).1]) ∧ Below w.heap.size w w' := by
  have hne : ((fault vars cs).1 != 0) = true := by simp [hf]
  have hw1 : Below w.heap.size w (w.alloc (.cells #[.int .i64 vars, .slice ao cs.length cap] 31)) := (Below.refl _ _).alloc (Nat.le_refl _) _
  have B0 := blk_new w [.int .i64 vars, .slice ao cs.length cap] 31
  unfold fm
  go_enter Tryd.func36, Tryd.ntmps36
  go_wp2_with fail
  change Blk (w.alloc (.cells #[.int .i64 vars, .slice ao cs.length cap] 31)) w.heap.size 31 _ at B0
  generalize w.alloc (.cells #[.int .i64 vars, .slice ao cs.length cap] 31) = W at *
  have hc1 := (hc.below hw1 (Nat.le_refl _)).mono hw1.size
  refine (of_any vars ao cap cs W hc1).mono ?_
  rintro e w1 ⟨rfl, hb1⟩
  have hb : Below w.heap.size w w1 := hw1.trans (hb1.mono hw1.size)
  clear hf
  go_wp2
  go_ret2
  exact ⟨rfl, hb⟩

set_option maxHeartbeats 400000 in
theorem check_good (n : Nat) (ao po : Option Addr) (cap pcap : Nat) (cs p : List (List Int)) (w : World) (hc : ListsAt w w.heap.size ao cs) (hp : ListsAt w w.heap.size po p) (hg : Good n cs) (hf : (fault n cs).1 = 0) (hpl : p.length ≤ 6000000000000) :
    Calls Tryd.prog 36 #[fm n ao cap cs, .slice po p.length pcap] w fun e w' => e = .returned (.tuple #[.int .i64 (checkOf n cs 0 p).1, .int .i64 (checkOf n cs 0 p).2]) ∧ Below w.heap.size w w' := by
  have hne : ((fault n cs).1 != 0) = false := by simp [hf]
  have hw1 : Below w.heap.size w (w.alloc (.cells #[.int .i64 n, .slice ao cs.length cap] 31)) := (Below.refl _ _).alloc (Nat.le_refl _) _
  have B0 := blk_new w [.int .i64 n, .slice ao cs.length cap] 31
  unfold fm
  go_enter Tryd.func36, Tryd.ntmps36
  go_wp2_with fail
  change Blk (w.alloc (.cells #[.int .i64 n, .slice ao cs.length cap] 31)) w.heap.size 31 _ at B0
  generalize w.alloc (.cells #[.int .i64 n, .slice ao cs.length cap] 31) = W at *
  have hc1 := (hc.below hw1 (Nat.le_refl _)).mono hw1.size
  have hp1 := (hp.below hw1 (Nat.le_refl _)).mono hw1.size
  refine (of_any n ao cap cs W hc1).mono ?_
  rintro e w1 ⟨rfl, hb1⟩
  have hb : Below w.heap.size w w1 := hw1.trans (hb1.mono hw1.size)
  have B1 := B0.below' hb1
  have n0 : w1.cell? ⟨w.heap.size, 0, none⟩ = some (.int .i64 n) := B1.cell (i := 0) (by simp) undef
  have n1 : w1.cell? ⟨w.heap.size, 1, none⟩ = some (.slice ao cs.length cap) := B1.cell (i := 1) (by simp) undef
  have hc2 := (hc1.below hb1 (Nat.le_refl _)).mono hb1.size
  have hp2 := (hp1.below hb1 (Nat.le_refl _)).mono hb1.size
  have c1 := pcheck_any n hg.vars ao po cap pcap cs p w1 hc2 hp2 (fun c hc l hl => hg.lits c hc l hl) hg.many hg.long hpl
  clear hf hc1 hp1 hc2 hp2
  go_wp2_with (go_at_call 61; refine c1.mono ?_; rintro e w2 ⟨rfl, hb2⟩)
  go_ret2
  exact ⟨rfl, hb.trans (hb2.mono hb.size)⟩
end Go.Proofs.YtlodenfdcckemaaDoor
