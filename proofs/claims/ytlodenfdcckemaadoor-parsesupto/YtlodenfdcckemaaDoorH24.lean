/-
  Two lists of the same numbers: they are found the same.
-/
import Derived.Test.YtlodenfdcckemaaDoorH4
import Derived.Deep.QuietTactic
import Derived.BigQuiet
namespace Go.Proofs.YtlodenfdcckemaaDoor
open Go.RowKit

set_option maxHeartbeats 400000 in
theorem same_any (ao bo : Option Addr) (ca cb : Nat) (zs : List Int) (w : World) (ha : IntsAt w w.heap.size ao zs) (hb : IntsAt w w.heap.size bo zs) (hl : zs.length ≤ 1000) :
    Calls Tryd.prog 16 #[.slice ao zs.length ca, .slice bo zs.length cb] w fun e w' => e = .returned (.bool true) ∧ ∃ n, w' = w.drewN n := by
  have hne : ((zs.length : Int) != (zs.length : Int)) = false := by simp
  go_enter Tryd.func16, Tryd.ntmps16
  go_wp2
  go_loopw [5] (fun i wr => ∃ (k n : Nat), k ≤ zs.length ∧ i = .int .i64 k ∧ wr = w.drewN n) (fun i _ => zs.length - (intOf i).toNat)
  case atStart => exact ⟨0, 0, by omega, rfl, rfl⟩
  case round =>
    obtain ⟨k, n, hk, rfl, rfl⟩ := hrel
    by_cases hlt : k < zs.length
    · obtain ⟨b, o, rfl, hbl, hca⟩ := ha (by intro h; rw [h] at hlt; simp at hlt)
      obtain ⟨b', o', rfl, hbl', hcb⟩ := hb (by intro h; rw [h] at hlt; simp at hlt)
      have h1 := hca k hlt
      have h2 := hcb k hlt
      generalize zs.getD k 0 = x at *
      have hnx : (x != x) = false := by simp
      clear hca hcb
      go_wp2
      go_quiet (fail)
      go_wp2
      go_roundw
      case rel => exact ⟨k + 1, n + nq, by omega, by go_num, rfl⟩
      case measure => simp [intOf]; omega
    · go_wp2
      go_ret
      exact ⟨rfl, n, rfl⟩

end Go.Proofs.YtlodenfdcckemaaDoor
