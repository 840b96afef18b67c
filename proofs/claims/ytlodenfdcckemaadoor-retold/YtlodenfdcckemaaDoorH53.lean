/-
  Two lists of lists with the same numbers: they are found the same.
-/
import Derived.Test.YtlodenfdcckemaaDoorH51
import Derived.Test.YtlodenfdcckemaaDoorH52
import Derived.Deep.QuietTactic
import Derived.BigQuiet
namespace Go.Proofs.YtlodenfdcckemaaDoor
open Go.RowKit

set_option maxHeartbeats 2000000 in
theorem ksame_any (ao bo : Option Addr) (ca cb : Nat) (cs : List (List Int)) (w : World) (ha : ListsAt w w.heap.size ao cs) (hb : ListsAt w w.heap.size bo cs) (hl : cs.length ≤ 1000) (hc : ∀ c ∈ cs, c.length ≤ 1000) :
    Calls Tryd.prog 30 #[.slice ao cs.length ca, .slice bo cs.length cb] w fun e w' => e = .returned (.bool true) ∧ ∃ n, w' = w.drewN n := by
  have hne : ((cs.length : Int) != (cs.length : Int)) = false := by simp
  go_enter Tryd.func30, Tryd.ntmps30
  go_wp2
  go_loopw [5] (fun i wr => ∃ (k n : Nat), k ≤ cs.length ∧ i = .int .i64 k ∧ wr = w.drewN n) (fun i _ => cs.length - (intOf i).toNat)
  case atStart => exact ⟨0, 0, by omega, rfl, rfl⟩
  case round =>
    obtain ⟨k, n, hk, rfl, rfl⟩ := hrel
    by_cases hlt : k < cs.length
    · obtain ⟨b, o, rfl, hbl, hca⟩ := ha (by intro h; rw [h] at hlt; simp at hlt)
      obtain ⟨b', o', rfl, hbl', hcb⟩ := hb (by intro h; rw [h] at hlt; simp at hlt)
      obtain ⟨A1, C1, h1, i1⟩ := hca k hlt
      obtain ⟨A2, C2, h2, i2⟩ := hcb k hlt
      have hcl : (cs.getD k []).length ≤ 1000 := hc _ (mem_lists hlt)
      generalize cs.getD k [] = zs at *
      have hnz : ((zs.length : Int) != (zs.length : Int)) = false := by simp
      have H1 : Hid (w.cell? ⟨b, o + k, none⟩ = some (.slice A1 zs.length C1)) := h1
      have H2 : Hid (w.cell? ⟨b', o' + k, none⟩ = some (.slice A2 zs.length C2)) := h2
      have I1 : Hid (IntsAt w w.heap.size A1 zs) := i1
      have I2 : Hid (IntsAt w w.heap.size A2 zs) := i2
      clear hca hcb ha hb i1 i2
      go_wp2
      go_quiet (fail)
      clear h1 h2
      go_wp2
      go_loopw [6] (fun i wr => ∃ (j m : Nat), j ≤ zs.length ∧ i = .int .i64 j ∧ wr = w.drewN m) (fun i _ => zs.length - (intOf i).toNat)
      case atStart => exact ⟨0, n + nq, by omega, rfl, World.drewN_drewN ..⟩
      case round =>
        obtain ⟨j, m, hj, rfl, rfl⟩ := hrel
        have h1 := H1.out
        have h2 := H2.out
        by_cases hlj : j < zs.length
        · obtain ⟨d, p, rfl, hdl, hda⟩ := I1.out (by intro h; rw [h] at hlj; simp at hlj)
          obtain ⟨d', p', rfl, hdl', hdb⟩ := I2.out (by intro h; rw [h] at hlj; simp at hlj)
          have x1 := hda j hlj
          have x2 := hdb j hlj
          generalize zs.getD j 0 = x at *
          have hnx : (x != x) = false := by simp
          clear hda hdb
          go_wp2
          go_quiet (fail)
          go_wp2
          go_roundw
          case rel => exact ⟨j + 1, m + nq, by omega, by go_num, rfl⟩
          case measure => simp [intOf]; omega
        · go_wp2
          go_roundw
          case rel => exact ⟨k + 1, m, by omega, by go_num, rfl⟩
          case measure => simp [intOf]; omega
    · go_wp2
      go_ret
      exact ⟨rfl, n, rfl⟩
end Go.Proofs.YtlodenfdcckemaaDoor
