/-
  Two lists of lists with the same numbers: they are found the same.
-/
import Derived.Test.YtlodenfdcckemaaDoorH16
import Derived.Test.YtlodenfdcckemaaDoorH5
import Derived.Test.YtlodenfdcckemaaDoorH24
import Derived.Deep.QuietTactic
import Derived.BigQuiet
namespace Go.Proofs.YtlodenfdcckemaaDoor
open Go.RowKit

theorem IntsAt.drewN {w : World} {B : Nat} {ao : Option Addr} {zs : List Int} (h : IntsAt w B ao zs) (n : Nat) : IntsAt (w.drewN n) B ao zs := h

set_option maxHeartbeats 1000000 in
theorem sameLists_any (b1 b2 : Nat) (v1 v2 p1 p2 : Value) (vs1 vs2 : List Value) (cs : List (List Int)) (x1 x2 : List Int) (w : World) (h1 : Made w b1 v1 p1 vs1 ⟨cs, x1⟩) (h2 : Made w b2 v2 p2 vs2 ⟨cs, x2⟩) (hl : cs.length ≤ 1000) (hc : ∀ c ∈ cs, c.length ≤ 1000) :
    Calls Tryd.prog 39 #[v1, v2] w fun e w' => e = .returned (.bool true) ∧ ∃ n, w' = w.drewN n := by
  obtain ⟨a1, c1, rfl⟩ := h1.oe.shape
  obtain ⟨a2, c2, rfl⟩ := h2.oe.shape
  have l1 : vs1.length = cs.length := h1.len
  have l2 : vs2.length = cs.length := h2.len
  have hat1 := h1.oe.at
  have hat2 := h2.oe.at
  have hls1 := h1.ls
  have hls2 := h2.ls
  rw [l1] at hat1 hls1 ⊢
  rw [l2] at hat2 hls2 ⊢
  clear h1 h2
  have hne : ((cs.length : Int) != (cs.length : Int)) = false := by simp
  go_enter Tryd.func39, Tryd.ntmps39
  go_wp2
  go_loopw [5] (fun i wr => ∃ (k n : Nat), k ≤ cs.length ∧ i = .int .i64 k ∧ wr = w.drewN n) (fun i _ => cs.length - (intOf i).toNat)
  case atStart => exact ⟨0, 0, by omega, rfl, rfl⟩
  case round =>
    obtain ⟨k, n, hk, rfl, rfl⟩ := hrel
    by_cases hlt : k < cs.length
    · obtain ⟨g1, d1, e1, hg1, hc1⟩ := hat1 (by omega)
      obtain ⟨g2, d2, e2, hg2, hc2⟩ := hat2 (by omega)
      simp only [Value.slice.injEq] at e1 e2
      obtain ⟨rfl, -, rfl⟩ := e1
      obtain ⟨rfl, -, rfl⟩ := e2
      have k1 : (w.drewN n).cell? ⟨g1, k, none⟩ = _ := hc1 k hlt
      have k2 : (w.drewN n).cell? ⟨g2, k, none⟩ = _ := hc2 k hlt
      obtain ⟨A1, C1, f1, i1⟩ := (hls1 k hlt).ints (Nat.le_refl _)
      obtain ⟨A2, C2, f2, i2⟩ := (hls2 k hlt).ints (Nat.le_refl _)
      rw [f1] at k1
      rw [f2] at k2
      have hcl : (cs.getD k []).length ≤ 1000 := by
        rw [getD_lt _ _ _ hlt]; exact hc _ (List.getElem_mem hlt)
      generalize cs.getD k [] = zs at *
      have i1' : IntsAt (w.drewN n) (w.drewN n).heap.size A1 zs := i1
      have i2' : IntsAt (w.drewN n) (w.drewN n).heap.size A2 zs := i2
      clear hc1 hc2 hat1 hat2 hls1 hls2 f1 f2 i1 i2
      generalize hw3 : w.drewN n = w3 at *
      have HW : Hid (w.drewN n = w3) := hw3
      clear hw3
      go_wp2
      go_quiet ((go_at_call 16; exact Calls.quiet_of (same_any A1 A2 C1 C2 zs _ (i1'.drewN _) (i2'.drewN _) hcl)))
      go_wp2
      go_roundw
      case rel => exact ⟨k + 1, n + nq, by omega, by go_num, by rw [← HW.out, World.drewN_drewN]⟩
      case measure => simp [intOf]; omega
    · go_wp2
      go_ret
      exact ⟨rfl, n, rfl⟩
end Go.Proofs.YtlodenfdcckemaaDoor
