/-
  Lists of lists held against each other (where there is no search: never beside SolS).
-/
import Derived.Test.YtlodenfdcckemaaSame1
import Derived.Test.YtlodenfdcckemaaMk
import Derived.Test.YtlodenfdcckemaaLst
import Derived.Laws.OwnMore
namespace Go.Proofs.Ytlodenfdcckemaa
open Go.RowKit

theorem MadeS.lists {w : World} {base : Nat} {v : Value} {vs : List Value} {cs : List (List Int)} (h : MadeS w base v vs cs) : ∃ ao cap, v = .slice ao cs.length cap ∧ ListsAt w w.heap.size ao cs ∧ cs.length ≤ cap := by
  have hlen := h.len
  rcases h.oe with ⟨rfl, h0⟩ | ⟨g, cap, rfl, hb, h63, hr⟩
  · have : cs = [] := by rw [h0] at hlen; simpa using hlen.symm
    subst this
    exact ⟨none, 0, rfl, fun h => absurd rfl h, Nat.le_refl _⟩
  · refine ⟨some ⟨g, 0, none⟩, cap, by rw [hlen], fun hne => ⟨g, 0, rfl, hr.lt, fun i hi => ?_⟩, by rw [← hlen]; exact hr.le⟩
    have hi' : i < vs.length := by omega
    obtain ⟨A, C, h1, h2⟩ := (h.ls i hi').ints (Nat.le_refl _)
    exact ⟨A, C, by rw [Nat.zero_add, hr.cell hi' undef, h1], h2⟩

theorem own_intsAt {w : World} {base : Nat} {v : Value} {zs : List Int} (h : Own w base 3 v (ints zs)) : ∃ ao cap, v = .slice ao zs.length cap ∧ IntsAt w w.heap.size ao zs := h.ints (Nat.le_refl _)

theorem ints_drewN {w : World} {ao : Option Addr} {zs : List Int} (h : IntsAt w w.heap.size ao zs) (n : Nat) : IntsAt (w.drewN n) (w.drewN n).heap.size ao zs := h

set_option maxHeartbeats 1000000 in
theorem slists_any (a1 a2 : Option Addr) (c1 c2 : Nat) (cs : List (List Int)) (w : World) (h1 : ListsAt w w.heap.size a1 cs) (h2 : ListsAt w w.heap.size a2 cs) (hl : cs.length ≤ 4611686018427387904) (hc : ∀ c ∈ cs, c.length ≤ 1000) :
    Calls Try.prog 23 #[.slice a1 cs.length c1, .slice a2 cs.length c2] w fun e w' => e = .returned (.bool true) ∧ ∃ n, w' = w.drewN n := by
  have hne : ((cs.length : Int) != (cs.length : Int)) = false := by simp
  go_enter Try.func23, Try.ntmps23
  go_wp2
  go_loopw [5] (fun i wr => ∃ (k n : Nat), k ≤ cs.length ∧ i = .int .i64 k ∧ wr = w.drewN n) (fun i _ => cs.length - (intOf i).toNat)
  case atStart => exact ⟨0, 0, by omega, rfl, rfl⟩
  case round =>
    obtain ⟨k, n, hk, rfl, rfl⟩ := hrel
    by_cases hlt : k < cs.length
    · obtain ⟨g1, o1, rfl, hg1, hc1⟩ := h1 (by intro e; rw [e] at hlt; simp at hlt)
      obtain ⟨g2, o2, rfl, hg2, hc2⟩ := h2 (by intro e; rw [e] at hlt; simp at hlt)
      obtain ⟨A1, C1, f1, i1⟩ := hc1 k hlt
      obtain ⟨A2, C2, f2, i2⟩ := hc2 k hlt
      have k1 : (w.drewN n).cell? ⟨g1, o1 + k, none⟩ = _ := f1
      have k2 : (w.drewN n).cell? ⟨g2, o2 + k, none⟩ = _ := f2
      have hcl : (cs.getD k []).length ≤ 1000 := by
        rw [getD_lt _ _ _ hlt]; exact hc _ (List.getElem_mem hlt)
      generalize cs.getD k [] = zs at *
      have i1' : IntsAt (w.drewN n) (w.drewN n).heap.size A1 zs := i1
      have i2' : IntsAt (w.drewN n) (w.drewN n).heap.size A2 zs := i2
      clear hc1 hc2 f1 f2 i1 i2
      generalize hw3 : w.drewN n = w3 at *
      have HW : Hid (w.drewN n = w3) := hw3
      clear hw3
      go_wp2
      go_quiet ((go_at_call 14; exact Calls.quiet_of (same_any A1 A2 C1 C2 zs _ (ints_drewN i1' _) (ints_drewN i2' _) hcl)))
      go_wp2
      go_roundw
      case rel => exact ⟨k + 1, n + nq, by omega, by go_num, by rw [← HW.out, World.drewN_drewN]⟩
      case measure => simp [intOf]; omega
    · go_wp2
      go_ret
      exact ⟨rfl, n, rfl⟩

end Go.Proofs.Ytlodenfdcckemaa
