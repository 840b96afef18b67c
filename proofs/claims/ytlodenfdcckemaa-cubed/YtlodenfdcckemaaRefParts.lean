/-
  The walks of the document's weights.
-/
import Derived.Test.YtlodenfdcckemaaRows1
import Derived.Test.YtlodenfdcckemaaVars
namespace Go.Proofs.Ytlodenfdcckemaa
open Go.RowKit

attribute [local go_sem] run_store_float

theorem wrap_pow (q : Nat) (hq : q ≤ 20) : wrap64 (2 ^ q) = ((2 ^ q : Nat) : Int) := by
  have hw : ∀ q : Fin 21, wrap64 (2 ^ q.1) = ((2 ^ q.1 : Nat) : Int) := by decide +kernel
  exact hw ⟨q, by omega⟩

set_option maxHeartbeats 1000000 in
theorem parts_any (n : Nat) (ao : Option Addr) (cap : Nat) (cs : List (List Int)) (l : Int) (w : World) (hc : ListsAt w w.heap.size ao cs) (hg : Good n cs) :
    Calls Try.prog 31 #[.agg #[.int .i64 n, .slice ao cs.length cap], .int .i64 l] w fun e w' => e = .returned (.int .i64 (partsOf cs l)) ∧ Below w.heap.size w w' := by
  have hm := hg.many
  have hw1 : Below w.heap.size w (w.alloc (.cells #[.int .i64 n, .slice ao cs.length cap] 24)) := (Below.refl _ _).alloc (Nat.le_refl _) _
  go_enter Try.func31, Try.ntmps31
  go_wp2
  go_loop [6, 5] (fun i s => ∃ (k : Nat), k ≤ cs.length ∧ i = .int .i64 k ∧ s = .int .i64 (partsOf (cs.take k) l)) (fun i _ => cs.length - (intOf i).toNat)
  case atStart => exact ⟨0, by omega, rfl, by simp [partsOf]⟩
  case round =>
    obtain ⟨k, hk, rfl, rfl⟩ := hrel
    by_cases hlt : k < cs.length
    · obtain ⟨b, o, rfl, hbl, hcc⟩ := hc (by intro h; rw [h] at hlt; simp at hlt)
      obtain ⟨A, C, hck, hci⟩ := hcc k hlt
      have hmem : cs.getD k [] ∈ cs := by rw [getD_lt _ _ _ hlt]; exact List.getElem_mem hlt
      have hcl := hg.long _ hmem
      have hnx : Hid (partsOf (cs.take (k + 1)) l = partsOf (cs.take k) l + partsIn (cs.getD k []).length (cs.getD k []) l) := partsOf_take cs k hlt l
      have hpb := hg.parts_take_le k l
      obtain ⟨c, hx⟩ : ∃ x, x = cs.getD k [] := ⟨_, rfl⟩
      rw [← hx] at hck hci hcl hnx
      clear hx hcc hmem
      obtain ⟨P, hP⟩ : ∃ P, P = partsOf (cs.take k) l := ⟨_, rfl⟩
      rw [← hP] at hpb hnx ⊢
      obtain ⟨q, hq⟩ : ∃ q, q = 20 - c.length := ⟨_, rfl⟩
      have hq1 : (20 : Int) - (c.length : Int) = (q : Int) := by omega
      have hwp := wrap_pow q (by omega)
      have h2p : 2 ^ q ≤ 1048576 := Nat.pow_le_pow_right (n := 2) (by omega) (show q ≤ 20 by omega)
      obtain ⟨e2, he⟩ : ∃ e2, e2 = 2 ^ q := ⟨_, rfl⟩
      rw [← he] at hwp h2p
      have HE : Hid (e2 = 2 ^ (20 - c.length)) := by rw [← hq]; exact he
      clear hP he hq
      go_wp2
      go_loop [7, 5] (fun i s => ∃ (j : Nat), j ≤ c.length ∧ i = .int .i64 j ∧ s = .int .i64 ((P + partsIn c.length (c.take j) l : Nat) : Int)) (fun i _ => c.length - (intOf i).toNat)
      case atStart => exact ⟨0, by omega, rfl, by simp [partsIn]⟩
      case round =>
        obtain ⟨j, hj, rfl, rfl⟩ := hrel
        by_cases hjl : j < c.length
        · obtain ⟨b', o', rfl, hb', hcell'⟩ := hci (by intro h; rw [h] at hjl; simp at hjl)
          have hcj := hcell' j hjl
          have hst := partsIn_take c.length c j hjl l
          have hpi := partsIn_le c.length (c.take j) l (by simp; omega)
          obtain ⟨x, hx⟩ : ∃ x, x = c.getD j 0 := ⟨_, rfl⟩
          rw [← hx] at hcj hst
          rw [← HE.out] at hst
          have Hst : Hid _ := hst
          obtain ⟨p, hp⟩ : ∃ p, p = partsIn c.length (c.take j) l := ⟨_, rfl⟩
          rw [← hp] at hpi Hst ⊢
          clear hst hx hp hcell'
          have hnn : (0 : Int) ≤ ((P + p : Nat) : Int) := by omega
          have hbb : ((P + p : Nat) : Int) ≤ 5000000000 := by omega
          by_cases hxl : x = l
          · have ht : (x == l) = true := by simp [hxl]
            have HX : Hid (l = x) := hxl.symm
            clear hxl
            generalize hS : P + p = S at *
            have HSS : Hid _ := hS
            clear hS
            go_wp2
            go_round
            case rel => exact ⟨j + 1, by omega, by go_num, by rw [Hst.out, if_pos HX.out, ← Nat.add_assoc, HSS.out]; go_num⟩
            case measure => simp [intOf]; omega
          · have ht : (x == l) = false := by simp [hxl]
            have HX : Hid (¬ l = x) := fun e => hxl e.symm
            clear hxl
            go_wp2
            go_round
            case rel => exact ⟨j + 1, by omega, by go_num, by rw [Hst.out, if_neg HX.out]; rfl⟩
            case measure => simp [intOf]; omega
        · obtain rfl : j = c.length := by omega
          go_wp2
          go_round
          case rel => exact ⟨k + 1, by omega, by go_num, by rw [hnx.out, List.take_length]⟩
          case measure => simp [intOf]; omega
    · obtain rfl : k = cs.length := by omega
      go_wp2
      go_ret
      exact ⟨rfl, hw1⟩
end Go.Proofs.Ytlodenfdcckemaa
