/-
  The walks of the sets of literals.
-/
import Derived.Test.YtlodenfdcckemaaDoorH10
import Derived.Test.YtlodenfdcckemaaDoorH11
import Derived.Laws.Bits64b
import Derived.Laws.BitsAllLaws
namespace Go.Proofs.YtlodenfdcckemaaDoor
open Go.RowKit

/-- A set as a value. -/
abbrev sv (s : Nat) : Value := .int .u64 s

theorem opp_spell (s : Nat) (hs : s < 18446744073709551616) : bits BinOp.or IntKind.u64 (IntKind.u64.wrap (bits BinOp.and IntKind.u64 (s : Int) 6148914691236517205 * 2)) (bits BinOp.and IntKind.u64 ((s : Int) / 2) 6148914691236517205) = ((opp s : Nat) : Int) := by
  have e1 : bits BinOp.and IntKind.u64 (s : Int) 6148914691236517205 = ((s &&& 6148914691236517205 : Nat) : Int) := bits_and_u64_nat s 6148914691236517205 hs (by decide)
  have e2 : bits BinOp.and IntKind.u64 ((s : Int) / 2) 6148914691236517205 = ((s / 2 &&& 6148914691236517205 : Nat) : Int) := bits_and_u64_nat (s / 2) 6148914691236517205 (by omega) (by decide)
  have h1 : s &&& 6148914691236517205 ≤ 6148914691236517205 := Nat.and_le_right
  have h2 : s / 2 &&& 6148914691236517205 ≤ 6148914691236517205 := Nat.and_le_right
  rw [e1, e2, IntKind.wrap_u64]
  have e3 : ((s &&& 6148914691236517205 : Nat) : Int) * 2 % 18446744073709551616 = (((s &&& 6148914691236517205) * 2 : Nat) : Int) := by omega
  rw [e3, bits_or_u64_nat _ _ (by omega) (by omega)]
  rfl

theorem within_spell (a b : Nat) (ha : a < 18446744073709551616) (hb : b < 18446744073709551616) : (bits BinOp.andNot IntKind.u64 (a : Int) (b : Int) == 0) = within a b := by
  rw [u64_andNot_nat a b ha hb]
  unfold within dif
  rw [Bool.eq_iff_iff, beq_iff_eq, beq_iff_eq]
  omega

theorem dif_spell (a b : Nat) (ha : a < 18446744073709551616) (hb : b < 18446744073709551616) : bits BinOp.andNot IntKind.u64 (a : Int) (b : Int) = ((dif a b : Nat) : Int) := u64_andNot_nat a b ha hb

theorem low_spell (s : Nat) (hs : s < 18446744073709551616) (h0 : s ≠ 0) : bits BinOp.and IntKind.u64 (s : Int) ((s : Int) - 1) = ((s &&& (s - 1) : Nat) : Int) := by
  rw [show (s : Int) - 1 = ((s - 1 : Nat) : Int) by omega, bits_and_u64_nat s (s - 1) hs (by omega)]

theorem single_spell (s : Nat) (hs : s < 18446744073709551616) (h0 : ¬ s = 0) : ((s : Int) != 0 && bits BinOp.and IntKind.u64 (s : Int) ((s : Int) - 1) == 0) = single s := by
  rw [low_spell s hs h0]
  unfold single
  rw [Bool.eq_iff_iff]
  simp only [Bool.and_eq_true, bne_iff_ne, ne_eq, beq_iff_eq]
  omega

set_option maxHeartbeats 400000 in
theorem opposites_any (s : Nat) (hs : s < 18446744073709551616) (w : World) :
    Calls Tryd.prog 70 #[sv s] w fun e w' => e = .returned (sv (opp s)) ∧ w' = w := by
  go_enter Tryd.func70, Tryd.ntmps70
  go_wp2
  go_ret
  exact ⟨congrArg (fun x => Ending.returned (.int .u64 x)) (opp_spell s hs), rfl⟩

set_option maxHeartbeats 400000 in
theorem within_any (a b : Nat) (ha : a < 18446744073709551616) (hb : b < 18446744073709551616) (w : World) :
    Calls Tryd.prog 72 #[sv a, sv b] w fun e w' => e = .returned (.bool (within a b)) ∧ w' = w := by
  go_enter Tryd.func72, Tryd.ntmps72
  go_wp2
  go_ret
  exact ⟨by rw [← within_spell a b ha hb]; rfl, rfl⟩

set_option maxHeartbeats 400000 in
theorem single_any (s : Nat) (hs : s < 18446744073709551616) (w : World) :
    Calls Tryd.prog 71 #[sv s] w fun e w' => e = .returned (.bool (single s)) ∧ w' = w := by
  by_cases h0 : s = 0
  · subst h0
    go_enter Tryd.func71, Tryd.ntmps71
    go_wp2
    go_ret
    exact ⟨rfl, rfl⟩
  · have h1 : ((s : Int) != 0) = true := by simp [h0]
    have e := single_spell s hs h0
    rw [h1, Bool.true_and] at e
    have H0 : Hid (¬ s = 0) := h0
    have hge : 1 ≤ s := by omega
    clear h0
    go_enter Tryd.func71, Tryd.ntmps71
    go_wp2
    go_ret
    exact ⟨by rw [← e]; rfl, rfl⟩

theorem clash_lt (s : Nat) (hs : s < 18446744073709551616) : clash s < 18446744073709551616 := Nat.lt_of_le_of_lt Nat.and_le_left hs
theorem opp_lt64 (s : Nat) : opp s < 18446744073709551616 := by
  unfold opp
  have h1 : s &&& 6148914691236517205 ≤ 6148914691236517205 := Nat.and_le_right
  have h2 : s / 2 &&& 6148914691236517205 ≤ 6148914691236517205 := Nat.and_le_right
  exact Nat.or_lt_two_pow (n := 64) (by omega) (by omega)

set_option maxHeartbeats 400000 in
theorem clash_any (s : Nat) (hs : s < 18446744073709551616) (w : World) :
    Calls Tryd.prog 69 #[sv s] w fun e w' => e = .returned (sv (clash s)) ∧ w' = w := by
  have e := bits_and_u64_nat s (opp s) hs (opp_lt64 s)
  go_enter Tryd.func69, Tryd.ntmps69
  go_wp2_with (go_at_call 70; refine (opposites_any s hs _).mono ?_; rintro e w' ⟨rfl, rfl⟩)
  go_ret
  exact ⟨rfl, rfl⟩

set_option maxHeartbeats 400000 in
theorem lplace_any (l : Int) (hl : l ≠ 0) (h1 : l ≤ 20) (h2 : -20 ≤ l) (w : World) :
    Calls Tryd.prog 67 #[.int .i64 l] w fun e w' => e = .returned (.int .i64 (pl l)) ∧ w' = w := by
  have HL : Hid (l ≠ 0) := hl
  clear hl
  by_cases h : l < 0
  · have HP : Hid ((pl l : Int) = 2 * (-l - 1) + 1) := by unfold Hid pl; rw [if_pos h]; omega
    go_enter Tryd.func67, Tryd.ntmps67
    go_wp2
    go_ret
    exact ⟨by rw [HP.out]; rfl, rfl⟩
  · have hh := HL.out
    have HP : Hid ((pl l : Int) = 2 * (l - 1)) := by unfold Hid pl; rw [if_neg h]; omega
    clear hh
    go_enter Tryd.func67, Tryd.ntmps67
    go_wp2
    go_ret
    exact ⟨by rw [HP.out]; rfl, rfl⟩

theorem maskOf_take_succ (c : List Int) (k : Nat) (hk : k < c.length) : maskOf (c.take (k + 1)) = maskOf (c.take k) ||| 2 ^ pl (c.getD k 0) := by
  rw [List.take_succ_eq_append_getElem hk, maskOf_append, getD_lt _ _ _ hk]
  simp [maskOf]

theorem shl_one {n : Nat} (h : n < 64) : IntKind.u64.wrap ((2 : Int) ^ n) = ((2 ^ n : Nat) : Int) := by
  rw [IntKind.wrap_u64]
  have h1 : 2 ^ n < 2 ^ 64 := Nat.pow_lt_pow_right (by decide) h
  rw [show ((2 ^ n : Nat) : Int) = (2 : Int) ^ n by simp] at *
  have h2 : ((2 ^ n : Nat) : Int) < ((2 ^ 64 : Nat) : Int) := by exact_mod_cast h1
  have h3 : ((2 ^ n : Nat) : Int) = (2 : Int) ^ n := by simp
  have h4 : (0 : Int) ≤ ((2 ^ n : Nat) : Int) := Int.natCast_nonneg _
  rw [h3] at h2 h4
  exact Int.emod_eq_of_lt h4 h2

set_option maxHeartbeats 1000000 in
theorem litsOf_any (V : Nat) (hV : V ≤ 20) (ao : Option Addr) (cap : Nat) (c : List Int) (w : World) (B : Nat) (hc : IntsAt w B ao c) (hlit : ∀ l ∈ c, IsLit V l) (hlen : c.length ≤ 4611686018427387904) :
    Calls Tryd.prog 44 #[.slice ao c.length cap] w fun e w' => e = .returned (sv (maskOf c)) ∧ w' = w := by
  go_enter Tryd.func44, Tryd.ntmps44
  go_wp2
  go_loop [3, 8] (fun s i => ∃ k : Nat, k ≤ c.length ∧ i = .int .i64 k ∧ s = sv (maskOf (c.take k))) (fun _ i => c.length - (intOf i).toNat)
  case atStart => exact ⟨0, Nat.zero_le _, rfl, rfl⟩
  case round =>
    obtain ⟨k, hk, rfl, rfl⟩ := hrel
    by_cases hlt : k < c.length
    · obtain ⟨b, o, rfl, hb, hcell⟩ := hc (by intro h; rw [h] at hlt; simp at hlt)
      have hck := hcell k hlt
      have hx := hlit (c.getD k 0) (by rw [getD_lt _ _ _ hlt]; exact List.getElem_mem hlt)
      have hm := lt64 hV (maskOf_lt (c := c.take k) (V := V) (fun l hl => hlit l (List.mem_of_mem_take hl)))
      have hst := maskOf_take_succ c k hlt
      generalize c.getD k 0 = x at hck hx hst
      generalize maskOf (c.take k) = m at hm hst ⊢
      have hpl := pl_lt hx
      obtain ⟨hx0, hx1, hx2⟩ := hx
      have hpl2 : pl x < 64 := by omega
      have hpw : Hid _ := shl_one hpl2
      have hor : Hid (bits BinOp.or IntKind.u64 (m : Int) ((2 ^ pl x : Nat) : Int) = ((m ||| 2 ^ pl x : Nat) : Int)) := bits_or_u64_nat _ _ hm (Nat.pow_lt_pow_right (by decide) hpl2)
      have HM : Hid (maskOf (c.take (k + 1)) = m ||| 2 ^ pl x) := hst
      clear hcell hc hlit hst
      have HX : Hid (x ≠ 0) := hx0
      clear hx0
      go_wp2_with (go_at_call 67; refine (lplace_any x HX.out (by omega) (by omega) _).mono ?_; rintro e w' ⟨rfl, rfl⟩)
      go_round
      case rel =>
        refine ⟨k + 1, by omega, by go_num, ?_⟩
        rw [HM.out, sv, ← hor.out, ← hpw.out]
      case measure => simp [intOf]; omega
    · obtain rfl : k = c.length := by omega
      rw [List.take_length]
      go_wp2
      go_ret
      exact ⟨rfl, rfl⟩
end Go.Proofs.YtlodenfdcckemaaDoor
