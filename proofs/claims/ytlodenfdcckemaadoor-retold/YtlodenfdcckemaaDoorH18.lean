/-
  The list of a set: the walks of what it reaches in the library.
-/
import Derived.Test.YtlodenfdcckemaaDoorH12
import Derived.Test.YtlodenfdcckemaaDoorH9
import Derived.Shelf.Spec.TrailingZeros
import Derived.Laws.Bits128
namespace Go.Proofs.YtlodenfdcckemaaDoor
open Go.RowKit Go.Shelf

def ren29 : Go.Shelf.Ren := ⟨fun | 29 => 75 | n => n, fun | 0 => 0 | 3 => 3 | 4 => 4 | 5 => 5 | 22 => 70 | 25 => 131 | 54 => 132 | n => n, fun | 1 => 0 | n => n⟩

theorem lays29 : Go.Proofs.Lays7.n29 Tryd.prog ren29 := {
  mixed := by kernel_rfl
  f29 := Tryd.func75.trans (congrArg some (by kernel_rfl))
  t0 := Tryd.underlying0
  a0 := Tryd.isAgg0
  z0 := Tryd.sizeOf0
  v0 := Tryd.zeroValue0
  i0 := by kernel_rfl
  t3 := Tryd.underlying3
  a3 := Tryd.isAgg3
  z3 := Tryd.sizeOf3
  v3 := Tryd.zeroValue3
  i3 := by kernel_rfl
  t4 := Tryd.underlying4
  a4 := Tryd.isAgg4
  z4 := Tryd.sizeOf4
  v4 := Tryd.zeroValue4
  i4 := by kernel_rfl
  t5 := Tryd.underlying5
  a5 := Tryd.isAgg5
  z5 := Tryd.sizeOf5
  v5 := Tryd.zeroValue5
  i5 := by kernel_rfl
  t22 := Tryd.underlying70
  a22 := Tryd.isAgg70
  z22 := Tryd.sizeOf70
  v22 := Tryd.zeroValue70
  i22 := by kernel_rfl
  t25 := Tryd.underlying131
  a25 := Tryd.isAgg131
  z25 := Tryd.sizeOf131
  v25 := Tryd.zeroValue131
  i25 := by kernel_rfl
  t54 := Tryd.underlying132
  a54 := Tryd.isAgg132
  z54 := Tryd.sizeOf132
  g1 := by kernel_rfl }

/-- The library's table lies as its initialiser lays it. -/
abbrev Tab (w : World) : Prop := TabAt 0 Lib.deBruijn64tab w

theorem tz_any (s : Nat) (hs : s < 18446744073709551616) (w : World) (hT : Tab w) : Calls Tryd.prog 75 #[sv s] w fun e w' => e = .returned (.int .i64 (Lib.ctz 64 s)) ∧ w' = w :=
  Any7.bits_TrailingZeros64 lays29 s hs w (fun _ => hT)

theorem ones_end (a : Int) (v : Value) (h : v = .int .i64 (bits .and .i64 a 127)) : ∃ n : Nat, n ≤ 127 ∧ Ending.returned v = .returned (.int .i64 n) := by
  refine ⟨(a % 128).toNat, by omega, ?_⟩
  rw [h, i64_and127, show (((a % 128).toNat : Nat) : Int) = a % 128 by omega]

set_option maxHeartbeats 1000000 in
theorem ones_any (s : Nat) (w : World) : Calls Tryd.prog 73 #[sv s] w fun e w' => (∃ n : Nat, n ≤ 127 ∧ e = .returned (.int .i64 n)) ∧ w' = w := by
  go_enter Tryd.func73, Tryd.ntmps73
  go_wp2
  go_ret
  refine ⟨ones_end _ _ rfl, rfl⟩

theorem at_any (n : Nat) (hn : n < 64) (w : World) : Calls Tryd.prog 74 #[.int .i64 n] w fun e w' => e = .returned (.int .i64 (atp n)) ∧ w' = w := by
  by_cases h : n % 2 = 1
  · have HP : Hid (atp n = -((n : Int) / 2 + 1)) := by unfold Hid atp; rw [if_pos h]; omega
    have h1 : (((n : Int) % 2) == 1) = true := by simp; omega
    clear h
    go_enter Tryd.func74, Tryd.ntmps74
    go_wp2
    go_ret
    exact ⟨by rw [HP.out]; rfl, rfl⟩
  · have HP : Hid (atp n = (n : Int) / 2 + 1) := by unfold Hid atp; rw [if_neg h]; omega
    have h1 : (((n : Int) % 2) == 1) = false := by simp; omega
    clear h
    go_enter Tryd.func74, Tryd.ntmps74
    go_wp2
    go_ret
    exact ⟨by rw [HP.out]; rfl, rfl⟩

theorem Tab.below {w w' : World} {B : Nat} (h : Tab w) (hb : Below B w w') (hB : 0 < B) : Tab w' := fun j hj => (hb.cell (p := ⟨0, j, none⟩) hB).trans (h j hj)

theorem low_lt {s : Nat} (h0 : s ≠ 0) : s &&& (s - 1) < s := Nat.lt_of_le_of_lt Nat.and_le_right (by omega)

theorem ctz_lt {s : Nat} (hs : s < 18446744073709551616) (h0 : s ≠ 0) : Lib.ctz 64 s < 64 := by
  unfold Lib.ctz
  rw [if_neg h0]
  obtain ⟨_, _, h⟩ := Lib.ctzFrom_spec 64 s (by omega) hs
  exact h

theorem litsOf_len (k s : Nat) : (litsOf k s).length ≤ k := by
  unfold litsOf
  rw [List.length_map]
  exact Nat.le_trans (List.length_filter_le _ _) (by simp)

set_option maxRecDepth 100000 in
set_option maxHeartbeats 2000000 in
theorem list_any (s : Nat) (hs : s < 18446744073709551616) (w : World) (hT : Tab w) (hw0 : 0 < w.heap.size) :
    Calls Tryd.prog 49 #[sv s] w fun e w' => ∃ v, e = .returned v ∧ Own w' w.heap.size 3 v (ints (litsOf 64 s)) ∧ Below w.heap.size w w' := by
  have c1 := ones_any s w
  go_enter Tryd.func49, Tryd.ntmps49
  go_wp2_with (first
    | (go_at_call 73; refine c1.mono ?_; rintro e w' ⟨⟨m, hm, rfl⟩, hw'⟩; obtain rfl := hw'.symm)
    | (at_make; refine wpList_make_blk2 _ rfl (.const (.int .i64 0)) (.tmp 6) 24 rfl 3 (.int .i64 0) 8 Tryd.underlying24 Tryd.info3 rfl .i64 .i64 0 m _ _ rfl rfl rfl rfl (Nat.zero_le _) (by omega) (by omega) ?_; intro w1 hB1 hb1 hs1))
  have HO1 : Hid (Own w1 w.heap.size 3 (.slice (some ⟨w.heap.size, 0, none⟩) 0 m) (ints [])) := Or.inr ⟨w.heap.size, m, rfl, Nat.le_refl _, by unfold maxLen; omega, ⟨_, hB1, by simp⟩⟩
  have HB1 : Hid (Below w.heap.size w w1) := hb1
  have HTb : Hid (Tab w) := hT
  clear hB1 hs1 c1 hT
  go_loopw [3, 4] (fun l r wr => ∃ (t : Nat) (done : List Int), r = sv t ∧ t < 18446744073709551616 ∧ Hid (litsOf 64 s = done ++ litsOf 64 t) ∧ Hid (Own wr w.heap.size 3 l (ints done)) ∧ Hid (Below w.heap.size w wr)) (fun _ r _ => (intOf r).toNat)
  case atStart => exact ⟨s, [], rfl, hs, rfl, HO1, HB1⟩
  case round =>
    obtain ⟨t, done, rfl, ht, HL, HO, HBe⟩ := hrel
    by_cases h0 : t = 0
    · subst h0
      have HE : Hid (litsOf 64 s = done) := by unfold Hid; rw [HL.out, litsOf_zero, List.append_nil]
      go_wp2
      go_ret
      exact ⟨_, rfl, by rw [HE.out]; exact HO.out, HBe.out⟩
    · have h0' : ((t : Int) != 0) = true := by simp [h0]
      have hge : 1 ≤ t := by omega
      have hct := ctz_lt ht h0
      have c2 := tz_any t ht wr (HTb.out.below HBe.out hw0)
      have c3 := at_any (Lib.ctz 64 t) hct
      have hlow := low_spell t ht h0
      have HLt : Hid (t &&& (t - 1) < t) := low_lt h0
      have HL2 : Hid (litsOf 64 s = (done ++ [atp (Lib.ctz 64 t)]) ++ litsOf 64 (t &&& (t - 1))) := by
        unfold Hid
        rw [HL.out, litsOf_step ht h0]
        simp
      have hdl : done.length ≤ 64 := by
        have h1 := litsOf_len 64 s
        rw [HL.out] at h1
        simp at h1
        omega
      generalize Lib.ctz 64 t = z at *
      generalize atp z = x at *
      have OA := HO.out.alloc (.cells #[.int .i64 x] 3)
      have NA : Blk (wr.alloc (.cells #[.int .i64 x] 3)) wr.heap.size 3 [.int .i64 x] := blk_new wr [.int .i64 x] 3
      have BA := alloc_below wr (.cells #[.int .i64 x] 3)
      have hsz := HBe.out.size
      have HN0 : Hid (t ≠ 0) := h0
      clear h0
      go_wp2_with (first
        | (go_at_call 75; refine c2.mono ?_; rintro e w' ⟨rfl, hw'⟩; obtain rfl := hw'.symm)
        | (go_at_call 74; refine (c3 _).mono ?_; rintro e w' ⟨rfl, hw'⟩; obtain rfl := hw'.symm)
        | (at_builtin; refine wpList_append_new (.tmp 15) (.tmp 19) 24 3 (.int .i64 0) 8 Tryd.underlying24 Tryd.info3 rfl w.heap.size wr.heap.size _ _ [.int .i64 x] 1 done.length (by simp) rfl (by decide) (by rfl) (by rfl) OA NA (by intro u hu; simp at hu; rw [hu]; rfl) (by unfold maxLen; omega) (by omega) (by rw [alloc_size]; omega) ?_; intro g5 cap5 w5 hO5 hgr5 hat5 hlt5))
      go_roundw
      case rel =>
        refine ⟨t &&& (t - 1), done ++ [x], rfl, Nat.lt_trans HLt.out ht, HL2, ?_, ?_⟩
        · rw [show ints (done ++ [x]) = ints done ++ [.int .i64 x] by simp]
          exact hO5
        · refine HBe.out.trans ((BA.mono hsz).trans ⟨hgr5.os, hgr5.tape, hgr5.output, hgr5.size, fun j hj => hgr5.block j (by rw [alloc_size]; omega) (fun e => ?_)⟩)
          have := (OA.lt e.symm).1
          omega
      case measure => have := HLt.out; simp [intOf]; omega
end Go.Proofs.YtlodenfdcckemaaDoor
