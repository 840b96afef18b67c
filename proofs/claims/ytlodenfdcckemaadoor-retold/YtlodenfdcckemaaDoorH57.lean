/-
  Figures and numbers, on both sides.
-/
import Derived.Test.YtlodenfdcckemaaDoorH9
namespace Go.Proofs.YtlodenfdcckemaaDoor
open Go.RowKit

theorem value_snoc (l : Bytes) (b : UInt8) : value (l ++ [b]) = 10 * value l + (b.toNat - 48) := by simp [value]
theorem take_snoc {l : Bytes} {k : Nat} {b : UInt8} (h : l[k]? = some b) : l.take (k + 1) = l.take k ++ [b] := by rw [List.take_add_one, h]; rfl
theorem value_le (l : Bytes) (h : l.all figure = true) : value l + 1 ≤ 10 ^ l.length := by
  rw [← List.reverse_reverse l] at h ⊢
  generalize l.reverse = r at h ⊢
  induction r with
  | nil => simp [value]
  | cons b r ih =>
    simp only [List.reverse_cons, List.all_append, Bool.and_eq_true] at h
    have hb : figure b = true := by simpa using h.2
    have h1 := ih h.1
    rw [List.reverse_cons, value_snoc, List.length_append, List.length_singleton, Nat.pow_succ]
    simp [figure] at hb
    omega

/-- Behind k figures. -/
def Figd (l : Bytes) (k n : Nat) : Prop := n = value (l.take k) ∧ (l.take k).all figure = true
theorem figd_zero (l : Bytes) : Figd l 0 0 := by simp [Figd, value]
theorem figd_succ {l : Bytes} {k n : Nat} {b : UInt8} (h : Figd l k n) (hk : l[k]? = some b) (hb : figure b = true) : Figd l (k + 1) (10 * n + (b.toNat - 48)) := by
  obtain ⟨rfl, h2⟩ := h
  refine ⟨by rw [take_snoc hk, value_snoc], ?_⟩
  rw [take_snoc hk, List.all_append, h2]
  simp [hb]
theorem figd_le {l : Bytes} {k n : Nat} (h : Figd l k n) (hk : k ≤ 5) (hl : k ≤ l.length) : n ≤ 99999 := by
  obtain ⟨rfl, h2⟩ := h
  have := value_le _ h2
  rw [List.length_take, Nat.min_eq_left hl] at this
  have h3 : 10 ^ k ≤ 10 ^ 5 := Nat.pow_le_pow_right (by decide) hk
  omega
theorem figs_bad {l : Bytes} {k : Nat} {b : UInt8} (h : l[k]? = some b) (hb : figure b = false) : figs l = none := by
  have : l.all figure = false := by
    rw [List.all_eq_false]
    obtain ⟨hlt, e⟩ := List.getElem?_eq_some_iff.1 h
    exact ⟨b, e ▸ List.getElem_mem hlt, by simp [hb]⟩
  unfold figs
  split
  · rfl
  · rw [this]; rfl
theorem figs_good {l : Bytes} {n : Nat} (h : Figd l l.length n) (h1 : 1 ≤ l.length) (h6 : l.length ≤ 6) : figs l = some n := by
  obtain ⟨rfl, h2⟩ := h
  rw [List.take_length] at h2 ⊢
  unfold figs
  rw [if_neg (by omega), if_pos h2]
theorem figs_long {l : Bytes} (h : l.length < 1 ∨ 6 < l.length) : figs l = none := by unfold figs; rw [if_pos h]

theorem figs_le {l : Bytes} {n : Nat} (h : figs l = some n) : n ≤ 999999 := by
  unfold figs at h
  split at h
  · simp at h
  · rename_i hl
    split at h
    · rename_i ha
      simp at h
      have := value_le l ha
      have h3 : 10 ^ l.length ≤ 10 ^ 6 := Nat.pow_le_pow_right (by decide) (by omega)
      omega
    · simp at h

/-- -1 for none. -/
def figsI (l : Bytes) : Int := match figs l with | some n => n | none => -1

set_option maxHeartbeats 1000000 in
theorem refFigures_any (s : ByteArray) (hs : s.size ≤ 4000000) (w : World) :
    Calls Tryd.prog 90 #[.string s] w fun e w' => e = .returned (.int .i64 (figsI (bs s))) ∧ w' = w := by
  by_cases h1 : s.size < 1
  · go_enter Tryd.func90, Tryd.ntmps90
    go_wp2
    go_ret
    refine ⟨?_, rfl⟩
    rw [figsI, figs_long (Or.inl (by rw [← size_bs]; exact h1))]; rfl
  · by_cases h6 : 6 < s.size
    · go_enter Tryd.func90, Tryd.ntmps90
      go_wp2
      go_ret
      refine ⟨?_, rfl⟩
      rw [figsI, figs_long (Or.inr (by rw [← size_bs]; exact h6))]; rfl
    · go_enter Tryd.func90, Tryd.ntmps90
      go_wp2
      go_loop [3, 4] (fun n i => ∃ (k m : Nat), k ≤ s.size ∧ i = .int .i64 k ∧ n = .int .i64 m ∧ Hid (Figd (bs s) k m)) (fun _ i => s.size - (intOf i).toNat)
      case atStart => exact ⟨0, 0, by omega, rfl, rfl, figd_zero _⟩
      case round =>
        obtain ⟨k, m, hk, rfl, rfl, hf⟩ := hrel
        by_cases hlt : k < s.size
        · have hat := bs_at s k hlt
          have hm := figd_le hf.out (by omega) (by rw [← size_bs]; omega)
          generalize hbb : s[k] = b at hat
          have hb256 : b.toNat < 256 := UInt8.toNat_lt b
          by_cases hlo : b.toNat < 48
          · go_wp2
            go_ret
            refine ⟨?_, rfl⟩
            rw [figsI, figs_bad hat (by simp [figure]; omega)]; rfl
          · by_cases hhi : 57 < b.toNat
            · go_wp2
              go_ret
              refine ⟨?_, rfl⟩
              rw [figsI, figs_bad hat (by simp [figure]; omega)]; rfl
            · have hfb : figure b = true := by simp [figure]; omega
              have hnx := figd_succ hf.out hat hfb
              go_wp2
              refine ⟨⟨k + 1, 10 * m + (b.toNat - 48), by omega, by go_num, by congr 1; omega, hnx⟩, ?_⟩
              simp [intOf]; omega
        · obtain rfl : k = s.size := by omega
          go_wp2
          go_ret
          refine ⟨?_, rfl⟩
          have hff := hf.out
          rw [size_bs] at hff
          rw [figsI, figs_good hff (by rw [← size_bs]; omega) (by rw [← size_bs]; omega)]; rfl

theorem empty_bs (s : ByteArray) : s.toList.isEmpty = decide (s.size = 0) := by
  rw [Lib.toList_data, size_bs, bs]
  generalize s.data.toList = l
  cases l with
  | nil => rfl
  | cons b l => exact (decide_eq_false (by intro h; cases h)).symm

/-- The number, and whether it is one. -/
def figsN (l : Bytes) : Int := match figs l with | some n => n | none => 0

set_option maxHeartbeats 1000000 in
theorem figures_any (s : ByteArray) (hs : s.size ≤ 4000000) (w : World) :
    Calls Tryd.prog 105 #[.string s] w fun e w' => e = .returned (.tuple #[.int .i64 (figsN (bs s)), .bool (figs (bs s)).isSome]) ∧ w' = w := by
  have hemp := empty_bs s
  by_cases h1 : s.size < 1
  · have he : s.toList.isEmpty = true := by rw [hemp]; exact decide_eq_true (by omega)
    clear hemp
    go_enter Tryd.func105, Tryd.ntmps105
    go_wp2
    go_ret2
    refine ⟨?_, rfl⟩
    rw [figsN, figs_long (Or.inl (by rw [← size_bs]; exact h1))]; rfl
  · have he : s.toList.isEmpty = false := by rw [hemp]; exact decide_eq_false (by omega)
    clear hemp
    by_cases h6 : 6 < s.size
    · go_enter Tryd.func105, Tryd.ntmps105
      go_wp2
      go_ret2
      refine ⟨?_, rfl⟩
      rw [figsN, figs_long (Or.inr (by rw [← size_bs]; exact h6))]; rfl
    · go_enter Tryd.func105, Tryd.ntmps105
      go_wp2
      go_loop [4, 15] (fun n i => ∃ (k m : Nat), k ≤ s.size ∧ i = .int .i64 k ∧ n = .int .i64 m ∧ Hid (Figd (bs s) k m)) (fun _ i => s.size - (intOf i).toNat)
      case atStart => exact ⟨0, 0, by omega, rfl, rfl, figd_zero _⟩
      case round =>
        obtain ⟨k, m, hk, rfl, rfl, hf⟩ := hrel
        by_cases hlt : k < s.size
        · have hat := bs_at s k hlt
          have hm := figd_le hf.out (by omega) (by rw [← size_bs]; omega)
          generalize hbb : s[k] = b at hat
          have hb256 : b.toNat < 256 := UInt8.toNat_lt b
          by_cases hlo : b.toNat < 48
          · go_wp2
            go_ret2
            refine ⟨?_, rfl⟩
            rw [figsN, figs_bad hat (by simp [figure]; omega)]; rfl
          · by_cases hhi : 57 < b.toNat
            · go_wp2
              go_ret2
              refine ⟨?_, rfl⟩
              rw [figsN, figs_bad hat (by simp [figure]; omega)]; rfl
            · have hfb : figure b = true := by simp [figure]; omega
              have hnx := figd_succ hf.out hat hfb
              go_wp2
              refine ⟨⟨k + 1, 10 * m + (b.toNat - 48), by omega, by go_num, by congr 1; omega, hnx⟩, ?_⟩
              simp [intOf]; omega
        · obtain rfl : k = s.size := by omega
          go_wp2
          go_ret2
          refine ⟨?_, rfl⟩
          have hff := hf.out
          rw [size_bs] at hff
          rw [figsN, figs_good hff (by rw [← size_bs]; omega) (by rw [← size_bs]; omega)]; rfl

/-- The parts of a number as the document's answer tells them. -/
def numN (l : Bytes) : Int := (num l).getD 0

set_option maxHeartbeats 1000000 in
theorem refNumber_any (s : ByteArray) (hs : s.size ≤ 4000000) (h0 : bs s ≠ []) (w : World) :
    Calls Tryd.prog 65 #[.string s] w fun e w' => (∃ n m, e = .returned (.tuple #[.int .i64 n, .int .i64 m, .bool (num (bs s)).isSome]) ∧ ∀ k, num (bs s) = some k → n = k ∧ m = k.natAbs) ∧ w' = w := by
  have hpos : 0 < s.size := by rw [size_bs]; exact List.length_pos_iff.2 h0
  have hat := bs_at s 0 hpos
  obtain ⟨b, r, hbr⟩ : ∃ b r, bs s = b :: r := by
    cases hh : bs s with
    | nil => exact absurd hh h0
    | cons b r => exact ⟨b, r, rfl⟩
  have hb : s[0] = b := by rw [hbr] at hat; simpa using hat.symm
  have hx : bs (s.extract 1 s.size) = r := by rw [bs_extract, hbr, size_bs, hbr]; simp
  have hsz : (s.extract 1 s.size).size ≤ 4000000 := by
    rw [size_bs, hx]; rw [size_bs, hbr] at hs; simp at hs; omega
  have hbe := byte_eq b 45 (by decide)
  by_cases hm : b = 45
  · have h45 : ((b.toNat : Int) == 45) = true := by rw [hm]; rfl
    have hnum : num (bs s) = (figs r).map (fun (n : Nat) => -(n : Int)) := by rw [hbr]; simp [num, hm]
    rw [hnum]
    have hfi : figsI r = -1 ∨ 0 ≤ figsI r ∧ figsI r ≤ 999999 := by
      unfold figsI
      cases hh : figs r with
      | none => exact Or.inl rfl
      | some n => have := figs_le hh; right; constructor <;> simp <;> omega
    go_enter Tryd.func65, Tryd.ntmps65
    go_wp2_with (go_at_call 90; refine (refFigures_any _ hsz _).mono ?_; rintro e w' ⟨rfl, rfl⟩; rw [hx])
    go_ret3
    refine ⟨⟨-figsI r, figsI r, ?_, ?_⟩, rfl⟩
    · have : decide (0 ≤ figsI r) = ((figs r).map (fun (n : Nat) => -(n : Int))).isSome := by
        rw [figsI]
        cases figs r with
        | none => rfl
        | some n => simp
      rw [← this]
      rfl
    · intro k hk
      rw [figsI]
      cases hh : figs r with
      | none => rw [hh] at hk; simp at hk
      | some n => rw [hh] at hk; simp at hk; subst hk; simp
  · have h45 : ((b.toNat : Int) == 45) = false := by
      rw [show ((45 : Int)) = ((45 : Nat) : Int) from rfl, hbe]; simpa using hm
    have hnum : num (bs s) = (figs (bs s)).map (fun (n : Nat) => (n : Int)) := by rw [hbr]; simp [num, hm]
    rw [hnum]
    clear hbr hnum
    go_enter Tryd.func65, Tryd.ntmps65
    go_wp2_with (go_at_call 90; refine (refFigures_any _ hs _).mono ?_; rintro e w' ⟨rfl, rfl⟩)
    go_ret3
    refine ⟨⟨figsI (bs s), figsI (bs s), ?_, ?_⟩, rfl⟩
    · have : decide (0 ≤ figsI (bs s)) = ((figs (bs s)).map (fun (n : Nat) => (n : Int))).isSome := by
        rw [figsI]
        cases figs (bs s) with
        | none => rfl
        | some n => simp
      rw [← this]
      rfl
    · intro k hk
      rw [figsI]
      cases hh : figs (bs s) with
      | none => rw [hh] at hk; simp at hk
      | some n => rw [hh] at hk; simp at hk; subst hk; simp

set_option maxHeartbeats 1000000 in
theorem number_any (s : ByteArray) (hs : s.size ≤ 4000000) (h0 : bs s ≠ []) (w : World) :
    Calls Tryd.prog 123 #[.string s] w fun e w' => e = .returned (.tuple #[.int .i64 (numN (bs s)), .bool (num (bs s)).isSome]) ∧ w' = w := by
  obtain ⟨b, r, hbr⟩ : ∃ b r, bs s = b :: r := by
    cases hh : bs s with
    | nil => exact absurd hh h0
    | cons b r => exact ⟨b, r, rfl⟩
  have hlen : (b :: r).length ≤ 4000000 := by rw [← hbr, ← size_bs]; exact hs
  by_cases hm : b = 45
  · have hp : Lib.hasPrefix s.data.toList [45] = true := by rw [show s.data.toList = b :: r from hbr, hm]; rfl
    have ht : Lib.trimPrefix s.data.toList [45] = r := by unfold Lib.trimPrefix; rw [hp, if_pos rfl, show s.data.toList = b :: r from hbr]; rfl
    have hsz : (⟨r.toArray⟩ : ByteArray).size ≤ 4000000 := by rw [size_bs]; simp at hlen ⊢; omega
    have hfi : 0 ≤ figsN r ∧ figsN r ≤ 999999 := by
      unfold figsN
      cases hh : figs r with
      | none => decide
      | some n => have := figs_le hh; simp; omega
    go_enter Tryd.func123, Tryd.ntmps123
    go_wp2_with (first
      | (go_at_call 136; refine (Tryd.strings_CutPrefix _ _ _).mono ?_; rintro e w' ⟨rfl, rfl⟩; rw [hp, ht])
      | (go_at_call 105; refine (figures_any _ hsz _).mono ?_; rintro e w' ⟨rfl, rfl⟩; rw [show bs ⟨r.toArray⟩ = r from rfl]))
    go_ret2
    refine ⟨?_, rfl⟩
    have hnum : num (bs s) = (figs r).map (fun (n : Nat) => -(n : Int)) := by rw [hbr]; simp [num, hm]
    rw [numN, hnum]
    have h1 : ((figs r).map (fun (n : Nat) => -(n : Int))).getD 0 = -figsN r := by rw [figsN]; cases figs r <;> rfl
    have h2 : ((figs r).map (fun (n : Nat) => -(n : Int))).isSome = (figs r).isSome := by cases figs r <;> rfl
    rw [h1, h2]
    rfl
  · have hp : Lib.hasPrefix s.data.toList [45] = false := by
      rw [show s.data.toList = b :: r from hbr]
      simp [Lib.hasPrefix, List.isPrefixOf]
      exact fun e => hm e.symm
    have ht : Lib.trimPrefix s.data.toList [45] = s.data.toList := by unfold Lib.trimPrefix; rw [hp]; rfl
    have hmk : (⟨s.data.toList.toArray⟩ : ByteArray) = s := Lib.mk_data s
    have hnum : Hid (num (bs s) = (figs (bs s)).map (fun (n : Nat) => (n : Int))) := by
      show num (bs s) = _
      rw [hbr]; simp [num, hm]
    clear hbr
    go_enter Tryd.func123, Tryd.ntmps123
    go_wp2_with (first
      | (go_at_call 136; refine (Tryd.strings_CutPrefix _ _ _).mono ?_; rintro e w' ⟨rfl, rfl⟩; rw [hp, ht, hmk])
      | (go_at_call 105; refine (figures_any _ hs _).mono ?_; rintro e w' ⟨rfl, rfl⟩))
    go_ret2
    refine ⟨?_, rfl⟩
    rw [numN, hnum.out]
    have h1 : ((figs (bs s)).map (fun (n : Nat) => (n : Int))).getD 0 = figsN (bs s) := by rw [figsN]; cases figs (bs s) <;> rfl
    have h2 : ((figs (bs s)).map (fun (n : Nat) => (n : Int))).isSome = (figs (bs s)).isSome := by cases figs (bs s) <;> rfl
    rw [h1, h2]
    rfl
end Go.Proofs.YtlodenfdcckemaaDoor
