/-
  The walks of the heap's rise and sink.
-/
import Derived.Test.YtlodenfdcckemaaDoorH37
namespace Go.Proofs.YtlodenfdcckemaaDoor
open Go.RowKit

/-- An item rises from a place. -/
def riseL : Nat → List Itm → Nat → List Itm
  | 0, l, _ => l
  | f + 1, l, k => if k = 0 then l else if aheadOf (l.getD k (0, 0)) (l.getD ((k - 1) / 2) (0, 0)) = true then riseL f (swapL l k ((k - 1) / 2)) ((k - 1) / 2) else l

/-- An item sinks from a place. -/
def sinkL : Nat → List Itm → Nat → List Itm
  | 0, l, _ => l
  | f + 1, l, k => if foreL l k (foreL l (2 * k + 1) (2 * k + 2)) = k then l else sinkL f (swapL l k (foreL l k (foreL l (2 * k + 1) (2 * k + 2)))) (foreL l k (foreL l (2 * k + 1) (2 * k + 2)))

theorem swapL_length (l : List Itm) (a b : Nat) : (swapL l a b).length = l.length := by simp [swapL]

theorem HeapIn.below' {w w' : World} {H g cap : Nat} {its : List Itm} (h : HeapIn w H g cap its) (hb : Below w.heap.size w w') : HeapIn w' H g cap its :=
  ⟨h.head.below' hb, h.row.elim fun r hr => ⟨r, hr.1.below' hb, hr.2⟩, h.lt, h.cap63, h.le, h.some20, h.some⟩

theorem grown_trans {a b c : World} {r : Option Nat} (h : a.grownBy b r) (k : b.grownBy c r) : a.grownBy c r :=
  ⟨k.os.trans h.os, k.tape.trans h.tape, k.output.trans h.output, Nat.le_trans h.size k.size, fun i hi hne => (k.block i (Nat.lt_of_lt_of_le hi h.size) hne).trans (h.block i hi hne)⟩
theorem grown_below {a b : World} (r : Option Nat) (h : Below a.heap.size a b) : a.grownBy b r := ⟨h.os, h.tape, h.output, h.size, fun i hi _ => h.block i hi⟩

theorem foreL_lt (l : List Itm) (k : Nat) (hk : k < l.length) : foreL l k (foreL l (2 * k + 1) (2 * k + 2)) < l.length := by
  unfold foreL
  repeat' split
  all_goals omega
theorem foreL_le (l : List Itm) (k : Nat) : foreL l k (foreL l (2 * k + 1) (2 * k + 2)) ≤ 2 * k + 2 ∧ k ≤ foreL l k (foreL l (2 * k + 1) (2 * k + 2)) := by
  unfold foreL
  repeat' split
  all_goals omega
theorem foreL_in (l : List Itm) (a b : Nat) (h : foreL l a b < l.length → False) : ¬ (b < l.length ∧ aheadOf (l.getD b (0, 0)) (l.getD a (0, 0)) = true) := by
  intro hb
  apply h
  unfold foreL
  rw [if_pos hb]
  exact hb.1

theorem foremost_at (H g cap : Nat) (its : List Itm) (A B : Int) (a b : Nat) (hA : A = a) (hB : B = b) (w : World) (h : HeapIn w H g cap its) (hab : b < its.length → a < its.length) (hb50 : b ≤ 50) (ha50 : a ≤ 50) (m : Nat) (hm : m = foreL its a b) :
    Calls Tryd.prog 147 #[.pointer (some ⟨H, 0, none⟩), .int .i64 A, .int .i64 B] w fun e w' => e = .returned (.int .i64 m) ∧ Below w.heap.size w w' := by
  rw [hA, hB, hm]; exact foremost_any H g cap its a b w h hab hb50 ha50
theorem swap_at (H g cap : Nat) (its : List Itm) (A B : Int) (a b : Nat) (hA : A = a) (hB : B = b) (w : World) (h : HeapIn w H g cap its) (ha : a < its.length) (hb : b < its.length) (hab : a ≠ b) :
    Calls Tryd.prog 146 #[.pointer (some ⟨H, 0, none⟩), .int .i64 A, .int .i64 B] w fun e w' => e = .returned (.tuple #[]) ∧ HeapIn w' H g cap (swapL its a b) ∧ w.grownBy w' (some g) := by
  rw [hA, hB]; exact swap_any H g cap its a b w h ha hb hab

set_option maxHeartbeats 1000000 in
theorem sink_any (H g cap : Nat) (its : List Itm) (w : World) (h : HeapIn w H g cap its) (h0 : its ≠ []) :
    Calls Tryd.prog 138 #[.pointer (some ⟨H, 0, none⟩), .int .i64 0] w fun e w' => e = .returned (.tuple #[]) ∧ HeapIn w' H g cap (sinkL its.length its 0) ∧ w.grownBy w' (some g) := by
  have hlen : 0 < its.length := List.length_pos_iff.2 h0
  go_enter Tryd.func138, Tryd.ntmps138
  go_wp2
  go_loopw [1] (fun i wr => ∃ (k f : Nat) (l : List Itm), i = .int .i64 k ∧ k < l.length ∧ l.length = its.length ∧ HeapIn wr H g cap l ∧ w.grownBy wr (some g) ∧ l.length ≤ k + f ∧ Hid (sinkL its.length its 0 = sinkL f l k)) (fun i _ => its.length - (intOf i).toNat)
  case atStart => exact ⟨0, its.length, its, rfl, hlen, rfl, h, grown_refl _ _, by omega, rfl⟩
  case round =>
    obtain ⟨k, f, l, rfl, hk, hll, hH, hG, hf, hS⟩ := hrel
    have h20 := hH.some20
    have hflt := foreL_lt l k hk
    obtain ⟨hfl1, hfl2⟩ := foreL_le l k
    obtain ⟨f, rfl⟩ : ∃ f', f = f' + 1 := ⟨f - 1, by omega⟩
    have hm : foreL l (2 * k + 1) (2 * k + 2) ≤ 50 ∧ (foreL l (2 * k + 1) (2 * k + 2) < l.length → k < l.length) := ⟨by unfold foreL; split <;> omega, fun _ => hk⟩
    have hst : sinkL (f + 1) l k = if foreL l k (foreL l (2 * k + 1) (2 * k + 2)) = k then l else sinkL f (swapL l k (foreL l k (foreL l (2 * k + 1) (2 * k + 2)))) (foreL l k (foreL l (2 * k + 1) (2 * k + 2))) := rfl
    obtain ⟨m, hmm⟩ : ∃ m, m = foreL l (2 * k + 1) (2 * k + 2) := ⟨_, rfl⟩
    obtain ⟨nx, hnx⟩ : ∃ nx, nx = foreL l k m := ⟨_, rfl⟩
    rw [← hmm, ← hnx] at hst hflt hfl1 hfl2
    rw [← hmm] at hm
    have Hst : Hid _ := hst
    have HM : Hid (m = foreL l (2 * k + 1) (2 * k + 2)) := hmm
    have HX : Hid (nx = foreL l k m) := hnx
    have HLL : Hid (l.length = its.length) := hll
    clear hst hmm hnx hll h h0
    by_cases he : nx = k
    · have he' : ((nx : Int) == (k : Int)) = true := by simp [he]
      have HE : Hid (nx = k) := he
      clear he
      go_wp2_with fail
      refine (foremost_at H g cap l _ _ (2 * k + 1) (2 * k + 2) (by omega) (by omega) _ hH (by omega) (by omega) (by omega) m HM.out).mono ?_
      rintro e w1 ⟨rfl, hb1⟩
      have hH1 := hH.below' hb1
      go_wp2_with fail
      refine (foremost_at H g cap l _ _ k m (by omega) (by omega) _ hH1 hm.2 hm.1 (by omega) nx HX.out).mono ?_
      rintro e w2 ⟨rfl, hb2⟩
      have hH2 := hH1.below' hb2
      go_wp2
      refine bodyPost_ret (v := .tuple #[]) (results_none rfl _ _ _) rfl ?_
      refine ⟨rfl, ?_, grown_trans hG (grown_trans (grown_below _ hb1) (grown_below _ hb2))⟩
      rw [hS.out, Hst.out, if_pos HE.out]
      exact hH2
    · have he' : ((nx : Int) == (k : Int)) = false := by simp; omega
      have HE : Hid (¬ nx = k) := he
      go_wp2_with fail
      refine (foremost_at H g cap l _ _ (2 * k + 1) (2 * k + 2) (by omega) (by omega) _ hH (by omega) (by omega) (by omega) m HM.out).mono ?_
      rintro e w1 ⟨rfl, hb1⟩
      have hH1 := hH.below' hb1
      go_wp2_with fail
      refine (foremost_at H g cap l _ _ k m (by omega) (by omega) _ hH1 hm.2 hm.1 (by omega) nx HX.out).mono ?_
      rintro e w2 ⟨rfl, hb2⟩
      have hH2 := hH1.below' hb2
      go_wp2_with fail
      refine (swap_at H g cap l _ _ k nx (by omega) (by omega) _ hH2 hk hflt (by omega)).mono ?_
      rintro e w3 ⟨rfl, hH3, hg3⟩
      go_wp2
      go_roundw
      case rel => exact ⟨nx, f, swapL l k nx, rfl, by rw [swapL_length]; exact hflt, by rw [swapL_length]; exact HLL.out, hH3, grown_trans hG (grown_trans (grown_below _ hb1) (grown_trans (grown_below _ hb2) hg3)), by rw [swapL_length]; omega, hS.out.trans (Hst.out.trans (if_neg HE.out))⟩
      case measure => have := HLL.out; simp [intOf]; omega
end Go.Proofs.YtlodenfdcckemaaDoor
