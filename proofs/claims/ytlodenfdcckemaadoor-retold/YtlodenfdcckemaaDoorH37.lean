/-
  The walk of the heap's comparison of two places.
-/
import Derived.Test.YtlodenfdcckemaaDoorH36
namespace Go.Proofs.YtlodenfdcckemaaDoor
open Go.RowKit

/-- Which of two places has the item that is ahead. -/
def foreL (l : List Itm) (a b : Nat) : Nat := if b < l.length ∧ aheadOf (l.getD b (0, 0)) (l.getD a (0, 0)) = true then b else a

set_option maxHeartbeats 1000000 in
theorem foremost_any (H g cap : Nat) (its : List Itm) (a b : Nat) (w : World) (h : HeapIn w H g cap its) (hab : b < its.length → a < its.length) (hb50 : b ≤ 50) (ha50 : a ≤ 50) :
    Calls Tryd.prog 147 #[.pointer (some ⟨H, 0, none⟩), .int .i64 a, .int .i64 b] w fun e w' => e = .returned (.int .i64 (foreL its a b)) ∧ Below w.heap.size w w' := by
  have hit := h.items
  have hfn := h.fn
  have h20 := h.some20
  by_cases hb : b < its.length
  · have ha := hab hb
    obtain ⟨a0, a1, fa0, fa1⟩ := h.cells ha
    obtain ⟨b0, b1, fb0, fb1⟩ := h.cells hb
    have pa := h.at' ha
    have pb := h.at' hb
    have hH := h.head.lt
    have hg : g < w.heap.size := h.glt
    have hf : Hid (foreL its a b = if aheadOf (its.getD b (0, 0)) (its.getD a (0, 0)) = true then b else a) := by unfold Hid; simp [foreL, hb]
    generalize its.getD a (0, 0) = xa at *
    generalize its.getD b (0, 0) = xb at *
    have ht1 : decide ((b : Int) < (its.length : Int)) = true := by simp; omega
    have ht2 : decide (b < its.length) = true := by simp; omega
    have i0 : (0 : Int) ≤ (a : Int) := by omega
    have i1 : (a : Int) < (its.length : Int) := by omega
    have i2 : (0 : Int) ≤ (b : Int) := by omega
    have i3 : (b : Int) < (its.length : Int) := by omega
    unfold ahead at hfn
    have hbel0 : ∀ {w1 : World}, Below w.drew.heap.size w.drew w1 → Below w.heap.size w w1 := fun hb => (Below.refl _ w).drew.trans hb
    clear fa0 fa1 fb0 fb1
    go_enter Tryd.func147, Tryd.ntmps147
    go_wp2
    go_region_held3 (fun w' => w'.cell? ⟨H, 0, none⟩ = some (.func (.func 126) #[] #[]) ∧ w'.cell? ⟨H, 1, none⟩ = some (.slice (some ⟨g, 0, none⟩) its.length cap) ∧ w'.cell? ⟨g, a * 2, none⟩ = some (.int .i64 xa.1) ∧ w'.cell? ⟨g, a * 2 + 1, none⟩ = some (.float .f64 (Fl.W xa.2)) ∧
        w'.cell? ⟨g, b * 2, none⟩ = some (.int .i64 xb.1) ∧ w'.cell? ⟨g, b * 2 + 1, none⟩ = some (.float .f64 (Fl.W xb.2)))
      (first | exact ⟨(hbel.cell hH).trans hfn, (hbel.cell hH).trans hit, (hbel.cell hg).trans a0, (hbel.cell hg).trans a1, (hbel.cell hg).trans b0, (hbel.cell hg).trans b1⟩ | go_keep)
      (first | (go_at_call 126; refine (heavier_any xb xa _ pb pa).mono ?_; rintro e w1 ⟨rfl, hbel⟩))
    cases hah : aheadOf xb xa
    · go_wp2
      go_ret
      exact ⟨by rw [hf.out, hah]; rfl, hbel0 hbel⟩
    · go_wp2
      go_ret
      exact ⟨by rw [hf.out, hah]; rfl, hbel0 hbel⟩
  · have hf : Hid (foreL its a b = a) := by unfold Hid; simp [foreL, hb]
    have ht2 : decide (b < its.length) = false := by simp; omega
    go_enter Tryd.func147, Tryd.ntmps147
    go_wp2
    go_quiet (fail)
    go_wp2
    go_ret
    exact ⟨by rw [hf.out]; rfl, below_drewN (Below.refl _ _) _⟩
end Go.Proofs.YtlodenfdcckemaaDoor
