/-
  The walk of the heap's rise.
-/
import Derived.Test.YtlodenfdcckemaaDoorH38
namespace Go.Proofs.YtlodenfdcckemaaDoor
open Go.RowKit

set_option maxHeartbeats 1000000 in
theorem rise_any (H g cap : Nat) (its : List Itm) (k0 : Nat) (w : World) (h : HeapIn w H g cap its) (hk0 : k0 < its.length) :
    Calls Tryd.prog 137 #[.pointer (some ⟨H, 0, none⟩), .int .i64 k0] w fun e w' => e = .returned (.tuple #[]) ∧ HeapIn w' H g cap (riseL its.length its k0) ∧ w.grownBy w' (some g) := by
  go_enter Tryd.func137, Tryd.ntmps137
  go_wp2
  go_loopw [1] (fun i wr => ∃ (k f : Nat) (l : List Itm), i = .int .i64 k ∧ k < l.length ∧ l.length = its.length ∧ HeapIn wr H g cap l ∧ w.grownBy wr (some g) ∧ k < f ∧ Hid (riseL its.length its k0 = riseL f l k)) (fun i _ => (intOf i).toNat)
  case atStart => exact ⟨k0, its.length, its, rfl, hk0, rfl, h, grown_refl _ _, by omega, rfl⟩
  case round =>
    clear h hk0
    obtain ⟨k, f, l, rfl, hk, hll, hH, hG, hf, hS⟩ := hrel
    have h20 := hH.some20
    obtain ⟨f, rfl⟩ : ∃ f', f = f' + 1 := ⟨f - 1, by omega⟩
    have HLL : Hid (l.length = its.length) := hll
    clear hll
    by_cases hz : k = 0
    · subst hz
      have hst : Hid (riseL (f + 1) l 0 = l) := by unfold Hid; simp [riseL]
      go_wp2
      go_end0
      refine ⟨rfl, ?_, hG⟩
      rw [hS.out, hst.out]
      exact hH
    · have hst : riseL (f + 1) l k = if aheadOf (l.getD k (0, 0)) (l.getD ((k - 1) / 2) (0, 0)) = true then riseL f (swapL l k ((k - 1) / 2)) ((k - 1) / 2) else l := by
        rw [riseL, if_neg hz]
      obtain ⟨ab, hab⟩ : ∃ ab, ab = (k - 1) / 2 := ⟨_, rfl⟩
      rw [← hab] at hst
      have hk1 : 1 ≤ k := by omega
      have hdv : ((k : Int) - 1) / 2 = (ab : Int) := by omega
      have habk : ab < k := by omega
      clear hab hz
      go_wp2
      simp only [hdv]
      have habl : ab < l.length := by omega
      have hit := hH.items
      have hfn := hH.fn
      obtain ⟨a0, a1, _, _⟩ := hH.cells hk
      obtain ⟨b0, b1, _, _⟩ := hH.cells habl
      have pa := hH.at' hk
      have pb := hH.at' habl
      have hHl := hH.head.lt
      have hgl : g < wr.heap.size := hH.glt
      generalize l.getD k (0, 0) = xa at *
      generalize l.getD ab (0, 0) = xb at *
      have Hst : Hid _ := hst
      unfold ahead at hfn
      have hbel0 : ∀ {w1 : World}, Below wr.drew.heap.size wr.drew w1 → Below wr.heap.size wr w1 := fun hb => (Below.refl _ wr).drew.trans hb
      have i0 : (0 : Int) ≤ (k : Int) := by omega
      have i1 : (k : Int) < (l.length : Int) := by omega
      have i2 : (0 : Int) ≤ (ab : Int) := by omega
      have i3 : (ab : Int) < (l.length : Int) := by omega
      clear hst hdv
      go_region_held3 (fun w' => w'.cell? ⟨H, 0, none⟩ = some (.func (.func 126) #[] #[]) ∧ w'.cell? ⟨H, 1, none⟩ = some (.slice (some ⟨g, 0, none⟩) l.length cap) ∧ w'.cell? ⟨g, k * 2, none⟩ = some (.int .i64 xa.1) ∧ w'.cell? ⟨g, k * 2 + 1, none⟩ = some (.float .f64 (Fl.W xa.2)) ∧
          w'.cell? ⟨g, ab * 2, none⟩ = some (.int .i64 xb.1) ∧ w'.cell? ⟨g, ab * 2 + 1, none⟩ = some (.float .f64 (Fl.W xb.2)))
        (first | exact ⟨(hbel.cell hHl).trans hfn, (hbel.cell hHl).trans hit, (hbel.cell hgl).trans a0, (hbel.cell hgl).trans a1, (hbel.cell hgl).trans b0, (hbel.cell hgl).trans b1⟩ | go_keep)
        (first | (go_at_call 126; refine (heavier_any xa xb _ pa pb).mono ?_; rintro e w1 ⟨rfl, hbel⟩))
      clear a0 a1 b0 b1 hit hfn i0 i1 i2 i3
      have hb1 := hbel0 hbel
      have hH1 := hH.below' hb1
      cases hah : aheadOf xa xb
      · go_wp2
        refine bodyPost_ret (v := .tuple #[]) (results_none rfl _ _ _) rfl ?_
        refine ⟨rfl, ?_, grown_trans hG (grown_below _ hb1)⟩
        rw [hS.out, Hst.out, if_neg (by rw [hah]; decide)]
        exact hH1
      · go_wp2_with fail
        refine (swap_at H g cap l _ _ k ab (by omega) (by omega) _ hH1 hk habl (by omega)).mono ?_
        rintro e w3 ⟨rfl, hH3, hg3⟩
        go_wp2
        go_roundw
        case rel => exact ⟨ab, f, swapL l k ab, rfl, by rw [swapL_length]; exact habl, by rw [swapL_length]; exact HLL.out, hH3, grown_trans hG (grown_trans (grown_below _ hb1) hg3), by omega, hS.out.trans (Hst.out.trans (if_pos hah))⟩
        case measure => simp [intOf]; omega
end Go.Proofs.YtlodenfdcckemaaDoor
