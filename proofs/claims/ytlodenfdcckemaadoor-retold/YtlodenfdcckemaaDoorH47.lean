/-
  The walks of the functions that hand lists in with spare room, and look whether it was kept.
-/
import Derived.Test.YtlodenfdcckemaaDoorH7
import Derived.Deep.QuietTactic
import Derived.BigQuiet
namespace Go.Proofs.YtlodenfdcckemaaDoor
open Go.RowKit

def mark (zs : List Int) (k : Nat) : List Value := (zs ++ (List.replicate k 77 ++ List.replicate (4 - k) 0)).map (Value.int .i64)

theorem mark_set (zs : List Int) (k : Nat) (hk : k < 4) : (mark zs k).set (zs.length + k) (.int .i64 77) = mark zs (k + 1) := by
  unfold mark
  rw [← List.map_set]
  congr 1
  rw [List.set_append_right _ _ (by omega)]
  congr 1
  have : k = 0 ∨ k = 1 ∨ k = 2 ∨ k = 3 := by omega
  rw [show zs.length + k - zs.length = k by omega]
  rcases this with rfl | rfl | rfl | rfl <;> rfl

theorem mark_four (zs : List Int) : mark zs 4 = (zs ++ [77, 77, 77, 77]).map (Value.int .i64) := rfl

theorem mark_zero (zs : List Int) : splice (List.replicate (zs.length + 4) (Value.int .i64 0)) 0 (zs.map (Value.int .i64)) = mark zs 0 := by
  unfold splice mark
  simp [List.drop_replicate]

theorem mark_length (zs : List Int) (k : Nat) (hk : k ≤ 4) : (mark zs k).length = zs.length + 4 := by unfold mark; simp; omega

set_option maxHeartbeats 400000 in
theorem numbers_any (ao : Option Addr) (cap : Nat) (zs : List Int) (w : World) (hc : IntsAt w w.heap.size ao zs) (hl : zs.length * 8 ≤ 140737488351232) :
    Calls Tryd.prog 12 #[.slice ao zs.length cap] w fun e w' => e = .returned (.slice (some ⟨w.heap.size, 0, none⟩) zs.length (zs.length + 4)) ∧
      Blk w' w.heap.size 3 ((zs ++ [77, 77, 77, 77]).map (Value.int .i64)) ∧ Below w.heap.size w w' := by
  have hsz3 : (Tryd.prog.info? 3).map (·.size) = some 1 := by kernel_rfl
  obtain ⟨cl, hcl⟩ : ∃ cl, cl = zs.map (Value.int .i64) := ⟨_, rfl⟩
  have hlen : cl.length = zs.length := by rw [hcl]; simp
  have hone : ∀ v ∈ cl, v.oneCell' = true := by rw [hcl]; exact ints_one zs
  have hsp : splice (List.replicate (zs.length + 4) (Value.int .i64 0)) 0 cl = mark zs 0 := by rw [hcl]; exact mark_zero zs
  have hsrc : ∀ w1, Below w.heap.size w w1 → 0 < cl.length → ∃ ad, ao = some ad ∧ ∀ j v, cl[j]? = some v → w1.cell? (ad.add j) = some v := by
    intro w1 hb1 hp
    rw [hcl]
    exact (hc.below hb1 (Nat.le_refl _)).src (by omega)
  have HL : Hid (cl.length = zs.length) := hlen
  have H1 : Hid (∀ v ∈ cl, v.oneCell' = true) := hone
  have HS : Hid _ := hsrc
  have HP : Hid _ := hsp
  clear hcl hlen hc hone hsrc hsp
  go_enter Tryd.func12, Tryd.ntmps12
  go_wp2_with (first
    | (at_make; refine wpList_make_blk _ rfl (.tmp 7) (.tmp 7) 24 rfl 3 (.int .i64 0) 8 Tryd.underlying24 Tryd.info3 rfl .i64 .i64 (zs.length + 4) _ _ rfl rfl (by omega) (by omega) (by omega) (by omega) ?_; intro w1 hB1 hb1 hs1)
    | (refine wpList_copy_lit (.tmp 9) (.tmp 10) 24 24 3 Tryd.underlying24 hsz3 w.heap.size _ _ _ _ _ rfl rfl (List.replicate (zs.length + 4) (.int .i64 0)) 3 hB1 cl (by have := HL.out; simp; omega) (HS.out _ hb1) (by have := HL.out; simp; omega) H1.out w.heap.size w hb1 (Nat.le_refl _) ?_; rw [HP.out]; clear hB1 hs1 hb1; intro w2 hB2 hb2))
  clear HS HP H1 hsz3
  go_loopw [4] (fun i wr => ∃ (k : Nat), k ≤ 4 ∧ i = .int .i64 k ∧ Blk wr w.heap.size 3 (mark zs k) ∧ Below w.heap.size w wr) (fun i _ => 4 - (intOf i).toNat)
  case atStart => exact ⟨0, by omega, rfl, hB2, hb2⟩
  case round =>
    obtain ⟨k, hk, rfl, hB, hb⟩ := hrel
    by_cases hlt : k < 4
    · have hset := (hB.set (zs.length + k) (.int .i64 77))
      rw [mark_set _ _ hlt] at hset
      have hcell := hB.cell (i := zs.length + k) (by rw [mark_length _ _ hk]; omega) undef
      have hfr := hB.frozen (zs.length + k)
      have HB : Hid _ := hset
      obtain ⟨old, hold⟩ : ∃ x, x = (mark zs k).getD (zs.length + k) undef := ⟨_, rfl⟩
      rw [← hold] at hcell
      clear hset hold hB hB2 hb2
      go_wp2
      go_roundw
      case rel => exact ⟨k + 1, by omega, by go_num, HB.out, hb.setCell (Nat.le_refl _) _⟩
      case measure => simp [intOf]; omega
    · obtain rfl : k = 4 := by omega
      go_wp2
      go_ret
      exact ⟨rfl, hB, hb⟩

theorem marked_low (zs : List Int) (k : Nat) (h : k < zs.length) : ((zs ++ [77, 77, 77, 77]).map (Value.int .i64)).getD k undef = .int .i64 (zs.getD k 0) := by
  simp [h, List.getElem?_append]
theorem marked_high (zs : List Int) (k : Nat) (h : zs.length ≤ k) (h2 : k < zs.length + 4) : ((zs ++ [77, 77, 77, 77]).map (Value.int .i64)).getD k undef = .int .i64 77 := by
  obtain ⟨j, rfl⟩ : ∃ j, k = zs.length + j := ⟨k - zs.length, by omega⟩
  have : j = 0 ∨ j = 1 ∨ j = 2 ∨ j = 3 := by omega
  rcases this with rfl | rfl | rfl | rfl <;> simp

set_option maxHeartbeats 400000 in
theorem kept_any (g : Nat) (ao : Option Addr) (cap : Nat) (zs : List Int) (w : World) (hB : Blk w g 3 ((zs ++ [77, 77, 77, 77]).map (Value.int .i64))) (hc : IntsAt w w.heap.size ao zs) (hl : zs.length * 8 ≤ 140737488351232) :
    Calls Tryd.prog 19 #[.slice (some ⟨g, 0, none⟩) zs.length (zs.length + 4), .slice ao zs.length cap] w fun e w' => e = .returned (.bool true) ∧ Below w.heap.size w w' := by
  have hg := hB.lt
  go_enter Tryd.func19, Tryd.ntmps19
  go_wp2
  go_loopw [6] (fun i wr => ∃ (k : Nat), k ≤ zs.length + 4 ∧ i = .int .i64 k ∧ Below w.heap.size w wr) (fun i _ => zs.length + 4 - (intOf i).toNat)
  case atStart => exact ⟨0, by omega, rfl, Below.refl _ _⟩
  case round =>
    obtain ⟨k, hk, rfl, hb⟩ := hrel
    by_cases hlt : k < zs.length + 4
    · have hcell := (hb.cell (p := ⟨g, k, none⟩) hg).trans (hB.cell (i := k) (by simp; omega) undef)
      by_cases hz : k < zs.length
      · rw [marked_low _ _ hz] at hcell
        obtain ⟨b, o, rfl, hbl, hcc⟩ := hc (by intro h; rw [h] at hz; simp at hz)
        have hcell2 := (hb.cell (p := ⟨b, o + k, none⟩) hbl).trans (hcc k hz)
        obtain ⟨x, hx⟩ : ∃ x, x = zs.getD k 0 := ⟨_, rfl⟩
        rw [← hx] at hcell hcell2
        clear hx hcc
        have ht1 : decide (k < zs.length) = true := by simp; omega
        have ht2 : decide (zs.length ≤ k) = false := by simp; omega
        have hne : (x != x) = false := by simp
        go_wp2
        go_quiet (fail)
        go_wp2
        go_roundw
        case rel => exact ⟨k + 1, by omega, by go_num, below_drewN hb _⟩
        case measure => simp [intOf]; omega
      · rw [marked_high _ _ (by omega) hlt] at hcell
        have ht1 : decide (k < zs.length) = false := by simp; omega
        have ht2 : decide (zs.length ≤ k) = true := by simp; omega
        go_wp2
        go_quiet (fail)
        go_wp2
        go_roundw
        case rel => exact ⟨k + 1, by omega, by go_num, below_drewN hb _⟩
        case measure => simp [intOf]; omega
    · go_wp2
      go_ret
      exact ⟨rfl, hb⟩
end Go.Proofs.YtlodenfdcckemaaDoor
