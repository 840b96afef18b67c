/-
  The walk of the function that looks whether a formula that was handed in was kept.
-/
import Derived.Test.YtlodenfdcckemaaDoorH48
namespace Go.Proofs.YtlodenfdcckemaaDoor
open Go.RowKit

theorem Handed.cellAt {w : World} {B g : Nat} {cs : List (List Int)} (h : Handed w B g cs) {i : Nat} (hi : i < cs.length + 4) :
    ∃ gi, w.cell? ⟨g, i, none⟩ = some (.slice (some ⟨gi, 0, none⟩) (cs.getD i []).length ((cs.getD i []).length + 4)) ∧ gi < B ∧ Blk w gi 3 (marked (cs.getD i [])) := by
  obtain ⟨hg, L, h1, h2, h3⟩ := h
  obtain ⟨gi, e1, _, e2, e3⟩ := h3 i hi
  exact ⟨gi, by rw [h1.cell (by omega) undef, e1]; rfl, e2, e3⟩

set_option maxHeartbeats 400000 in
theorem keptLists_any (g : Nat) (ao : Option Addr) (cap : Nat) (cs : List (List Int)) (w : World) (hH : Handed w w.heap.size g cs) (hc : ListsAt w w.heap.size ao cs) (hl : cs.length * 24 ≤ 140737488351232) (hin : ∀ c ∈ cs, c.length * 8 ≤ 140737488351232) :
    Calls Tryd.prog 18 #[.slice (some ⟨g, 0, none⟩) cs.length (cs.length + 4), .slice ao cs.length cap] w fun e w' => e = .returned (.bool true) ∧ Below w.heap.size w w' := by
  have HN : Hid (∀ c ∈ cs, c.length * 8 ≤ 140737488351232) := hin
  clear hin
  go_enter Tryd.func18, Tryd.ntmps18
  go_wp2
  go_loopw [6] (fun i wr => ∃ (k : Nat), k ≤ cs.length + 4 ∧ i = .int .i64 k ∧ Below w.heap.size w wr) (fun i _ => cs.length + 4 - (intOf i).toNat)
  case atStart => exact ⟨0, by omega, rfl, Below.refl _ _⟩
  case round =>
    obtain ⟨k, hk, rfl, hb⟩ := hrel
    by_cases hlt : k < cs.length + 4
    · have hH1 : Handed wr w.heap.size g cs := hH.below hb (Nat.le_refl _)
      obtain ⟨gi, hcell, hgi, hBi⟩ := hH1.cellAt hlt
      by_cases hz : k < cs.length
      · obtain ⟨b, o, rfl, hbl, hcc⟩ := hc (by intro h; rw [h] at hz; simp at hz)
        obtain ⟨A, C, hck, hci⟩ := hcc k hz
        replace hck := (hb.cell (p := ⟨b, o + k, none⟩) hbl).trans hck
        have hci2 := (hci.below hb (Nat.le_refl _)).mono hb.size
        have hlen : (cs.getD k []).length * 8 ≤ 140737488351232 := HN.out _ (by rw [getD_lt _ _ _ hz]; exact List.getElem_mem hz)
        obtain ⟨c, hx⟩ : ∃ x, x = cs.getD k [] := ⟨_, rfl⟩
        rw [← hx] at hck hci2 hlen hcell hBi
        clear hx hci hcc hH1
        have hne : ((c.length : Int) != (c.length : Int)) = false := by simp
        go_wp2_with (go_at_call 19; refine (kept_any gi A C c _ hBi hci2 hlen).mono ?_; rintro e w2 ⟨rfl, hbn⟩)
        go_roundw
        case rel => exact ⟨k + 1, by omega, by go_num, hb.trans (hbn.mono hb.size)⟩
        case measure => simp [intOf]; omega
      · have hnil : cs.getD k [] = [] := by rw [List.getD_eq_getElem?_getD, List.getElem?_eq_none (by omega)]; rfl
        rw [hnil] at hcell hBi
        have hci2 : IntsAt wr wr.heap.size none [] := ints_none _ _
        clear hnil hH1
        simp only [List.length_nil, Nat.zero_add] at hcell
        go_wp2_with (go_at_call 19; refine (kept_any gi none 0 [] _ hBi hci2 (by simp)).mono ?_; rintro e w2 ⟨rfl, hbn⟩)
        go_roundw
        case rel => exact ⟨k + 1, by omega, by go_num, hb.trans (hbn.mono hb.size)⟩
        case measure => simp [intOf]; omega
    · go_wp2
      go_ret
      exact ⟨rfl, hb⟩
end Go.Proofs.YtlodenfdcckemaaDoor
