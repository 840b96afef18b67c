/-
  The walk of the books' take.
-/
import Derived.Test.YtlodenfdcckemaaTakeEnd
namespace Go.Proofs.Ytlodenfdcckemaa
open Go.RowKit

set_option maxRecDepth 100000 in
set_option maxHeartbeats 2000000 in
theorem take_any (O : Nat) (vl vm : Value) (G : Nat → Prop) (E : List (Value × Int)) (ao : Option Addr) (zs : List Int) (w : World) (hBk : BooksAt w O vl vm G E) (hE : E.length ≤ 500) (hL : Lst w ao zs) (hnone : ao = none → zs = []) (hz : zs.length ≤ 900) (hdis : ∀ k, zs ≠ [] → Of ao k → ¬ Foot O vl vm G k) :
    Calls Try.prog 15 #[.pointer (some ⟨O, 0, none⟩), .slice ao zs.length zs.length] w fun e w' => e = .returned (.tuple #[]) ∧ ∃ vl' vm' G' E', BooksAt w' O vl' vm' G' E' ∧ E'.length = E.length + 4 ∧
      (∀ k, Foot O vl' vm' G' k → Foot O vl vm G k ∨ (zs ≠ [] ∧ Of ao k) ∨ w.heap.size ≤ k) ∧ Chg (fun k => Foot O vl vm G k ∨ (zs ≠ [] ∧ Of ao k)) w w' := by
  obtain ⟨lo, lc, hvl⟩ := hBk.ol.shape
  obtain ⟨mo, mc, hvm⟩ := hBk.om.shape
  rw [List.length_map] at hvl hvm
  subst hvl
  subst hvm
  have c1 : w.cell? ⟨O, 1, none⟩ = some (.slice mo E.length mc) := hBk.head.cell (i := 1) (by simp) undef
  have hOl := hBk.head.lt
  go_enter Try.func15, Try.ntmps15
  go_wp2
  generalize (-1000 : Int) - (E.length : Int) = m
  go_loopw [5] (fun i wr => ∃ (k : Nat), k ≤ zs.length ∧ i = .int .i64 k ∧ (0 < zs.length → ∃ g, ao = some ⟨g, 0, none⟩ ∧ Blk wr g 3 (over zs m k)) ∧ Chg (fun k => zs ≠ [] ∧ Of ao k) w wr) (fun i _ => zs.length - (intOf i).toNat)
  case atStart =>
    refine ⟨0, by omega, rfl, fun h0 => ?_, Chg.refl _ _⟩
    obtain ⟨g, h1, h2⟩ := hL (List.length_pos_iff.1 h0)
    exact ⟨g, h1, by rw [over_zero]; exact h2⟩
  case round =>
    obtain ⟨k, hk, rfl, hOv, hC⟩ := hrel
    by_cases hlt : k < zs.length
    · obtain ⟨g, rfl, hB⟩ := hOv (by omega)
      have hcell := hB.cell (i := k) (by rw [over_length _ _ _ hk]; exact hlt) undef
      have hfr := hB.frozen k
      have hset := hB.set k (.int .i64 m)
      rw [over_set _ _ _ hlt] at hset
      generalize (over zs m k).getD k undef = old at *
      go_wp2
      go_roundw
      case rel => exact ⟨k + 1, by omega, by go_num, fun _ => ⟨g, rfl, hset⟩, hC.set (p := ⟨g, k, none⟩) ⟨List.length_pos_iff.1 (by omega), rfl⟩ _⟩
      case measure => simp [intOf]; omega
    · obtain rfl : k = zs.length := by omega
      rw [over_end] at hOv
      have hBk1 := hBk.chg hC (fun k hk h => hdis k h.1 h.2 hk)
      have hC0 : Chg (fun k => Foot O (.slice lo E.length lc) (.slice mo E.length mc) G k ∨ (zs ≠ [] ∧ Of ao k)) w wr := hC.mono fun k _ h => Or.inr h
      obtain ⟨n, hn⟩ : ∃ n, n = zs.length := ⟨_, rfl⟩
      rw [← hn] at hOv hz ⊢
      have hnn : ao = none → n = 0 := fun e => by rw [hn, hnone e]; rfl
      have hpos : 0 < n ↔ zs ≠ [] := by rw [hn]; exact List.length_pos_iff
      obtain ⟨w1, rfl⟩ : ∃ x, x = wr := ⟨wr, rfl⟩
      have hsz0 := hC.size
      clear hBk hL hnone hC c1 hOl hk hlt
      have HN : Hid (n = zs.length) := hn
      clear hn
      -- x
      have hb1 := alloc_below w1 (.cells #[.int .i64 m] 3)
      have N1 : Blk (w1.alloc (.cells #[.int .i64 m] 3)) w1.heap.size 3 (mcells 1 m) := blk_new w1 [.int .i64 m] 3
      have hO1 := lst_below hOv hb1
      have hOl := hBk1.head.lt
      go_wp2_with (first
        | (at_builtin; refine wpList_append_full (.tmp 25) (.tmp 27) 30 3 (.int .i64 0) 8 Try.underlying30 Try.info3 rfl w1.heap.size ao n (mcells n m) (mcells 1 m) 1 (by simp [mcells]) (by simp [mcells]) (by decide) (by rfl) (by rfl) hnn (lst_cells hO1) N1 (mcells_one _ _) (by unfold maxLen; omega) (by omega) ?_; rw [mcells_append]; intro g2 cap2 w2 hR2 hg2 hc2 hb2; have hb12 : Below w1.heap.size w1 w2 := hb1.trans (hb2.mono hb1.size); have hO2 := lst_below (lst_below hOv hb12) (alloc_below w2 (.cells #[.int .i64 m, .int .i64 m] 3)); have N2 : Blk (w2.alloc (.cells #[.int .i64 m, .int .i64 m] 3)) w2.heap.size 3 (mcells 2 m) := blk_new w2 [.int .i64 m, .int .i64 m] 3)
        | (at_builtin; refine wpList_append_full (.tmp 29) (.tmp 32) 30 3 (.int .i64 0) 8 Try.underlying30 Try.info3 rfl w2.heap.size ao n (mcells n m) (mcells 2 m) 2 (by simp [mcells]) (by simp [mcells]) (by decide) (by rfl) (by rfl) hnn (lst_cells hO2) N2 (mcells_one _ _) (by unfold maxLen; omega) (by omega) ?_; rw [mcells_append]; intro g3 cap3 w3 hR3 hg3 hc3 hb3; have hb23 : Below w2.heap.size w2 w3 := (alloc_below w2 _).trans (hb3.mono (alloc_below w2 _).size); have hb13 : Below w1.heap.size w1 w3 := hb12.trans (hb23.mono hb12.size); have hO3 := lst_below (lst_below hOv hb13) (alloc_below w3 (.cells #[.int .i64 m, .int .i64 m, .int .i64 m] 3)); have N3 : Blk (w3.alloc (.cells #[.int .i64 m, .int .i64 m, .int .i64 m] 3)) w3.heap.size 3 (mcells 3 m) := blk_new w3 [.int .i64 m, .int .i64 m, .int .i64 m] 3)
        | (at_builtin; refine wpList_append_full (.tmp 34) (.tmp 38) 30 3 (.int .i64 0) 8 Try.underlying30 Try.info3 rfl w3.heap.size ao n (mcells n m) (mcells 3 m) 3 (by simp [mcells]) (by simp [mcells]) (by decide) (by rfl) (by rfl) hnn (lst_cells hO3) N3 (mcells_one _ _) (by unfold maxLen; omega) (by omega) ?_; rw [mcells_append]; intro g4 cap4 w4 hR4 hg4 hc4 hb4; have hb34 : Below w3.heap.size w3 w4 := (alloc_below w3 _).trans (hb4.mono (alloc_below w3 _).size); have hb14 : Below w1.heap.size w1 w4 := hb13.trans (hb34.mono hb13.size); have hBk4 := hBk1.below' hb14; have c0 : w4.cell? ⟨O, 0, none⟩ = some (.slice lo E.length lc) := hBk4.head.cell (i := 0) (by simp) undef; have N4 : Blk (w4.alloc (.cells #[.slice ao n n, .slice (some ⟨g2, 0, none⟩) (n + 1) cap2, .slice (some ⟨g3, 0, none⟩) (n + 2) cap3, .slice (some ⟨g4, 0, none⟩) (n + 3) cap4] 30)) w4.heap.size 30 [.slice ao n n, .slice (some ⟨g2, 0, none⟩) (n + 1) cap2, .slice (some ⟨g3, 0, none⟩) (n + 2) cap3, .slice (some ⟨g4, 0, none⟩) (n + 3) cap4] := blk_new w4 [.slice ao n n, .slice (some ⟨g2, 0, none⟩) (n + 1) cap2, .slice (some ⟨g3, 0, none⟩) (n + 2) cap3, .slice (some ⟨g4, 0, none⟩) (n + 3) cap4] 30; have one4 := slices_one [.slice ao n n, .slice (some ⟨g2, 0, none⟩) (n + 1) cap2, .slice (some ⟨g3, 0, none⟩) (n + 2) cap3, .slice (some ⟨g4, 0, none⟩) (n + 3) cap4] (by intro v hv; simp at hv; rcases hv with rfl | rfl | rfl | rfl <;> exact ⟨_, _, _, rfl⟩); have own4 := hBk4.ol.alloc (.cells #[.slice ao n n, .slice (some ⟨g2, 0, none⟩) (n + 1) cap2, .slice (some ⟨g3, 0, none⟩) (n + 2) cap3, .slice (some ⟨g4, 0, none⟩) (n + 3) cap4] 30))
        | (at_builtin; refine wpList_append_new (.tmp 44) (.tmp 49) 22 30 (.slice none 0 0) 24 Try.underlying22 Try.info30 rfl 0 w4.heap.size _ _ [.slice ao n n, .slice (some ⟨g2, 0, none⟩) (n + 1) cap2, .slice (some ⟨g3, 0, none⟩) (n + 2) cap3, .slice (some ⟨g4, 0, none⟩) (n + 3) cap4] 4 E.length (by simp) rfl (by decide) (by rfl) (by rfl) own4 N4 one4 (by unfold maxLen; omega) (by omega) (Nat.zero_le _) ?_; intro g5 cap5 w5 hO5 hgr5 hat5 hlt5; obtain ⟨PB1, PB2, PB3, PB4, PB5, PB6, PB7⟩ := phaseB hBk4 hO5 hgr5 hat5; have B5 := (hBk4.head.alloc (.cells #[.slice ao n n, .slice (some ⟨g2, 0, none⟩) (n + 1) cap2, .slice (some ⟨g3, 0, none⟩) (n + 2) cap3, .slice (some ⟨g4, 0, none⟩) (n + 3) cap4] 30)).grown hgr5 hBk4.dl; have d0 : w5.cell? ⟨O, 0, none⟩ = some (.slice lo E.length lc) := B5.cell (i := 0) (by simp) undef; have f0 := B5.frozen 0; have e1 : (w5.setCell ⟨O, 0, none⟩ (.slice (some ⟨g5, 0, none⟩) (E.length + 4) cap5)).cell? ⟨O, 1, none⟩ = some (.slice mo E.length mc) := PB1.cell (i := 1) (by simp) undef; have own5 := PB3.alloc (.cells #[.int .i64 m, .int .i64 m, .int .i64 m, .int .i64 m] 3); have N5 : Blk ((w5.setCell ⟨O, 0, none⟩ (.slice (some ⟨g5, 0, none⟩) (E.length + 4) cap5)).alloc (.cells #[.int .i64 m, .int .i64 m, .int .i64 m, .int .i64 m] 3)) w5.heap.size 3 (mcells 4 m) := blk_new_set w5 O (.slice (some ⟨g5, 0, none⟩) (E.length + 4) cap5) [.int .i64 m, .int .i64 m, .int .i64 m, .int .i64 m])
        | (at_builtin; refine wpList_append_new (.tmp 57) (.tmp 62) 30 3 (.int .i64 0) 8 Try.underlying30 Try.info3 rfl 0 w5.heap.size _ _ (mcells 4 m) 4 E.length (by simp) (by simp [mcells]) (by decide) (by rfl) (by rfl) own5 N5 (mcells_one _ _) (by unfold maxLen; omega) (by omega) (Nat.zero_le _) ?_; intro g6 cap6 w6 hO6 hgr6 hat6 hlt6; have B6 := (PB1.alloc (.cells #[.int .i64 m, .int .i64 m, .int .i64 m, .int .i64 m] 3)).grown hgr6 hBk4.dm; have d1 : w6.cell? ⟨O, 1, none⟩ = some (.slice mo E.length mc) := B6.cell (i := 1) (by simp) undef; have f1 := B6.frozen 1))
      go_end0
      refine ⟨rfl, ?_⟩
      exact take_end hBk4 hb14 hC0 hOv hz hpos hdis (fun k hk => hBk1.foot_lt hk) hR2 hg2 hb2 hR3 hg3 hb3 hb12 hb23 hR4 hg4 hb4 hb13 hb34 hO5 hgr5 hat5 hO6 hgr6 hat6
end Go.Proofs.Ytlodenfdcckemaa
