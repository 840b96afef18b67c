/-
  The walk of the books' look at what was kept.
-/
import Derived.Test.YtlodenfdcckemaaTakeEnd
namespace Go.Proofs.Ytlodenfdcckemaa
open Go.RowKit

theorem Own.pos {w : World} {base : Nat} {t : TypeId} {v : Value} {xs : List Value} (h : Own w base t v xs) (h0 : 0 < xs.length) : ∃ g cap, v = .slice (some ⟨g, 0, none⟩) xs.length cap ∧ g < w.heap.size ∧ ∀ i, i < xs.length → w.cell? ⟨g, i, none⟩ = some (xs.getD i undef) := by
  rcases h with ⟨_, h⟩ | ⟨g, cap, h1, _, _, hr⟩
  · rw [h] at h0; simp at h0
  · exact ⟨g, cap, h1, hr.lt, fun i hi => hr.cell hi undef⟩

set_option maxHeartbeats 1000000 in
theorem booksKept_any (O : Nat) (vl vm : Value) (G : Nat → Prop) (E : List (Value × Int)) (w : World) (hBk : BooksAt w O vl vm G E) (hE : E.length ≤ 500) :
    Calls Try.prog 17 #[.pointer (some ⟨O, 0, none⟩)] w fun e w' => e = .returned (.bool true) ∧ Below w.heap.size w w' := by
  obtain ⟨lo, lc, hvl⟩ := hBk.ol.shape
  obtain ⟨mo, mc, hvm⟩ := hBk.om.shape
  rw [List.length_map] at hvl hvm
  subst hvl
  subst hvm
  have hOl := hBk.head.lt
  have hc0 : w.cell? ⟨O, 0, none⟩ = some (.slice lo E.length lc) := hBk.head.cell (i := 0) (by simp) undef
  have hc1 : w.cell? ⟨O, 1, none⟩ = some (.slice mo E.length mc) := hBk.head.cell (i := 1) (by simp) undef
  have hc2 : w.cell? ⟨O, 2, none⟩ = some (.slice none 0 0) := hBk.head.cell (i := 2) (by simp) undef
  go_enter Try.func17, Try.ntmps17
  go_wp2
  go_loopw [3] (fun i wr => ∃ (k : Nat), k ≤ E.length ∧ i = .int .i64 k ∧ Below w.heap.size w wr) (fun i _ => E.length - (intOf i).toNat)
  case atStart => exact ⟨0, by omega, rfl, Below.refl _ _⟩
  case round =>
    obtain ⟨k, hk, rfl, hb⟩ := hrel
    have d0 := (hb.cell (p := ⟨O, 0, none⟩) hOl).trans hc0
    have d2 := (hb.cell (p := ⟨O, 2, none⟩) hOl).trans hc2
    by_cases hlt : k < E.length
    · obtain ⟨g, cap, hv, hgl, hcl⟩ := hBk.ol.pos (by rw [List.length_map]; omega)
      obtain ⟨g', cap', hv', hgl', hcl'⟩ := hBk.om.pos (by rw [List.length_map]; omega)
      have hck := hcl k (by rw [List.length_map]; exact hlt)
      have hck' := hcl' k (by rw [List.length_map]; exact hlt)
      rw [getD_lt _ _ _ (by rw [List.length_map]; exact hlt), List.getElem_map] at hck hck'
      obtain ⟨ao, n, c, e1, hn, hel⟩ := hBk.ents E[k] (List.getElem_mem hlt)
      rw [e1] at hck
      have hgG : ∀ g, (0 < n → ao = some ⟨g, 0, none⟩ → G g → g < w.heap.size) := fun g _ _ h => hBk.lt g h
      simp only [Value.slice.injEq] at hv hv'
      obtain ⟨rfl, -, rfl⟩ := hv
      obtain ⟨rfl, -, rfl⟩ := hv'
      generalize E[k].2 = mk at *
      clear hcl hcl' e1 d2
      have ek := (hb.cell (p := ⟨g, k, none⟩) hgl).trans hck
      go_wp2
      clear d0 ek
      obtain ⟨w3, rfl⟩ : ∃ x, x = wr := ⟨wr, rfl⟩
      go_loopw [4] (fun i wr => ∃ (j : Nat), j ≤ n ∧ i = .int .i64 j ∧ Below w.heap.size w wr) (fun i _ => n - (intOf i).toNat)
      case atStart => exact ⟨0, by omega, rfl, hb⟩
      case round =>
        clear hb
        obtain ⟨j, hj, rfl, hb⟩ := hrel
        have d0 := (hb.cell (p := ⟨O, 0, none⟩) hOl).trans hc0
        have d1 := (hb.cell (p := ⟨O, 1, none⟩) hOl).trans hc1
        have ek := (hb.cell (p := ⟨g, k, none⟩) hgl).trans hck
        have ek' := (hb.cell (p := ⟨g', k, none⟩) hgl').trans hck'
        by_cases hjl : j < n
        · obtain ⟨gg, rfl, hGg, hcells⟩ := hel (by omega)
          have ej := (hb.cell (p := ⟨gg, j, none⟩) (hBk.lt gg hGg)).trans (hcells j hjl)
          have hne : (mk != mk) = false := by simp
          clear hcells hel hgG
          go_wp2
          go_quiet (fail)
          go_wp2
          go_roundw
          case rel => exact ⟨j + 1, by omega, by go_num, below_drewN hb _⟩
          case measure => simp [intOf]; omega
        · go_wp2
          go_roundw
          case rel => exact ⟨k + 1, by omega, by go_num, hb⟩
          case measure => simp [intOf]; omega
    · go_wp2
      refine wp_loop_rounds 1 ?_
      rw [rounds_succ]
      go_wp2
      go_ret
      exact ⟨rfl, hb⟩
end Go.Proofs.Ytlodenfdcckemaa
