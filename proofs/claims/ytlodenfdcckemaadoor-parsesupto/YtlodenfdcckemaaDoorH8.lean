/-
  The books' look at what was kept.
-/
import Derived.Test.YtlodenfdcckemaaDoorH5
namespace Go.Proofs.YtlodenfdcckemaaDoor
open Go.RowKit

set_option maxHeartbeats 2000000 in
theorem booksKept_any (O : Nat) (vl vm vo : Value) (E : List (Value × Int)) (D : List Value) (w : World) (hBk : Bk w O vl vm vo E D) (hE : E.length ≤ 100000000000) (hD : D.length ≤ 100) :
    Calls Tryd.prog 20 #[.pointer (some ⟨O, 0, none⟩)] w fun e w' => e = .returned (.bool true) ∧ Below w.heap.size w w' := by
  obtain ⟨lo, lc, hvl⟩ := hBk.ol.shape
  obtain ⟨mo, mc, hvm⟩ := hBk.om.shape
  obtain ⟨oo, oc, hvo⟩ := hBk.oo.shape
  rw [List.length_map] at hvl hvm
  subst hvl
  subst hvm
  subst hvo
  have hOl := hBk.head.lt
  have hc0 : w.cell? ⟨O, 0, none⟩ = some (.slice lo E.length lc) := hBk.head.cell (i := 0) (by simp) undef
  have hc1 : w.cell? ⟨O, 1, none⟩ = some (.slice mo E.length mc) := hBk.head.cell (i := 1) (by simp) undef
  have hc2 : w.cell? ⟨O, 2, none⟩ = some (.slice oo D.length oc) := hBk.head.cell (i := 2) (by simp) undef
  go_enter Tryd.func20, Tryd.ntmps20
  go_wp2
  go_loopw [3] (fun i wr => ∃ (k : Nat), k ≤ E.length ∧ i = .int .i64 k ∧ Below w.heap.size w wr) (fun i _ => E.length - (intOf i).toNat)
  case atStart => exact ⟨0, by omega, rfl, Below.refl _ _⟩
  case round =>
    obtain ⟨k, hk, rfl, hb⟩ := hrel
    have d0 := (hb.cell (p := ⟨O, 0, none⟩) hOl).trans hc0
    by_cases hlt : k < E.length
    · obtain ⟨g, cap, hv, hgl, hcl⟩ := hBk.ol.at (by rw [List.length_map]; omega)
      obtain ⟨g', cap', hv', hgl', hcl'⟩ := hBk.om.at (by rw [List.length_map]; omega)
      have hck := hcl k (by rw [List.length_map]; exact hlt)
      have hck' := hcl' k (by rw [List.length_map]; exact hlt)
      rw [getD_lt _ _ _ (by rw [List.length_map]; exact hlt), List.getElem_map] at hck hck'
      obtain ⟨n, hn, hel⟩ := hBk.ents E[k] (List.getElem_mem hlt)
      obtain ⟨ao, c, e1⟩ := hel.shape
      rw [List.length_replicate] at e1
      have hat := hel.at
      rw [e1] at hck hat
      rw [List.length_replicate] at hat
      simp only [Value.slice.injEq] at hv hv'
      obtain ⟨rfl, -, rfl⟩ := hv
      obtain ⟨rfl, -, rfl⟩ := hv'
      generalize E[k].2 = mk at *
      clear hcl hcl' e1 hel
      have ek := (hb.cell (p := ⟨g, k, none⟩) hgl).trans hck
      go_wp2
      clear d0 ek
      obtain ⟨w3, rfl⟩ : ∃ x, x = wr := ⟨wr, rfl⟩
      go_loopw [4] (fun i wr => ∃ (j : Nat), j ≤ n ∧ i = .int .i64 j ∧ Below w.heap.size w wr) (fun i _ => n - (intOf i).toNat)
      case atStart => exact ⟨0, by omega, rfl, hb⟩
      case round =>
        clear hb
        obtain ⟨j, hj, rfl, hb⟩ := hrel
        have d0 := (hb.cell (p := ⟨O, 0, none⟩) hOl).trans hc0
        have d1 := (hb.cell (p := ⟨O, 1, none⟩) hOl).trans hc1
        have ek := (hb.cell (p := ⟨g, k, none⟩) hgl).trans hck
        have ek' := (hb.cell (p := ⟨g', k, none⟩) hgl').trans hck'
        by_cases hjl : j < n
        · obtain ⟨gg, cc, hgg, hgl3, hcells⟩ := hat (by omega)
          simp only [Value.slice.injEq] at hgg
          obtain ⟨rfl, -, rfl⟩ := hgg
          have hcj := hcells j hjl
          rw [rep_get _ _ _ hjl] at hcj
          have ej := (hb.cell (p := ⟨gg, j, none⟩) hgl3).trans hcj
          have hne : (mk != mk) = false := by simp
          clear hcells hat hcj
          go_wp2
          go_quiet (fail)
          go_wp2
          go_roundw
          case rel => exact ⟨j + 1, by omega, by go_num, below_drewN hb _⟩
          case measure => simp [intOf]; omega
        · go_wp2
          go_roundw
          case rel => exact ⟨k + 1, by omega, by go_num, hb⟩
          case measure => simp [intOf]; omega
    · go_wp2
      clear d0
      obtain ⟨w2, rfl⟩ : ∃ x, x = wr := ⟨wr, rfl⟩
      go_loopw [5] (fun i wr => ∃ (k : Nat), k ≤ D.length ∧ i = .int .i64 k ∧ Below w.heap.size w wr) (fun i _ => D.length - (intOf i).toNat)
      case atStart => exact ⟨0, by omega, rfl, hb⟩
      case round =>
        clear hb hk hlt
        obtain ⟨k, hk, rfl, hb⟩ := hrel
        have d2 := (hb.cell (p := ⟨O, 2, none⟩) hOl).trans hc2
        by_cases hlt : k < D.length
        · obtain ⟨g, cap, hv, hgl, hcl⟩ := hBk.oo.at (by omega)
          have hck := hcl k hlt
          rw [getD_lt _ _ _ hlt] at hck
          obtain ⟨n, hn, hel⟩ := hBk.outs D[k] (List.getElem_mem hlt)
          obtain ⟨ao, c, e1⟩ := hel.shape
          rw [List.length_replicate] at e1
          have hat := hel.at
          rw [e1] at hck hat
          rw [List.length_replicate] at hat
          simp only [Value.slice.injEq] at hv
          obtain ⟨rfl, -, rfl⟩ := hv
          clear hcl e1 hel
          have ek := (hb.cell (p := ⟨g, k, none⟩) hgl).trans hck
          go_wp2
          clear d2 ek
          obtain ⟨w4, rfl⟩ : ∃ x, x = wr := ⟨wr, rfl⟩
          go_loopw [6] (fun i wr => ∃ (j : Nat), j ≤ n ∧ i = .int .i64 j ∧ Below w.heap.size w wr) (fun i _ => n - (intOf i).toNat)
          case atStart => exact ⟨0, by omega, rfl, hb⟩
          case round =>
            clear hb
            obtain ⟨j, hj, rfl, hb⟩ := hrel
            have d2 := (hb.cell (p := ⟨O, 2, none⟩) hOl).trans hc2
            have ek := (hb.cell (p := ⟨g, k, none⟩) hgl).trans hck
            by_cases hjl : j < n
            · obtain ⟨gg, cc, hgg, hgl3, hcells⟩ := hat (by omega)
              simp only [Value.slice.injEq] at hgg
              obtain ⟨rfl, -, rfl⟩ := hgg
              have hcj := hcells j hjl
              rw [rep_get _ _ _ hjl] at hcj
              have ej := (hb.cell (p := ⟨gg, j, none⟩) hgl3).trans hcj
              clear hcells hat hcj
              go_wp2
              go_roundw
              case rel => exact ⟨j + 1, by omega, by go_num, hb⟩
              case measure => simp [intOf]; omega
            · go_wp2
              go_roundw
              case rel => exact ⟨k + 1, by omega, by go_num, hb⟩
              case measure => simp [intOf]; omega
        · go_wp2
          go_ret
          exact ⟨rfl, hb⟩
end Go.Proofs.YtlodenfdcckemaaDoor
