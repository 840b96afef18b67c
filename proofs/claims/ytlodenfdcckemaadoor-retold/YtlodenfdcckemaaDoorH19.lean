/-
  The walks of the document's functions that tell faults.
-/
import Derived.Test.YtlodenfdcckemaaDoorH12
namespace Go.Proofs.YtlodenfdcckemaaDoor
open Go.RowKit

/-- What the document calls the size of a number. -/
def sizeOf (l : Int) : Int := if 0 ≤ l then l else if l = -9223372036854775808 then -1 else -l

set_option maxHeartbeats 400000 in
theorem size_any (l : Int) (w : World) (h0 : -9223372036854775808 ≤ l) (h1 : l ≤ 9223372036854775807) :
    Calls Tryd.prog 76 #[.int .i64 l] w fun e w' => e = .returned (.int .i64 (sizeOf l)) ∧ w' = w := by
  by_cases h : 0 ≤ l
  · have hf : Hid (sizeOf l = l) := by unfold Hid; simp [sizeOf, h]
    go_enter Tryd.func76, Tryd.ntmps76
    go_wp2
    go_ret
    exact ⟨by rw [hf.out]; rfl, rfl⟩
  by_cases hm : l = -9223372036854775808
  · have hf : Hid (sizeOf l = -1) := by unfold Hid; simp [sizeOf, hm]
    have hw : wrap64 (-l) < 0 := by rw [hm]; decide +kernel
    clear hm
    go_enter Tryd.func76, Tryd.ntmps76
    go_wp2
    go_ret
    exact ⟨by rw [hf.out]; rfl, rfl⟩
  · have hf : Hid (sizeOf l = -l) := by unfold Hid; simp only [sizeOf, if_neg h, if_neg hm]
    have h0' : -9223372036854775807 ≤ l := by omega
    clear hm h0
    go_enter Tryd.func76, Tryd.ntmps76
    go_wp2
    go_ret
    exact ⟨by rw [hf.out]; rfl, rfl⟩

theorem lit_size {vars l : Int} (h0 : 0 ≤ vars) (h1 : vars ≤ 20) (hl : -9223372036854775808 ≤ l) : lit vars l = (decide (1 ≤ sizeOf l) && decide (sizeOf l ≤ vars)) := by
  by_cases h : 0 ≤ l
  · have e : sizeOf l = l := by simp [sizeOf, h]
    rw [e, Bool.eq_iff_iff]
    simp only [lit, Bool.and_eq_true, decide_eq_true_eq, Bool.not_eq_true', beq_eq_false_iff_ne]
    constructor <;> intro h <;> omega
  · by_cases hm : l = -9223372036854775808
    · have e : sizeOf l = -1 := by simp [sizeOf, hm]
      rw [e, lit_false (by omega)]; rfl
    · have e : sizeOf l = -l := by simp only [sizeOf, if_neg h, if_neg hm]
      rw [e, Bool.eq_iff_iff]
      simp only [lit, Bool.and_eq_true, decide_eq_true_eq, Bool.not_eq_true', beq_eq_false_iff_ne]
      constructor <;> intro h <;> omega

set_option maxHeartbeats 400000 in
theorem literal_any (l vars : Int) (w : World) (h0 : -9223372036854775808 ≤ l) (h1 : l ≤ 9223372036854775807) (hv0 : 0 ≤ vars) (hv1 : vars ≤ 20) :
    Calls Tryd.prog 50 #[.int .i64 l, .int .i64 vars] w fun e w' => e = .returned (.bool (lit vars l)) ∧ w' = w := by
  have hl := lit_size (l := l) hv0 hv1 h0
  have HL : Hid (lit vars l = (decide (1 ≤ sizeOf l) && decide (sizeOf l ≤ vars))) := hl
  clear hl
  go_enter Tryd.func50, Tryd.ntmps50
  go_wp2_with (go_at_call 76; refine (size_any _ _ h0 h1).mono ?_; rintro e w' ⟨rfl, rfl⟩)
  all_goals go_ret
  · have h : 1 ≤ sizeOf l := by assumption
    exact ⟨by rw [HL.out, decide_eq_true h]; rfl, rfl⟩
  · have h : ¬ 1 ≤ sizeOf l := by omega
    exact ⟨by rw [HL.out, decide_eq_false h]; rfl, rfl⟩

set_option maxHeartbeats 1000000 in
theorem refFault_any (vars : Int) (ao : Option Addr) (cap : Nat) (cs : List (List Int)) (w : World) (hc : ListsAt w w.heap.size ao cs) (hr : ∀ c ∈ cs, ∀ l ∈ c, -9223372036854775808 ≤ l ∧ l ≤ 9223372036854775807) :
    Calls Tryd.prog 14 #[.agg #[.int .i64 vars, .slice ao cs.length cap]] w fun e w' => e = .returned (.tuple #[.int .i64 (fault vars cs).1, .int .i64 (fault vars cs).2]) ∧ Below w.heap.size w w' := by
  have hw1 : Below w.heap.size w (w.alloc (.cells #[.int .i64 vars, .slice ao cs.length cap] 31)) := (Below.refl _ _).alloc (Nat.le_refl _) _
  by_cases hv0 : vars < 0
  · have hf : Hid (fault vars cs = (3, 0)) := fault_vars (Or.inl hv0)
    go_enter Tryd.func14, Tryd.ntmps14
    go_wp2
    go_ret2
    exact ⟨of_two hf.out, hw1⟩
  by_cases hv1 : 20 < vars
  · have hf : Hid (fault vars cs = (3, 0)) := fault_vars (Or.inr hv1)
    go_enter Tryd.func14, Tryd.ntmps14
    go_wp2
    go_ret2
    exact ⟨of_two hf.out, hw1⟩
  by_cases h2 : 200 < cs.length
  · have hf : Hid (fault vars cs = (4, 0)) := fault_many (by omega) (by omega) h2
    go_enter Tryd.func14, Tryd.ntmps14
    go_wp2
    go_ret2
    exact ⟨of_two hf.out, hw1⟩
  · have hf : Hid (fault vars cs = clausesFault vars 0 cs) := fault_rest (by omega) (by omega) h2
    have HR : Hid (∀ c ∈ cs, ∀ l ∈ c, -9223372036854775808 ≤ l ∧ l ≤ 9223372036854775807) := hr
    clear hr
    go_enter Tryd.func14, Tryd.ntmps14
    go_wp2
    go_loopw [4] (fun i wr => ∃ (k : Nat), k ≤ cs.length ∧ i = .int .i64 k ∧ Below w.heap.size w wr ∧ wr.cell? ⟨w.heap.size, 0, none⟩ = some (.int .i64 vars) ∧ wr.cell? ⟨w.heap.size, 1, none⟩ = some (.slice ao cs.length cap) ∧ Hid (clausesFault vars 0 cs = clausesFault vars k (cs.drop k))) (fun i _ => cs.length - (intOf i).toNat)
    case atStart => exact ⟨0, Nat.zero_le _, rfl, hw1, by simp, by simp, rfl⟩
    case round =>
      obtain ⟨k, hk, rfl, hbel, c0, c1, hall⟩ := hrel
      clear hw1
      by_cases hlt : k < cs.length
      · obtain ⟨b, o, rfl, hb, hcell⟩ := hc (by intro h; rw [h] at hlt; simp at hlt)
        obtain ⟨A, C, hck, hin⟩ := hcell k hlt
        replace hck := (hbel.cell (p := ⟨b, o + k, none⟩) hb).trans hck
        have hst := clausesFault_step vars k cs hlt
        have hmem : cs.getD k [] ∈ cs := by rw [getD_lt _ _ _ hlt]; exact List.getElem_mem hlt
        obtain ⟨c, hx⟩ : ∃ x, x = cs.getD k [] := ⟨_, rfl⟩
        rw [← hx] at hck hin hst hmem
        have Hst : Hid _ := hst
        have Hin : Hid _ := hin
        have HRc : Hid _ := HR.out c hmem
        clear hx hcell hc hst hin hmem
        by_cases h5 : 20 < c.length
        · have H5 : Hid (clauseFault vars c = 5) := by unfold Hid; simp [clauseFault, h5]
          go_wp2
          go_ret2
          exact ⟨of_two (hf.out.trans (hall.out.trans (Hst.out.trans (by rw [if_neg (by rw [H5.out]; decide), H5.out])))), hbel⟩
        · have H5 : Hid (¬ 20 < c.length) := h5
          go_wp2
          go_loopw [5] (fun i wr => ∃ (j : Nat), j ≤ c.length ∧ i = .int .i64 j ∧ Below w.heap.size w wr ∧ wr.cell? ⟨w.heap.size, 0, none⟩ = some (.int .i64 vars) ∧ wr.cell? ⟨w.heap.size, 1, none⟩ = some (.slice (some ⟨b, o, none⟩) cs.length cap) ∧ wr.cell? ⟨b, o + k, none⟩ = some (.slice A c.length C) ∧ Hid ((c.take j).all (lit vars) = true)) (fun i _ => c.length - (intOf i).toNat)
          case atStart => exact ⟨0, Nat.zero_le _, rfl, hbel, c0, c1, hck, by unfold Hid; simp⟩
          case round =>
            clear hbel c0 c1 hck
            obtain ⟨j, hj, rfl, hbel, c0, c1, hck, HA⟩ := hrel
            by_cases hjl : j < c.length
            · obtain ⟨b', o', rfl, hb', hcell'⟩ := Hin.out (by intro h; rw [h] at hjl; simp at hjl)
              have hcj := (hbel.cell (p := ⟨b', o' + j, none⟩) hb').trans (hcell' j hjl)
              have hbd : -9223372036854775808 ≤ c.getD j 0 ∧ c.getD j 0 ≤ 9223372036854775807 := HRc.out _ (by rw [getD_lt _ _ _ hjl]; exact List.getElem_mem hjl)
              obtain ⟨x, hx⟩ : ∃ x, x = c.getD j 0 := ⟨_, rfl⟩
              rw [← hx] at hcj hbd
              have HX : Hid (x = c.getD j 0) := hx
              obtain ⟨hx0, hx1⟩ := hbd
              clear hx hcell'
              cases hl : lit vars x
              · have H6 : Hid (clauseFault vars c = 6) := clauseFault_not H5.out (all_false_of _ _ j hjl (by rw [← HX.out]; exact hl))
                go_wp2
                go_quiet ((go_at_call 50; exact Calls.quiet_of_same (literal_any _ _ _ hx0 hx1 (by omega) (by omega))))
                go_wp2
                go_ret2
                exact ⟨of_two (hf.out.trans (hall.out.trans (Hst.out.trans (by rw [if_neg (by rw [H6.out]; decide), H6.out])))), below_drewN hbel _⟩
              · have HL : Hid (lit vars (c.getD j 0) = true) := by rw [← HX.out]; exact hl
                go_wp2
                go_quiet ((go_at_call 50; exact Calls.quiet_of_same (literal_any _ _ _ hx0 hx1 (by omega) (by omega))))
                go_wp2
                go_roundw
                case rel => exact ⟨j + 1, by omega, by go_num, below_drewN hbel _, by simpa using c0, by simpa using c1, by simpa using hck, by unfold Hid; rw [all_take_succ _ _ _ hjl, HA.out, HL.out]; rfl⟩
                case measure => simp [intOf]; omega
            · have H0 : Hid (clauseFault vars c = 0) := clauseFault_all H5.out (by have := HA.out; rwa [List.take_of_length_le (by omega)] at this)
              go_wp2
              go_roundw
              case rel => exact ⟨k + 1, by omega, by go_num, hbel, c0, c1, hall.out.trans (Hst.out.trans (if_pos H0.out))⟩
              case measure => simp [intOf]; omega
      · go_wp2
        go_ret2
        exact ⟨of_two (hf.out.trans (hall.out.trans (clausesFault_end _ _ _ (by omega)))), hbel⟩
end Go.Proofs.YtlodenfdcckemaaDoor
