/-
  Several texts, one behind the other.
-/
import Derived.Test.YtlodenfdcckemaaDoorH3
import Derived.Test.YtlodenfdcckemaaDoorH8
import Derived.Test.YtlodenfdcckemaaDoorH9
import Derived.Laws.IdiomStrings
import Derived.Test.YtlodenfdcckemaaDoorH5
import Derived.Deep.QuietTactic
import Derived.BigQuiet
/-
  The walk of digits.
-/

namespace Go.Proofs.YtlodenfdcckemaaDoor
open Go.RowKit

theorem Tryd.underlyingBy : Tryd.prog.underlying 126 = some (.slice 5) := by kernel_rfl
theorem Tryd.underlyingU8 : Tryd.prog.underlying 5 = some (.int .u8) := by kernel_rfl
theorem Tryd.underlyingSt : Tryd.prog.underlying 9 = some .string := by kernel_rfl

/-- One figure as a string. -/
theorem run_digit (w : World) (n : Nat) : (convert 126 9 (.slice (some ⟨w.heap.size, 0, none⟩) 1 1)).run Tryd.prog (w.alloc (.cells #[.int .u8 ((48 + n % 10 : Nat) : Int)] 5)) = .ok (.string ⟨#[fig1 n]⟩) (w.alloc (.cells #[.int .u8 ((48 + n % 10 : Nat) : Int)] 5)) := by
  have h := run_convert_bytes_back (P := Tryd.prog) (w.alloc (.cells #[.int .u8 ((48 + n % 10 : Nat) : Int)] 5)) 126 9 5 ⟨w.heap.size, 0, none⟩ 1 [fig1 n] Tryd.underlyingBy Tryd.underlyingU8 Tryd.underlyingSt (by
    intro j hj
    have : j = 0 := by simpa using hj
    subst this
    have hb := blk_new w [.int .u8 ((48 + n % 10 : Nat) : Int)] 5
    have hc := hb.cell (i := 0) (by simp) undef
    have e : (⟨w.heap.size, 0, none⟩ : Addr).add 0 = ⟨w.heap.size, 0, none⟩ := by unfold Addr.add; simp
    rw [e]
    simp only [List.getElem_cons_zero, fig1_is]
    exact hc)
  exact h

theorem bs_cat (s t : ByteArray) : bs (s ++ t) = bs s ++ bs t := by
  unfold bs
  simp

theorem dig_small {n : Nat} (h : n < 10) : dig n = [fig1 n] := by unfold dig; rw [if_pos h]
theorem dig_more {n : Nat} (h : ¬ n < 10) (h' : n < 1000) : dig n = dig (n / 10) ++ [fig1 n] := by
  unfold dig
  rw [if_neg h]
  by_cases h1 : n < 100
  · rw [if_pos h1, if_pos (by omega)]; rfl
  · rw [if_neg h1, if_neg (by omega), if_pos (by omega), Nat.div_div_eq_div_mul]; rfl

theorem fig_cast (n : Nat) : ((48 + n % 10 : Nat) : Int) = 48 + (n : Int) % 10 := by omega

theorem run_digit' (w : World) (n : Nat) : (convert 126 9 (.slice (some ⟨w.heap.size, 0, none⟩) 1 1)).run Tryd.prog (w.alloc (.cells #[.int .u8 (48 + (n : Int) % 10)] 5)) = .ok (.string ⟨#[fig1 n]⟩) (w.alloc (.cells #[.int .u8 (48 + (n : Int) % 10)] 5)) := by
  rw [← fig_cast]
  exact run_digit w n

set_option maxRecDepth 100000 in
set_option maxHeartbeats 400000 in
theorem digits_one (n : Nat) (w : World) (h : n < 10) : Calls Tryd.prog 59 #[.int .i64 n] w fun e w' => ∃ s, e = .returned (.string s) ∧ bs s = dig n ∧ Below w.heap.size w w' := by
  have hh : (n : Int) < 10 := by omega
  have hrun := run_digit' w n
  have HB : Hid (Below w.heap.size w (w.alloc (.cells #[.int .u8 (48 + (n : Int) % 10)] 5))) := alloc_below w (.cells #[.int .u8 (48 + (n : Int) % 10)] 5)
  have HD : Hid (dig n = [fig1 n]) := dig_small h
  go_enter Tryd.func59, Tryd.ntmps59
  go_wp2
  go_ret
  exact ⟨_, rfl, HD.out.symm, HB.out⟩

set_option maxRecDepth 100000 in
set_option maxHeartbeats 400000 in
theorem digits_step (n : Nat) (h : ¬ n < 10) (h' : n < 1000) (ih : ∀ w, Calls Tryd.prog 59 #[.int .i64 (n / 10 : Nat)] w fun e w' => ∃ s, e = .returned (.string s) ∧ bs s = dig (n / 10) ∧ Below w.heap.size w w') (w : World) : Calls Tryd.prog 59 #[.int .i64 n] w fun e w' => ∃ s, e = .returned (.string s) ∧ bs s = dig n ∧ Below w.heap.size w w' := by
  have hh : ¬ (n : Int) < 10 := by omega
  have hrun := run_digit' w n
  have HB : Hid (Below w.heap.size w (w.alloc (.cells #[.int .u8 (48 + (n : Int) % 10)] 5))) := alloc_below w (.cells #[.int .u8 (48 + (n : Int) % 10)] 5)
  have HD : Hid (dig n = dig (n / 10) ++ [fig1 n]) := dig_more h h'
  have ih' := ih (w.alloc (.cells #[.int .u8 (48 + (n : Int) % 10)] 5))
  rw [Int.natCast_ediv] at ih'
  have hl3 := (dig_len (n / 10)).2
  go_enter Tryd.func59, Tryd.ntmps59
  go_wp2_with fail
  refine ih'.mono ?_
  rintro e w1 ⟨s, rfl, hs, hb⟩
  have HS : Hid (bs s = dig (n / 10)) := hs
  have hsz : s.size ≤ 3 := by rw [size_bs, hs]; exact hl3
  have HB1 : Hid (Below w.heap.size w w1) := HB.out.trans (hb.mono HB.out.size)
  clear hs ih ih' hrun
  go_wp2
  go_ret
  exact ⟨_, rfl, by rw [bs_cat, HS.out, HD.out], HB1.out⟩

theorem digits_any (n : Nat) (w : World) (h : n < 1000) : Calls Tryd.prog 59 #[.int .i64 n] w fun e w' => ∃ s, e = .returned (.string s) ∧ bs s = dig n ∧ Below w.heap.size w w' := by
  by_cases h1 : n < 10
  · exact digits_one n w h1
  · refine digits_step n h1 h (fun w => ?_) w
    by_cases h2 : n / 10 < 10
    · exact digits_one _ w h2
    · exact digits_step _ h2 (by omega) (fun w => digits_one _ w (by omega)) w
end Go.Proofs.YtlodenfdcckemaaDoor

/-
  The walks of the functions that tell faults.
-/

namespace Go.Proofs.YtlodenfdcckemaaDoor
open Go.RowKit

theorem lit_true {vars l : Int} (h1 : (l == 0) = false) (h2 : l ≤ vars) (h3 : -vars ≤ l) : lit vars l = true := by simp [lit, h1, h2, h3]
theorem lit_false {vars l : Int} (h : l = 0 ∨ vars < l ∨ l < -vars) : lit vars l = false := by
  unfold lit
  rcases h with h | h | h
  · simp [h]
  · rw [decide_eq_false (show ¬ l ≤ vars by omega)]; simp
  · rw [decide_eq_false (show ¬ -vars ≤ l by omega)]; simp

theorem clauseFault_all {vars : Int} {c : List Int} (h : ¬ 20 < c.length) (h2 : c.all (lit vars) = true) : clauseFault vars c = 0 := by simp only [clauseFault, if_neg h, h2, if_true]
theorem clauseFault_not {vars : Int} {c : List Int} (h : ¬ 20 < c.length) (h2 : c.all (lit vars) = false) : clauseFault vars c = 6 := by rw [clauseFault, if_neg h, h2]; rfl

/-- The fault of a list: 6: one in it is no literal. -/
def litsFault (vars : Int) (c : List Int) : Int := if c.all (lit vars) then 0 else 6
theorem litsFault_all {vars : Int} {c : List Int} (h : c.all (lit vars) = true) : litsFault vars c = 0 := by rw [litsFault, h]; rfl
theorem litsFault_not {vars : Int} {c : List Int} (h : c.all (lit vars) = false) : litsFault vars c = 6 := by rw [litsFault, h]; rfl
theorem clauseFault_lits {vars : Int} {c : List Int} (h : ¬ 20 < c.length) : clauseFault vars c = litsFault vars c := by rw [clauseFault, if_neg h, litsFault]

set_option maxHeartbeats 400000 in
theorem faultLits_any (vars : Int) (ao : Option Addr) (cap : Nat) (c : List Int) (w : World) (B : Nat) (hc : IntsAt w B ao c) (hv0 : 0 ≤ vars) (hv1 : vars ≤ 20) (hl : c.length ≤ 4611686018427387904) :
    Calls Tryd.prog 43 #[.slice ao c.length cap, .int .i64 vars] w fun e w' => e = .returned (.int .i64 (litsFault vars c)) ∧ w' = w := by
  go_enter Tryd.func43, Tryd.ntmps43
  go_wp2
  go_loop [9] (fun i => ∃ k : Nat, k ≤ c.length ∧ i = .int .i64 k ∧ (c.take k).all (lit vars) = true) (fun i => c.length - (intOf i).toNat)
  case atStart => exact ⟨0, Nat.zero_le _, rfl, by simp⟩
  case round =>
    obtain ⟨k, hk, rfl, hall⟩ := hrel
    have HA : Hid ((c.take k).all (lit vars) = true) := hall
    clear hall
    by_cases hlt : k < c.length
    · obtain ⟨b, o, rfl, hb, hcell⟩ := hc (by intro h; rw [h] at hlt; simp at hlt)
      have hck := hcell k hlt
      obtain ⟨x, hx⟩ : ∃ x, x = c.getD k 0 := ⟨_, rfl⟩
      rw [← hx] at hck
      have HX : Hid (x = c.getD k 0) := hx
      clear hx hcell hc
      by_cases h1 : x = 0
      · have hf : Hid (litsFault vars c = 6) := litsFault_not (all_false_of _ _ k hlt (by rw [← HX.out]; exact lit_false (Or.inl h1)))
        have h1' : (x == 0) = true := by simp [h1]
        clear h1
        go_wp2
        go_ret
        exact ⟨by rw [hf.out]; rfl, rfl⟩
      have h1' : (x == 0) = false := by simp [h1]
      by_cases h2 : vars < x
      · have hf : Hid (litsFault vars c = 6) := litsFault_not (all_false_of _ _ k hlt (by rw [← HX.out]; exact lit_false (Or.inr (Or.inl h2))))
        clear h1
        go_wp2
        go_ret
        exact ⟨by rw [hf.out]; rfl, rfl⟩
      by_cases h3 : x < -vars
      · have hf : Hid (litsFault vars c = 6) := litsFault_not (all_false_of _ _ k hlt (by rw [← HX.out]; exact lit_false (Or.inr (Or.inr h3))))
        clear h1
        go_wp2
        go_ret
        exact ⟨by rw [hf.out]; rfl, rfl⟩
      have HL : Hid (lit vars (c.getD k 0) = true) := by rw [← HX.out]; exact lit_true h1' (by omega) (by omega)
      clear h1
      go_wp2
      go_round
      case rel => exact ⟨k + 1, by omega, by go_num, by rw [all_take_succ _ _ _ hlt, HA.out, HL.out]; rfl⟩
      case measure => simp [intOf]; omega
    · have hf : Hid (litsFault vars c = 0) := litsFault_all (by have := HA.out; rwa [List.take_of_length_le (by omega)] at this)
      go_wp2
      go_ret
      exact ⟨by rw [hf.out]; rfl, rfl⟩

set_option maxHeartbeats 400000 in
theorem ofClause_any (vars : Int) (ao : Option Addr) (cap : Nat) (c : List Int) (w : World) (B : Nat) (hc : IntsAt w B ao c) (hv0 : 0 ≤ vars) (hv1 : vars ≤ 20) :
    Calls Tryd.prog 66 #[.slice ao c.length cap, .int .i64 vars] w fun e w' => e = .returned (.int .i64 (clauseFault vars c)) ∧ w' = w := by
  by_cases h20 : 20 < c.length
  · have hf : Hid (clauseFault vars c = 5) := by unfold Hid; simp [clauseFault, h20]
    go_enter Tryd.func66, Tryd.ntmps66
    go_wp2
    go_ret
    exact ⟨by rw [hf.out]; rfl, rfl⟩
  · have H20 : Hid (clauseFault vars c = litsFault vars c) := clauseFault_lits h20
    have hl : c.length ≤ 4611686018427387904 := by omega
    go_enter Tryd.func66, Tryd.ntmps66
    go_wp2_with (go_at_call 43; refine (faultLits_any vars ao cap c _ B hc hv0 hv1 hl).mono ?_; rintro e w' ⟨rfl, rfl⟩)
    go_ret
    exact ⟨by rw [H20.out]; rfl, rfl⟩

theorem fault_vars {vars : Int} {cs : List (List Int)} (h : vars < 0 ∨ 20 < vars) : fault vars cs = (3, 0) := by simp [fault, h]
theorem fault_many {vars : Int} {cs : List (List Int)} (h0 : 0 ≤ vars) (h1 : vars ≤ 20) (h : 200 < cs.length) : fault vars cs = (4, 0) := by
  rw [fault, if_neg (by omega), if_pos h]
theorem fault_rest {vars : Int} {cs : List (List Int)} (h0 : 0 ≤ vars) (h1 : vars ≤ 20) (h : ¬ 200 < cs.length) : fault vars cs = clausesFault vars 0 cs := by
  rw [fault, if_neg (by omega), if_neg h]

theorem of_two {a b : Int} {x : Int × Int} (h : x = (a, b)) : Ending.returned (.tuple #[.int .i64 a, .int .i64 b]) = .returned (.tuple #[.int .i64 x.1, .int .i64 x.2]) := by rw [h]

set_option maxHeartbeats 400000 in
theorem of_any (vars : Int) (ao : Option Addr) (cap : Nat) (cs : List (List Int)) (w : World) (hc : ListsAt w w.heap.size ao cs) :
    Calls Tryd.prog 42 #[.agg #[.int .i64 vars, .slice ao cs.length cap]] w fun e w' => e = .returned (.tuple #[.int .i64 (fault vars cs).1, .int .i64 (fault vars cs).2]) ∧ Below w.heap.size w w' := by
  have hw1 : Below w.heap.size w (w.alloc (.cells #[.int .i64 vars, .slice ao cs.length cap] 31)) := (Below.refl _ _).alloc (Nat.le_refl _) _
  by_cases hv0 : vars < 0
  · have hf : Hid (fault vars cs = (3, 0)) := fault_vars (Or.inl hv0)
    go_enter Tryd.func42, Tryd.ntmps42
    go_wp2
    go_ret2
    exact ⟨of_two hf.out, hw1⟩
  by_cases hv1 : 20 < vars
  · have hf : Hid (fault vars cs = (3, 0)) := fault_vars (Or.inr hv1)
    go_enter Tryd.func42, Tryd.ntmps42
    go_wp2
    go_ret2
    exact ⟨of_two hf.out, hw1⟩
  by_cases h2 : 200 < cs.length
  · have hf : Hid (fault vars cs = (4, 0)) := fault_many (by omega) (by omega) h2
    go_enter Tryd.func42, Tryd.ntmps42
    go_wp2
    go_ret2
    exact ⟨of_two hf.out, hw1⟩
  · have hf : Hid (fault vars cs = clausesFault vars 0 cs) := fault_rest (by omega) (by omega) h2
    go_enter Tryd.func42, Tryd.ntmps42
    go_wp2
    go_loop [22] (fun i => ∃ k : Nat, k ≤ cs.length ∧ i = .int .i64 k ∧ Hid (clausesFault vars 0 cs = clausesFault vars k (cs.drop k))) (fun i => cs.length - (intOf i).toNat)
    case atStart => exact ⟨0, Nat.zero_le _, rfl, rfl⟩
    case round =>
      obtain ⟨k, hk, rfl, hall⟩ := hrel
      by_cases hlt : k < cs.length
      · obtain ⟨b, o, rfl, hb, hcell⟩ := hc (by intro h; rw [h] at hlt; simp at hlt)
        obtain ⟨A, C, hck, hin⟩ := hcell k hlt
        have hst := clausesFault_step vars k cs hlt
        obtain ⟨c, hx⟩ : ∃ x, x = cs.getD k [] := ⟨_, rfl⟩
        rw [← hx] at hck hin hst
        have hin1 : Hid (IntsAt (w.alloc (.cells #[.int .i64 vars, .slice (some ⟨b, o, none⟩) cs.length cap] 31)) w.heap.size A c) := hin.below hw1 (Nat.le_refl _)
        have Hst : Hid _ := hst
        clear hx hcell hc hst hin
        by_cases h5 : clauseFault vars c = 0
        · have H5 : Hid (clauseFault vars c = 0) := h5
          have h5' : (clauseFault vars c != 0) = false := by simp [h5]
          clear h5
          go_wp2_with (go_at_call 66; refine (ofClause_any vars A C c _ _ hin1.out (by omega) (by omega)).mono ?_; rintro e w' ⟨rfl, rfl⟩)
          go_round
          case rel => exact ⟨k + 1, by omega, by go_num, hall.out.trans (Hst.out.trans (if_pos H5.out))⟩
          case measure => simp [intOf]; omega
        · have H5 : Hid (¬ clauseFault vars c = 0) := h5
          have h5' : (clauseFault vars c != 0) = true := by simp [h5]
          clear h5
          go_wp2_with (go_at_call 66; refine (ofClause_any vars A C c _ _ hin1.out (by omega) (by omega)).mono ?_; rintro e w' ⟨rfl, rfl⟩)
          go_ret2
          exact ⟨of_two (hf.out.trans (hall.out.trans (Hst.out.trans (if_neg H5.out)))), hw1⟩
      · go_wp2
        go_ret2
        exact ⟨of_two (hf.out.trans (hall.out.trans (clausesFault_end _ _ _ (by omega)))), hw1⟩
end Go.Proofs.YtlodenfdcckemaaDoor
