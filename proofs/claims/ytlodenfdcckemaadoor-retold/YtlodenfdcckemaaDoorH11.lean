/-
  The walk of digits.
-/
import Derived.Test.YtlodenfdcckemaaDoorH4
import Derived.Test.YtlodenfdcckemaaDoorH9
import Derived.Test.YtlodenfdcckemaaDoorH10
import Derived.Laws.IdiomStrings
namespace Go.Proofs.YtlodenfdcckemaaDoor
open Go.RowKit

theorem Tryd.underlyingBy : Tryd.prog.underlying 126 = some (.slice 5) := by kernel_rfl
theorem Tryd.underlyingU8 : Tryd.prog.underlying 5 = some (.int .u8) := by kernel_rfl
theorem Tryd.underlyingSt : Tryd.prog.underlying 9 = some .string := by kernel_rfl

/-- One figure as a string. -/
theorem run_digit (w : World) (n : Nat) : (convert 126 9 (.slice (some ⟨w.heap.size, 0, none⟩) 1 1)).run Tryd.prog (w.alloc (.cells #[.int .u8 ((48 + n % 10 : Nat) : Int)] 5)) = .ok (.string ⟨#[fig1 n]⟩) (w.alloc (.cells #[.int .u8 ((48 + n % 10 : Nat) : Int)] 5)) := by
  have h := run_convert_bytes_back (P := Tryd.prog) (w.alloc (.cells #[.int .u8 ((48 + n % 10 : Nat) : Int)] 5)) 126 9 5 ⟨w.heap.size, 0, none⟩ 1 [fig1 n] Tryd.underlyingBy Tryd.underlyingU8 Tryd.underlyingSt (by
    intro j hj
    have : j = 0 := by simpa using hj
    subst this
    have hb := blk_new w [.int .u8 ((48 + n % 10 : Nat) : Int)] 5
    have hc := hb.cell (i := 0) (by simp) undef
    have e : (⟨w.heap.size, 0, none⟩ : Addr).add 0 = ⟨w.heap.size, 0, none⟩ := by unfold Addr.add; simp
    rw [e]
    simp only [List.getElem_cons_zero, fig1_is]
    exact hc)
  exact h

theorem bs_cat (s t : ByteArray) : bs (s ++ t) = bs s ++ bs t := by
  unfold bs
  simp

theorem dig_small {n : Nat} (h : n < 10) : dig n = [fig1 n] := by unfold dig; rw [if_pos h]
theorem dig_more {n : Nat} (h : ¬ n < 10) (h' : n < 1000) : dig n = dig (n / 10) ++ [fig1 n] := by
  unfold dig
  rw [if_neg h]
  by_cases h1 : n < 100
  · rw [if_pos h1, if_pos (by omega)]; rfl
  · rw [if_neg h1, if_neg (by omega), if_pos (by omega), Nat.div_div_eq_div_mul]; rfl

theorem fig_cast (n : Nat) : ((48 + n % 10 : Nat) : Int) = 48 + (n : Int) % 10 := by omega

theorem run_digit' (w : World) (n : Nat) : (convert 126 9 (.slice (some ⟨w.heap.size, 0, none⟩) 1 1)).run Tryd.prog (w.alloc (.cells #[.int .u8 (48 + (n : Int) % 10)] 5)) = .ok (.string ⟨#[fig1 n]⟩) (w.alloc (.cells #[.int .u8 (48 + (n : Int) % 10)] 5)) := by
  rw [← fig_cast]
  exact run_digit w n

set_option maxRecDepth 100000 in
set_option maxHeartbeats 400000 in
theorem digits_one (n : Nat) (w : World) (h : n < 10) : Calls Tryd.prog 59 #[.int .i64 n] w fun e w' => ∃ s, e = .returned (.string s) ∧ bs s = dig n ∧ Below w.heap.size w w' := by
  have hh : (n : Int) < 10 := by omega
  have hrun := run_digit' w n
  have HB : Hid (Below w.heap.size w (w.alloc (.cells #[.int .u8 (48 + (n : Int) % 10)] 5))) := alloc_below w (.cells #[.int .u8 (48 + (n : Int) % 10)] 5)
  have HD : Hid (dig n = [fig1 n]) := dig_small h
  go_enter Tryd.func59, Tryd.ntmps59
  go_wp2
  go_ret
  exact ⟨_, rfl, HD.out.symm, HB.out⟩

set_option maxRecDepth 100000 in
set_option maxHeartbeats 400000 in
theorem digits_step (n : Nat) (h : ¬ n < 10) (h' : n < 1000) (ih : ∀ w, Calls Tryd.prog 59 #[.int .i64 (n / 10 : Nat)] w fun e w' => ∃ s, e = .returned (.string s) ∧ bs s = dig (n / 10) ∧ Below w.heap.size w w') (w : World) : Calls Tryd.prog 59 #[.int .i64 n] w fun e w' => ∃ s, e = .returned (.string s) ∧ bs s = dig n ∧ Below w.heap.size w w' := by
  have hh : ¬ (n : Int) < 10 := by omega
  have hrun := run_digit' w n
  have HB : Hid (Below w.heap.size w (w.alloc (.cells #[.int .u8 (48 + (n : Int) % 10)] 5))) := alloc_below w (.cells #[.int .u8 (48 + (n : Int) % 10)] 5)
  have HD : Hid (dig n = dig (n / 10) ++ [fig1 n]) := dig_more h h'
  have ih' := ih (w.alloc (.cells #[.int .u8 (48 + (n : Int) % 10)] 5))
  rw [Int.natCast_ediv] at ih'
  have hl3 := (dig_len (n / 10)).2
  go_enter Tryd.func59, Tryd.ntmps59
  go_wp2_with fail
  refine ih'.mono ?_
  rintro e w1 ⟨s, rfl, hs, hb⟩
  have HS : Hid (bs s = dig (n / 10)) := hs
  have hsz : s.size ≤ 3 := by rw [size_bs, hs]; exact hl3
  have HB1 : Hid (Below w.heap.size w w1) := HB.out.trans (hb.mono HB.out.size)
  clear hs ih ih' hrun
  go_wp2
  go_ret
  exact ⟨_, rfl, by rw [bs_cat, HS.out, HD.out], HB1.out⟩

theorem digits_any (n : Nat) (w : World) (h : n < 1000) : Calls Tryd.prog 59 #[.int .i64 n] w fun e w' => ∃ s, e = .returned (.string s) ∧ bs s = dig n ∧ Below w.heap.size w w' := by
  by_cases h1 : n < 10
  · exact digits_one n w h1
  · refine digits_step n h1 h (fun w => ?_) w
    by_cases h2 : n / 10 < 10
    · exact digits_one _ w h2
    · exact digits_step _ h2 (by omega) (fun w => digits_one _ w (by omega)) w
end Go.Proofs.YtlodenfdcckemaaDoor
