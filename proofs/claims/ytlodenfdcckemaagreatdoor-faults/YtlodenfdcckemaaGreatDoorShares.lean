/-
  The walk of the program's shares.
-/
import Derived.Test.YtlodenfdcckemaaGreatDoorVars
namespace Go.Proofs.YtlodenfdcckemaaGreatDoor
open Go.RowKit

attribute [local go_sem] run_store_float

/-- What the first k variables weigh together. -/
def sumTo (cs : List (List Int)) : Nat → Nat
  | 0 => 0
  | k + 1 => sumTo cs k + weight cs k

theorem Good.sum_le {n : Nat} {cs : List (List Int)} (h : Good n cs) : ∀ k, sumTo cs k ≤ k * 8388608000
  | 0 => by simp [sumTo]
  | k + 1 => by
    have h1 := h.sum_le k
    have h2 := h.weight_le k
    simp only [sumTo]
    omega

theorem sum_mono (cs : List (List Int)) : ∀ (n i : Nat), i < n → weight cs i ≤ sumTo cs n
  | 0, i, h => by omega
  | n + 1, i, h => by
    simp only [sumTo]
    by_cases e : i = n
    · subst e; omega
    · have := sum_mono cs n i (by omega); omega

/-- A share, as floats reckon it. -/
def shareOf (T p s : Nat) : Int := ((Ieee.double.mul (Fl.F T) (Fl.W p)).bind fun x => (Ieee.double.div x (Fl.W s)).bind fun r => floatToIntVal .f64 r .i64).getD 0

theorem shareOf_runs {P : Program} (T p s : Nat) (ht : T ≤ 1125899906842624) (hps : p ≤ s) (h0 : s ≠ 0) (hs : s < 9007199254740992) (src dst : TypeId) (hsrc : (P.underlying src).isSome = true) (hdst : P.underlying dst = some (.int .i64)) (t : TypeId) :
    ∃ x r : Nat, (∀ w, (binOp .mul t (.float .f64 (Fl.F T)) (.float .f64 (Fl.W p))).run P w = .ok (.float .f64 x) w) ∧ (∀ w, (binOp .quo t (.float .f64 x) (.float .f64 (Fl.W s))).run P w = .ok (.float .f64 r) w) ∧
      (∀ w, (convert src dst (.float .f64 r)).run P w = .ok (.int .i64 (shareOf T p s)) w) := by
  obtain ⟨x, r, m, h1, h2, h3⟩ := Fl.share T p s ht hps h0 hs
  refine ⟨x, r, fun w => run_float_arith w .mul t .f64 _ _ _ h1, fun w => run_float_arith w .quo t .f64 _ _ _ h2, fun w => run_convert_float_int w src dst .f64 .i64 r _ hsrc hdst ?_⟩
  unfold shareOf
  rw [h1, Option.bind_some, h2, Option.bind_some, h3]
  rfl

/-- The shares. -/
def shareAt (cs : List (List Int)) (n T i : Nat) : Int := if sumTo cs n = 0 then 0 else shareOf T (weight cs i) (sumTo cs n)

def shareCells (n : Nat) (cs : List (List Int)) (T k : Nat) : List Value := (List.range n).map fun i => .int .i64 (if i < k then shareAt cs n T i else 0)

theorem shareCells_start (n : Nat) (cs : List (List Int)) (T : Nat) : List.replicate n (Value.int .i64 0) = shareCells n cs T 0 := by
  rw [replicate_range]; exact range_congr _ _ _ fun i _ => by simp
theorem shareCells_zero (n : Nat) (cs : List (List Int)) (T : Nat) (h : sumTo cs n = 0) : shareCells n cs T 0 = shareCells n cs T n :=
  range_congr _ _ _ fun i _ => by simp [shareAt, h]
theorem shareCells_step (n : Nat) (cs : List (List Int)) (T k : Nat) (h : sumTo cs n ≠ 0) : (shareCells n cs T k).set k (.int .i64 (shareOf T (weight cs k) (sumTo cs n))) = shareCells n cs T (k + 1) := by
  unfold shareCells
  rw [range_set]
  refine range_congr _ _ _ fun i _ => ?_
  by_cases e : i = k
  · subst e; rw [if_pos rfl, if_pos (by omega), shareAt, if_neg h]
  · rw [if_neg e]
    by_cases h : i < k
    · rw [if_pos h, if_pos (by omega)]
    · rw [if_neg h, if_neg (by omega)]

theorem varCells_get (n : Nat) (cs : List (List Int)) (k : Nat) (h : k < n) : (varCells n cs n).getD k undef = .float .f64 (Fl.W (weight cs k)) := by
  unfold varCells; rw [range_getD _ _ _ _ h, if_pos h]

theorem order_W_eq (p : Nat) (hp : p < 9007199254740992) : (FloatKind.f64.format.order (Fl.W p) 0 == some .eq) = decide (p = 0) := by
  have : FloatKind.f64.format.order (Fl.W p) (Fl.W 0) = some (compare p 0) := Fl.order_W p 0 hp (by decide)
  rw [show Fl.W 0 = 0 from Fl.nearest_zero _] at this
  rw [this]
  by_cases h : p = 0
  · subst h; decide
  · rw [Nat.compare_eq_gt.2 (by omega), decide_eq_false h]; decide

set_option maxHeartbeats 1000000 in
theorem shares_any (n : Nat) (ao : Option Addr) (cap : Nat) (cs : List (List Int)) (T : Nat) (w : World) (hc : ListsAt w w.heap.size ao cs) (hg : Good n cs) (hT : T ≤ 1125899906842624) :
    Calls Tryz.prog 25 #[.agg #[.int .i64 n, .slice ao cs.length cap], .int .i64 T] w fun e w' => ∃ g, e = .returned (.slice (some ⟨g, 0, none⟩) n n) ∧ w.heap.size ≤ g ∧
      Blk w' g 3 (shareCells n cs T n) ∧ Below w.heap.size w w' := by
  have hn := hg.vars
  have hw1 : Below w.heap.size w (w.alloc (.cells #[.int .i64 n, .slice ao cs.length cap] 24)) := (Below.refl _ _).alloc (Nat.le_refl _) _
  have B0 := blk_new w [.int .i64 n, .slice ao cs.length cap] 24
  have hW0 : (w.alloc (.cells #[.int .i64 n, .slice ao cs.length cap] 24)).heap.size = w.heap.size + 1 := by simp
  go_enter Tryz.func25, Tryz.ntmps25
  go_wp2_with fail
  change Blk (w.alloc (.cells #[.int .i64 n, .slice ao cs.length cap] 24)) w.heap.size 24 _ at B0
  generalize w.alloc (.cells #[.int .i64 n, .slice ao cs.length cap] 24) = W at *
  have hc1 := (hc.below hw1 (Nat.le_refl _)).mono hw1.size
  refine (ofVariables_any n ao cap cs W hc1 hg).mono ?_
  rintro e w1 ⟨g1, rfl, hg1, hB1, hb1⟩
  have hbw1 := hw1.trans (hb1.mono (by omega))
  have B1 := B0.below' hb1
  have c0 : w1.cell? ⟨w.heap.size, 0, none⟩ = some (.int .i64 n) := B1.cell (i := 0) (by simp) undef
  have hlt1 := hB1.lt
  have HS : Hid (W.heap.size = w.heap.size + 1) := hW0
  clear hW0 hc hc1 B0 hw1 hb1
  go_wp2
  go_loop [17, 6] (fun i s => ∃ (k : Nat), k ≤ n ∧ i = .int .i64 k ∧ s = .float .f64 (Fl.W (sumTo cs k))) (fun i _ => n - (intOf i).toNat)
  case atStart => exact ⟨0, by omega, rfl, by rw [show Fl.W (sumTo cs 0) = 0 from Fl.nearest_zero _]⟩
  case round =>
    obtain ⟨k, hk, rfl, rfl⟩ := hrel
    by_cases hlt : k < n
    · have hcell := hB1.cell (i := k) (by simp [varCells]; omega) undef
      rw [varCells_get _ _ _ hlt] at hcell
      have h1 := hg.sum_le k
      have h2 := hg.weight_le k
      have hadd : ∀ w, (binOp .add 86 (.float .f64 (Fl.W (sumTo cs k))) (.float .f64 (Fl.W (weight cs k)))).run Tryz.prog w = .ok (.float .f64 (Fl.W (sumTo cs (k + 1)))) w :=
        fun w => run_float_arith w .add 86 .f64 _ _ _ (Fl.add_W _ _ (by omega) (by omega))
      go_wp2
      go_round
      case rel => exact ⟨k + 1, by omega, by go_num, rfl⟩
      case measure => simp [intOf]; omega
    · obtain rfl : k = n := by omega
      have hS := hg.sum_le k
      have hord := order_W_eq (sumTo cs k) (by omega)
      have hL : Hid (List.replicate k (Value.int .i64 0) = shareCells k cs T 0) := shareCells_start k cs T
      by_cases hz : sumTo cs k = 0
      · have hd : decide (sumTo cs k = 0) = true := by simp [hz]
        rw [hd] at hord
        have HZ : Hid (sumTo cs k = 0) := hz
        clear hz hd
        go_wp2_with (at_make; refine wpList_make_blk _ rfl (.tmp 26) (.tmp 26) 32 rfl 3 (.int .i64 0) 8 Tryz.underlying32 Tryz.info3 rfl .i64 .i64 k _ _ rfl rfl (by omega) (by omega) (by omega) (by omega) ?_; rw [hL.out, shareCells_zero _ _ _ HZ.out]; intro w4 hB4 hb4 hs4)
        go_ret
        exact ⟨_, rfl, hbw1.size, hB4, hbw1.trans (hb4.mono hbw1.size)⟩
      · have hd : decide (sumTo cs k = 0) = false := by simp [hz]
        rw [hd] at hord
        have HZ : Hid (sumTo cs k ≠ 0) := hz
        clear hz hd
        go_wp2_with (at_make; refine wpList_make_blk _ rfl (.tmp 26) (.tmp 26) 32 rfl 3 (.int .i64 0) 8 Tryz.underlying32 Tryz.info3 rfl .i64 .i64 k _ _ rfl rfl (by omega) (by omega) (by omega) (by omega) ?_; rw [hL.out]; intro w4 hB4 hb4 hs4)
        go_loopw [33] (fun i wr => ∃ (j : Nat), j ≤ k ∧ i = .int .i64 j ∧ Blk wr w1.heap.size 3 (shareCells k cs T j) ∧ Blk wr g1 86 (varCells k cs k) ∧ Below w.heap.size w wr) (fun i _ => k - (intOf i).toNat)
        case atStart => exact ⟨0, by omega, rfl, hB4, hB1.below' hb4, hbw1.trans (hb4.mono hbw1.size)⟩
        case round =>
          have hsz1 := hbw1.size
          clear hB4 hB1 hb4 hs4 c0 B1 hL hbw1 hord
          obtain ⟨j, hj, rfl, hB, hBv, hb⟩ := hrel
          by_cases hjl : j < k
          · have hcell := hBv.cell (i := j) (by simp [varCells]; omega) undef
            rw [varCells_get _ _ _ hjl] at hcell
            obtain ⟨x, r, hm, hq, hcv⟩ := shareOf_runs (P := Tryz.prog) T (weight cs j) (sumTo cs k) hT (sum_mono cs k j hjl) HZ.out (by omega) 86 3 (by kernel_rfl) (by kernel_rfl) 86
            have hfl := float_nat T
            have hold := hB.cell (i := j) (by simp [shareCells]; omega) undef
            have hfr := hB.frozen j
            have hset := hB.set j (.int .i64 (shareOf T (weight cs j) (sumTo cs k)))
            rw [shareCells_step _ _ _ _ HZ.out] at hset
            have hBv2 := hBv.setOther (a := ⟨w1.heap.size, j, none⟩) (by simp; omega) (.int .i64 (shareOf T (weight cs j) (sumTo cs k)))
            generalize (shareCells k cs T j).getD j undef = old at *
            go_wp2
            go_roundw
            case rel => exact ⟨j + 1, by omega, by go_num, hset, hBv2, hb.setCell (by simpa using hsz1) _⟩
            case measure => simp [intOf]; omega
          · obtain rfl : j = k := by omega
            go_wp2
            go_ret
            exact ⟨_, rfl, hsz1, hB, hb⟩
end Go.Proofs.YtlodenfdcckemaaGreatDoor
