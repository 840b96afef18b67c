/-
  The walks of the program's weights of variables.
-/
import Derived.Test.YtlodenfdcckemaaDoorH34
import Derived.Deep.RegionHeld3
namespace Go.Proofs.YtlodenfdcckemaaDoor
open Go.RowKit

attribute [local go_sem] run_store_float

/-- What variable i + 1 weighs, in parts. -/
def weight (cs : List (List Int)) (i : Nat) : Nat := partsOf cs (litAt (2 * i)) + partsOf cs (litAt (2 * i + 1))

theorem Good.weight_le {n : Nat} {cs : List (List Int)} (h : Good n cs) (i : Nat) : weight cs i ≤ 8388608000 := by
  have h1 := h.parts_le (litAt (2 * i))
  have h2 := h.parts_le (litAt (2 * i + 1))
  unfold weight
  omega

/-- The cells of the variables' weights, the first k of them. -/
def varCells (n : Nat) (cs : List (List Int)) (k : Nat) : List Value := (List.range n).map fun i => .float .f64 (if i < k then Fl.W (weight cs i) else 0)

theorem varCells_start (n : Nat) (cs : List (List Int)) : List.replicate n (Value.float .f64 0) = varCells n cs 0 := by
  rw [replicate_range]
  unfold varCells
  exact range_congr _ _ _ fun i _ => by simp

theorem varCells_step (n : Nat) (cs : List (List Int)) (k : Nat) : (varCells n cs k).set k (.float .f64 (Fl.W (weight cs k))) = varCells n cs (k + 1) := by
  unfold varCells
  rw [range_set]
  refine range_congr _ _ _ fun i _ => ?_
  by_cases e : i = k
  · subst e; simp
  · rw [if_neg e]
    by_cases h : i < k
    · rw [if_pos h, if_pos (by omega)]
    · rw [if_neg h, if_neg (by omega)]

theorem litCells_get (n : Nat) (cs : List (List Int)) (i : Nat) (h : i < 2 * n) : (litCells n cs cs.length [] 0).getD i undef = .float .f64 (Fl.W (partsOf cs (litAt i))) := by
  unfold litCells
  rw [range_getD _ _ _ _ h]
  simp [partsIn]

theorem wrapI {x : Int} (h0 : -9223372036854775808 ≤ x) (h1 : x ≤ 9223372036854775807) : IntKind.i64.wrap x = x := by
  have := @IntKind.wrap_i64 x
  rw [this]
  omega

set_option maxHeartbeats 1000000 in
theorem ofVariables_any (n : Nat) (ao : Option Addr) (cap : Nat) (cs : List (List Int)) (w : World) (hc : ListsAt w w.heap.size ao cs) (hg : Good n cs) :
    Calls Tryd.prog 127 #[.agg #[.int .i64 n, .slice ao cs.length cap]] w fun e w' => ∃ g, e = .returned (.slice (some ⟨g, 0, none⟩) n n) ∧ w.heap.size ≤ g ∧
      Blk w' g 159 (varCells n cs n) ∧ Below w.heap.size w w' := by
  have hn := hg.vars
  have hw1 : Below w.heap.size w (w.alloc (.cells #[.int .i64 n, .slice ao cs.length cap] 31)) := (Below.refl _ _).alloc (Nat.le_refl _) _
  have hc1 : Hid (ListsAt (w.alloc (.cells #[.int .i64 n, .slice ao cs.length cap] 31)) (w.alloc (.cells #[.int .i64 n, .slice ao cs.length cap] 31)).heap.size ao cs) := (hc.below hw1 (Nat.le_refl _)).mono hw1.size
  have hL : Hid (List.replicate n (Value.float .f64 0) = varCells n cs 0) := varCells_start n cs
  clear hc
  go_enter Tryd.func127, Tryd.ntmps127
  go_wp2_with (first
    | (go_at_call 113; refine (ofLiterals_any n ao cap cs _ hc1.out hg).mono ?_; rintro e w1 ⟨g1, rfl, hg1, hB1, hb1⟩; have c0 : w1.cell? ⟨w.heap.size, 0, none⟩ = some (.int .i64 n) := (hb1.cell (p := ⟨w.heap.size, 0, none⟩) (by simp)).trans (by simp))
    | (at_make; refine wpList_make_blk _ rfl (.tmp 9) (.tmp 9) 156 rfl 159 (.float .f64 0) 8 Tryd.underlying156 Tryd.info159 rfl .i64 .i64 n _ _ rfl rfl (by omega) (by omega) (by omega) (by omega) ?_; rw [hL.out]; intro w2 hB2 hb2 hs2))
  have hG : g1 < w1.heap.size := hB1.lt
  go_loopw [13] (fun i wr => ∃ (k : Nat), k ≤ n ∧ i = .int .i64 k ∧ Blk wr g1 159 (litCells n cs cs.length [] 0) ∧ Blk wr w1.heap.size 159 (varCells n cs k) ∧ Below w.heap.size w wr) (fun i _ => n - (intOf i).toNat)
  case atStart => exact ⟨0, by omega, rfl, hB1.below' hb2, hB2, (hw1.trans (hb1.mono (by simp))).trans (hb2.mono (by have := hb1.size; simp at this; omega))⟩
  case round =>
    have hsz1 : w.heap.size ≤ w1.heap.size := by have := hb1.size; simp at this; omega
    clear hB1 hb1 hb2 hs2 hB2 hc1 hL hw1 c0
    obtain ⟨k, hk, rfl, hBl, hBv, hb⟩ := hrel
    by_cases hlt : k < n
    · have h0 : wr.cell? ⟨g1, 2 * k, none⟩ = some _ := hBl.cell (i := 2 * k) (by simp [litCells]; omega) undef
      have h1 : wr.cell? ⟨g1, 2 * k + 1, none⟩ = some _ := hBl.cell (i := 2 * k + 1) (by simp [litCells]; omega) undef
      rw [litCells_get _ _ _ (by omega)] at h0 h1
      have hv : wr.cell? ⟨w1.heap.size, k, none⟩ = some _ := hBv.cell (i := k) (by simp [varCells]; omega) undef
      have hfr := hBv.frozen k
      have hset := hBv.set k (.float .f64 (Fl.W (weight cs k)))
      rw [varCells_step] at hset
      have hBl2 := hBl.setOther (a := ⟨w1.heap.size, k, none⟩) (by simp; omega) (.float .f64 (Fl.W (weight cs k)))
      have hadd : ∀ w, (binOp .add 159 (.float .f64 (Fl.W (partsOf cs (litAt (2 * k))))) (.float .f64 (Fl.W (partsOf cs (litAt (2 * k + 1)))))).run Tryd.prog w = .ok (.float .f64 (Fl.W (weight cs k))) w :=
        fun w => run_float_arith w .add 159 .f64 _ _ _ (Fl.add_W _ _ (by have := hg.parts_le (litAt (2 * k)); omega) (by have := hg.parts_le (litAt (2 * k + 1)); omega))
      have hk0 : Hid ((wr.setCell ⟨w1.heap.size, k, none⟩ (.float .f64 (Fl.W (weight cs k)))).cell? ⟨g1, 2 * k, none⟩ = some (.float .f64 (Fl.W (partsOf cs (litAt (2 * k)))))) := (hBl2.cell (i := 2 * k) (by simp [litCells]; omega) undef).trans (by rw [litCells_get _ _ _ (by omega)])
      have hk1 : Hid ((wr.setCell ⟨w1.heap.size, k, none⟩ (.float .f64 (Fl.W (weight cs k)))).cell? ⟨g1, 2 * k + 1, none⟩ = some (.float .f64 (Fl.W (partsOf cs (litAt (2 * k + 1)))))) := (hBl2.cell (i := 2 * k + 1) (by simp [litCells]; omega) undef).trans (by rw [litCells_get _ _ _ (by omega)])
      generalize partsOf cs (litAt (2 * k)) = p0 at *
      generalize partsOf cs (litAt (2 * k + 1)) = p1 at *
      generalize (varCells n cs k).getD k undef = old at *
      have hi0 : (0 : Int) ≤ (k : Int) := by omega
      have hi1 : (k : Int) < (n : Int) := by omega
      have hq0 : IntKind.i64.wrap (2 * (k : Int)) = 2 * (k : Int) := wrapI (by omega) (by omega)
      have hq1 : IntKind.i64.wrap (2 * (k : Int) + 1) = 2 * (k : Int) + 1 := wrapI (by omega) (by omega)
      have hi2 : (2 * (k : Int)) < 2 * (n : Int) := by omega
      have hi3 : (2 * (k : Int) + 1) < 2 * (n : Int) := by omega
      have hi4 : (0 : Int) ≤ 2 * (k : Int) := by omega
      have hi5 : (0 : Int) ≤ 2 * (k : Int) + 1 := by omega
      have ht0 : (2 * (k : Int)).toNat = 2 * k := by omega
      have ht1 : (2 * (k : Int) + 1).toNat = 2 * k + 1 := by omega
      go_wp2
      go_region_held3 (fun w' => w'.cell? ⟨g1, 2 * k, none⟩ = some (.float .f64 (Fl.W p0)) ∧ w'.cell? ⟨g1, 2 * k + 1, none⟩ = some (.float .f64 (Fl.W p1))) (first | exact ⟨hk0.out, hk1.out⟩ | go_keep) (fail)
      all_goals go_wp2
      go_roundw
      case rel => exact ⟨k + 1, by omega, by go_num, hBl2, hset, (hb.setCell (p := ⟨w1.heap.size, k, none⟩) hsz1 _).drew⟩
      case measure => simp [intOf]; omega
    · obtain rfl : k = n := by omega
      go_wp2
      go_ret
      exact ⟨_, rfl, hsz1, hBv, hb⟩
end Go.Proofs.YtlodenfdcckemaaDoor
