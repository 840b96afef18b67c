/-
  The walks of the program's weights.
-/
import Derived.Test.YtlodenfdcckemaaDoorH7
import Derived.Test.YtlodenfdcckemaaDoorH27
import Derived.Deep.QuietTactic
import Derived.BigQuiet
namespace Go.Proofs.YtlodenfdcckemaaDoor
open Go.RowKit

attribute [local go_sem] run_store_float

theorem Tryd.info159 : (Tryd.prog.info? 159).map (fun i => (i.zero, i.size, i.bytes)) = some (some (.float .f64 0), 1, 8) := by kernel_rfl

set_option maxHeartbeats 400000 in
theorem place_any (x : Int) (w : World) (h : x ≠ 0 ∧ x ≤ 20 ∧ -20 ≤ x) :
    Calls Tryd.prog 67 #[.int .i64 x] w fun e w' => e = .returned (.int .i64 (placeOf x)) ∧ w' = w := by
  obtain ⟨h0, h1, h2⟩ := h
  by_cases hx : x < 0
  · have hf : Hid ((placeOf x : Int) = 2 * (-x - 1) + 1) := by unfold Hid placeOf; rw [if_pos hx]; omega
    go_enter Tryd.func67, Tryd.ntmps67
    go_wp2
    go_ret
    exact ⟨by rw [hf.out]; rfl, rfl⟩
  · have hf : Hid ((placeOf x : Int) = 2 * (x - 1)) := by unfold Hid placeOf; rw [if_neg hx]; omega
    go_enter Tryd.func67, Tryd.ntmps67
    go_wp2
    go_ret
    exact ⟨by rw [hf.out]; rfl, rfl⟩

/-- The cells of the literals' weights, the first k clauses counted, and the first j literals of clause c. -/
def litCells (n : Nat) (cs : List (List Int)) (k : Nat) (c : List Int) (j : Nat) : List Value :=
  (List.range (2 * n)).map fun i => .float .f64 (Fl.W (partsOf (cs.take k) (litAt i) + partsIn c.length (c.take j) (litAt i)))

theorem litCells_zero (n : Nat) (cs : List (List Int)) (k : Nat) (c d : List Int) : litCells n cs k c 0 = litCells n cs k d 0 := by
  unfold litCells
  exact range_congr _ _ _ fun i _ => by simp [partsIn]

theorem litCells_start (n : Nat) (cs : List (List Int)) (c : List Int) : List.replicate (2 * n) (Value.float .f64 0) = litCells n cs 0 c 0 := by
  rw [replicate_range]
  unfold litCells
  refine range_congr _ _ _ fun i _ => ?_
  simp [partsIn, partsOf]
  rfl

theorem litCells_next (n : Nat) (cs : List (List Int)) (k : Nat) (hk : k < cs.length) : litCells n cs k (cs.getD k []) (cs.getD k []).length = litCells n cs (k + 1) [] 0 := by
  unfold litCells
  refine range_congr _ _ _ fun i _ => ?_
  rw [partsOf_take _ _ hk]
  simp [partsIn]

theorem litCells_step (n : Nat) (cs : List (List Int)) (k : Nat) (c : List Int) (j : Nat) (hj : j < c.length) (x : Int) (hx : x = c.getD j 0) (h0 : x ≠ 0) (p : Nat) (hp : p = partsOf (cs.take k) x + partsIn c.length (c.take j) x) :
    (litCells n cs k c j).set (placeOf x) (.float .f64 (Fl.W (p + 2 ^ (20 - c.length)))) = litCells n cs k c (j + 1) := by
  unfold litCells
  rw [range_set]
  refine range_congr _ _ _ fun i _ => ?_
  rw [partsIn_take _ _ _ hj, ← hx]
  by_cases e : i = placeOf x
  · subst e
    rw [if_pos rfl, litAt_placeOf h0, if_pos rfl, hp, Nat.add_assoc]
  · rw [if_neg e, if_neg (fun h => e ((litAt_eq h0 i).1 h)), Nat.add_zero]

theorem litCells_at (n : Nat) (cs : List (List Int)) (k : Nat) (c : List Int) (j : Nat) (x : Int) (h0 : x ≠ 0) (hlt : placeOf x < 2 * n) :
    (litCells n cs k c j).getD (placeOf x) undef = .float .f64 (Fl.W (partsOf (cs.take k) x + partsIn c.length (c.take j) x)) := by
  unfold litCells
  rw [range_getD _ _ _ _ hlt, litAt_placeOf h0]

theorem float_nat (a : Nat) : floatOfInt .f64 (a : Int) = Fl.F a := by
  show Ieee.double.nearest (decide ((a : Int) < 0)) (Int.natAbs (a : Int)) 0 = _
  rw [decide_eq_false (by omega), Int.natAbs_natCast]
  rfl

theorem float_sh (q : Nat) (hq : q ≤ 20) : floatOfInt .f64 (wrap64 (2 ^ q)) = Fl.F (2 ^ q) := by
  have hw : ∀ q : Fin 21, floatOfInt .f64 (wrap64 (2 ^ q.1)) = Fl.F (2 ^ q.1) := by decide +kernel
  exact hw ⟨q, by omega⟩

set_option maxHeartbeats 1000000 in
theorem ofLiterals_any (n : Nat) (ao : Option Addr) (cap : Nat) (cs : List (List Int)) (w : World) (hc : ListsAt w w.heap.size ao cs) (hg : Good n cs) :
    Calls Tryd.prog 113 #[.agg #[.int .i64 n, .slice ao cs.length cap]] w fun e w' => ∃ g, e = .returned (.slice (some ⟨g, 0, none⟩) (2 * n) (2 * n)) ∧ w.heap.size ≤ g ∧
      Blk w' g 159 (litCells n cs cs.length [] 0) ∧ Below w.heap.size w w' := by
  have hn := hg.vars
  have hm := hg.many
  have hL : Hid (∀ c, List.replicate (2 * n) (Value.float .f64 0) = litCells n cs 0 c 0) := fun c => litCells_start n cs c
  go_enter Tryd.func113, Tryd.ntmps113
  go_wp2_with (first
    | (at_make; refine wpList_make_blk _ rfl (.tmp 11) (.tmp 11) 156 rfl 159 (.float .f64 0) 8 Tryd.underlying156 Tryd.info159 rfl .i64 .i64 (2 * n) _ _ rfl rfl (by omega) (by omega) (by omega) (by omega) ?_; rw [hL.out []]; intro w1 hB1 hb1 hs1; have c1 : w1.cell? ⟨w.heap.size, 1, none⟩ = some (.slice ao cs.length cap) := (hb1.cell (p := ⟨w.heap.size, 1, none⟩) (by simp)).trans (by simp)))
  go_loopw [16] (fun i wr => ∃ (k : Nat), k ≤ cs.length ∧ i = .int .i64 k ∧ Blk wr (w.heap.size + 1) 159 (litCells n cs k [] 0) ∧ Below w.heap.size w wr) (fun i _ => cs.length - (intOf i).toNat)
  case atStart =>
    refine ⟨0, by omega, rfl, ?_, ?_⟩
    · simpa using hB1
    · exact ((Below.refl _ _).alloc (Nat.le_refl _) _).trans (hb1.mono (by simp))
  case round =>
    clear hB1 hb1 hs1 c1
    obtain ⟨k, hk, rfl, hB, hb⟩ := hrel
    by_cases hlt : k < cs.length
    · obtain ⟨b, o, rfl, hbl, hcc⟩ := hc (by intro h; rw [h] at hlt; simp at hlt)
      obtain ⟨A, C, hck, hci⟩ := hcc k hlt
      have hck1 := (hb.cell (p := ⟨b, o + k, none⟩) hbl).trans hck
      have hmem : cs.getD k [] ∈ cs := by rw [getD_lt _ _ _ hlt]; exact List.getElem_mem hlt
      have hcl := hg.long _ hmem
      have hlits : Hid _ := hg.lits _ hmem
      have hnext : Hid _ := litCells_next n cs k hlt
      obtain ⟨c, hx⟩ : ∃ x, x = cs.getD k [] := ⟨_, rfl⟩
      rw [← hx] at hck1 hci hcl hlits hnext
      have hBc : Blk wr (w.heap.size + 1) 159 (litCells n cs k c 0) := litCells_zero n cs k [] c ▸ hB
      have hdv : ∀ w, (binOp .quo 159 (.float .f64 4607182418800017408) (.float .f64 (Fl.F (2 ^ c.length)))).run Tryd.prog w = .ok (.float .f64 (Fl.W (2 ^ (20 - c.length)))) w := fun w => run_float_arith w .quo 159 .f64 _ _ _ (Fl.one_div _ hcl)
      have hfl := float_sh c.length hcl
      have h2p : 2 ^ (20 - c.length) ≤ 1048576 := Nat.pow_le_pow_right (n := 2) (by omega) (show 20 - c.length ≤ 20 by omega)
      obtain ⟨e2, he⟩ : ∃ e2, e2 = 2 ^ (20 - c.length) := ⟨_, rfl⟩
      rw [← he] at hdv h2p
      have HE : Hid (e2 = 2 ^ (20 - c.length)) := he
      clear he
      clear hx hcc hck hB
      go_wp2
      go_loopw [27] (fun i wr => ∃ (j : Nat), j ≤ c.length ∧ i = .int .i64 j ∧ Blk wr (w.heap.size + 1) 159 (litCells n cs k c j) ∧ Below w.heap.size w wr) (fun i _ => c.length - (intOf i).toNat)
      case atStart => exact ⟨0, by omega, rfl, hBc, hb⟩
      case round =>
        clear hBc hb hck1 hfl hdv
        obtain ⟨j, hj, rfl, hB, hb⟩ := hrel
        by_cases hjl : j < c.length
        · obtain ⟨b', o', rfl, hb', hcell'⟩ := hci (by intro h; rw [h] at hjl; simp at hjl)
          have hcj := (hb.cell (p := ⟨b', o' + j, none⟩) hb').trans (hcell' j hjl)
          have hbd := hlits.out _ (show c.getD j 0 ∈ c by rw [getD_lt _ _ _ hjl]; exact List.getElem_mem hjl)
          obtain ⟨x, hx⟩ : ∃ x, x = c.getD j 0 := ⟨_, rfl⟩
          rw [← hx] at hcj hbd
          have hpl := placeOf_lt hbd
          have hcell := hB.cell (i := placeOf x) (by simp [litCells, hpl]) undef
          rw [litCells_at _ _ _ _ _ _ hbd.1 hpl] at hcell
          have hfr := hB.frozen (placeOf x)
          have hst := litCells_step n cs k c j hjl x hx hbd.1 _ rfl
          have hset := hB.set (placeOf x) (.float .f64 (Fl.W (partsOf (cs.take k) x + partsIn c.length (c.take j) x + 2 ^ (20 - c.length))))
          rw [hst] at hset
          have hpb := hg.parts_take_le k x
          have hpi := partsIn_le c.length (c.take j) x (by simp; omega)
          obtain ⟨p, hp⟩ : ∃ p, p = partsOf (cs.take k) x + partsIn c.length (c.take j) x := ⟨_, rfl⟩
          rw [← hp] at hcell hset
          rw [← HE.out] at hset
          have HS : Hid _ := hset
          have hadd : ∀ w, (binOp .add 159 (.float .f64 (Fl.W p)) (.float .f64 (Fl.W e2))).run Tryd.prog w = .ok (.float .f64 (Fl.W (p + e2))) w := fun w => run_float_arith w .add 159 .f64 _ _ _ (Fl.add_W _ _ (by omega) (by omega))
          have hxb : x ≠ 0 ∧ x ≤ 20 ∧ -20 ≤ x := ⟨hbd.1, by omega, by omega⟩
          have HX : Hid (x ≠ 0 ∧ x ≤ 20 ∧ -20 ≤ x) := hxb
          obtain ⟨q, hq⟩ : ∃ q, q = placeOf x := ⟨_, rfl⟩
          rw [← hq] at hcell hfr HS hpl
          have HQ : Hid (q = placeOf x) := hq
          clear hxb hbd hset hst hpb hpi hp hcell' hx hq hg hlits
          go_wp2_with (go_at_call 67; refine (place_any x _ HX.out).mono ?_; rintro e w' ⟨rfl, rfl⟩; rw [← HQ.out])
          go_roundw
          case rel => exact ⟨j + 1, by omega, by go_num, HS.out, hb.setCell (by simp) _⟩
          case measure => simp [intOf]; omega
        · obtain rfl : j = c.length := by omega
          rw [hnext.out] at hB
          go_wp2
          go_roundw
          case rel => exact ⟨k + 1, by omega, by go_num, hB, hb⟩
          case measure => simp [intOf]; omega
    · obtain rfl : k = cs.length := by omega
      go_wp2
      go_ret
      exact ⟨_, rfl, by simp, hB, hb⟩
end Go.Proofs.YtlodenfdcckemaaDoor
