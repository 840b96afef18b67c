/-
  The walks of the document's scores and shares.
-/
import Derived.Test.YtlodenfdcckemaaRefWhole
import Derived.Test.YtlodenfdcckemaaShares
namespace Go.Proofs.Ytlodenfdcckemaa
open Go.RowKit

attribute [local go_sem] run_store_float

/-- The scores of the first k variables' literals. -/
def scoresL (cs : List (List Int)) (k : Nat) : List Value := (List.range (2 * k)).map fun i => .float .f64 (Fl.W (partsOf cs (litAt i)))
theorem scoresL_succ (cs : List (List Int)) (k : Nat) : scoresL cs (k + 1) = scoresL cs k ++ [.float .f64 (Fl.W (partsOf cs ((k : Int) + 1))), .float .f64 (Fl.W (partsOf cs (-((k : Int) + 1))))] := by
  unfold scoresL
  rw [show 2 * (k + 1) = 2 * k + 1 + 1 by omega, List.range_succ, List.range_succ]
  simp [litAt_even, litAt_odd]
theorem scoresL_length (cs : List (List Int)) (k : Nat) : (scoresL cs k).length = 2 * k := by simp [scoresL]
theorem scoresL_lit (n : Nat) (cs : List (List Int)) : litCells n cs cs.length [] 0 = scoresL cs n := by
  unfold litCells scoresL
  exact range_congr _ _ _ fun i _ => by simp [partsIn]

theorem run_quoC (p : Nat) (hp : p < 9007199254740992) (w : World) : (binOp .quo 42 (.float .f64 (Fl.F p)) (.float .f64 4697254411347427328)).run Try.prog w = .ok (.float .f64 (Fl.W p)) w :=
  run_float_arith w .quo 42 .f64 _ _ _ (Fl.div_C p hp)

set_option maxHeartbeats 1000000 in
theorem refScores_any (n : Nat) (ao : Option Addr) (cap : Nat) (cs : List (List Int)) (w : World) (hc : ListsAt w w.heap.size ao cs) (hg : Good n cs) :
    Calls Try.prog 12 #[.agg #[.int .i64 n, .slice ao cs.length cap]] w fun e w' => ∃ v, e = .returned v ∧ Own w' w.heap.size 42 v (scoresL cs n) ∧ Below w.heap.size w w' := by
  have hn := hg.vars
  have hw1 : Below w.heap.size w (w.alloc (.cells #[.int .i64 n, .slice ao cs.length cap] 24)) := (Below.refl _ _).alloc (Nat.le_refl _) _
  have B0 : Blk (w.alloc (.cells #[.int .i64 n, .slice ao cs.length cap] 24)) w.heap.size 24 [.int .i64 n, .slice ao cs.length cap] := blk_new w [.int .i64 n, .slice ao cs.length cap] 24
  go_enter Try.func12, Try.ntmps12
  go_wp2
  generalize w.alloc (.cells #[.int .i64 n, .slice ao cs.length cap] 24) = W at *
  go_loopw [3, 4] (fun v i wr => ∃ (k : Nat), k ≤ n ∧ i = .int .i64 ((k : Int) + 1) ∧ Own wr (w.heap.size + 1) 42 v (scoresL cs k) ∧ Blk wr w.heap.size 24 [.int .i64 n, .slice ao cs.length cap] ∧ Below w.heap.size w wr) (fun _ i _ => n + 1 - (intOf i).toNat)
  case atStart => exact ⟨0, by omega, rfl, Own.nil _ _ _, B0, hw1⟩
  case round =>
    clear B0 hw1
    obtain ⟨k, hk, rfl, hO, hB, hb⟩ := hrel
    have c0 : wr.cell? ⟨w.heap.size, 0, none⟩ = some (.int .i64 n) := hB.cell (i := 0) (by simp) undef
    have c1 : wr.cell? ⟨w.heap.size, 1, none⟩ = some (.slice ao cs.length cap) := hB.cell (i := 1) (by simp) undef
    obtain ⟨vo, vc, hv⟩ := hO.shape
    rw [scoresL_length] at hv
    subst hv
    by_cases hlt : k < n
    · have hc1 := (hc.below hb (Nat.le_refl _)).mono hb.size
      have hsu : Hid (scoresL cs (k + 1) = scoresL cs k ++ [.float .f64 (Fl.W (partsOf cs ((k : Int) + 1))), .float .f64 (Fl.W (partsOf cs (-((k : Int) + 1))))]) := scoresL_succ cs k
      obtain ⟨p, hp⟩ : ∃ p, p = partsOf cs ((k : Int) + 1) := ⟨_, rfl⟩
      obtain ⟨q, hq⟩ : ∃ q, q = partsOf cs (-((k : Int) + 1)) := ⟨_, rfl⟩
      have hpb := hg.parts_le ((k : Int) + 1)
      have hqb := hg.parts_le (-((k : Int) + 1))
      rw [← hp] at hpb hsu
      rw [← hq] at hqb hsu
      have HP : Hid (p = partsOf cs ((k : Int) + 1)) := hp
      have HQ : Hid (q = partsOf cs (-((k : Int) + 1))) := hq
      clear hp hq
      go_wp2_with fail
      refine (parts_at n ao cap cs _ wr hc1 hg p HP.out).mono ?_
      rintro e w2 ⟨rfl, hb2⟩
      have hB2 := hB.below' hb2
      have hO2 := hO.below' hb2
      have d0 : w2.cell? ⟨w.heap.size, 0, none⟩ = some (.int .i64 n) := hB2.cell (i := 0) (by simp) undef
      have d1 : w2.cell? ⟨w.heap.size, 1, none⟩ = some (.slice ao cs.length cap) := hB2.cell (i := 1) (by simp) undef
      have hbw2 := hb.trans (hb2.mono hb.size)
      have hc2 := (hc.below hbw2 (Nat.le_refl _)).mono hbw2.size
      clear c0 c1
      go_wp2_with fail
      refine (parts_at n ao cap cs _ w2 hc2 hg q HQ.out).mono ?_
      rintro e w3 ⟨rfl, hb3⟩
      have hB3 := hB2.below' hb3
      have hO3 := hO2.below' hb3
      have hbw3 := hbw2.trans (hb3.mono hbw2.size)
      have hsz3 := hB3.lt
      clear hO hO2 hB hB2 d0 d1 hc1 hc2
      have hOa := hO3.alloc (Obj.cells #[.float .f64 (Fl.W p), .float .f64 (Fl.W q)] 42)
      have hBa := hB3.alloc (Obj.cells #[.float .f64 (Fl.W p), .float .f64 (Fl.W q)] 42)
      have hNa : Blk (w3.alloc (Obj.cells #[.float .f64 (Fl.W p), .float .f64 (Fl.W q)] 42)) w3.heap.size 42 [.float .f64 (Fl.W p), .float .f64 (Fl.W q)] := blk_new w3 [.float .f64 (Fl.W p), .float .f64 (Fl.W q)] 42
      have hbwa : Below w.heap.size w (w3.alloc (Obj.cells #[.float .f64 (Fl.W p), .float .f64 (Fl.W q)] 42)) := hbw3.alloc hbw3.size _
      have hone : ∀ u ∈ [Value.float .f64 (Fl.W p), .float .f64 (Fl.W q)], u.oneCell' = true := by intro u hu; simp at hu; rcases hu with rfl | rfl <;> rfl
      have f1 := float_nat p
      have f2 := float_nat q
      have q1 := run_quoC p (by omega)
      have q2 := run_quoC q (by omega)
      go_wp2_with (at_builtin; refine wpList_append_new (.tmp 20) (.tmp 27) 34 42 (.float .f64 0) 8 Try.underlying34 Try.info42 rfl (w.heap.size + 1) w3.heap.size _ _ [.float .f64 (Fl.W p), .float .f64 (Fl.W q)] 2 (2 * k) (scoresL_length cs k) rfl (by decide) (by rfl) (by rfl) hOa hNa hone (by unfold maxLen; omega) (by omega) (by simp; omega) ?_; intro g4 cap4 w4 hO4 hg4 hat4 hlt4)
      go_roundw
      case rel =>
        refine ⟨k + 1, by omega, by go_num, ?_, ?_, ?_⟩
        · rw [hsu.out]; exact hO4
        · exact hBa.grown hg4 (fun e => by have := (hOa.lt e).1; omega)
        · exact hbwa.grown hg4 hbwa.size (fun j e => by have := (hOa.lt e).1; omega)
      case measure => simp [intOf]; omega
    · obtain rfl : k = n := by omega
      go_wp2
      go_ret
      refine ⟨_, rfl, ?_, hb⟩
      rcases hO with h | ⟨g, cap', h1, h2, h3, h4⟩
      · exact Or.inl h
      · exact Or.inr ⟨g, cap', h1, by omega, h3, h4⟩

set_option maxHeartbeats 1000000 in
theorem refShares_any (n : Nat) (ao : Option Addr) (cap : Nat) (cs : List (List Int)) (T : Nat) (w : World) (hc : ListsAt w w.heap.size ao cs) (hg : Good n cs) (hT : T ≤ 1125899906842624) :
    Calls Try.prog 16 #[.agg #[.int .i64 n, .slice ao cs.length cap], .int .i64 T] w fun e w' => ∃ g, e = .returned (.slice (some ⟨g, 0, none⟩) n n) ∧ w.heap.size ≤ g ∧
      Blk w' g 3 (shareCells n cs T n) ∧ Below w.heap.size w w' := by
  have hn := hg.vars
  have hw1 : Below w.heap.size w (w.alloc (.cells #[.int .i64 n, .slice ao cs.length cap] 24)) := (Below.refl _ _).alloc (Nat.le_refl _) _
  have hW0 : (w.alloc (.cells #[.int .i64 n, .slice ao cs.length cap] 24)).heap.size = w.heap.size + 1 := by simp
  go_enter Try.func16, Try.ntmps16
  go_wp2_with fail
  generalize w.alloc (.cells #[.int .i64 n, .slice ao cs.length cap] 24) = W at *
  have hc1 := (hc.below hw1 (Nat.le_refl _)).mono hw1.size
  refine (whole_any n ao cap cs W hc1 hg).mono ?_
  rintro e w1 ⟨v1, rfl, hO1, hb1⟩
  have hbw1 := hw1.trans (hb1.mono (by omega))
  obtain ⟨vo, vc, rfl, hI1⟩ := hO1.ints (Nat.le_refl _)
  rw [wholeL_length]
  clear hW0 hc hc1 hw1 hb1 hO1
  go_wp2
  go_loop [7, 6] (fun i s => ∃ (k : Nat), k ≤ n ∧ i = .int .i64 k ∧ s = .int .i64 ((sumTo cs k : Nat) : Int)) (fun i _ => n - (intOf i).toNat)
  case atStart => exact ⟨0, by omega, rfl, rfl⟩
  case round =>
    obtain ⟨k, hk, rfl, rfl⟩ := hrel
    by_cases hlt : k < n
    · obtain ⟨b, o, rfl, hbl, hcell⟩ := hI1 (by intro h; have := congrArg List.length h; rw [wholeL_length] at this; simp at this; omega)
      have hcell := hcell k (by rw [wholeL_length]; exact hlt)
      rw [show (wholeL cs n).getD k 0 = ((weight cs k : Nat) : Int) from range_getD _ _ _ _ hlt] at hcell
      have h1 := hg.sum_le k
      have h2 := hg.weight_le k
      have hsu : Hid (sumTo cs (k + 1) = sumTo cs k + weight cs k) := rfl
      generalize sumTo cs k = S at *
      generalize weight cs k = wt at *
      go_wp2
      go_round
      case rel => exact ⟨k + 1, by omega, by go_num, by rw [hsu.out]; go_num⟩
      case measure => simp [intOf]; omega
    · obtain rfl : k = n := by omega
      have hS := hg.sum_le k
      have hL : Hid (List.replicate k (Value.int .i64 0) = shareCells k cs T 0) := shareCells_start k cs T
      go_wp2_with (at_make; refine wpList_make_blk _ rfl (.tmp 26) (.tmp 26) 30 rfl 3 (.int .i64 0) 8 Try.underlying30 Try.info3 rfl .i64 .i64 k _ _ rfl rfl (by omega) (by omega) (by omega) (by omega) ?_; rw [hL.out]; intro w4 hB4 hb4 hs4)
      by_cases hz : sumTo cs k = 0
      · rw [shareCells_zero _ _ _ hz] at hB4
        rw [hz]
        have hkk : k = 0 ∨ 0 < k := by omega
        refine wp_loop_rounds 1 ?_
        rw [rounds_succ]
        rcases hkk with rfl | hk0
        · go_wp2
          go_ret
          exact ⟨_, rfl, hbw1.size, hB4, hbw1.trans (hb4.mono hbw1.size)⟩
        · go_wp2
          go_ret
          exact ⟨_, rfl, hbw1.size, hB4, hbw1.trans (hb4.mono hbw1.size)⟩
      · have hSp : 0 < sumTo cs k := by omega
        have HZ : Hid (sumTo cs k ≠ 0) := hz
        go_loopw [9] (fun i wr => ∃ (j : Nat), j ≤ k ∧ i = .int .i64 j ∧ Blk wr w1.heap.size 3 (shareCells k cs T j) ∧ IntsAt wr w1.heap.size vo (wholeL cs k) ∧ Below w.heap.size w wr) (fun i _ => k - (intOf i).toNat)
        case atStart => exact ⟨0, by omega, rfl, hB4, hI1.below hb4 (Nat.le_refl _), hbw1.trans (hb4.mono hbw1.size)⟩
        case round =>
          have hsz1 := hbw1.size
          clear hB4 hb4 hs4 hL hbw1 hI1
          obtain ⟨j, hj, rfl, hB, hI, hb⟩ := hrel
          by_cases hjl : j < k
          · obtain ⟨b, o, rfl, hbl, hcell⟩ := hI (by intro h; have := congrArg List.length h; rw [wholeL_length] at this; simp at this; omega)
            have hcell := hcell j (by rw [wholeL_length]; exact hjl)
            rw [show (wholeL cs k).getD j 0 = ((weight cs j : Nat) : Int) from range_getD _ _ _ _ hjl] at hcell
            have hwl := hg.weight_le j
            obtain ⟨x, r, hm, hq, hcv⟩ := shareOf_runs (P := Try.prog) T (weight cs j) (sumTo cs k) hT (sum_mono cs k j hjl) HZ.out (by omega) 42 3 (by kernel_rfl) (by kernel_rfl) 42
            have hfl := float_nat T
            have hfw := float_nat (weight cs j)
            have hfs := float_nat (sumTo cs k)
            have hqw := run_quoC (weight cs j) (by omega)
            have hqs := run_quoC (sumTo cs k) (by omega)
            have hold := hB.cell (i := j) (by simp [shareCells]; omega) undef
            have hfr := hB.frozen j
            have hset := hB.set j (.int .i64 (shareOf T (weight cs j) (sumTo cs k)))
            rw [shareCells_step _ _ _ _ HZ.out] at hset
            have hI2 : IntsAt (wr.setCell ⟨w1.heap.size, j, none⟩ (.int .i64 (shareOf T (weight cs j) (sumTo cs k)))) w1.heap.size (some ⟨b, o, none⟩) (wholeL cs k) := hI.below (((Below.refl w1.heap.size wr).setCell (p := ⟨w1.heap.size, j, none⟩) (Nat.le_refl _) _)) (Nat.le_refl _)
            generalize (shareCells k cs T j).getD j undef = old at *
            clear hz
            go_wp2
            go_roundw
            case rel => exact ⟨j + 1, by omega, by go_num, hset, hI2, hb.setCell (by simpa using hsz1) _⟩
            case measure => simp [intOf]; omega
          · obtain rfl : j = k := by omega
            go_wp2
            go_ret
            exact ⟨_, rfl, hsz1, hB, hb⟩
end Go.Proofs.Ytlodenfdcckemaa
