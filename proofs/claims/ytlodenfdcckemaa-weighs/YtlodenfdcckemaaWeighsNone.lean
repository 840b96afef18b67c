/-
  The walk of the law on weights: formulas without a fault, numbers that may not be shared out.
-/
import Derived.Test.YtlodenfdcckemaaWeighsGood
namespace Go.Proofs.Ytlodenfdcckemaa
open Go.RowKit

attribute [local go_sem] run_store_float

set_option maxRecDepth 100000 in
set_option maxHeartbeats 8000000 in
theorem weighs_neg (n : Nat) (ao : Option Addr) (cap : Nat) (cs : List (List Int)) (x : Int) (w : World) (hc : ListsAt w w.heap.size ao cs) (hF : Fits cs) (hg : Good n cs) (hf : (fault n cs).1 = 0) (hx : x < 0) :
    Calls Try.prog 3 #[fm n ao cap cs, .int .i64 x] w fun e w' => e = .returned (.bool true) ∧ Below w.heap.size w w' := by
  have hn20 := hg.vars
  have HF : Hid ((fault n cs).1 = 0) := hf
  have hw1 : Below w.heap.size w (w.alloc (.cells #[.int .i64 n, .slice ao cs.length cap] 24)) := (Below.refl _ _).alloc (Nat.le_refl _) _
  have hc1 : Hid (ListsAt (w.alloc (.cells #[.int .i64 n, .slice ao cs.length cap] 24)) (w.alloc (.cells #[.int .i64 n, .slice ao cs.length cap] 24)).heap.size ao cs) := (hc.below hw1 (Nat.le_refl _)).mono hw1.size
  have B0 : Blk (w.alloc (.cells #[.int .i64 n, .slice ao cs.length cap] 24)) w.heap.size 24 [.int .i64 n, .slice ao cs.length cap] := blk_new w [.int .i64 n, .slice ao cs.length cap] 24
  clear hf
  unfold fm
  go_enter Try.func3, Try.ntmps3
  go_wp2_with fail
  refine (refFault_any n ao cap cs _ hc1.out hF.nums).mono ?_
  rintro e wa ⟨rfl, hba⟩
  rw [HF.out]
  have Ba := B0.below' hba
  have n0 : wa.cell? ⟨w.heap.size, 0, none⟩ = some (.int .i64 n) := Ba.cell (i := 0) (by simp) undef
  have n1 : wa.cell? ⟨w.heap.size, 1, none⟩ = some (.slice ao cs.length cap) := Ba.cell (i := 1) (by simp) undef
  have hbwa := hw1.trans (hba.mono hw1.size)
  have hca := (hc.below hbwa (Nat.le_refl _)).mono hbwa.size
  generalize (fault n cs).2 = pl
  go_wp2_with fail
  refine (handed_any n ao cap cs _ hca hF.len hF.each).mono ?_
  rintro e w1 ⟨g, rfl, hg1, hH1, hb1⟩
  have I0 := Inv.start' hc (by simpa using hba) hH1 hb1
  clear hw1 hc1 hc hb1 hH1 hg1 hba B0 Ba n0 n1 hbwa hca
  obtain ⟨-, -, m0, m1, -⟩ := I0.cells
  have hBk0 := booksAt_new (w1.alloc (.cells #[.int .i64 n, .slice (some ⟨g, 0, none⟩) cs.length (cs.length + 4)] 24))
  have hB0 := alloc_below (w1.alloc (.cells #[.int .i64 n, .slice (some ⟨g, 0, none⟩) cs.length (cs.length + 4)] 24)) (.cells #[.slice none 0 0, .slice none 0 0, .slice none 0 0] 33)
  go_wp2
  clear m0 m1
  have hsz0 := alloc_size w1 (.cells #[.int .i64 n, .slice (some ⟨g, 0, none⟩) cs.length (cs.length + 4)] 24)
  generalize w1.alloc (.cells #[.int .i64 n, .slice (some ⟨g, 0, none⟩) cs.length (cs.length + 4)] 24) = w0 at *
  rw [← hsz0]
  have HS0 : Hid _ := hsz0
  generalize w1.heap.size = HB at *
  generalize hNN : w.heap.size = NN at I0
  clear hsz0
  go_loopw [9] (fun i wr => ∃ (t : Nat) (vl vm : Value) (G : Nat → Prop) (E : List (Value × Int)), t ≤ 2 ∧ i = .int .i64 t ∧ Below w0.heap.size w0 wr ∧ BooksAt wr w0.heap.size vl vm G E ∧ (∀ k, Foot w0.heap.size vl vm G k → w0.heap.size ≤ k) ∧ E.length ≤ 8 * t) (fun i _ => 2 - (intOf i).toNat)
  case atStart => exact ⟨0, _, _, _, _, by omega, rfl, hB0, hBk0, fun k hk => by
    rcases hk with rfl | hk | hk | hk
    · exact Nat.le_refl _
    · simp [Value.ownBlock] at hk
    · simp [Value.ownBlock] at hk
    · exact hk.elim, by simp⟩
  case round =>
    obtain ⟨t, vl, vm, G, E, ht, rfl, hBB, hBk, hft, hEl⟩ := hrel
    clear hB0 hBk0
    obtain ⟨wq, rfl⟩ : ∃ x, x = wr := ⟨wr, rfl⟩
    by_cases htl : t < 2
    · have hfl : ∀ k, Foot w0.heap.size vl vm G k → k < wq.heap.size := fun k hk => hBk.foot_lt hk
      have hszr := hBB.size
      have I := I0.step hBB
      obtain ⟨n0, n1, m0, m1, hl⟩ := I.cells
      have hlf := I.lists
      go_wp2_with fail
      refine (scores_good n (some ⟨g, 0, none⟩) (cs.length + 4) cs _ hl hg HF.out).mono ?_
      rintro e w2 ⟨gs, rfl, hgs, hS, hbn⟩
      clear n0 n1 m0 m1 hl hlf I
      replace hBB := hBB.trans (hbn.mono hBB.size)
      replace hBk := hBk.below' hbn
      have hs2 := hbn.size
      have lts := hS.lt
      clear hbn
      have I := I0.step hBB
      obtain ⟨n0, n1, m0, m1, hl⟩ := I.cells
      have hlf := I.lists
      go_wp2_with fail
      refine (order_good n (some ⟨g, 0, none⟩) (cs.length + 4) cs _ hl hg HF.out).mono ?_
      rintro e w3 ⟨gl, rfl, hgl, hL, hbn⟩
      clear n0 n1 m0 m1 hl hlf I
      replace hBB := hBB.trans (hbn.mono hBB.size)
      replace hBk := hBk.below' hbn
      replace hS := hS.below' hbn
      have hs3 := hbn.size
      have ltl := hL.lt
      clear hbn
      have I := I0.step hBB
      obtain ⟨n0, n1, m0, m1, hl⟩ := I.cells
      have hlf := I.lists
      go_wp2_with fail
      refine (shares_arg n (some ⟨g, 0, none⟩) (cs.length + 4) cs x _ hl HF.out (Or.inl hx)).mono ?_
      rintro e w4 ⟨rfl, hbn⟩
      clear n0 n1 m0 m1 hl hlf I
      replace hBB := hBB.trans (hbn.mono hBB.size)
      replace hBk := hBk.below' hbn
      replace hS := hS.below' hbn
      replace hL := hL.below' hbn
      have hs4 := hbn.size
      clear hbn
      have I := I0.step hBB
      obtain ⟨n0, n1, m0, m1, hl⟩ := I.cells
      have hlf := I.lists
      go_wp2_with fail
      refine (keptLists_any g ao cap cs _ I.hand hlf hF.len hF.each).mono ?_
      rintro e w5 ⟨rfl, hbn⟩
      clear n0 n1 m0 m1 hl hlf I
      replace hBB := hBB.trans (hbn.mono hBB.size)
      replace hBk := hBk.below' hbn
      replace hS := hS.below' hbn
      replace hL := hL.below' hbn
      have hs5 := hbn.size
      clear hbn
      have I := I0.step hBB
      obtain ⟨n0, n1, m0, m1, hl⟩ := I.cells
      have hlf := I.lists
      go_wp2_with fail
      refine (refScores_any n ao cap cs _ hlf hg).mono ?_
      rintro e w6 ⟨v6, rfl, hO6, hbn⟩
      clear n0 n1 m0 m1 hl hlf I
      replace hBB := hBB.trans (hbn.mono hBB.size)
      replace hBk := hBk.below' hbn
      replace hS := hS.below' hbn
      replace hL := hL.below' hbn
      have hs6 := hbn.size
      clear hbn
      obtain ⟨qo, qc, hv6⟩ := hO6.shape
      rw [scoresL_length] at hv6
      subst hv6
      rw [neg_start] at hS
      have hll : ((2 * (n : Int)) == (2 * (n : Int))) = true := by simp
      go_wp2
      go_loopw [19, 18] (fun i b wr => ∃ (k : Nat), k ≤ 2 * n ∧ i = .int .i64 k ∧ b = .bool true ∧ Blk wr gs 42 (negCells n cs k) ∧ Chg (fun j => j = gs) w6 wr) (fun i _ _ => 2 * n - (intOf i).toNat)
      case atStart => exact ⟨0, by omega, rfl, rfl, hS, Chg.refl _ _⟩
      case round =>
        clear hS
        obtain ⟨k, hk, rfl, rfl, hS, hC⟩ := hrel
        by_cases hk2 : k < 2 * n
        · have hO := hO6.chg hC (fun j e h => by have := own_low hO6 e; omega)
          obtain ⟨gw, cw, hvw, hgw, hcw⟩ := hO.pos (by rw [scoresL_length]; omega)
          simp only [Value.slice.injEq] at hvw
          obtain ⟨rfl, -, rfl⟩ := hvw
          have e1 := hcw k (by rw [scoresL_length]; exact hk2)
          rw [scores_get _ _ _ hk2] at e1
          have e2 := hS.cell (i := k) (by simp [negCells]; omega) undef
          rw [neg_get _ _ _ hk2] at e2
          have hfr := hS.frozen k
          have hset := hS.set k (.float .f64 13830554455654793216)
          rw [neg_step] at hset
          have hpb := hg.parts_le (litAt k)
          generalize partsOf cs (litAt k) = p at *
          have hord := order_eq (p := p) (by omega)
          have i0 : (0 : Int) ≤ (k : Int) := by omega
          have i1 : (k : Int) < 2 * (n : Int) := by omega
          have ht1 : decide (k < 2 * n) = true := by simp; omega
          have ht2 : decide ((k : Int) < 2 * (n : Int)) = true := by simp; omega
          clear hO hcw hBk hft hfl hL hO6 hBB
          go_wp2
          go_quiet (fail)
          go_wp2
          go_roundw
          case rel => exact ⟨k + 1, by omega, by go_num, rfl, hset, chg_drewN (hC.set (p := ⟨gs, k, none⟩) rfl _) _⟩
          case measure => simp [intOf]; omega
        · obtain rfl : k = 2 * n := by omega
          have ht1 : decide (2 * n < 2 * n) = false := by simp
          have ht2 : decide (2 * (n : Int) < 2 * (n : Int)) = false := by simp
          have hBB := hBB.trans (hC.below (B := w0.heap.size) hBB.size (fun j e => by omega))
          replace hBk := hBk.chg hC (fun j hj e => by have := hfl j hj; omega)
          replace hL := hL.of_block (hC.block gl (by omega) (by omega))
          have hs7 := hC.size
          clear hC hS hO6 hk
          obtain ⟨w7, rfl⟩ : ∃ x, x = wr := ⟨wr, rfl⟩
          have I := I0.step hBB
          obtain ⟨n0, n1, m0, m1, hl⟩ := I.cells
          have hlf := I.lists
          go_wp2_with fail
          refine (refOrder_any n ao cap cs _ hlf hg).mono ?_
          rintro e w8 ⟨v8, rfl, hO8, hbn⟩
          clear n0 n1 m0 m1 hl hlf I
          replace hBB := hBB.trans (hbn.mono hBB.size)
          replace hBk := hBk.below' hbn
          replace hL := hL.below' hbn
          have hs8 := hbn.size
          clear hbn
          obtain ⟨ro, rc, hv8, hI8⟩ := hO8.ints (Nat.le_refl _)
          rw [drain_length] at hv8
          subst hv8
          clear hO8
          have I := I0.step hBB
          obtain ⟨n0, n1, m0, m1, hl⟩ := I.cells
          have hlf := I.lists
          go_wp2_with fail
          refine (same_at _ _ _ _ n (drain n (built (weight cs) n)) _ (drain_length _ _).symm (blk_ints hL) hI8 (by rw [drain_length]; omega)).mono ?_
          rintro e w9 ⟨rfl, hbn⟩
          clear n0 n1 m0 m1 hl hlf I
          replace hBB := hBB.trans (hbn.mono hBB.size)
          replace hBk := hBk.below' hbn
          replace hL := hL.below' hbn
          have hs9 := hbn.size
          clear hbn hI8
          go_wp2_with fail
          refine (take_at w0.heap.size vl vm G E (some ⟨gl, 0, none⟩) n (drain n (built (weight cs) n)) _ (drain_length _ _).symm hBk (by omega) (fun _ => ⟨gl, rfl, hL⟩) (fun h => by cases h) (by rw [drain_length]; omega) (fun j _ hj hf => by have := hfl j hf; have := of_eq hj; omega)).mono ?_
          rintro e w10 ⟨rfl, vl', vm', G', E', hBk', hE', hF', hC⟩
          have hBB := hBB.trans (hC.below (B := w0.heap.size) hBB.size (fun j hj => by
            rcases hj with hj | ⟨_, hj⟩
            · exact hft j hj
            · have := of_eq hj; omega))
          have hft' : ∀ k, Foot w0.heap.size vl' vm' G' k → w0.heap.size ≤ k := by
            intro k hk
            rcases hF' k hk with h | ⟨_, h⟩ | h
            · exact hft k h
            · have := of_eq h; omega
            · omega
          have hs10 := hC.size
          clear hBk hL hC hF' hft hfl
          rename BooksAt w10 w0.heap.size vl' vm' G' E' => hBk
          have hEl' : E'.length ≤ 8 * t + 4 := by omega
          clear hE' hEl
          go_wp2_with fail
          refine (same_at none none 0 0 0 [] _ rfl (ints_none _ _) (ints_none _ _) (by simp)).mono ?_
          rintro e w12 ⟨rfl, hbn⟩
          replace hBB := hBB.trans (hbn.mono hBB.size)
          replace hBk := hBk.below' hbn
          have hs12 := hbn.size
          clear hbn
          go_wp2_with fail
          refine (take_at w0.heap.size vl' vm' G' E' none 0 [] _ rfl hBk (by omega) (fun h => absurd rfl h) (fun _ => rfl) (by simp) (fun j h => absurd rfl h)).mono ?_
          rintro e w13 ⟨rfl, vl2, vm2, G2, E2, hBk2, hE2, hF2, hC2⟩
          have hBB := hBB.trans (hC2.below (B := w0.heap.size) hBB.size (fun j hj => by
            rcases hj with hj | ⟨hz, hj⟩
            · exact hft' j hj
            · first | exact absurd rfl hz | (have := of_eq hj; omega)))
          have hft2 : ∀ k, Foot w0.heap.size vl2 vm2 G2 k → w0.heap.size ≤ k := by
            intro k hk
            rcases hF2 k hk with h | ⟨hz, h⟩ | h
            · exact hft' k h
            · first | exact absurd rfl hz | (have := of_eq h; omega)
            · omega
          have hs13 := hC2.size
          clear hBk hC2 hF2 hft'
          go_wp2_with fail
          refine (booksKept_any w0.heap.size vl2 vm2 G2 E2 _ hBk2 (by omega)).mono ?_
          rintro e w14 ⟨rfl, hbn⟩
          replace hBB := hBB.trans (hbn.mono hBB.size)
          replace hBk2 := hBk2.below' hbn
          clear hbn
          have I := I0.step hBB
          obtain ⟨n0, n1, m0, m1, hl⟩ := I.cells
          have hlf := I.lists
          go_wp2_with fail
          refine (keptLists_any g ao cap cs _ I.hand hlf hF.len hF.each).mono ?_
          rintro e w15 ⟨rfl, hbn⟩
          clear n0 n1 m0 m1 hl hlf I
          replace hBB := hBB.trans (hbn.mono hBB.size)
          replace hBk2 := hBk2.below' hbn
          clear hbn
          go_wp2
          go_roundw
          case rel => exact ⟨t + 1, vl2, vm2, G2, E2, by omega, by go_num, hBB, hBk2, hft2, by omega⟩
          case measure => simp [intOf]; omega
    · go_wp2
      go_ret
      exact ⟨rfl, (I0.step hBB).old⟩

set_option maxRecDepth 100000 in
set_option maxHeartbeats 8000000 in
theorem weighs_big (n : Nat) (ao : Option Addr) (cap : Nat) (cs : List (List Int)) (x : Int) (w : World) (hc : ListsAt w w.heap.size ao cs) (hF : Fits cs) (hg : Good n cs) (hf : (fault n cs).1 = 0) (hx : 1125899906842624 < x) :
    Calls Try.prog 3 #[fm n ao cap cs, .int .i64 x] w fun e w' => e = .returned (.bool true) ∧ Below w.heap.size w w' := by
  have hn20 := hg.vars
  have hx0 : 0 ≤ x := by omega
  have HF : Hid ((fault n cs).1 = 0) := hf
  have hw1 : Below w.heap.size w (w.alloc (.cells #[.int .i64 n, .slice ao cs.length cap] 24)) := (Below.refl _ _).alloc (Nat.le_refl _) _
  have hc1 : Hid (ListsAt (w.alloc (.cells #[.int .i64 n, .slice ao cs.length cap] 24)) (w.alloc (.cells #[.int .i64 n, .slice ao cs.length cap] 24)).heap.size ao cs) := (hc.below hw1 (Nat.le_refl _)).mono hw1.size
  have B0 : Blk (w.alloc (.cells #[.int .i64 n, .slice ao cs.length cap] 24)) w.heap.size 24 [.int .i64 n, .slice ao cs.length cap] := blk_new w [.int .i64 n, .slice ao cs.length cap] 24
  clear hf
  unfold fm
  go_enter Try.func3, Try.ntmps3
  go_wp2_with fail
  refine (refFault_any n ao cap cs _ hc1.out hF.nums).mono ?_
  rintro e wa ⟨rfl, hba⟩
  rw [HF.out]
  have Ba := B0.below' hba
  have n0 : wa.cell? ⟨w.heap.size, 0, none⟩ = some (.int .i64 n) := Ba.cell (i := 0) (by simp) undef
  have n1 : wa.cell? ⟨w.heap.size, 1, none⟩ = some (.slice ao cs.length cap) := Ba.cell (i := 1) (by simp) undef
  have hbwa := hw1.trans (hba.mono hw1.size)
  have hca := (hc.below hbwa (Nat.le_refl _)).mono hbwa.size
  generalize (fault n cs).2 = pl
  go_wp2_with fail
  refine (handed_any n ao cap cs _ hca hF.len hF.each).mono ?_
  rintro e w1 ⟨g, rfl, hg1, hH1, hb1⟩
  have I0 := Inv.start' hc (by simpa using hba) hH1 hb1
  clear hw1 hc1 hc hb1 hH1 hg1 hba B0 Ba n0 n1 hbwa hca
  obtain ⟨-, -, m0, m1, -⟩ := I0.cells
  have hBk0 := booksAt_new (w1.alloc (.cells #[.int .i64 n, .slice (some ⟨g, 0, none⟩) cs.length (cs.length + 4)] 24))
  have hB0 := alloc_below (w1.alloc (.cells #[.int .i64 n, .slice (some ⟨g, 0, none⟩) cs.length (cs.length + 4)] 24)) (.cells #[.slice none 0 0, .slice none 0 0, .slice none 0 0] 33)
  go_wp2
  clear m0 m1
  have hsz0 := alloc_size w1 (.cells #[.int .i64 n, .slice (some ⟨g, 0, none⟩) cs.length (cs.length + 4)] 24)
  generalize w1.alloc (.cells #[.int .i64 n, .slice (some ⟨g, 0, none⟩) cs.length (cs.length + 4)] 24) = w0 at *
  rw [← hsz0]
  have HS0 : Hid _ := hsz0
  generalize w1.heap.size = HB at *
  generalize hNN : w.heap.size = NN at I0
  clear hsz0
  go_loopw [9] (fun i wr => ∃ (t : Nat) (vl vm : Value) (G : Nat → Prop) (E : List (Value × Int)), t ≤ 2 ∧ i = .int .i64 t ∧ Below w0.heap.size w0 wr ∧ BooksAt wr w0.heap.size vl vm G E ∧ (∀ k, Foot w0.heap.size vl vm G k → w0.heap.size ≤ k) ∧ E.length ≤ 8 * t) (fun i _ => 2 - (intOf i).toNat)
  case atStart => exact ⟨0, _, _, _, _, by omega, rfl, hB0, hBk0, fun k hk => by
    rcases hk with rfl | hk | hk | hk
    · exact Nat.le_refl _
    · simp [Value.ownBlock] at hk
    · simp [Value.ownBlock] at hk
    · exact hk.elim, by simp⟩
  case round =>
    obtain ⟨t, vl, vm, G, E, ht, rfl, hBB, hBk, hft, hEl⟩ := hrel
    clear hB0 hBk0
    obtain ⟨wq, rfl⟩ : ∃ x, x = wr := ⟨wr, rfl⟩
    by_cases htl : t < 2
    · have hfl : ∀ k, Foot w0.heap.size vl vm G k → k < wq.heap.size := fun k hk => hBk.foot_lt hk
      have hszr := hBB.size
      have I := I0.step hBB
      obtain ⟨n0, n1, m0, m1, hl⟩ := I.cells
      have hlf := I.lists
      go_wp2_with fail
      refine (scores_good n (some ⟨g, 0, none⟩) (cs.length + 4) cs _ hl hg HF.out).mono ?_
      rintro e w2 ⟨gs, rfl, hgs, hS, hbn⟩
      clear n0 n1 m0 m1 hl hlf I
      replace hBB := hBB.trans (hbn.mono hBB.size)
      replace hBk := hBk.below' hbn
      have hs2 := hbn.size
      have lts := hS.lt
      clear hbn
      have I := I0.step hBB
      obtain ⟨n0, n1, m0, m1, hl⟩ := I.cells
      have hlf := I.lists
      go_wp2_with fail
      refine (order_good n (some ⟨g, 0, none⟩) (cs.length + 4) cs _ hl hg HF.out).mono ?_
      rintro e w3 ⟨gl, rfl, hgl, hL, hbn⟩
      clear n0 n1 m0 m1 hl hlf I
      replace hBB := hBB.trans (hbn.mono hBB.size)
      replace hBk := hBk.below' hbn
      replace hS := hS.below' hbn
      have hs3 := hbn.size
      have ltl := hL.lt
      clear hbn
      have I := I0.step hBB
      obtain ⟨n0, n1, m0, m1, hl⟩ := I.cells
      have hlf := I.lists
      go_wp2_with fail
      refine (shares_arg n (some ⟨g, 0, none⟩) (cs.length + 4) cs x _ hl HF.out (Or.inr hx)).mono ?_
      rintro e w4 ⟨rfl, hbn⟩
      clear n0 n1 m0 m1 hl hlf I
      replace hBB := hBB.trans (hbn.mono hBB.size)
      replace hBk := hBk.below' hbn
      replace hS := hS.below' hbn
      replace hL := hL.below' hbn
      have hs4 := hbn.size
      clear hbn
      have I := I0.step hBB
      obtain ⟨n0, n1, m0, m1, hl⟩ := I.cells
      have hlf := I.lists
      go_wp2_with fail
      refine (keptLists_any g ao cap cs _ I.hand hlf hF.len hF.each).mono ?_
      rintro e w5 ⟨rfl, hbn⟩
      clear n0 n1 m0 m1 hl hlf I
      replace hBB := hBB.trans (hbn.mono hBB.size)
      replace hBk := hBk.below' hbn
      replace hS := hS.below' hbn
      replace hL := hL.below' hbn
      have hs5 := hbn.size
      clear hbn
      have I := I0.step hBB
      obtain ⟨n0, n1, m0, m1, hl⟩ := I.cells
      have hlf := I.lists
      go_wp2_with fail
      refine (refScores_any n ao cap cs _ hlf hg).mono ?_
      rintro e w6 ⟨v6, rfl, hO6, hbn⟩
      clear n0 n1 m0 m1 hl hlf I
      replace hBB := hBB.trans (hbn.mono hBB.size)
      replace hBk := hBk.below' hbn
      replace hS := hS.below' hbn
      replace hL := hL.below' hbn
      have hs6 := hbn.size
      clear hbn
      obtain ⟨qo, qc, hv6⟩ := hO6.shape
      rw [scoresL_length] at hv6
      subst hv6
      rw [neg_start] at hS
      have hll : ((2 * (n : Int)) == (2 * (n : Int))) = true := by simp
      go_wp2
      go_loopw [19, 18] (fun i b wr => ∃ (k : Nat), k ≤ 2 * n ∧ i = .int .i64 k ∧ b = .bool true ∧ Blk wr gs 42 (negCells n cs k) ∧ Chg (fun j => j = gs) w6 wr) (fun i _ _ => 2 * n - (intOf i).toNat)
      case atStart => exact ⟨0, by omega, rfl, rfl, hS, Chg.refl _ _⟩
      case round =>
        clear hS
        obtain ⟨k, hk, rfl, rfl, hS, hC⟩ := hrel
        by_cases hk2 : k < 2 * n
        · have hO := hO6.chg hC (fun j e h => by have := own_low hO6 e; omega)
          obtain ⟨gw, cw, hvw, hgw, hcw⟩ := hO.pos (by rw [scoresL_length]; omega)
          simp only [Value.slice.injEq] at hvw
          obtain ⟨rfl, -, rfl⟩ := hvw
          have e1 := hcw k (by rw [scoresL_length]; exact hk2)
          rw [scores_get _ _ _ hk2] at e1
          have e2 := hS.cell (i := k) (by simp [negCells]; omega) undef
          rw [neg_get _ _ _ hk2] at e2
          have hfr := hS.frozen k
          have hset := hS.set k (.float .f64 13830554455654793216)
          rw [neg_step] at hset
          have hpb := hg.parts_le (litAt k)
          generalize partsOf cs (litAt k) = p at *
          have hord := order_eq (p := p) (by omega)
          have i0 : (0 : Int) ≤ (k : Int) := by omega
          have i1 : (k : Int) < 2 * (n : Int) := by omega
          have ht1 : decide (k < 2 * n) = true := by simp; omega
          have ht2 : decide ((k : Int) < 2 * (n : Int)) = true := by simp; omega
          clear hO hcw hBk hft hfl hL hO6 hBB
          go_wp2
          go_quiet (fail)
          go_wp2
          go_roundw
          case rel => exact ⟨k + 1, by omega, by go_num, rfl, hset, chg_drewN (hC.set (p := ⟨gs, k, none⟩) rfl _) _⟩
          case measure => simp [intOf]; omega
        · obtain rfl : k = 2 * n := by omega
          have ht1 : decide (2 * n < 2 * n) = false := by simp
          have ht2 : decide (2 * (n : Int) < 2 * (n : Int)) = false := by simp
          have hBB := hBB.trans (hC.below (B := w0.heap.size) hBB.size (fun j e => by omega))
          replace hBk := hBk.chg hC (fun j hj e => by have := hfl j hj; omega)
          replace hL := hL.of_block (hC.block gl (by omega) (by omega))
          have hs7 := hC.size
          clear hC hS hO6 hk
          obtain ⟨w7, rfl⟩ : ∃ x, x = wr := ⟨wr, rfl⟩
          have I := I0.step hBB
          obtain ⟨n0, n1, m0, m1, hl⟩ := I.cells
          have hlf := I.lists
          go_wp2_with fail
          refine (refOrder_any n ao cap cs _ hlf hg).mono ?_
          rintro e w8 ⟨v8, rfl, hO8, hbn⟩
          clear n0 n1 m0 m1 hl hlf I
          replace hBB := hBB.trans (hbn.mono hBB.size)
          replace hBk := hBk.below' hbn
          replace hL := hL.below' hbn
          have hs8 := hbn.size
          clear hbn
          obtain ⟨ro, rc, hv8, hI8⟩ := hO8.ints (Nat.le_refl _)
          rw [drain_length] at hv8
          subst hv8
          clear hO8
          have I := I0.step hBB
          obtain ⟨n0, n1, m0, m1, hl⟩ := I.cells
          have hlf := I.lists
          go_wp2_with fail
          refine (same_at _ _ _ _ n (drain n (built (weight cs) n)) _ (drain_length _ _).symm (blk_ints hL) hI8 (by rw [drain_length]; omega)).mono ?_
          rintro e w9 ⟨rfl, hbn⟩
          clear n0 n1 m0 m1 hl hlf I
          replace hBB := hBB.trans (hbn.mono hBB.size)
          replace hBk := hBk.below' hbn
          replace hL := hL.below' hbn
          have hs9 := hbn.size
          clear hbn hI8
          go_wp2_with fail
          refine (take_at w0.heap.size vl vm G E (some ⟨gl, 0, none⟩) n (drain n (built (weight cs) n)) _ (drain_length _ _).symm hBk (by omega) (fun _ => ⟨gl, rfl, hL⟩) (fun h => by cases h) (by rw [drain_length]; omega) (fun j _ hj hf => by have := hfl j hf; have := of_eq hj; omega)).mono ?_
          rintro e w10 ⟨rfl, vl', vm', G', E', hBk', hE', hF', hC⟩
          have hBB := hBB.trans (hC.below (B := w0.heap.size) hBB.size (fun j hj => by
            rcases hj with hj | ⟨_, hj⟩
            · exact hft j hj
            · have := of_eq hj; omega))
          have hft' : ∀ k, Foot w0.heap.size vl' vm' G' k → w0.heap.size ≤ k := by
            intro k hk
            rcases hF' k hk with h | ⟨_, h⟩ | h
            · exact hft k h
            · have := of_eq h; omega
            · omega
          have hs10 := hC.size
          clear hBk hL hC hF' hft hfl
          rename BooksAt w10 w0.heap.size vl' vm' G' E' => hBk
          have hEl' : E'.length ≤ 8 * t + 4 := by omega
          clear hE' hEl
          go_wp2_with fail
          refine (same_at none none 0 0 0 [] _ rfl (ints_none _ _) (ints_none _ _) (by simp)).mono ?_
          rintro e w12 ⟨rfl, hbn⟩
          replace hBB := hBB.trans (hbn.mono hBB.size)
          replace hBk := hBk.below' hbn
          have hs12 := hbn.size
          clear hbn
          go_wp2_with fail
          refine (take_at w0.heap.size vl' vm' G' E' none 0 [] _ rfl hBk (by omega) (fun h => absurd rfl h) (fun _ => rfl) (by simp) (fun j h => absurd rfl h)).mono ?_
          rintro e w13 ⟨rfl, vl2, vm2, G2, E2, hBk2, hE2, hF2, hC2⟩
          have hBB := hBB.trans (hC2.below (B := w0.heap.size) hBB.size (fun j hj => by
            rcases hj with hj | ⟨hz, hj⟩
            · exact hft' j hj
            · first | exact absurd rfl hz | (have := of_eq hj; omega)))
          have hft2 : ∀ k, Foot w0.heap.size vl2 vm2 G2 k → w0.heap.size ≤ k := by
            intro k hk
            rcases hF2 k hk with h | ⟨hz, h⟩ | h
            · exact hft' k h
            · first | exact absurd rfl hz | (have := of_eq h; omega)
            · omega
          have hs13 := hC2.size
          clear hBk hC2 hF2 hft'
          go_wp2_with fail
          refine (booksKept_any w0.heap.size vl2 vm2 G2 E2 _ hBk2 (by omega)).mono ?_
          rintro e w14 ⟨rfl, hbn⟩
          replace hBB := hBB.trans (hbn.mono hBB.size)
          replace hBk2 := hBk2.below' hbn
          clear hbn
          have I := I0.step hBB
          obtain ⟨n0, n1, m0, m1, hl⟩ := I.cells
          have hlf := I.lists
          go_wp2_with fail
          refine (keptLists_any g ao cap cs _ I.hand hlf hF.len hF.each).mono ?_
          rintro e w15 ⟨rfl, hbn⟩
          clear n0 n1 m0 m1 hl hlf I
          replace hBB := hBB.trans (hbn.mono hBB.size)
          replace hBk2 := hBk2.below' hbn
          clear hbn
          go_wp2
          go_roundw
          case rel => exact ⟨t + 1, vl2, vm2, G2, E2, by omega, by go_num, hBB, hBk2, hft2, by omega⟩
          case measure => simp [intOf]; omega
    · go_wp2
      go_ret
      exact ⟨rfl, (I0.step hBB).old⟩

theorem weighs_any (vars : Int) (ao : Option Addr) (cap : Nat) (cs : List (List Int)) (x : Int) (w : World) (hc : ListsAt w w.heap.size ao cs) (hF : Fits cs) :
    Calls Try.prog 3 #[fm vars ao cap cs, .int .i64 x] w fun e w' => e = .returned (.bool true) ∧ Below w.heap.size w w' := by
  by_cases hf : (fault vars cs).1 = 0
  · obtain ⟨n, rfl, hg⟩ := good_of hf
    by_cases h1 : x < 0
    · exact weighs_neg n ao cap cs x w hc hF hg hf h1
    · by_cases h2 : 1125899906842624 < x
      · exact weighs_big n ao cap cs x w hc hF hg hf h2
      · have hx : x = (x.toNat : Int) := by omega
        rw [hx]
        exact weighs_valid n ao cap cs x.toNat w hc hF hg hf (by omega)
  · exact weighs_bad vars ao cap cs x w hc hF hf
end Go.Proofs.Ytlodenfdcckemaa
