/-
  The document's parts: the walk of its Cubes.
-/
import Derived.Test.YtlodenfdcckemaaRefOrder
import Derived.Test.YtlodenfdcckemaaCub
import Derived.Test.YtlodenfdcckemaaMk
namespace Go.Proofs.Ytlodenfdcckemaa
open Go.RowKit

theorem signedL_take (l : List Int) (m j : Nat) (hj : j < l.length) : (signedL l m).take (j + 1) = (signedL l m).take j ++ [(signedL l m).getD j 0] := by
  rw [List.take_succ_eq_append_getElem (by rw [signedL_len]; exact hj), getD_lt _ _ _ (by rw [signedL_len]; exact hj)]

set_option maxHeartbeats 400000 in
theorem rcubes_bad (n : Nat) (ao : Option Addr) (cap : Nat) (cs : List (List Int)) (k : Int) (w : World) (hk : k < 0 ∨ 5 < k ∨ (n : Int) < k) :
    Calls Try.prog 22 #[fm n ao cap cs, .int .i64 k] w fun e w' => e = .returned (.tuple #[.slice none 0 0, .int .i64 9]) ∧ Below w.heap.size w w' := by
  have hw1 : Below w.heap.size w (w.alloc (.cells #[.int .i64 n, .slice ao cs.length cap] 24)) := (Below.refl _ _).alloc (Nat.le_refl _) _
  unfold fm
  go_enter Try.func22, Try.ntmps22
  by_cases h1 : k < 0
  · clear hk
    go_wp2
    go_ret2
    exact ⟨rfl, hw1⟩
  · by_cases h2 : 5 < k
    · clear hk
      go_wp2
      go_ret2
      exact ⟨rfl, hw1⟩
    · have h3 : (n : Int) < k := by omega
      clear hk
      go_wp2
      go_ret2
      exact ⟨rfl, hw1⟩

set_option maxRecDepth 100000 in
set_option maxHeartbeats 4000000 in
theorem rcubes_good (n : Nat) (ao : Option Addr) (cap : Nat) (cs : List (List Int)) (k : Nat) (w : World) (hc : ListsAt w w.heap.size ao cs) (hg : Good n cs) (hk : k ≤ 5) (hkn : k ≤ n) :
    Calls Try.prog 22 #[fm n ao cap cs, .int .i64 k] w fun e w' => ∃ v vs, e = .returned (.tuple #[v, .int .i64 0]) ∧ MadeS w' w.heap.size v vs (cubesOf n cs k) ∧ Below w.heap.size w w' := by
  have hn := hg.vars
  have hw1 : Below w.heap.size w (w.alloc (.cells #[.int .i64 n, .slice ao cs.length cap] 24)) := (Below.refl _ _).alloc (Nat.le_refl _) _
  obtain ⟨hsh, hN32⟩ := cub_shl hk
  have k1 : ¬ (k : Int) < 0 := by omega
  have k2 : ¬ (5 : Int) < (k : Int) := by omega
  have k3 : ¬ (n : Int) < (k : Int) := by omega
  unfold fm
  go_enter Try.func22, Try.ntmps22
  go_wp2_with fail
  generalize w.alloc (.cells #[.int .i64 n, .slice ao cs.length cap] 24) = W0 at *
  have hc0 := (hc.below hw1 (Nat.le_refl _)).mono hw1.size
  refine (refOrder_any n ao cap cs W0 hc0 hg).mono ?_
  rintro e w1 ⟨vo, rfl, hO1, hb1⟩
  have hbw1 : Below w.heap.size w w1 := hw1.trans (hb1.mono hw1.size)
  obtain ⟨oa, oc, hvs⟩ := hO1.shape
  rw [List.length_map, drain_len] at hvs
  subst hvs
  have HO1 : Hid (Own w1 w.heap.size 3 (.slice oa n oc) ((drain n (built (weight cs) n)).map (Value.int .i64))) := hO1.lower hw1.size
  have HB1 : Hid (Below w.heap.size w w1) := hbw1
  clear hO1 hb1 hw1 hc0 hbw1 hc
  generalize hNe : (2 ^ k : Nat) = N at *
  have HNe : Hid (2 ^ k = N) := hNe
  clear hNe
  have hlen := heavy_len cs hkn
  go_wp2
  go_loopw [7, 8] (fun l x wr => ∃ (i : Nat) (vs : List Value), i ≤ N ∧ x = .int .i64 i ∧ Hid (MadeS wr w.heap.size l vs ((cubesOf n cs k).take i)) ∧ Hid (Own wr w.heap.size 3 (.slice oa n oc) ((drain n (built (weight cs) n)).map (Value.int .i64))) ∧ Hid (Below w.heap.size w wr)) (fun _ x _ => N - (intOf x).toNat)
  case atStart => exact ⟨0, [], Nat.zero_le _, rfl, MadeS.start _ _, HO1, HB1⟩
  case round =>
    clear HO1 HB1
    obtain ⟨i, vs, hi, rfl, HM, HO, HW⟩ := hrel
    have hs1w := HW.out.size
    by_cases hlt : i < N
    · have HVl : Hid (vs.length = i) := by have := HM.out.len; rw [List.length_take, cubesOf_len, HNe.out] at this; unfold Hid; omega
      have HTk : Hid ((cubesOf n cs k).take (i + 1) = (cubesOf n cs k).take i ++ [signedL (heavy n cs k) i]) := cubesOf_take n cs k i (by rw [HNe.out]; exact hlt)
      have hsl := signedL_len (heavy n cs k) i
      have HSl : Hid ((signedL (heavy n cs k) i).length = k) := by unfold Hid; rw [hsl, hlen]
      clear hsl
      have hlt' : (i : Int) < (N : Int) := by omega
      obtain ⟨wo, hwo⟩ : ∃ wo, wo = wr := ⟨wr, rfl⟩
      subst hwo
      go_wp2
      rw [hsh]
      clear hsh
      go_loopw [9, 10] (fun vc x wq => ∃ j : Nat, j ≤ k ∧ x = .int .i64 j ∧ Hid (Own wq wo.heap.size 3 vc (ints ((signedL (heavy n cs k) i).take j))) ∧ Hid (Below wo.heap.size wo wq)) (fun _ x _ => k - (intOf x).toNat)
      case atStart => exact ⟨0, Nat.zero_le _, rfl, Own.nil _ _ _, Below.refl _ _⟩
      case round =>
        obtain ⟨j, hj, rfl, HC, HBq⟩ := hrel
        have hsq := HBq.out.size
        by_cases hlj : j < k
        · have hjh : j < (heavy n cs k).length := by rw [hlen]; exact hlj
          obtain ⟨ga, gc, he, hga, hcells⟩ := (HO.out.below' HBq.out).at (by simp [drain_len]; omega)
          have hck := hcells j (by simp [drain_len]; omega)
          simp only [Value.slice.injEq] at he
          obtain ⟨rfl, -, -⟩ := he
          have hgd : ((drain n (built (weight cs) n)).map (Value.int .i64)).getD j undef = .int .i64 ((heavy n cs k).getD j 0) := by
            rw [heavy_get cs hkn j hlj]
            simp [drain_len, show j < n by omega]
          rw [hgd] at hck
          have hvm := heavy_mem (show (heavy n cs k).getD j 0 ∈ heavy n cs k by rw [getD_lt _ _ _ hjh]; exact List.getElem_mem hjh)
          have HG : Hid ((signedL (heavy n cs k) i).getD j 0 = if i.testBit (k - 1 - j) then -((heavy n cs k).getD j 0) else (heavy n cs k).getD j 0) := by unfold Hid; rw [signedL_get _ _ _ hjh, hlen]
          have HT : Hid _ := signedL_take (heavy n cs k) i j hjh
          have HJl : Hid ((ints ((signedL (heavy n cs k) i).take j)).length = j) := by unfold Hid; simp [HSl.out]; omega
          generalize (heavy n cs k).getD j 0 = v at *
          generalize (signedL (heavy n cs k) i).getD j 0 = y at *
          have hbt := cub_bit i (k - 1 - j) (by omega)
          have hsub : k - 1 - j ≤ 20 := by omega
          have i1' : (j : Int) < (n : Int) := by omega
          clear hcells hgd
          cases hq : i.testBit (k - 1 - j) with
          | true =>
            rw [hq, if_pos rfl] at hbt
            have HY : Hid (y = -v) := by unfold Hid; rw [HG.out, hq]; rfl
            have OA := HC.out.alloc (.cells #[.int .i64 (-v)] 3)
            have NA := blk_new wr [.int .i64 (-v)] 3
            clear hq HG
            go_wp2_with (at_builtin; refine wpList_append_new (.tmp 51) (.tmp 53) 30 3 (.int .i64 0) 8 Try.underlying30 Try.info3 rfl wo.heap.size wr.heap.size _ _ [.int .i64 (-v)] 1 j HJl.out rfl (by decide) (by rfl) (by rfl) OA NA (by intro u hu; simp at hu; rw [hu]; rfl) (by unfold maxLen; omega) (by omega) (by simp; omega) ?_; intro g5 cap5 w8 hO8 hgr8 hat8 hlt8)
            have hC8 : Chg (fun q => wo.heap.size ≤ q) wr w8 := (Chg.of_below (alloc_below wr _)).trans (Chg.of_grown (S := fun q => wo.heap.size ≤ q) hgr8 (fun q e => (HC.out.lt e).1) (fun q e o ho => OA.cells e o ho))
            exact ⟨⟨j + 1, by omega, by go_num, by unfold Hid; rw [HT.out, HY.out]; simpa using hO8, HBq.out.trans (hC8.below hsq fun q e => e)⟩, by simp [intOf]; omega⟩
          | false =>
            rw [hq, if_neg (by decide)] at hbt
            have HY : Hid (y = v) := by unfold Hid; rw [HG.out, hq]; rfl
            have OA := HC.out.alloc (.cells #[.int .i64 v] 3)
            have NA := blk_new wr [.int .i64 v] 3
            clear hq HG
            go_wp2_with (at_builtin; refine wpList_append_new (.tmp 51) (.tmp 53) 30 3 (.int .i64 0) 8 Try.underlying30 Try.info3 rfl wo.heap.size wr.heap.size _ _ [.int .i64 v] 1 j HJl.out rfl (by decide) (by rfl) (by rfl) OA NA (by intro u hu; simp at hu; rw [hu]; rfl) (by unfold maxLen; omega) (by omega) (by simp; omega) ?_; intro g5 cap5 w8 hO8 hgr8 hat8 hlt8)
            have hC8 : Chg (fun q => wo.heap.size ≤ q) wr w8 := (Chg.of_below (alloc_below wr _)).trans (Chg.of_grown (S := fun q => wo.heap.size ≤ q) hgr8 (fun q e => (HC.out.lt e).1) (fun q e o ho => OA.cells e o ho))
            exact ⟨⟨j + 1, by omega, by go_num, by unfold Hid; rw [HT.out, HY.out]; simpa using hO8, HBq.out.trans (hC8.below hsq fun q e => e)⟩, by simp [intOf]; omega⟩
        · obtain rfl : j = k := by omega
          have hx := HC.out
          rw [List.take_of_length_le (by rw [HSl.out]; exact Nat.le_refl _)] at hx
          obtain ⟨xa, xc, hxs⟩ := hx.shape
          rw [List.length_map, HSl.out] at hxs
          subst hxs
          have OA := (HM.out.oe.below' HBq.out).alloc (.cells #[.slice xa j xc] 30)
          have NA := blk_new wr [.slice xa j xc] 30
          have HXx : Hid _ := hx
          clear hx HC
          go_wp2_with (at_builtin; refine wpList_append_new (.tmp 55) (.tmp 57) 22 30 (.slice none 0 0) 24 Try.underlying22 Try.infoInts rfl w.heap.size wr.heap.size _ vs [.slice xa j xc] 1 i HVl.out rfl (by decide) (by rfl) (by rfl) OA NA (by intro u hu; simp at hu; rw [hu]; rfl) (by unfold maxLen; omega) (by omega) (by simp; omega) ?_; intro g5 cap5 w5 hO5 hgr5 hat5 hlt5)
          obtain ⟨hM5, hB5, hC5⟩ := cub_end HM.out HW.out HBq.out HXx.out hO5 hgr5
          exact ⟨⟨i + 1, vs ++ [.slice xa j xc], by omega, by go_num, by unfold Hid; rw [HTk.out]; exact hM5, (HO.out.below' HBq.out).chg hC5 (fun q e e' => own_ne (HM.out.oe.below' HBq.out) (HO.out.below' HBq.out) (by decide) e' e), hB5⟩, by simp [intOf]; omega⟩
    · obtain rfl : i = N := by omega
      go_wp2
      go_ret2
      refine ⟨_, vs, rfl, ?_, HW.out⟩
      have := HM.out
      rw [List.take_of_length_le (by rw [cubesOf_len, HNe.out]; exact Nat.le_refl _)] at this
      exact this
end Go.Proofs.Ytlodenfdcckemaa
