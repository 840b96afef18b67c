/-
  The parts of the assignments: the walks of signed, of the parts' Cubes, and of the call.
-/
import Derived.Test.YtlodenfdcckemabDoorH19
import Derived.Test.YtlodenfdcckemabDoorH20
namespace Go.Proofs.YtlodenfdcckemabDoor
open Go.RowKit

/-- Literals of some variables, as a number's figures tell. -/
def signedL (l : List Int) (m : Nat) : List Int := l.mapIdx fun i v => if m.testBit (l.length - 1 - i) then -v else v

theorem signedL_len (l : List Int) (m : Nat) : (signedL l m).length = l.length := by unfold signedL; simp

theorem signedL_get (l : List Int) (m i : Nat) (hi : i < l.length) : (signedL l m).getD i 0 = if m.testBit (l.length - 1 - i) then -(l.getD i 0) else l.getD i 0 := by
  rw [getD_lt _ _ _ (by rw [signedL_len]; exact hi), getD_lt _ _ _ hi]
  unfold signedL
  rw [List.getElem_mapIdx]

/-- The heaviest variables. -/
def heavy (n : Nat) (cs : List (List Int)) (k : Nat) : List Int := (drain n (built (weight cs) n)).take k

/-- The parts. -/
def cubesOf (n : Nat) (cs : List (List Int)) (k : Nat) : List (List Int) := (List.range (2 ^ k)).map (signedL (heavy n cs k))

theorem cub_and1 (n : Nat) (hn : n < 9223372036854775808) : bits .and .i64 (n : Int) 1 = ((n % 2 : Nat) : Int) := by
  have h1 : (BitVec.ofInt 64 1).toNat = 2 ^ 1 - 1 := by decide
  have key : (BitVec.ofInt 64 (n : Int) &&& BitVec.ofInt 64 1).toNat = ((n : Int) % ((2 ^ 64 : Nat) : Int)).toNat % 2 ^ 1 := by
    rw [BitVec.toNat_and, BitVec.toNat_ofInt, h1, Nat.and_two_pow_sub_one_eq_mod]
  show IntKind.i64.wrap ((BitVec.ofInt 64 (n : Int) &&& BitVec.ofInt 64 1).toNat : Nat) = _
  rw [key, IntKind.wrap_i64]
  omega

theorem cub_bit (b n : Nat) (hb : b < 9223372036854775808) : bits BinOp.and IntKind.i64 ((b : Int) / 2 ^ n) 1 = if b.testBit n then 1 else 0 := by
  have e : (b : Int) / 2 ^ n = ((b / 2 ^ n : Nat) : Int) := by simp
  have hlt : b / 2 ^ n < 9223372036854775808 := Nat.lt_of_le_of_lt (Nat.div_le_self _ _) hb
  rw [e, cub_and1 _ hlt]
  have h2 : b.testBit n = decide (b / 2 ^ n % 2 = 1) := by
    rw [Nat.testBit_eq_decide_div_mod_eq]
  rw [h2]
  by_cases h : b / 2 ^ n % 2 = 1
  · rw [decide_eq_true h, if_pos rfl]; omega
  · rw [decide_eq_false h, if_neg (by decide)]; omega

theorem cub_shl {V : Nat} (h : V ≤ 5) : wrap64 ((2 : Int) ^ V) = ((2 ^ V : Nat) : Int) ∧ (2 ^ V : Nat) ≤ 32 := by
  rcases (show V = 0 ∨ V = 1 ∨ V = 2 ∨ V = 3 ∨ V = 4 ∨ V = 5 by omega) with rfl | rfl | rfl | rfl | rfl | rfl <;> exact ⟨by unfold wrap64; omega, by decide⟩

set_option maxRecDepth 100000 in
set_option maxHeartbeats 2000000 in
theorem signed_any (g cap : Nat) (l : List Int) (m : Nat) (w : World) (hB : ∀ i, i < l.length → w.cell? ⟨g, i, none⟩ = some (.int .i64 (l.getD i 0))) (hg : g < w.heap.size) (hl : l.length ≤ 20) (hv : ∀ v ∈ l, 1 ≤ v ∧ v ≤ 20) (hm : m < 9223372036854775808) :
    Calls Tryd.prog 44 #[.slice (some ⟨g, 0, none⟩) l.length cap, .int .i64 m] w fun e w' => ∃ v, e = .returned v ∧ Own w' w.heap.size 3 v (ints (signedL l m)) ∧ Below w.heap.size w w' := by
  go_enter Tryd.func44, Tryd.ntmps44
  go_wp2_with (at_make; refine wpList_make_blk2 _ rfl (.tmp 9) (.tmp 9) 27 rfl 3 (.int .i64 0) 8 Tryd.underlying27 Tryd.info3 rfl .i64 .i64 l.length l.length _ _ rfl rfl rfl rfl (Nat.le_refl _) (by omega) (by omega) ?_; intro w1 hB1 hb1 hs1)
  have HB0 : Hid (Blk w1 w.heap.size 3 (ints ((signedL l m).take 0) ++ List.replicate (l.length - 0) (.int .i64 0))) := by unfold Hid; simpa [ints] using hB1
  have HC0 : Hid (∀ i, i < l.length → w.cell? ⟨g, i, none⟩ = some (.int .i64 (l.getD i 0))) := hB
  have HE0 : Hid (Below w.heap.size w w1) := hb1
  have hsl := signedL_len l m
  clear hB hB1 hb1
  go_wp2
  go_loopw [13] (fun x wr => ∃ (i : Nat), i ≤ l.length ∧ x = .int .i64 i ∧ Hid (Blk wr w.heap.size 3 (ints ((signedL l m).take i) ++ List.replicate (l.length - i) (.int .i64 0))) ∧ Hid (Below w.heap.size w wr)) (fun x _ => l.length - (intOf x).toNat)
  case atStart => exact ⟨0, Nat.zero_le _, rfl, HB0, HE0⟩
  case round =>
    obtain ⟨i, hi, rfl, HB, HE⟩ := hrel
    by_cases hlt : i < l.length
    · have hck : wr.cell? ⟨g, i, none⟩ = some (.int .i64 (l.getD i 0)) := (HE.out.cell (p := ⟨g, i, none⟩) hg).trans (HC0.out i hlt)
      have hmem : l.getD i 0 ∈ l := by rw [getD_lt _ _ _ hlt]; exact List.getElem_mem hlt
      obtain ⟨hv1, hv2⟩ := hv _ hmem
      have HG : Hid ((signedL l m).getD i 0 = if m.testBit (l.length - 1 - i) then -(l.getD i 0) else l.getD i 0) := signedL_get l m i hlt
      have hlen1 : (ints ((signedL l m).take i)).length = i := by simp [ints, hsl]; omega
      have s0 : wr.cell? ⟨w.heap.size, i, none⟩ = some (.int .i64 0) := by
        rw [HB.out.cell (i := i) (by simp [ints, hsl]; omega) undef, getD_lt _ _ _ (by simp [ints, hsl]; omega), List.getElem_append_right (by omega)]
        simp
      have sf := HB.out.frozen i
      have HN : Hid (∀ y, y = (signedL l m).getD i 0 → Hid (Blk (wr.setCell ⟨w.heap.size, i, none⟩ (.int .i64 y)) w.heap.size 3 (ints ((signedL l m).take (i + 1)) ++ List.replicate (l.length - (i + 1)) (.int .i64 0)))) := by
        intro y hy
        have hs := HB.out.set i (.int .i64 y)
        have e : (ints ((signedL l m).take i) ++ List.replicate (l.length - i) (Value.int .i64 0)).set i (Value.int .i64 y) = ints ((signedL l m).take (i + 1)) ++ List.replicate (l.length - (i + 1)) (Value.int .i64 0) := by
          rw [List.set_append_right _ _ (by omega), hlen1, Nat.sub_self, show l.length - i = l.length - (i + 1) + 1 by omega, List.replicate_succ, List.set_cons_zero, List.take_succ_eq_append_getElem (by rw [hsl]; exact hlt), hy, getD_lt _ _ _ (by rw [hsl]; exact hlt), show ints (List.take i (signedL l m) ++ [(signedL l m)[i]]) = ints (List.take i (signedL l m)) ++ [Value.int .i64 (signedL l m)[i]] from List.map_append, List.append_assoc]
          rfl
        unfold Hid
        rw [← e]
        exact hs
      generalize l.getD i 0 = v at *
      have hbt := cub_bit m (l.length - 1 - i) hm
      have hsub : l.length - 1 - i ≤ 20 := by omega
      have hix : (i : Int) < (l.length : Int) := by omega
      cases hq : m.testBit (l.length - 1 - i) with
      | true =>
        rw [hq, if_pos rfl] at hbt
        have HY : Hid (-v = (signedL l m).getD i 0) := by unfold Hid; rw [HG.out, hq]; rfl
        clear hq HG hmem
        go_wp2
        go_roundw
        case rel => exact ⟨i + 1, by omega, by go_num, HN.out _ HY.out, HE.out.setCell (p := ⟨w.heap.size, i, none⟩) (Nat.le_refl _) _⟩
        case measure => simp [intOf]; omega
      | false =>
        rw [hq, if_neg (by decide)] at hbt
        have HY : Hid (v = (signedL l m).getD i 0) := by unfold Hid; rw [HG.out, hq]; rfl
        clear hq HG hmem
        go_wp2
        go_roundw
        case rel => exact ⟨i + 1, by omega, by go_num, HN.out _ HY.out, HE.out.setCell (p := ⟨w.heap.size, i, none⟩) (Nat.le_refl _) _⟩
        case measure => simp [intOf]; omega
    · obtain rfl : i = l.length := by omega
      go_wp2
      go_ret
      refine ⟨_, rfl, Or.inr ⟨w.heap.size, l.length, by simp [ints, hsl], Nat.le_refl _, by unfold maxLen; omega, [], ?_, by simp [ints, hsl]⟩, HE.out⟩
      have := HB.out
      rw [List.take_of_length_le (by omega)] at this
      simpa using this

theorem heavy_len {n k : Nat} (cs : List (List Int)) (h : k ≤ n) : (heavy n cs k).length = k := by
  unfold heavy
  rw [List.length_take, drain_len]
  omega

theorem heavy_mem {n k : Nat} {cs : List (List Int)} {v : Int} (h : v ∈ heavy n cs k) : 1 ≤ v ∧ v ≤ n := by
  exact (drain_mem.1 (List.mem_of_mem_take h))

theorem heavy_get {n k : Nat} (cs : List (List Int)) (hk : k ≤ n) (i : Nat) (hi : i < k) : (heavy n cs k).getD i 0 = (drain n (built (weight cs) n)).getD i 0 := by
  rw [getD_lt _ _ _ (by rw [heavy_len cs hk]; exact hi), getD_lt _ _ _ (by rw [drain_len]; omega)]
  unfold heavy
  rw [List.getElem_take]

theorem cubesOf_len (n : Nat) (cs : List (List Int)) (k : Nat) : (cubesOf n cs k).length = 2 ^ k := by unfold cubesOf; simp

theorem cubesOf_take (n : Nat) (cs : List (List Int)) (k i : Nat) (hi : i < 2 ^ k) : (cubesOf n cs k).take (i + 1) = (cubesOf n cs k).take i ++ [signedL (heavy n cs k) i] := by
  rw [List.take_succ_eq_append_getElem (by rw [cubesOf_len]; exact hi)]
  unfold cubesOf
  simp

/-- A part is laid behind the others. -/
theorem cub_end {w wr w1 w2 : World} {g cap i : Nat} {l x : Value} {vs : List Value} {cs : List (List Int)} {c : List Int} {o : Obj} (hM : MadeS wr w.heap.size l vs cs) (hbw : Below w.heap.size w wr) (hb1 : Below wr.heap.size wr w1) (hx : Own w1 wr.heap.size 3 x (ints c)) (hO : Own w2 w.heap.size 27 (.slice (some ⟨g, 0, none⟩) i cap) (vs ++ [x])) (hg : (w1.alloc o).grownBy w2 l.ownBlock) :
    MadeS w2 w.heap.size (.slice (some ⟨g, 0, none⟩) i cap) (vs ++ [x]) (cs ++ [c]) ∧ Below w.heap.size w w2 ∧ Chg (fun k => l.ownBlock = some k) w1 w2 := by
  have hM1 := hM.below' hb1
  have hC2 : Chg (fun k => l.ownBlock = some k) w1 w2 := (Chg.of_below (alloc_below w1 o)).trans (Chg.of_grown (S := fun k => l.ownBlock = some k) hg (fun k e => e) (fun k e o' ho => (hM1.oe.alloc o).cells e o' ho))
  have hb1' : Below w.heap.size w w1 := hbw.trans (hb1.mono hbw.size)
  exact ⟨hM.more hb1 hx hbw.size hO hC2, hb1'.trans (hC2.below hb1'.size fun k e => (hM.oe.lt e).1), hC2⟩

set_option maxRecDepth 100000 in
set_option maxHeartbeats 2000000 in
theorem pcubes_any (n : Nat) (ao : Option Addr) (cap : Nat) (cs : List (List Int)) (k : Nat) (w : World) (hc : ListsAt w w.heap.size ao cs) (hg : Good n cs) (hk : k ≤ 5) (hkn : k ≤ n) :
    Calls Tryd.prog 24 #[fm n ao cap cs, .int .i64 k] w fun e w' => ∃ v vs, e = .returned v ∧ MadeS w' w.heap.size v vs (cubesOf n cs k) ∧ Below w.heap.size w w' := by
  have hn := hg.vars
  have hw1 : Below w.heap.size w (w.alloc (.cells #[.int .i64 n, .slice ao cs.length cap] 25)) := (Below.refl _ _).alloc (Nat.le_refl _) _
  have hS0 := alloc_size w (.cells #[.int .i64 n, .slice ao cs.length cap] 25)
  obtain ⟨hsh, hN32⟩ := cub_shl hk
  unfold fm
  go_enter Tryd.func24, Tryd.ntmps24
  go_wp2_with fail
  generalize w.alloc (.cells #[.int .i64 n, .slice ao cs.length cap] 25) = W0 at *
  have hc0 := (hc.below hw1 (Nat.le_refl _)).mono hw1.size
  refine (order_any n ao cap cs W0 hc0 hg).mono ?_
  rintro e w1 ⟨g, rfl, hgw, hB1, hb1⟩
  have hbw1 : Below w.heap.size w w1 := hw1.trans (hb1.mono hw1.size)
  have hs1 := hbw1.size
  have HBg : Hid (Blk w1 g 3 ((drain n (built (weight cs) n)).map (Value.int .i64))) := hB1
  have hgl := hB1.lt
  have HBW : Hid (Below w.heap.size w w1) := hbw1
  clear hB1 hb1 hw1 hc0 hbw1
  have h1 : (k : Int) ≤ (n : Int) := by omega
  have HM0 : ∀ W g', Blk W g' 27 (List.replicate (2 ^ k) (.slice none 0 0)) → w.heap.size ≤ g' → Hid (MadeS W w.heap.size (.slice (some ⟨g', 0, none⟩) 0 (2 ^ k)) [] ((cubesOf n cs k).take 0)) := fun W g' hB hg' => ⟨Or.inr ⟨g', 2 ^ k, rfl, hg', by unfold maxLen; omega, ⟨_, hB, by simp⟩⟩, rfl, fun i hi => absurd hi (by simp), List.nodup_nil⟩
  generalize hNe : (2 ^ k : Nat) = N at *
  have HNe : Hid (2 ^ k = N) := hNe
  clear hNe
  have hlen := heavy_len cs hkn
  by_cases hn0 : n = 0
  all_goals
    go_wp2_with (at_make; refine wpList_make_blk2 _ rfl (.const (.int .i64 0)) (.tmp 13) 22 rfl 27 (.slice none 0 0) 24 Tryd.underlying22 Tryd.infoInts rfl .i64 .i64 0 N _ _ rfl rfl rfl (by first | rfl | exact hsh) (Nat.zero_le _) (by omega) (by omega) ?_; intro w2 hB2 hb2 hs2)
    have hbw2 : Below w.heap.size w w2 := HBW.out.trans (hb2.mono hs1)
    have HM : Hid _ := HM0 w2 _ hB2 hs1
    have HB2 : Hid _ := HBg.out.below' hb2
    have HW2 : Hid _ := hbw2
    clear HM0 HBg HBW hB2 hb2 hbw2
    rw [hsh]
    clear hsh
    go_loopw [6, 17] (fun l x wr => ∃ (i : Nat) (vs : List Value), i ≤ N ∧ x = .int .i64 i ∧ Hid (MadeS wr w.heap.size l vs ((cubesOf n cs k).take i)) ∧ Hid (Blk wr g 3 ((drain n (built (weight cs) n)).map (Value.int .i64))) ∧ Hid (Below w.heap.size w wr)) (fun _ x _ => N - (intOf x).toNat)
    case atStart => exact ⟨0, [], Nat.zero_le _, rfl, HM, HB2, HW2⟩
    case round =>
      clear HM HB2 HW2
      rename_i l _ wr
      obtain ⟨i, vs, hi, rfl, HM, HB, HW⟩ := hrel
      have hs1w := HW.out.size
      by_cases hlt : i < N
      · have HVl : Hid (vs.length = i) := by have := HM.out.len; rw [List.length_take, cubesOf_len, HNe.out] at this; unfold Hid; omega
        have cS := fun cap => signed_any g cap (heavy n cs k) i wr (fun j hj => by
          rw [hlen] at hj
          rw [heavy_get cs hkn j hj, HB.out.cell (i := j) (by simp [drain_len]; omega) undef]
          simp [drain_len, show j < n by omega]) HB.out.lt (by omega) (fun v hv => by have := heavy_mem hv; omega) (by omega)
        have HTk : Hid ((cubesOf n cs k).take (i + 1) = (cubesOf n cs k).take i ++ [signedL (heavy n cs k) i]) := cubesOf_take n cs k i (by rw [HNe.out]; exact hlt)
        have hsl := signedL_len (heavy n cs k) i
        simp only [hlen] at cS hsl
        generalize signedL (heavy n cs k) i = sl at *
        have HSl : Hid (sl.length = k) := hsl
        clear hsl
        have hlt' : (i : Int) < (N : Int) := by omega
        go_wp2_with (first
          | (go_at_call 44; refine (cS _).mono ?_; rintro e w3 ⟨x, rfl, hx, hb3⟩; obtain ⟨xa, xc, hxs⟩ := hx.shape; rw [List.length_map, HSl.out] at hxs; subst hxs; have OA := (HM.out.oe.below' hb3).alloc (.cells #[.slice xa k xc] 27); have NA := blk_new w3 [.slice xa k xc] 27; have hs3 := hb3.size)
          | (at_builtin; refine wpList_append_new (.tmp 20) (.tmp 24) 22 27 (.slice none 0 0) 24 Tryd.underlying22 Tryd.infoInts rfl w.heap.size w3.heap.size _ vs [.slice xa k xc] 1 i HVl.out rfl (by decide) (by rfl) (by rfl) OA NA (by intro u hu; simp at hu; rw [hu]; rfl) (by unfold maxLen; omega) (by omega) (by simp; omega) ?_; intro g5 cap5 w5 hO5 hgr5 hat5 hlt5))
        obtain ⟨hM5, hB5, hC5⟩ := cub_end HM.out HW.out hb3 hx hO5 hgr5
        exact ⟨⟨i + 1, vs ++ [.slice xa k xc], by omega, by go_num, by unfold Hid; rw [HTk.out]; exact hM5, (HB.out.below' hb3).chg hC5 (own_blk (HM.out.oe.below' hb3) (HB.out.below' hb3) (by decide)), hB5⟩, by simp [intOf]; omega⟩
      · obtain rfl : i = N := by omega
        go_wp2
        go_ret
        refine ⟨_, vs, rfl, ?_, HW.out⟩
        have := HM.out
        rw [List.take_of_length_le (by rw [cubesOf_len, HNe.out]; exact Nat.le_refl _)] at this
        exact this
end Go.Proofs.YtlodenfdcckemabDoor
