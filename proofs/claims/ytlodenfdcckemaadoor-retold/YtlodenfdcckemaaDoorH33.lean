/-
  The walks of the small functions of the statements without the document's answer.
-/
import Derived.Test.YtlodenfdcckemaaDoorH32
import Derived.Test.YtlodenfdcckemaaDoorH24
namespace Go.Proofs.YtlodenfdcckemaaDoor
open Go.RowKit

set_option maxHeartbeats 400000 in
theorem pick_any (c n : Int) (w : World) (h0 : -9223372036854775808 ≤ c) (h1 : c ≤ 9223372036854775807) (hn : 0 < n) (hn1 : n ≤ 9223372036854775807) :
    Calls Tryd.prog 57 #[.int .i64 c, .int .i64 n] w fun e w' => e = .returned (.int .i64 (pickOf c n)) ∧ w' = w := by
  by_cases h : c < 0
  · have HP : Hid (pickOf c n = -(c + 1).tmod n) := by
      unfold Hid pickOf; rw [if_pos h, ← Int.neg_tmod, Int.tmod_eq_emod_of_nonneg (by omega)]
    go_enter Tryd.func57, Tryd.ntmps57
    go_wp2
    go_ret
    exact ⟨by rw [HP.out]; rfl, rfl⟩
  · have HP : Hid (pickOf c n = c % n) := by
      unfold Hid pickOf; rw [if_neg h]
    go_enter Tryd.func57, Tryd.ntmps57
    go_wp2
    go_ret
    exact ⟨by rw [HP.out]; rfl, rfl⟩

set_option maxHeartbeats 400000 in
theorem kliteral_any (c : Int) (V : Nat) (w : World) (h0 : -9223372036854775808 ≤ c) (h1 : c ≤ 9223372036854775807) (hV : 1 ≤ V) (hV2 : V ≤ 20) :
    Calls Tryd.prog 31 #[.int .i64 c, .int .i64 V] w fun e w' => e = .returned (.int .i64 (litBy c V)) ∧ w' = w := by
  have hr := pickOf_range c (show (0 : Int) < 2 * (V : Int) by omega)
  have c1 := pick_any c (2 * (V : Int)) w h0 h1 (by omega) (by omega)
  have HD : Hid (litBy c V = if pickOf c (2 * (V : Int)) < V then pickOf c (2 * (V : Int)) + 1 else V - pickOf c (2 * (V : Int)) - 1) := rfl
  generalize pickOf c (2 * (V : Int)) = p at *
  by_cases h : p < (V : Int)
  · go_enter Tryd.func31, Tryd.ntmps31
    go_wp2_with (go_at_call 57; refine c1.mono ?_; rintro e w' ⟨rfl, hw'⟩; obtain rfl := hw'.symm)
    go_ret
    exact ⟨by rw [HD.out, if_pos h]; rfl, rfl⟩
  · go_enter Tryd.func31, Tryd.ntmps31
    go_wp2_with (go_at_call 57; refine c1.mono ?_; rintro e w' ⟨rfl, hw'⟩; obtain rfl := hw'.symm)
    go_ret
    exact ⟨by rw [HD.out, if_neg (by omega)]; rfl, rfl⟩

theorem i64_and1 (n : Nat) (hn : n < 9223372036854775808) : bits .and .i64 (n : Int) 1 = ((n % 2 : Nat) : Int) := by
  have h1 : (BitVec.ofInt 64 1).toNat = 2 ^ 1 - 1 := by decide
  have key : (BitVec.ofInt 64 (n : Int) &&& BitVec.ofInt 64 1).toNat = ((n : Int) % ((2 ^ 64 : Nat) : Int)).toNat % 2 ^ 1 := by
    rw [BitVec.toNat_and, BitVec.toNat_ofInt, h1, Nat.and_two_pow_sub_one_eq_mod]
  show IntKind.i64.wrap ((BitVec.ofInt 64 (n : Int) &&& BitVec.ofInt 64 1).toNat : Nat) = _
  rw [key, IntKind.wrap_i64]
  omega

/-- Is a literal true in an assignment? -/
def tIn (b : Nat) (l : Int) : Bool := if 0 < l then b.testBit (l - 1).toNat else !b.testBit (-l - 1).toNat

theorem bit_spell (b n : Nat) (hb : b < 9223372036854775808) : bits BinOp.and IntKind.i64 ((b : Int) / 2 ^ n) 1 = if b.testBit n then 1 else 0 := by
  have e : (b : Int) / 2 ^ n = ((b / 2 ^ n : Nat) : Int) := by simp
  have hlt : b / 2 ^ n < 9223372036854775808 := Nat.lt_of_le_of_lt (Nat.div_le_self _ _) hb
  rw [e, i64_and1 _ hlt]
  have h2 : b.testBit n = decide (b / 2 ^ n % 2 = 1) := by
    rw [Nat.testBit_eq_decide_div_mod_eq]
  rw [h2]
  by_cases h : b / 2 ^ n % 2 = 1
  · rw [decide_eq_true h, if_pos rfl]; omega
  · rw [decide_eq_false h, if_neg (by decide)]; omega

set_option maxHeartbeats 400000 in
theorem trueIn_any (b : Nat) (l : Int) (w : World) (hb : b < 9223372036854775808) (hl : l ≠ 0) (h1 : l ≤ 20) (h2 : -20 ≤ l) :
    Calls Tryd.prog 33 #[.int .i64 b, .int .i64 l] w fun e w' => e = .returned (.bool (tIn b l)) ∧ w' = w := by
  have HL : Hid (l ≠ 0) := hl
  clear hl
  by_cases h : 0 < l
  · have HB : Hid _ := bit_spell b (l.toNat - 1) hb
    have HT : Hid (tIn b l = b.testBit (l.toNat - 1)) := by unfold Hid tIn; rw [if_pos h, show (l - 1).toNat = l.toNat - 1 by omega]
    go_enter Tryd.func33, Tryd.ntmps33
    go_wp2
    go_ret
    refine ⟨congrArg (fun x => Ending.returned (.bool x)) ?_, rfl⟩
    rw [HT.out, HB.out]
    cases b.testBit (l.toNat - 1) <;> rfl
  · have h0 := HL.out
    obtain ⟨k, hk⟩ : ∃ k : Nat, l = -((k : Int) + 1) := ⟨(-l - 1).toNat, by omega⟩
    clear h0
    have hk19 : k ≤ 19 := by omega
    subst hk
    have HB : Hid _ := bit_spell b k hb
    have HT : Hid (tIn b (-((k : Int) + 1)) = !b.testBit k) := by
      unfold Hid tIn
      rw [if_neg (by omega), show (-(-((k : Int) + 1)) - 1).toNat = k by omega]
    go_enter Tryd.func33, Tryd.ntmps33
    go_wp2
    go_ret
    refine ⟨congrArg (fun x => Ending.returned (.bool x)) ?_, rfl⟩
    rw [HT.out, HB.out]
    cases b.testBit k <;> rfl

set_option maxHeartbeats 1000000 in
theorem kcontains_any (ao : Option Addr) (cap : Nat) (zs : List Int) (x : Int) (w : World) (hc : IntsAt w w.heap.size ao zs) (hl : zs.length ≤ 4611686018427387904) :
    Calls Tryd.prog 34 #[.slice ao zs.length cap, .int .i64 x] w fun e w' => e = .returned (.bool (decide (x ∈ zs))) ∧ w' = w := by
  go_enter Tryd.func34, Tryd.ntmps34
  go_wp2
  go_loop [5] (fun i => ∃ k : Nat, k ≤ zs.length ∧ i = .int .i64 k ∧ Hid (x ∉ zs.take k)) (fun i => zs.length - (intOf i).toNat)
  case atStart => exact ⟨0, Nat.zero_le _, rfl, by unfold Hid; simp⟩
  case round =>
    obtain ⟨k, hk, rfl, HN⟩ := hrel
    by_cases hlt : k < zs.length
    · obtain ⟨b, o, rfl, hb, hcell⟩ := hc (by intro h; rw [h] at hlt; simp at hlt)
      have hck := hcell k hlt
      have HT : Hid (zs.take (k + 1) = zs.take k ++ [zs.getD k 0]) := take_succ_getD zs k hlt
      have HM : Hid (zs.getD k 0 ∈ zs) := by unfold Hid; rw [getD_lt _ _ _ hlt]; exact List.getElem_mem hlt
      generalize zs.getD k 0 = y at hck HT HM
      clear hcell hc
      by_cases hxy : y = x
      · subst hxy
        have hyy : (y == y) = true := by simp
        go_wp2
        go_ret
        exact ⟨by rw [decide_eq_true HM.out]; rfl, rfl⟩
      · have hyy : (y == x) = false := by simp [hxy]
        have HXY : Hid (¬ y = x) := hxy
        clear hxy
        go_wp2
        go_round
        case rel =>
          refine ⟨k + 1, by omega, by go_num, ?_⟩
          unfold Hid
          rw [HT.out, List.mem_append]
          rintro (h | h)
          · exact HN.out h
          · rw [List.mem_singleton] at h; exact HXY.out h.symm
        case measure => simp [intOf]; omega
    · obtain rfl : k = zs.length := by omega
      have HE : Hid (x ∉ zs) := by
        have := HN.out
        rwa [List.take_length] at this
      go_wp2
      go_ret
      exact ⟨by rw [decide_eq_false HE.out]; rfl, rfl⟩

/-- Does an assignment make clauses true? -/
def makesB (b : Nat) (cs : List (List Int)) : Bool := cs.all fun c => c.any (tIn b)

theorem any_take_succ (p : Int → Bool) (c : List Int) (k : Nat) (hk : k < c.length) : (c.take (k + 1)).any p = ((c.take k).any p || p (c.getD k 0)) := by
  rw [take_succ_getD c k hk, List.any_append]; simp

set_option maxHeartbeats 2000000 in
theorem makes_any (V : Nat) (hV : V ≤ 20) (b : Nat) (hb : b < 9223372036854775808) (ao : Option Addr) (cap : Nat) (cs : List (List Int)) (w : World) (hc : ListsAt w w.heap.size ao cs) (hlit : ∀ c ∈ cs, ∀ l ∈ c, IsLit V l) (hlen : cs.length ≤ 4611686018427387904) (heach : ∀ c ∈ cs, c.length ≤ 4611686018427387904) :
    Calls Tryd.prog 32 #[.int .i64 b, .slice ao cs.length cap] w fun e w' => e = .returned (.bool (makesB b cs)) ∧ w' = w := by
  go_enter Tryd.func32, Tryd.ntmps32
  go_wp2
  go_loop [5] (fun i => ∃ k : Nat, k ≤ cs.length ∧ i = .int .i64 k ∧ Hid (makesB b (cs.take k) = true)) (fun i => cs.length - (intOf i).toNat)
  case atStart => exact ⟨0, Nat.zero_le _, rfl, by unfold Hid makesB; simp⟩
  case round =>
    obtain ⟨k, hk, rfl, HM⟩ := hrel
    by_cases hlt : k < cs.length
    · obtain ⟨b0, o0, rfl, hb0, hcell⟩ := hc (by intro h; rw [h] at hlt; simp at hlt)
      obtain ⟨A, Cc, hck, hin⟩ := hcell k hlt
      have hmem := mem_lists hlt
      have hl := hlit _ hmem
      have he := heach _ hmem
      have HT : Hid (cs.take (k + 1) = cs.take k ++ [cs.getD k []]) := take_succ_lists cs k hlt
      have HMem : Hid (cs.getD k [] ∈ cs) := hmem
      generalize cs.getD k [] = c at hck hin hl he HT HMem
      have HIn : Hid (IntsAt w w.heap.size A c) := hin
      have HL : Hid (∀ l ∈ c, IsLit V l) := hl
      clear hcell hmem hin hl hc
      go_wp2
      go_loop [6, 7] (fun ok x => ∃ j : Nat, j ≤ c.length ∧ x = .int .i64 j ∧ ok = .bool ((c.take j).any (tIn b))) (fun _ x => c.length - (intOf x).toNat)
      case atStart => exact ⟨0, Nat.zero_le _, rfl, by simp⟩
      case round =>
        obtain ⟨j, hj, rfl, rfl⟩ := hrel
        by_cases hlj : j < c.length
        · obtain ⟨b1, o1, rfl, hb1, hcell1⟩ := HIn.out (by intro h; rw [h] at hlj; simp at hlj)
          have hcx := hcell1 j hlj
          have hx := HL.out (c.getD j 0) (by rw [getD_lt _ _ _ hlj]; exact List.getElem_mem hlj)
          have HA : Hid _ := any_take_succ (tIn b) c j hlj
          generalize c.getD j 0 = x at hcx hx HA
          obtain ⟨hx0, hx1, hx2⟩ := hx
          have c1 := trueIn_any b x w hb hx0 (by omega) (by omega)
          clear hcell1 hx0
          generalize (c.take j).any (tIn b) = acc at *
          generalize tIn b x = t at *
          cases acc with
          | true =>
            go_wp2_with (go_at_call 33; refine c1.mono ?_; rintro e w' ⟨rfl, hw'⟩; obtain rfl := hw'.symm)
            go_round
            case rel => exact ⟨j + 1, by omega, by go_num, by rw [HA.out]; rfl⟩
            case measure => simp [intOf]; omega
          | false =>
            go_wp2_with (go_at_call 33; refine c1.mono ?_; rintro e w' ⟨rfl, hw'⟩; obtain rfl := hw'.symm)
            go_round
            case rel => exact ⟨j + 1, by omega, by go_num, by rw [HA.out]; rfl⟩
            case measure => simp [intOf]; omega
        · obtain rfl : j = c.length := by omega
          rw [List.take_length]
          cases hok : c.any (tIn b) with
          | true =>
            have HM2 : Hid (makesB b (cs.take (k + 1)) = true) := by
              unfold Hid
              have := HM.out
              unfold makesB at this ⊢
              rw [HT.out, List.all_append, this]
              simp [hok]
            clear hok
            go_wp2
            go_round
            case rel => exact ⟨k + 1, by omega, by go_num, HM2⟩
            case measure => simp [intOf]; omega
          | false =>
            have HF : Hid (makesB b cs = false) := by
              unfold Hid makesB
              rw [List.all_eq_false]
              exact ⟨c, HMem.out, by simp [hok]⟩
            clear hok
            go_wp2
            go_ret
            exact ⟨by rw [HF.out]; rfl, rfl⟩
    · obtain rfl : k = cs.length := by omega
      have HE : Hid (makesB b cs = true) := by
        have := HM.out
        rwa [List.take_length] at this
      go_wp2
      go_ret
      exact ⟨by rw [HE.out]; rfl, rfl⟩
end Go.Proofs.YtlodenfdcckemaaDoor
