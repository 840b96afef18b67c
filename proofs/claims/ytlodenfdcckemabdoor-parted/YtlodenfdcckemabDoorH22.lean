/-
  Several texts, one behind the other.
-/
import Derived.Test.YtlodenfdcckemabDoorH19
import Derived.Test.YtlodenfdcckemabDoorH21
import Derived.Test.YtlodenfdcckemabDoorH20
/-
  Each assignment lies in just one part; the parts speak of the heaviest variables. Of no program.
-/

namespace Go.Proofs.YtlodenfdcckemabDoor
open Go.RowKit

theorem bits_some (q : Nat → Bool) : ∀ V, ∃ b, b < 2 ^ V ∧ ∀ i, i < V → b.testBit i = q i
  | 0 => ⟨0, by simp, fun i hi => absurd hi (Nat.not_lt_zero _)⟩
  | V + 1 => by
    obtain ⟨b, hb, h⟩ := bits_some q V
    refine ⟨b ||| (if q V then 2 ^ V else 0), ?_, fun i hi => ?_⟩
    · have h2 : 2 ^ V < 2 ^ (V + 1) := Nat.pow_lt_pow_right (by decide) (by omega)
      refine Nat.or_lt_two_pow (by omega) ?_
      split
      · exact h2
      · exact Nat.two_pow_pos _
    · rw [Nat.testBit_or]
      rcases Nat.lt_succ_iff_lt_or_eq.1 hi with h1 | h1
      · rw [h i h1]
        split
        · rw [Nat.testBit_two_pow]; simp; omega
        · simp
      · subst h1
        rw [Nat.testBit_lt_two_pow hb]
        split
        · rename_i hq; rw [Nat.testBit_two_pow]; simp [hq]
        · rename_i hq; simp [hq]

/-- A part's literals are all true just if its number's figures are the assignment's. -/
theorem signed_true {l : List Int} (hv : ∀ v ∈ l, 1 ≤ v) (m i : Nat) : (signedL l i).all (tIn m) = true ↔ ∀ j, j < l.length → i.testBit (l.length - 1 - j) = !m.testBit ((l.getD j 0 - 1).toNat) := by
  have key : ∀ j, j < l.length → (tIn m ((signedL l i).getD j 0) = true ↔ i.testBit (l.length - 1 - j) = !m.testBit ((l.getD j 0 - 1).toNat)) := by
    intro j hj
    have h1 : 1 ≤ l.getD j 0 := by rw [getD_lt _ _ _ hj]; exact hv _ (List.getElem_mem hj)
    rw [signedL_get l i j hj]
    generalize l.getD j 0 = v at *
    cases i.testBit (l.length - 1 - j)
    · rw [if_neg (by decide)]
      unfold tIn
      rw [if_pos (by omega)]
      cases m.testBit (v - 1).toNat <;> simp
    · rw [if_pos rfl]
      unfold tIn
      rw [if_neg (by omega), show (-(-v) - 1).toNat = (v - 1).toNat by omega]
      cases m.testBit (v - 1).toNat <;> simp
  rw [List.all_eq_true]
  constructor
  · intro h j hj
    refine (key j hj).1 (h _ ?_)
    rw [getD_lt _ _ _ (by rw [signedL_len]; exact hj)]
    exact List.getElem_mem _
  · intro h x hx
    obtain ⟨j, hj, rfl⟩ := List.getElem_of_mem hx
    have hj' : j < l.length := by rw [signedL_len] at hj; exact hj
    have := (key j hj').2 (h j hj')
    rw [getD_lt _ _ _ hj] at this
    exact this

theorem one_in_range (b N : Nat) (p : Nat → Bool) (hb : b < N) (h : ∀ i, i < N → (p i = true ↔ i = b)) : (List.range N).countP p = 1 := by
  have e : (List.range N).countP p = (List.range N).count b := by
    unfold List.count
    refine List.countP_congr fun i hi => ?_
    rw [h i (List.mem_range.1 hi)]
    simp
  rw [e, List.nodup_range.count]
  simp [hb]

/-- Each assignment lies in just one part. -/
theorem one_part {n k : Nat} (cs : List (List Int)) (hk : k ≤ n) (m : Nat) : (cubesOf n cs k).countP (fun c => c.all (tIn m)) = 1 := by
  have hl := heavy_len cs hk
  obtain ⟨b, hb, hbt⟩ := bits_some (fun t => !m.testBit (((heavy n cs k).getD (k - 1 - t) 0 - 1).toNat)) k
  unfold cubesOf
  rw [List.countP_map]
  refine one_in_range b _ _ hb fun i hi => ?_
  show ((signedL (heavy n cs k) i).all (tIn m) = true ↔ i = b)
  rw [signed_true (fun v hv => (heavy_mem hv).1), hl]
  constructor
  · intro h
    refine Nat.eq_of_testBit_eq fun t => ?_
    by_cases ht : t < k
    · rw [hbt t ht]
      have := h (k - 1 - t) (by omega)
      rw [show k - 1 - (k - 1 - t) = t by omega] at this
      exact this
    · rw [Nat.testBit_lt_two_pow (Nat.lt_of_lt_of_le hi (Nat.pow_le_pow_right (by decide) (by omega))), Nat.testBit_lt_two_pow (Nat.lt_of_lt_of_le hb (Nat.pow_le_pow_right (by decide) (by omega)))]
  · rintro rfl j hj
    rw [hbt (k - 1 - j) (by omega), show k - 1 - (k - 1 - j) = j by omega]

theorem drainI_of {wt : Nat → Nat} {n : Nat} {x : Itm} (h : x ∈ drainI n (built wt n)) : ∃ j : Nat, j < n ∧ x = ((j : Int) + 1, wt j) := by
  have h1 := (drainI_sorted n (built wt n) (built_length wt n) (built_heap wt n).1).2.mem_iff.1 h
  obtain ⟨j, hj, rfl⟩ := List.mem_map.1 ((built_heap wt n).2.mem_iff.1 h1)
  exact ⟨j, List.mem_range.1 hj, rfl⟩

/-- Of none that is left out is the weight greater. -/
theorem heavy_most {n k v u : Nat} (cs : List (List Int)) (hv : ((v : Int) + 1) ∈ heavy n cs k) (hu : ((u : Int) + 1) ∉ heavy n cs k) (hun : u < n) : weight cs u ≤ weight cs v := by
  unfold heavy at hv hu
  have hs := (drainI_sorted n (built (weight cs) n) (built_length _ n) (built_heap _ n).1).1
  have hum : ((u : Int) + 1) ∈ drain n (built (weight cs) n) := drain_mem.2 ⟨by omega, by omega⟩
  rw [drain_fst] at hv hu hum
  rw [← List.map_take] at hv hu
  obtain ⟨x, hx, hxe⟩ := List.mem_map.1 hv
  obtain ⟨y, hy, hye⟩ := List.mem_map.1 hum
  have hy' : y ∈ (drainI n (built (weight cs) n)).drop k := by
    have : y ∈ (drainI n (built (weight cs) n)).take k ++ (drainI n (built (weight cs) n)).drop k := by rw [List.take_append_drop]; exact hy
    rcases List.mem_append.1 this with h | h
    · exact absurd (List.mem_map.2 ⟨y, h, hye⟩) hu
    · exact h
  rw [← List.take_append_drop k (drainI n (built (weight cs) n)), List.pairwise_append] at hs
  have hle := hs.2.2 x hx y hy'
  obtain ⟨a, -, rfl⟩ := drainI_of (List.mem_of_mem_take hx)
  obtain ⟨b, -, rfl⟩ := drainI_of hy
  have ea : a = v := by simp only at hxe; omega
  have eb : b = u := by simp only at hye; omega
  subst ea
  subst eb
  unfold Le aheadOf at hle
  simp at hle
  omega

theorem cubes_lits {V K : Nat} {cs : List (List Int)} (hKV : K ≤ V) {c : List Int} (hc : c ∈ cubesOf V cs K) : c.length = K ∧ ∀ l ∈ c, IsLit V l := by
  unfold cubesOf at hc
  obtain ⟨i, -, rfl⟩ := List.mem_map.1 hc
  refine ⟨by rw [signedL_len, heavy_len cs hKV], fun l hl => ?_⟩
  unfold signedL at hl
  obtain ⟨j, hj, rfl⟩ := List.mem_mapIdx.1 hl
  have := heavy_mem (List.getElem_mem hj)
  unfold IsLit
  split <;> omega

theorem cubes_first {V K : Nat} (cs : List (List Int)) : (cubesOf V cs K).getD 0 [] = heavy V cs K := by
  have hp := Nat.two_pow_pos K
  rw [getD_lt _ _ _ (by rw [cubesOf_len]; exact hp)]
  unfold cubesOf
  rw [List.getElem_map, List.getElem_range]
  refine List.ext_getElem (signedL_len _ _) fun i h1 h2 => ?_
  have := signedL_get (heavy V cs K) 0 i h2
  rw [getD_lt _ _ _ h1, getD_lt _ _ _ h2, if_neg (by simp)] at this
  exact this

theorem count_take {L : List (List Int)} {i : Nat} (p : List Int → Bool) (hi : i < L.length) : (L.take (i + 1)).countP p = (L.take i).countP p + if p (L.getD i []) then 1 else 0 := by
  rw [List.take_succ_eq_append_getElem hi, List.countP_append, getD_lt _ _ _ hi]
  simp [List.countP_cons]

theorem count_few {L : List (List Int)} (i : Nat) (p : List Int → Bool) : (L.take i).countP p ≤ i := Nat.le_trans List.countP_le_length (by simp; omega)

theorem all_take {c : List Int} {j : Nat} (p : Int → Bool) (hj : j < c.length) : (c.take (j + 1)).all p = ((c.take j).all p && p (c.getD j 0)) := by
  rw [List.take_succ_eq_append_getElem hj, List.all_append, getD_lt _ _ _ hj]
  simp

theorem order_le {p q : Nat} (hp : p < 9007199254740992) (hq : q < 9007199254740992) (h : p ≤ q) : ∃ o, FloatKind.f64.format.order (Fl.W p) (Fl.W q) = some o ∧ o ≠ .gt := by
  rcases Nat.lt_or_ge p q with h1 | h1
  · exact ⟨.lt, order_lt hp hq h1, by decide⟩
  · obtain rfl : p = q := by omega
    exact ⟨.eq, order_eq hp, by decide⟩
end Go.Proofs.YtlodenfdcckemabDoor

/-
  Check, whole.
-/

namespace Go.Proofs.YtlodenfdcckemabDoor
open Go.RowKit

set_option maxHeartbeats 400000 in
theorem check_bad (vars : Int) (ao : Option Addr) (cap : Nat) (cs : List (List Int)) (v : Value) (w : World) (hc : ListsAt w w.heap.size ao cs) (hf : (fault vars cs).1 ≠ 0) :
    Calls Tryd.prog 14 #[fm vars ao cap cs, v] w fun e w' => e = .returned (.tuple #[.int .i64 0, .int .i64 (fault vars cs).1]) ∧ Below w.heap.size w w' := by
  have hne : ((fault vars cs).1 != 0) = true := by simp [hf]
  have hw1 : Below w.heap.size w (w.alloc (.cells #[.int .i64 vars, .slice ao cs.length cap] 25)) := (Below.refl _ _).alloc (Nat.le_refl _) _
  have B0 := blk_new w [.int .i64 vars, .slice ao cs.length cap] 25
  unfold fm
  go_enter Tryd.func14, Tryd.ntmps14
  go_wp2_with fail
  change Blk (w.alloc (.cells #[.int .i64 vars, .slice ao cs.length cap] 25)) w.heap.size 25 _ at B0
  generalize w.alloc (.cells #[.int .i64 vars, .slice ao cs.length cap] 25) = W at *
  have hc1 := (hc.below hw1 (Nat.le_refl _)).mono hw1.size
  refine (of_any vars ao cap cs W hc1).mono ?_
  rintro e w1 ⟨rfl, hb1⟩
  have hb : Below w.heap.size w w1 := hw1.trans (hb1.mono hw1.size)
  clear hf
  go_wp2
  go_ret2
  exact ⟨rfl, hb⟩

set_option maxHeartbeats 400000 in
theorem check_good (n : Nat) (ao po : Option Addr) (cap pcap : Nat) (cs p : List (List Int)) (w : World) (hc : ListsAt w w.heap.size ao cs) (hp : ListsAt w w.heap.size po p) (hg : Good n cs) (hf : (fault n cs).1 = 0) (hpl : p.length ≤ 6000000000000) :
    Calls Tryd.prog 14 #[fm n ao cap cs, .slice po p.length pcap] w fun e w' => e = .returned (.tuple #[.int .i64 (checkOf n cs 0 p).1, .int .i64 (checkOf n cs 0 p).2]) ∧ Below w.heap.size w w' := by
  have hne : ((fault n cs).1 != 0) = false := by simp [hf]
  have hw1 : Below w.heap.size w (w.alloc (.cells #[.int .i64 n, .slice ao cs.length cap] 25)) := (Below.refl _ _).alloc (Nat.le_refl _) _
  have B0 := blk_new w [.int .i64 n, .slice ao cs.length cap] 25
  unfold fm
  go_enter Tryd.func14, Tryd.ntmps14
  go_wp2_with fail
  change Blk (w.alloc (.cells #[.int .i64 n, .slice ao cs.length cap] 25)) w.heap.size 25 _ at B0
  generalize w.alloc (.cells #[.int .i64 n, .slice ao cs.length cap] 25) = W at *
  have hc1 := (hc.below hw1 (Nat.le_refl _)).mono hw1.size
  have hp1 := (hp.below hw1 (Nat.le_refl _)).mono hw1.size
  refine (of_any n ao cap cs W hc1).mono ?_
  rintro e w1 ⟨rfl, hb1⟩
  have hb : Below w.heap.size w w1 := hw1.trans (hb1.mono hw1.size)
  have B1 := B0.below' hb1
  have n0 : w1.cell? ⟨w.heap.size, 0, none⟩ = some (.int .i64 n) := B1.cell (i := 0) (by simp) undef
  have n1 : w1.cell? ⟨w.heap.size, 1, none⟩ = some (.slice ao cs.length cap) := B1.cell (i := 1) (by simp) undef
  have hc2 := (hc1.below hb1 (Nat.le_refl _)).mono hb1.size
  have hp2 := (hp1.below hb1 (Nat.le_refl _)).mono hb1.size
  have c1 := pcheck_any n hg.vars ao po cap pcap cs p w1 hc2 hp2 (fun c hc l hl => hg.lits c hc l hl) hg.many hg.long hpl
  clear hf hc1 hp1 hc2 hp2
  go_wp2_with (go_at_call 26; refine c1.mono ?_; rintro e w2 ⟨rfl, hb2⟩)
  go_ret2
  exact ⟨rfl, hb.trans (hb2.mono hb.size)⟩
end Go.Proofs.YtlodenfdcckemabDoor
