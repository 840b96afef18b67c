/-
  Several texts, one behind the other.
-/
import Derived.Test.YtlodenfdcckemaaDoorH12
import Derived.Test.YtlodenfdcckemaaDoorH9
import Derived.Lib.SliceRun
/-
  The walks of the library's searches over the kept clauses.
-/

namespace Go.Proofs.YtlodenfdcckemaaDoor
open Go.RowKit

theorem Tryd.infoSet : (Tryd.prog.info? 71).map (fun i => (i.zero, i.size, i.bytes)) = some (some (.int .u64 0), 1, 8) := by kernel_rfl

abbrev svs (K : List Nat) : List Value := K.map sv

/-- The first place at which p holds, or -1. -/
def IdxOf (p : Nat → Bool) (K : List Nat) (r : Int) : Prop := (r = -1 ∧ ∀ k ∈ K, p k = false) ∨ ∃ j : Nat, j < K.length ∧ r = j ∧ p (K.getD j 0) = true ∧ ∀ i, i < j → p (K.getD i 0) = false

theorem Own.cellsAt {w : World} {base : Nat} {t : TypeId} {v : Value} {xs : List Value} (h : Own w base t v xs) : ∃ ao cap, v = .slice ao xs.length cap ∧ (0 < xs.length → ∃ g, ao = some ⟨g, 0, none⟩ ∧ g < w.heap.size ∧ (∀ i, i < xs.length → w.cell? ⟨g, i, none⟩ = some (xs.getD i undef)) ∧ ∀ i, w.frozen? ⟨g, i, none⟩ = false) := by
  rcases h with ⟨rfl, rfl⟩ | ⟨g, cap, rfl, hb, h63, hr⟩
  · exact ⟨none, 0, rfl, fun h => absurd h (by simp)⟩
  · exact ⟨_, cap, rfl, fun _ => ⟨g, rfl, hr.lt, fun i hi => hr.cell hi undef, hr.frozen⟩⟩

theorem svs_get {K : List Nat} {i : Nat} (hi : i < K.length) : (svs K).getD i undef = sv (K.getD i 0) := by simp [hi]

theorem mem_getD {K : List Nat} {i : Nat} (hi : i < K.length) : K.getD i 0 ∈ K := by rw [getD_lt _ _ _ hi]; exact List.getElem_mem hi

/-- The closure of Add: is another within the clause? -/
theorem enough_any (k m N : Nat) (hk : k < 18446744073709551616) (hm : m < 18446744073709551616) (w : World) (hN : w.cell? ⟨N, 0, none⟩ = some (sv m)) :
    Calls Tryd.prog 91 #[sv k, .pointer (some ⟨N, 0, none⟩)] w fun e w' => e = .returned (.bool (within k m)) ∧ w' = w := by
  go_enter Tryd.func91, Tryd.ntmps91
  go_wp2_with (go_at_call 72; refine (within_any k m hk hm _).mono ?_; rintro e w' ⟨rfl, rfl⟩)
  go_ret
  exact ⟨rfl, rfl⟩

set_option maxHeartbeats 1000000 in
theorem indexA_any (v : Value) (K : List Nat) (m N : Nat) (w : World) (hO : Own w 0 71 v (svs K)) (hK : ∀ k ∈ K, k < 18446744073709551616) (hm : m < 18446744073709551616) (hN : w.cell? ⟨N, 0, none⟩ = some (sv m)) (hlen : K.length ≤ 4611686018427387904) :
    Calls Tryd.prog 112 #[v, .func (.func 91) #[] #[.pointer (some ⟨N, 0, none⟩)]] w fun e w' => (∃ r, e = .returned (.int .i64 r) ∧ IdxOf (fun k => within k m) K r) ∧ w' = w := by
  obtain ⟨ao, cap, rfl, hat⟩ := hO.cellsAt
  simp only [List.length_map] at hat ⊢
  clear hO
  go_enter Tryd.func112, Tryd.ntmps112
  go_wp2
  go_loop [5, 8] (fun _ i => ∃ j : Nat, j ≤ K.length ∧ i = .int .i64 j ∧ Hid (∀ i, i < j → within (K.getD i 0) m = false)) (fun _ i => K.length - (intOf i).toNat)
  case atStart => exact ⟨0, Nat.zero_le _, rfl, fun i hi => absurd hi (Nat.not_lt_zero _)⟩
  case round =>
    obtain ⟨j, hj, rfl, HA⟩ := hrel
    by_cases hlt : j < K.length
    · obtain ⟨g, rfl, hg, hcells, hfr⟩ := hat (by omega)
      have hc := hcells j hlt
      rw [svs_get hlt] at hc
      have hkb := hK _ (mem_getD hlt)
      obtain ⟨k, HX⟩ : ∃ k, Hid (k = K.getD j 0) := ⟨_, rfl⟩
      rw [← HX.out] at hc hkb
      clear hcells hK hat hfr
      cases hw : within k m with
      | true =>
        have hcall := enough_any k m N hkb hm
        rw [hw] at hcall
        go_wp2_with (go_at_call 91; refine (hcall _ hN).mono ?_; rintro e w' ⟨rfl, rfl⟩)
        go_ret
        exact ⟨⟨_, rfl, Or.inr ⟨j, hlt, rfl, by rw [← HX.out]; exact hw, HA.out⟩⟩, rfl⟩
      | false =>
        have hcall := enough_any k m N hkb hm
        rw [hw] at hcall
        go_wp2_with (go_at_call 91; refine (hcall _ hN).mono ?_; rintro e w' ⟨rfl, rfl⟩)
        go_round
        case rel =>
          refine ⟨j + 1, by omega, by go_num, fun i hi => ?_⟩
          by_cases e : i = j
          · subst e; rw [← HX.out]; exact hw
          · exact HA.out i (by omega)
        case measure => simp [intOf]; omega
    · obtain rfl : j = K.length := by omega
      go_wp2
      go_ret
      refine ⟨⟨_, rfl, Or.inl ⟨rfl, fun k hk => ?_⟩⟩, rfl⟩
      obtain ⟨i, hi, rfl⟩ := List.getElem_of_mem hk
      have := HA.out i hi
      rwa [getD_lt _ _ _ hi] at this

set_option maxHeartbeats 1000000 in
theorem indexB_any (v : Value) (K : List Nat) (m : Nat) (w : World) (hO : Own w 0 71 v (svs K)) (hK : ∀ k ∈ K, k < 18446744073709551616) (hm : m < 18446744073709551616) (hlen : K.length ≤ 4611686018427387904) :
    Calls Tryd.prog 112 #[v, .func (.func 72) #[sv m] #[]] w fun e w' => (∃ r, e = .returned (.int .i64 r) ∧ IdxOf (fun k => within m k) K r) ∧ w' = w := by
  obtain ⟨ao, cap, rfl, hat⟩ := hO.cellsAt
  simp only [List.length_map] at hat ⊢
  clear hO
  go_enter Tryd.func112, Tryd.ntmps112
  go_wp2
  go_loop [5, 8] (fun _ i => ∃ j : Nat, j ≤ K.length ∧ i = .int .i64 j ∧ Hid (∀ i, i < j → within m (K.getD i 0) = false)) (fun _ i => K.length - (intOf i).toNat)
  case atStart => exact ⟨0, Nat.zero_le _, rfl, fun i hi => absurd hi (Nat.not_lt_zero _)⟩
  case round =>
    obtain ⟨j, hj, rfl, HA⟩ := hrel
    by_cases hlt : j < K.length
    · obtain ⟨g, rfl, hg, hcells, hfr⟩ := hat (by omega)
      have hc := hcells j hlt
      rw [svs_get hlt] at hc
      have hkb := hK _ (mem_getD hlt)
      obtain ⟨k, HX⟩ : ∃ k, Hid (k = K.getD j 0) := ⟨_, rfl⟩
      rw [← HX.out] at hc hkb
      clear hcells hK hat hfr
      cases hw : within m k with
      | true =>
        have hcall := within_any m k hm hkb
        rw [hw] at hcall
        go_wp2_with (go_at_call 72; refine (hcall _).mono ?_; rintro e w' ⟨rfl, rfl⟩)
        go_ret
        exact ⟨⟨_, rfl, Or.inr ⟨j, hlt, rfl, by rw [← HX.out]; exact hw, HA.out⟩⟩, rfl⟩
      | false =>
        have hcall := within_any m k hm hkb
        rw [hw] at hcall
        go_wp2_with (go_at_call 72; refine (hcall _).mono ?_; rintro e w' ⟨rfl, rfl⟩)
        go_round
        case rel =>
          refine ⟨j + 1, by omega, by go_num, fun i hi => ?_⟩
          by_cases e : i = j
          · subst e; rw [← HX.out]; exact hw
          · exact HA.out i (by omega)
        case measure => simp [intOf]; omega
    · obtain rfl : j = K.length := by omega
      go_wp2
      go_ret
      refine ⟨⟨_, rfl, Or.inl ⟨rfl, fun k hk => ?_⟩⟩, rfl⟩
      obtain ⟨i, hi, rfl⟩ := List.getElem_of_mem hk
      have := HA.out i hi
      rwa [getD_lt _ _ _ hi] at this

set_option maxHeartbeats 400000 in
theorem contains_any (v : Value) (K : List Nat) (m N : Nat) (w : World) (hO : Own w 0 71 v (svs K)) (hK : ∀ k ∈ K, k < 18446744073709551616) (hm : m < 18446744073709551616) (hN : w.cell? ⟨N, 0, none⟩ = some (sv m)) (hlen : K.length ≤ 4611686018427387904) :
    Calls Tryd.prog 92 #[v, .func (.func 91) #[] #[.pointer (some ⟨N, 0, none⟩)]] w fun e w' => e = .returned (.bool (K.any fun k => within k m)) ∧ w' = w := by
  have hcall := indexA_any v K m N w hO hK hm hN hlen
  clear hO hK hN
  go_enter Tryd.func92, Tryd.ntmps92
  go_wp2_with (go_at_call 112; refine hcall.mono ?_; rintro e w' ⟨⟨r, rfl, hr⟩, rfl⟩; have HR : Hid (IdxOf (fun k => within k m) K r) := hr; clear hr)
  go_ret
  refine ⟨congrArg (fun b => Ending.returned (.bool b)) ?_, rfl⟩
  rcases HR.out with ⟨rfl, hall⟩ | ⟨j, hj, rfl, hp, _⟩
  · have : K.any (fun k => within k m) = false := by
      rw [List.any_eq_false]
      intro k hk
      have := hall k hk
      simpa using this
    rw [this]; rfl
  · have : K.any (fun k => within k m) = true := by
      rw [List.any_eq_true]
      exact ⟨_, mem_getD hj, hp⟩
    rw [this]; simp
end Go.Proofs.YtlodenfdcckemaaDoor

/-
  The walk of the library's DeleteFunc over the kept clauses.
-/

namespace Go.Proofs.YtlodenfdcckemaaDoor
open Go.RowKit

/-- Which clauses stay. -/
abbrev stay (m : Nat) (K : List Nat) : List Nat := K.filter fun k => !within m k

/-- The row while it is rewritten: i kept ones ahead, the rest from j on as it was. -/
structure Mid (m : Nat) (K : List Nat) (i j : Nat) (R : List Nat) : Prop where
  len : R.length = K.length
  lt : i < j
  le : j ≤ K.length
  done : R.take i = stay m (K.take j)
  rest : R.drop j = K.drop j

theorem Mid.get {m : Nat} {K : List Nat} {i j : Nat} {R : List Nat} (h : Mid m K i j R) : R.getD j 0 = K.getD j 0 := by
  have e := congrArg (fun l => l.getD 0 0) h.rest
  simpa [List.getD_eq_getElem?_getD] using e

theorem stay_all {m : Nat} {K : List Nat} (h : ∀ k ∈ K, within m k = false) : stay m K = K := by
  rw [stay, List.filter_eq_self]
  intro k hk
  rw [h k hk]; rfl

theorem stay_succ (m : Nat) (K : List Nat) (j : Nat) (hj : j < K.length) : stay m (K.take (j + 1)) = stay m (K.take j) ++ if within m (K.getD j 0) then [] else [K.getD j 0] := by
  rw [stay, List.take_succ_eq_append_getElem hj, List.filter_append, getD_lt _ _ _ hj]
  congr 1
  cases h : within m K[j] <;> simp [h]

theorem Mid.skip {m : Nat} {K : List Nat} {i j : Nat} {R : List Nat} (h : Mid m K i j R) (hj : j < K.length) (hw : within m (K.getD j 0) = true) : Mid m K i (j + 1) R := by
  refine ⟨h.len, by have := h.lt; omega, hj, ?_, ?_⟩
  · rw [h.done, stay_succ _ _ _ hj, hw]; simp
  · have := congrArg (List.drop 1) h.rest
    simpa [List.drop_drop, Nat.add_comm] using this

theorem Mid.keep {m : Nat} {K : List Nat} {i j : Nat} {R : List Nat} (h : Mid m K i j R) (hj : j < K.length) (hw : within m (K.getD j 0) = false) : Mid m K (i + 1) (j + 1) (R.set i (K.getD j 0)) := by
  have hlt := h.lt
  have hlen := h.len
  refine ⟨by simpa using hlen, by omega, hj, ?_, ?_⟩
  · rw [stay_succ _ _ _ hj, hw, ← h.done]
    have hi : i < (R.set i (K.getD j 0)).length := by simp; omega
    rw [List.take_succ_eq_append_getElem hi, List.take_set_of_le (Nat.le_refl _)]
    simp
  · have := congrArg (List.drop 1) h.rest
    rw [List.drop_set_of_lt (by omega)]
    simpa [List.drop_drop, Nat.add_comm] using this

theorem Mid.start {m : Nat} {K : List Nat} {j : Nat} (hj : j < K.length) (hp : within m (K.getD j 0) = true) (hall : ∀ i, i < j → within m (K.getD i 0) = false) : Mid m K j (j + 1) K := by
  refine ⟨rfl, by omega, hj, ?_, rfl⟩
  rw [stay_succ _ _ _ hj, hp]
  simp only [if_true, List.append_nil]
  symm
  rw [stay, List.filter_eq_self]
  intro k hk
  obtain ⟨i, hi, rfl⟩ := List.getElem_of_mem hk
  have hij : i < j := by simp at hi; omega
  rw [List.getElem_take]
  have := hall i hij
  rw [getD_lt _ _ _ (by omega)] at this
  rw [this]; rfl

theorem Mid.final {m : Nat} {K : List Nat} {i : Nat} {R : List Nat} (h : Mid m K i K.length R) : R.take i = stay m K ∧ i = (stay m K).length := by
  have e := h.done
  rw [List.take_length] at e
  refine ⟨e, ?_⟩
  have := congrArg List.length e
  rw [List.length_take, h.len] at this
  have := h.lt
  omega

set_option maxRecDepth 100000 in
set_option maxHeartbeats 2000000 in
theorem delete_any (v : Value) (K : List Nat) (m : Nat) (w : World) (hO : Own w 0 71 v (svs K)) (hK : ∀ k ∈ K, k < 18446744073709551616) (hm : m < 18446744073709551616) (hlen : K.length ≤ 4611686018427387904) :
    Calls Tryd.prog 93 #[v, .func (.func 72) #[sv m] #[]] w fun e w' => ∃ v', e = .returned v' ∧ Own w' 0 71 v' (svs (stay m K)) ∧ v'.ownBlock = v.ownBlock ∧ Chg (fun k => v.ownBlock = some k) w w' := by
  have hcall := indexB_any v K m w hO hK hm hlen
  rcases hO with ⟨rfl, hnil⟩ | ⟨g, cap, rfl, hb, h63, hr⟩
  · have hK0 : K = [] := by simpa using hnil
    subst hK0
    have hOw : Hid (Own w 0 71 (.slice none 0 0) (svs (stay m []))) := Own.nil _ _ _
    go_enter Tryd.func93, Tryd.ntmps93
    go_wp2_with (go_at_call 112; refine hcall.mono ?_; rintro e w' ⟨⟨r, rfl, hr⟩, rfl⟩; obtain rfl : r = -1 := by (rcases hr with ⟨h, _⟩ | ⟨j, hj, _⟩; exact h; simp at hj))
    go_ret
    exact ⟨_, rfl, hOw.out, rfl, Chg.refl _ _⟩
  · simp only [List.length_map] at hcall ⊢
    have HK : Hid (∀ k ∈ K, k < 18446744073709551616) := hK
    have HR : Hid (Row1 w g 71 cap (svs K)) := hr
    have hgl := hr.lt
    clear hK hr
    go_enter Tryd.func93, Tryd.ntmps93
    go_wp2_with (go_at_call 112; refine hcall.mono ?_; rintro e w' ⟨⟨r, rfl, hr⟩, hw'⟩; obtain rfl := hw'.symm; rcases hr with ⟨rfl, hall⟩ | ⟨j, hj, rfl, hp, hall⟩)
    · go_ret
      refine ⟨_, rfl, Or.inr ⟨g, cap, ?_, Nat.zero_le _, h63, ?_⟩, rfl, Chg.refl _ _⟩
      · rw [stay_all hall]; simp
      · rw [stay_all hall]; exact HR.out
    · have HM : Hid (Mid m K j (j + 1) K) := Mid.start hj hp hall
      have hne1 : ((j : Int) == -1) = false := beq_eq_false_iff_ne.2 (by omega)
      clear hp hall hcall
      go_wp2
      go_loopw [5, 6] (fun a b wr => ∃ (i j : Nat) (R : List Nat), a = .int .i64 i ∧ b = .int .i64 j ∧ Hid (Mid m K i j R) ∧ Hid (Row1 wr g 71 cap (svs R)) ∧ Hid (Chg (fun k => some g = some k) w wr)) (fun _ b _ => K.length - (intOf b).toNat)
      case atStart => exact ⟨j, j + 1, K, rfl, by go_num, HM, HR, Chg.refl _ _⟩
      case round =>
        obtain ⟨i, j, R, rfl, rfl, HM, HR, HC⟩ := hrel
        have hij := HM.out.lt
        have hjl := HM.out.le
        have hRl := HM.out.len
        by_cases hlt : j < K.length
        · have hcj := HR.out.cell (i := j) (by simp; omega) undef
          have hci := HR.out.cell (i := i) (by simp; omega) undef
          have hfi := HR.out.frozen i
          rw [svs_get (by omega), HM.out.get] at hcj
          rw [svs_get (by omega)] at hci
          have hkb := HK.out _ (mem_getD hlt)
          obtain ⟨k, HX⟩ : ∃ k, Hid (k = K.getD j 0) := ⟨_, rfl⟩
          rw [← HX.out] at hcj hkb
          generalize R.getD i 0 = old at hci
          cases hw : within m k with
          | true =>
            have hcall := within_any m k hm hkb
            rw [hw] at hcall
            go_wp2_with (go_at_call 72; refine (hcall _).mono ?_; rintro e w' ⟨rfl, rfl⟩)
            go_roundw
            case rel => refine ⟨_, _, _, _, _, _, _, _, _, _, _, _, _, _, _, _, _, _, _, _, _, _, _, ?_, rfl⟩; exact ⟨i, j + 1, R, rfl, by go_num, HM.out.skip hlt (by rw [← HX.out]; exact hw), HR, HC⟩
            case measure => simp [intOf]; omega
          | false =>
            have hcall := within_any m k hm hkb
            rw [hw] at hcall
            have HS : Hid (Row1 (wr.setCell ⟨g, i, none⟩ (sv k)) g 71 cap (svs (R.set i k))) := by
              have := HR.out.set (i := i) (by simp; omega) (sv k)
              rwa [← List.map_set] at this
            have HC2 : Hid (Chg (fun k => some g = some k) w (wr.setCell ⟨g, i, none⟩ (sv k))) := Chg.setB (S := fun k => some g = some k) HC.out g i rfl _
            go_wp2_with (go_at_call 72; refine (hcall _).mono ?_; rintro e w' ⟨rfl, rfl⟩)
            go_roundw
            case rel => refine ⟨_, _, _, _, _, _, _, _, _, _, _, _, _, _, _, _, _, _, _, _, _, _, _, ?_, rfl⟩; exact ⟨i + 1, j + 1, R.set i k, by go_num, by go_num, by rw [HX.out]; exact HM.out.keep hlt (by rw [← HX.out]; exact hw), HS, HC2⟩
            case measure => simp [intOf]; omega
        · obtain rfl : j = K.length := by omega
          obtain ⟨hf1, hf2⟩ := HM.out.final
          have hcl : ∀ ty, (Builtin.clear_ #[100] ty #[.slice (some ⟨g, i, none⟩) (K.length - i) (cap - i)]).run Tryd.prog wr = .ok (.tuple #[]) (wr.setCells g i (List.replicate (K.length - i) (sv 0))) :=
            fun ty => Lib.run_clear_slice wr _ _ ty _ Tryd.underlying100 Tryd.zeroValue71 rfl rfl g i _ _ (by omega) (fun t ht => by rw [HR.out.cell (i := i + t) (by simp; omega) undef]; rfl) (fun t _ => HR.out.frozen _)
          have HS : Hid (Row1 (wr.setCells g i (List.replicate (K.length - i) (sv 0))) g 71 cap (svs (stay m K))) := by
            have h1 := HR.out.less' i
            rw [← List.map_take, hf1] at h1
            exact Row1.setOvers _ i _ h1 (by simp; omega)
          have HC2 : Hid (Chg (fun k => some g = some k) w (wr.setCells g i (List.replicate (K.length - i) (sv 0)))) := Chg.setsB (S := fun k => some g = some k) rfl _ _ _ HC.out
          have HL : Hid (i = (stay m K).length) := hf2
          have hcap : K.length ≤ cap := by have := HR.out.le; simp at this; omega
          clear hf1 hf2
          go_wp2
          go_ret
          exact ⟨_, rfl, Or.inr ⟨g, cap, by rw [List.length_map, ← HL.out]; rfl, Nat.zero_le _, h63, HS.out⟩, rfl, HC2.out⟩
end Go.Proofs.YtlodenfdcckemaaDoor
