/-
  The walks of the library's searches over the kept clauses.
-/
import Derived.Test.YtlodenfdcckemaaDoorH15
import Derived.Test.YtlodenfdcckemaaDoorH10
import Derived.Lib.SliceRun
namespace Go.Proofs.YtlodenfdcckemaaDoor
open Go.RowKit

theorem Tryd.infoSet : (Tryd.prog.info? 71).map (fun i => (i.zero, i.size, i.bytes)) = some (some (.int .u64 0), 1, 8) := by kernel_rfl

abbrev svs (K : List Nat) : List Value := K.map sv

/-- The first place at which p holds, or -1. -/
def IdxOf (p : Nat → Bool) (K : List Nat) (r : Int) : Prop := (r = -1 ∧ ∀ k ∈ K, p k = false) ∨ ∃ j : Nat, j < K.length ∧ r = j ∧ p (K.getD j 0) = true ∧ ∀ i, i < j → p (K.getD i 0) = false

theorem Own.cellsAt {w : World} {base : Nat} {t : TypeId} {v : Value} {xs : List Value} (h : Own w base t v xs) : ∃ ao cap, v = .slice ao xs.length cap ∧ (0 < xs.length → ∃ g, ao = some ⟨g, 0, none⟩ ∧ g < w.heap.size ∧ (∀ i, i < xs.length → w.cell? ⟨g, i, none⟩ = some (xs.getD i undef)) ∧ ∀ i, w.frozen? ⟨g, i, none⟩ = false) := by
  rcases h with ⟨rfl, rfl⟩ | ⟨g, cap, rfl, hb, h63, hr⟩
  · exact ⟨none, 0, rfl, fun h => absurd h (by simp)⟩
  · exact ⟨_, cap, rfl, fun _ => ⟨g, rfl, hr.lt, fun i hi => hr.cell hi undef, hr.frozen⟩⟩

theorem svs_get {K : List Nat} {i : Nat} (hi : i < K.length) : (svs K).getD i undef = sv (K.getD i 0) := by simp [hi]

theorem mem_getD {K : List Nat} {i : Nat} (hi : i < K.length) : K.getD i 0 ∈ K := by rw [getD_lt _ _ _ hi]; exact List.getElem_mem hi

/-- The closure of Add: is another within the clause? -/
theorem enough_any (k m N : Nat) (hk : k < 18446744073709551616) (hm : m < 18446744073709551616) (w : World) (hN : w.cell? ⟨N, 0, none⟩ = some (sv m)) :
    Calls Tryd.prog 91 #[sv k, .pointer (some ⟨N, 0, none⟩)] w fun e w' => e = .returned (.bool (within k m)) ∧ w' = w := by
  go_enter Tryd.func91, Tryd.ntmps91
  go_wp2_with (go_at_call 72; refine (within_any k m hk hm _).mono ?_; rintro e w' ⟨rfl, rfl⟩)
  go_ret
  exact ⟨rfl, rfl⟩

set_option maxHeartbeats 1000000 in
theorem indexA_any (v : Value) (K : List Nat) (m N : Nat) (w : World) (hO : Own w 0 71 v (svs K)) (hK : ∀ k ∈ K, k < 18446744073709551616) (hm : m < 18446744073709551616) (hN : w.cell? ⟨N, 0, none⟩ = some (sv m)) (hlen : K.length ≤ 4611686018427387904) :
    Calls Tryd.prog 112 #[v, .func (.func 91) #[] #[.pointer (some ⟨N, 0, none⟩)]] w fun e w' => (∃ r, e = .returned (.int .i64 r) ∧ IdxOf (fun k => within k m) K r) ∧ w' = w := by
  obtain ⟨ao, cap, rfl, hat⟩ := hO.cellsAt
  simp only [List.length_map] at hat ⊢
  clear hO
  go_enter Tryd.func112, Tryd.ntmps112
  go_wp2
  go_loop [5, 8] (fun _ i => ∃ j : Nat, j ≤ K.length ∧ i = .int .i64 j ∧ Hid (∀ i, i < j → within (K.getD i 0) m = false)) (fun _ i => K.length - (intOf i).toNat)
  case atStart => exact ⟨0, Nat.zero_le _, rfl, fun i hi => absurd hi (Nat.not_lt_zero _)⟩
  case round =>
    obtain ⟨j, hj, rfl, HA⟩ := hrel
    by_cases hlt : j < K.length
    · obtain ⟨g, rfl, hg, hcells, hfr⟩ := hat (by omega)
      have hc := hcells j hlt
      rw [svs_get hlt] at hc
      have hkb := hK _ (mem_getD hlt)
      obtain ⟨k, HX⟩ : ∃ k, Hid (k = K.getD j 0) := ⟨_, rfl⟩
      rw [← HX.out] at hc hkb
      clear hcells hK hat hfr
      cases hw : within k m with
      | true =>
        have hcall := enough_any k m N hkb hm
        rw [hw] at hcall
        go_wp2_with (go_at_call 91; refine (hcall _ hN).mono ?_; rintro e w' ⟨rfl, rfl⟩)
        go_ret
        exact ⟨⟨_, rfl, Or.inr ⟨j, hlt, rfl, by rw [← HX.out]; exact hw, HA.out⟩⟩, rfl⟩
      | false =>
        have hcall := enough_any k m N hkb hm
        rw [hw] at hcall
        go_wp2_with (go_at_call 91; refine (hcall _ hN).mono ?_; rintro e w' ⟨rfl, rfl⟩)
        go_round
        case rel =>
          refine ⟨j + 1, by omega, by go_num, fun i hi => ?_⟩
          by_cases e : i = j
          · subst e; rw [← HX.out]; exact hw
          · exact HA.out i (by omega)
        case measure => simp [intOf]; omega
    · obtain rfl : j = K.length := by omega
      go_wp2
      go_ret
      refine ⟨⟨_, rfl, Or.inl ⟨rfl, fun k hk => ?_⟩⟩, rfl⟩
      obtain ⟨i, hi, rfl⟩ := List.getElem_of_mem hk
      have := HA.out i hi
      rwa [getD_lt _ _ _ hi] at this

set_option maxHeartbeats 1000000 in
theorem indexB_any (v : Value) (K : List Nat) (m : Nat) (w : World) (hO : Own w 0 71 v (svs K)) (hK : ∀ k ∈ K, k < 18446744073709551616) (hm : m < 18446744073709551616) (hlen : K.length ≤ 4611686018427387904) :
    Calls Tryd.prog 112 #[v, .func (.func 72) #[sv m] #[]] w fun e w' => (∃ r, e = .returned (.int .i64 r) ∧ IdxOf (fun k => within m k) K r) ∧ w' = w := by
  obtain ⟨ao, cap, rfl, hat⟩ := hO.cellsAt
  simp only [List.length_map] at hat ⊢
  clear hO
  go_enter Tryd.func112, Tryd.ntmps112
  go_wp2
  go_loop [5, 8] (fun _ i => ∃ j : Nat, j ≤ K.length ∧ i = .int .i64 j ∧ Hid (∀ i, i < j → within m (K.getD i 0) = false)) (fun _ i => K.length - (intOf i).toNat)
  case atStart => exact ⟨0, Nat.zero_le _, rfl, fun i hi => absurd hi (Nat.not_lt_zero _)⟩
  case round =>
    obtain ⟨j, hj, rfl, HA⟩ := hrel
    by_cases hlt : j < K.length
    · obtain ⟨g, rfl, hg, hcells, hfr⟩ := hat (by omega)
      have hc := hcells j hlt
      rw [svs_get hlt] at hc
      have hkb := hK _ (mem_getD hlt)
      obtain ⟨k, HX⟩ : ∃ k, Hid (k = K.getD j 0) := ⟨_, rfl⟩
      rw [← HX.out] at hc hkb
      clear hcells hK hat hfr
      cases hw : within m k with
      | true =>
        have hcall := within_any m k hm hkb
        rw [hw] at hcall
        go_wp2_with (go_at_call 72; refine (hcall _).mono ?_; rintro e w' ⟨rfl, rfl⟩)
        go_ret
        exact ⟨⟨_, rfl, Or.inr ⟨j, hlt, rfl, by rw [← HX.out]; exact hw, HA.out⟩⟩, rfl⟩
      | false =>
        have hcall := within_any m k hm hkb
        rw [hw] at hcall
        go_wp2_with (go_at_call 72; refine (hcall _).mono ?_; rintro e w' ⟨rfl, rfl⟩)
        go_round
        case rel =>
          refine ⟨j + 1, by omega, by go_num, fun i hi => ?_⟩
          by_cases e : i = j
          · subst e; rw [← HX.out]; exact hw
          · exact HA.out i (by omega)
        case measure => simp [intOf]; omega
    · obtain rfl : j = K.length := by omega
      go_wp2
      go_ret
      refine ⟨⟨_, rfl, Or.inl ⟨rfl, fun k hk => ?_⟩⟩, rfl⟩
      obtain ⟨i, hi, rfl⟩ := List.getElem_of_mem hk
      have := HA.out i hi
      rwa [getD_lt _ _ _ hi] at this

set_option maxHeartbeats 400000 in
theorem contains_any (v : Value) (K : List Nat) (m N : Nat) (w : World) (hO : Own w 0 71 v (svs K)) (hK : ∀ k ∈ K, k < 18446744073709551616) (hm : m < 18446744073709551616) (hN : w.cell? ⟨N, 0, none⟩ = some (sv m)) (hlen : K.length ≤ 4611686018427387904) :
    Calls Tryd.prog 92 #[v, .func (.func 91) #[] #[.pointer (some ⟨N, 0, none⟩)]] w fun e w' => e = .returned (.bool (K.any fun k => within k m)) ∧ w' = w := by
  have hcall := indexA_any v K m N w hO hK hm hN hlen
  clear hO hK hN
  go_enter Tryd.func92, Tryd.ntmps92
  go_wp2_with (go_at_call 112; refine hcall.mono ?_; rintro e w' ⟨⟨r, rfl, hr⟩, rfl⟩; have HR : Hid (IdxOf (fun k => within k m) K r) := hr; clear hr)
  go_ret
  refine ⟨congrArg (fun b => Ending.returned (.bool b)) ?_, rfl⟩
  rcases HR.out with ⟨rfl, hall⟩ | ⟨j, hj, rfl, hp, _⟩
  · have : K.any (fun k => within k m) = false := by
      rw [List.any_eq_false]
      intro k hk
      have := hall k hk
      simpa using this
    rw [this]; rfl
  · have : K.any (fun k => within k m) = true := by
      rw [List.any_eq_true]
      exact ⟨_, mem_getD hj, hp⟩
    rw [this]; simp
end Go.Proofs.YtlodenfdcckemaaDoor
