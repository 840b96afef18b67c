/-
  The walk of what follows at once: whatever is done at a unit clause and at a conflict.
-/
import Derived.Test.YtlodenfdcckemaaDoorH15
import Derived.Shelf.Abstract
namespace Go.Proofs.YtlodenfdcckemaaDoor
open Go.RowKit

/-- How many places are not in a set. -/
def free (S : Nat) : Nat := (List.range 64).countP fun n => !S.testBit n

theorem countP_lt {p q : Nat → Bool} : ∀ (l : List Nat), (∀ x ∈ l, q x = true → p x = true) → (∃ x ∈ l, p x = true ∧ q x = false) → l.countP q < l.countP p
  | [], _, h => by obtain ⟨x, hx, _⟩ := h; cases hx
  | y :: l, hle, h => by
    have hle' : ∀ x ∈ l, q x = true → p x = true := fun x hx => hle x (List.mem_cons_of_mem _ hx)
    have hm : l.countP q ≤ l.countP p := List.countP_mono_left hle'
    rw [List.countP_cons, List.countP_cons]
    obtain ⟨x, hx, h1, h2⟩ := h
    rcases List.mem_cons.1 hx with rfl | hx
    · simp only [h1, h2, if_true]; simp; omega
    · have := countP_lt l hle' ⟨x, hx, h1, h2⟩
      have hy := hle y List.mem_cons_self
      cases hq : q y <;> cases hp : p y
      · simp; omega
      · simp; omega
      · rw [hy hq] at hp; cases hp
      · simp; omega

theorem free_or {S n : Nat} (hn : n < 64) (h : S.testBit n = false) : free (S ||| 2 ^ n) < free S := by
  refine countP_lt _ (fun x _ hx => ?_) ⟨n, List.mem_range.2 hn, by simp [h], by simp [Nat.testBit_or]⟩
  rw [Nat.testBit_or] at hx
  cases e : S.testBit x with
  | false => rfl
  | true => rw [e] at hx; simp at hx

theorem free_open {V : Nat} (hV : V ≤ 20) {S o : Nat} (ho : o < 2 ^ (2 * V)) (hS : S < 2 ^ (2 * V)) (h1 : single o = true) (h2 : within o S = false) : free (S ||| o) < free S := by
  obtain ⟨n, rfl⟩ := (single_iff (lt64 hV ho)).1 h1
  refine free_or ?_ ?_
  · have := bit_lt ho (by rw [Nat.testBit_two_pow]; simp : (2 ^ n).testBit n = true)
    omega
  · cases e : S.testBit n with
    | false => rfl
    | true =>
      have : within (2 ^ n) S = true := (within_iff (lt64 hV ho) (lt64 hV hS)).2 (fun i hi => by
        rw [Nat.testBit_two_pow] at hi
        have : n = i := by simpa using hi
        subst this; exact e)
      rw [this] at h2; cases h2

/-- A kept clause brings nothing more. -/
def Calm (k S : Nat) : Prop := openOf k S ≠ 0 ∧ (single (openOf k S) = true → within (openOf k S) S = true)

/-- The kept clauses, in memory. -/
structure Cls (w : World) (H : Nat) (v : Value) (K : List Nat) : Prop where
  head : Blk w H 102 [v]
  own : Own w 0 71 v (svs K)

theorem or_spell (a b : Nat) (ha : a < 18446744073709551616) (hb : b < 18446744073709551616) : bits BinOp.or IntKind.u64 (a : Int) (b : Int) = ((a ||| b : Nat) : Int) := bits_or_u64_nat a b ha hb

/-- A truth as a number. -/
def bn : Value → Nat
  | .bool true => 1
  | _ => 0

set_option maxRecDepth 100000 in
set_option maxHeartbeats 4000000 in
theorem from_any (gu gc : Nat) (cu cc : Array Value) (eu : ∀ args w, (callFunc gu args).run Tryd.prog w = .ok (.enter gu args) w) (ec : ∀ args w, (callFunc gc args).run Tryd.prog w = .ok (.enter gc args) w)
    (H : Nat) (v : Value) (K : List Nat) (V : Nat) (hV : V ≤ 20) (C : List (List Int)) (hC : Cover V K C) (g : List Int) (hg : ∀ l ∈ g, IsLit V l) (hlen : K.length ≤ 4611686018427387904)
    (I : Nat → World → Prop) (E : World → Prop) (hI : ∀ S w, I S w → Cls w H v K)
    (hu : ∀ S o k w, I S w → S < 2 ^ (2 * V) → o < 2 ^ (2 * V) → Calls Tryd.prog gu (#[sv o, sv k] ++ cu) w fun e w' => e = .returned (.tuple #[]) ∧ I (S ||| o) w')
    (hc : ∀ S k w, I S w → Calls Tryd.prog gc (#[sv k] ++ cc) w fun e w' => e = .returned (.tuple #[]) ∧ E w')
    (w : World) (hw : I (maskOf g) w) :
    Calls Tryd.prog 48 #[.pointer (some ⟨H, 0, none⟩), sv (maskOf g), .func (.func gu) #[] cu, .func (.func gc) #[] cc] w fun e w' => e = .returned (.tuple #[]) ∧
      ((Conf C (fun l => l ∈ g) ∧ E w') ∨ ∃ S, Come V C (fun l => l ∈ g) S ∧ (∀ k ∈ K, Calm k S) ∧ I S w') := by
  have hm := maskOf_lt hg
  have hm64 := lt64 hV hm
  have hcl64 := clash_lt _ hm64
  by_cases hcl : clash (maskOf g) = 0
  · have HS0 : Hid (Come V C (fun l => l ∈ g) (maskOf g)) := Come.start hV hg hcl
    have hcl' : (((clash (maskOf g) : Nat) : Int) != 0) = false := by simp [hcl]
    have hcall := clash_any (maskOf g) hm64
    generalize hS0 : maskOf g = S0 at *
    clear hcl
    go_enter Tryd.func48, Tryd.ntmps48
    go_wp2_with (go_at_call 69; refine (hcall _).mono ?_; rintro e w' ⟨rfl, rfl⟩)
    go_loopw [9, 10] (fun f gr wr => ∃ (S : Nat) (b : Bool), f = sv S ∧ gr = .bool b ∧ Hid (Come V C (fun l => l ∈ g) S) ∧ I S wr ∧ Hid (b = true ∨ ∀ k ∈ K, Calm k S)) (fun f gr _ => 2 * free (intOf f).toNat + bn gr)
    case atStart => exact ⟨S0, true, rfl, rfl, HS0, hw, Or.inl rfl⟩
    case round =>
      obtain ⟨S, b, rfl, rfl, HS, hIw, HB⟩ := hrel
      cases b with
      | false =>
        go_wp2
        go_end0
        refine ⟨rfl, Or.inr ⟨S, HS.out, ?_, hIw⟩⟩
        rcases HB.out with h | h
        · cases h
        · exact h
      | true =>
        have hcls := hI S wr hIw
        have hhead := hcls.head.cell (i := 0) (by simp) undef
        obtain ⟨ao, cap, hv, -⟩ := hcls.own.cellsAt
        simp only [List.getD_cons_zero] at hhead
        simp only [List.length_map] at hv
        rw [hv] at hhead
        have hHlt := hcls.head.lt
        clear hcls
        go_wp2
        go_loopw [9, 10, 28] (fun f gr x wq => ∃ (T : Nat) (b : Bool) (i : Nat), f = sv T ∧ gr = .bool b ∧ x = .int .i64 i ∧ i ≤ K.length ∧ Hid (Come V C (fun l => l ∈ g) T) ∧ I T wq ∧ Hid (b = true → free T < free S) ∧ Hid (b = false → T = S ∧ ∀ j, j < i → Calm (K.getD j 0) T)) (fun _ _ x _ => K.length - (intOf x).toNat)
        case atStart => exact ⟨S, false, 0, rfl, rfl, rfl, Nat.zero_le _, HS, hIw, (fun h => by cases h), fun _ => ⟨rfl, fun j hj => absurd hj (Nat.not_lt_zero _)⟩⟩
        case round =>
          obtain ⟨T, b, i, rfl, rfl, rfl, hi, HT, hIT, HG, HN⟩ := hrel
          by_cases hlt : i < K.length
          · have hcls := hI T _ hIT
            obtain ⟨ao', cap', hv', hat⟩ := hcls.own.cellsAt
            simp only [List.length_map] at hv' hat
            rw [hv] at hv'
            simp only [Value.slice.injEq, true_and] at hv'
            obtain ⟨rfl, rfl⟩ := hv'
            obtain ⟨gg, rfl, hgg, hcells, -⟩ := hat (by omega)
            have hck := hcells i hlt
            rw [svs_get hlt] at hck
            have hkm : K.getD i 0 ∈ K := mem_getD hlt
            have HKM : Hid (K.getD i 0 ∈ K) := hkm
            have hk40 := hC.small hkm
            have HST : Hid (∀ j, j < i + 1 → (j < i ∨ j = i)) := fun j hj => by omega
            obtain ⟨k, HK⟩ : ∃ k, Hid (k = K.getD i 0) := ⟨_, rfl⟩
            rw [← HK.out] at hck hk40
            have hk64 := lt64 hV hk40
            have hT40 := HT.out.small
            have hT64 := lt64 hV hT40
            have ho64 := opp_lt64 T
            have hdif := dif_spell k (opp T) hk64 ho64
            obtain ⟨o, HO⟩ : ∃ o, Hid (o = openOf k T) := ⟨_, rfl⟩
            have ho40 : o < 2 ^ (2 * V) := by rw [HO.out]; exact dif_lt hk40
            have hol := lt64 hV ho40
            have hdif : bits BinOp.andNot IntKind.u64 (k : Int) ((opp T : Nat) : Int) = (o : Int) := by rw [hdif, HO.out]; rfl
            have hor := or_spell T o hT64 hol
            have c1 := opposites_any T hT64
            have c2 := single_any o hol
            have c3 := within_any o T hol hT64
            have c4 := hc T k
            have c5 := hu T o k
            generalize opp T = oT at hdif ho64 c1
            have H40 : Hid (T < 2 ^ (2 * V) ∧ o < 2 ^ (2 * V)) := ⟨hT40, ho40⟩
            clear hcls hcells hkm hat hT40 ho40 hk40
            by_cases h0 : o = 0
            · have h0' : ((o : Int) == 0) = true := by simp [h0]
              have HE : Hid (openOf k T = 0) := by unfold Hid; rw [← HO.out]; exact h0
              clear h0
              go_wp2_with (first | (go_at_call 70; refine (c1 _).mono ?_; rintro e w' ⟨rfl, rfl⟩) | (go_at_fn gc; refine (c4 _ hIT).mono ?_; rintro e w' ⟨rfl, hE⟩))
              (try simp only [Exit.inBlock, Exit.then])
              refine bodyPost_ret (results_none rfl _ _ _) rfl ?_
              refine ⟨rfl, Or.inl ⟨HT.out.conf hV hC (k := k) (by rw [HK.out]; exact HKM.out) HE.out, hE⟩⟩
            · have h0' : ((o : Int) == 0) = false := by simp [h0]
              have HZ : Hid (openOf k T ≠ 0) := by unfold Hid; rw [← HO.out]; exact h0
              clear h0
              cases hs : single o with
              | false =>
                rw [hs] at c2
                have HCalm : Hid (Calm k T) := ⟨HZ.out, fun h => by rw [← HO.out, hs] at h; cases h⟩
                clear hs
                go_wp2_with (first | (go_at_call 70; refine (c1 _).mono ?_; rintro e w' ⟨rfl, rfl⟩) | (go_at_call 71; refine (c2 _).mono ?_; rintro e w' ⟨rfl, rfl⟩))
                go_roundw
                case rel =>
                  refine ⟨T, b, i + 1, rfl, rfl, by go_num, by omega, HT, hIT, HG, fun hb => ⟨(HN.out hb).1, fun j hj => ?_⟩⟩
                  rcases HST.out j hj with h | h
                  · exact (HN.out hb).2 j h
                  · rw [h, ← HK.out]; exact HCalm.out
                case measure => simp [intOf]; omega
              | true =>
                rw [hs] at c2
                cases hwi : within o T with
                | true =>
                  rw [hwi] at c3
                  have HCalm : Hid (Calm k T) := ⟨HZ.out, fun _ => by rw [← HO.out]; exact hwi⟩
                  clear hs hwi
                  go_wp2_with (first | (go_at_call 70; refine (c1 _).mono ?_; rintro e w' ⟨rfl, rfl⟩) | (go_at_call 71; refine (c2 _).mono ?_; rintro e w' ⟨rfl, rfl⟩) | (go_at_call 72; refine (c3 _).mono ?_; rintro e w' ⟨rfl, rfl⟩))
                  go_roundw
                  case rel =>
                    refine ⟨T, b, i + 1, rfl, rfl, by go_num, by omega, HT, hIT, HG, fun hb => ⟨(HN.out hb).1, fun j hj => ?_⟩⟩
                    rcases HST.out j hj with h | h
                    · exact (HN.out hb).2 j h
                    · rw [h, ← HK.out]; exact HCalm.out
                  case measure => simp [intOf]; omega
                | false =>
                  rw [hwi] at c3
                  have HT2 : Hid (Come V C (fun l => l ∈ g) (T ||| o)) := by
                    have := HT.out.unit hV hC (k := k) (by rw [HK.out]; exact HKM.out) (by rw [← HO.out]; exact hs)
                    rw [← HO.out] at this
                    exact this
                  have HF : Hid (free (T ||| o) < free S) := by
                    have h1 := free_open hV H40.out.2 H40.out.1 hs hwi
                    cases b with
                    | true => exact Nat.lt_trans h1 (HG.out rfl)
                    | false => rw [(HN.out rfl).1] at h1 ⊢; exact h1
                  clear hs hwi
                  go_wp2_with (first | (go_at_call 70; refine (c1 _).mono ?_; rintro e w' ⟨rfl, rfl⟩) | (go_at_call 71; refine (c2 _).mono ?_; rintro e w' ⟨rfl, rfl⟩) | (go_at_call 72; refine (c3 _).mono ?_; rintro e w' ⟨rfl, rfl⟩) | (go_at_fn gu; refine (c5 _ hIT H40.out.1 H40.out.2).mono ?_; rintro e w' ⟨rfl, hIT2⟩))
                  go_roundw
                  case rel =>
                    exact ⟨T ||| o, true, i + 1, rfl, rfl, by go_num, by omega, HT2, hIT2, fun _ => HF.out, fun hb => by cases hb⟩
                  case measure => simp [intOf]; omega
          · obtain rfl : i = K.length := by omega
            go_wp2
            go_roundw
            case rel =>
              refine ⟨T, b, rfl, rfl, HT, hIT, ?_⟩
              cases b with
              | true => exact Or.inl rfl
              | false =>
                refine Or.inr fun k hk => ?_
                obtain ⟨j, hj, rfl⟩ := List.getElem_of_mem hk
                have := (HN.out rfl).2 j hj
                rwa [getD_lt _ _ _ hj] at this
            case measure =>
              cases b with
              | true => have := HG.out rfl; simp [intOf, bn]; omega
              | false => have := (HN.out rfl).1; subst this; simp [intOf, bn]
  · have HC0 : Hid (Conf C (fun l => l ∈ g)) := conf_of_given hV hg hcl
    have hcl' : (((clash (maskOf g) : Nat) : Int) != 0) = true := by simp [hcl]
    have hcall := clash_any (maskOf g) hm64
    have c4 := hc (maskOf g) (clash (maskOf g)) w hw
    generalize maskOf g = S0 at *
    clear hcl
    go_enter Tryd.func48, Tryd.ntmps48
    go_wp2_with (first | (go_at_call 69; refine (hcall _).mono ?_; rintro e w' ⟨rfl, hw'⟩; obtain rfl := hw'.symm) | (go_at_fn gc; refine c4.mono ?_; rintro e w' ⟨rfl, hE⟩))
    (try simp only [Exit.inBlock, Exit.then])
    refine bodyPost_ret (results_none rfl _ _ _) rfl ?_
    exact ⟨rfl, Or.inl ⟨HC0.out, hE⟩⟩
end Go.Proofs.YtlodenfdcckemaaDoor
