/-
  The walk of what follows at once, told step by step: for a search.
-/
import Derived.Test.YtomebpjjeldhdaaDoorFrom
import Derived.Test.YtomebpjjeldhdaaDoorSeaR
namespace Go.Proofs.YtomebpjjeldhdaaDoor
open Go.RowKit

/-- How it ends, in memory. -/
def FromEnd (I : List Pk → World → Prop) (E : List Pk → Nat → World → Prop) (P : List Pk) (w : World) : Option Nat → Prop
  | some k => E P k w
  | none => I P w

theorem Goes.at {K : List Nat} {i : Nat} (hi : i < K.length) : K.drop i = K.getD i 0 :: K.drop (i + 1) := by
  rw [List.drop_eq_getElem_cons hi, getD_lt _ _ _ hi]

set_option maxRecDepth 100000 in
set_option maxHeartbeats 4000000 in
theorem from_run (gu gc : Nat) (a : Value) (cc : Array Value) (eu : ∀ args w, (callFunc gu args).run Tryd.prog w = .ok (.enter gu args) w) (ec : ∀ args w, (callFunc gc args).run Tryd.prog w = .ok (.enter gc args) w)
    (H : Nat) (v : Value) (K : List Nat) (V : Nat) (hV : V ≤ 20) (hKs : ∀ k ∈ K, k < 2 ^ (2 * V)) (hlen : K.length ≤ 4611686018427387904) (P0 : List Pk) (hm : truthOf P0 < 2 ^ (2 * V)) (hcl : clash (truthOf P0) = 0)
    (I : List Pk → World → Prop) (E : List Pk → Nat → World → Prop) (hI : ∀ P w, I P w → Cls w H v K)
    (hu : ∀ P k w, I P w → k ∈ K → openOf k (truthOf P) ≠ 0 → single (openOf k (truthOf P)) = true → within (openOf k (truthOf P)) (truthOf P) = false → Calls Tryd.prog gu #[a, sv (openOf k (truthOf P)), sv k] w fun e w' => e = .returned (.tuple #[]) ∧ I (⟨openOf k (truthOf P), k, lv P⟩ :: P) w')
    (hc : ∀ P k w, I P w → k ∈ K → openOf k (truthOf P) = 0 → Calls Tryd.prog gc (#[sv k] ++ cc) w fun e w' => e = .returned (.tuple #[]) ∧ E P k w')
    (w : World) (hw : I P0 w) :
    Calls Tryd.prog 58 #[.pointer (some ⟨H, 0, none⟩), sv (truthOf P0), .func (.func gu) #[a] #[], .func (.func gc) #[] cc] w fun e w' => e = .returned (.tuple #[]) ∧ ∃ P o, Goes K [] true P0 (P, o) ∧ FromEnd I E P w' o := by
  have hm64 := lt64 hV hm
  have hcl64 := clash_lt _ hm64
  have HS0 : Hid (truthOf P0 < 2 ^ (2 * V)) := hm
  have hcl' : (((clash (truthOf P0) : Nat) : Int) != 0) = false := by simp [hcl]
  have hcall := clash_any (truthOf P0) hm64
  generalize hS0 : truthOf P0 = S0 at *
  have HS0' : Hid (truthOf P0 = S0) := hS0
  clear hcl hS0
  go_enter Tryd.func58, Tryd.ntmps58
  go_wp2_with (go_at_call 84; refine (hcall _).mono ?_; rintro e w' ⟨rfl, rfl⟩)
  go_loopw [9, 10] (fun f gr wr => ∃ (P : List Pk) (b : Bool), f = sv (truthOf P) ∧ gr = .bool b ∧ Hid (truthOf P < 2 ^ (2 * V)) ∧ I P wr ∧ Hid (∀ R, Goes K [] b P R → Goes K [] true P0 R)) (fun f gr _ => 2 * free (intOf f).toNat + bn gr)
  case atStart => exact ⟨P0, true, by rw [HS0'.out], rfl, by rw [HS0'.out]; exact HS0, hw, fun R h => h⟩
  case round =>
    obtain ⟨P, b, rfl, rfl, HS, hIw, HB⟩ := hrel
    cases b with
    | false =>
      go_wp2
      go_end0
      exact ⟨rfl, P, none, HB.out _ .done, hIw⟩
    | true =>
      have hcls := hI P wr hIw
      have hhead := hcls.head.cell (i := 0) (by simp) undef
      obtain ⟨ao, cap, hv, -⟩ := hcls.own.cellsAt
      simp only [List.getD_cons_zero] at hhead
      simp only [List.length_map] at hv
      rw [hv] at hhead
      have hHlt := hcls.head.lt
      clear hcls
      obtain ⟨S, HSe⟩ : ∃ S, Hid (S = truthOf P) := ⟨_, rfl⟩
      rw [← HSe.out]
      go_wp2
      go_loopw [9, 10, 28] (fun f gr x wq => ∃ (Q : List Pk) (b : Bool) (i : Nat), f = sv (truthOf Q) ∧ gr = .bool b ∧ x = .int .i64 i ∧ i ≤ K.length ∧ Hid (truthOf Q < 2 ^ (2 * V)) ∧ I Q wq ∧ Hid (b = true → free (truthOf Q) < free S) ∧ Hid (b = false → truthOf Q = S) ∧ Hid (∀ R, Goes K (K.drop i) b Q R → Goes K [] true P0 R)) (fun _ _ x _ => K.length - (intOf x).toNat)
      case atStart => exact ⟨P, false, 0, by rw [HSe.out], rfl, rfl, Nat.zero_le _, HS, hIw, (fun h => by cases h), (fun _ => HSe.out.symm), fun R h => HB.out R (.again h)⟩
      case round =>
        obtain ⟨Q, b, i, rfl, rfl, rfl, hi, HT, hIT, HG, HN, HR⟩ := hrel
        by_cases hlt : i < K.length
        · have hcls := hI Q _ hIT
          obtain ⟨ao', cap', hv', hat⟩ := hcls.own.cellsAt
          simp only [List.length_map] at hv' hat
          rw [hv] at hv'
          simp only [Value.slice.injEq, true_and] at hv'
          obtain ⟨rfl, rfl⟩ := hv'
          obtain ⟨gg, rfl, hgg, hcells, -⟩ := hat (by omega)
          have hck := hcells i hlt
          rw [svs_get hlt] at hck
          have hkm : K.getD i 0 ∈ K := mem_getD hlt
          have hk40 := hKs _ hkm
          have HD : Hid (K.drop i = K.getD i 0 :: K.drop (i + 1)) := Goes.at hlt
          obtain ⟨k, HK⟩ : ∃ k, Hid (k = K.getD i 0) := ⟨_, rfl⟩
          have HKM : Hid (k ∈ K) := by unfold Hid; rw [HK.out]; exact hkm
          have HD : Hid (K.drop i = k :: K.drop (i + 1)) := by unfold Hid; rw [HK.out]; exact HD.out
          rw [← HK.out] at hck hk40
          have hk64 := lt64 hV hk40
          have hT40 := HT.out
          obtain ⟨T, HTe⟩ : ∃ T, Hid (T = truthOf Q) := ⟨_, rfl⟩
          rw [← HTe.out] at hT40
          have hT64 := lt64 hV hT40
          have ho64 := opp_lt64 T
          have hdif := dif_spell k (opp T) hk64 ho64
          obtain ⟨o, HO⟩ : ∃ o, Hid (o = openOf k T) := ⟨_, rfl⟩
          have ho40 : o < 2 ^ (2 * V) := by rw [HO.out]; exact dif_lt hk40
          have hol := lt64 hV ho40
          have hdif : bits BinOp.andNot IntKind.u64 (k : Int) ((opp T : Nat) : Int) = (o : Int) := by rw [hdif, HO.out]; rfl
          have hor := or_spell T o hT64 hol
          have c1 := opposites_any T hT64
          have c2 := single_any o hol
          have c3 := within_any o T hol hT64
          have c4 := hc Q k
          have c5 := hu Q k
          rw [← HTe.out, ← HO.out] at c4 c5
          generalize opp T = oT at hdif ho64 c1
          have H40 : Hid (T < 2 ^ (2 * V) ∧ o < 2 ^ (2 * V)) := ⟨hT40, ho40⟩
          have HOQ : Hid (openOf k (truthOf Q) = o) := by unfold Hid; rw [HO.out, HTe.out]
          rw [← HTe.out]
          clear hcls hcells hkm hat hT40 ho40 hk40
          by_cases h0 : o = 0
          · have h0' : ((o : Int) == 0) = true := by simp [h0]
            have HE : Hid (o = 0) := h0
            clear h0
            go_wp2_with (first | (go_at_call 85; refine (c1 _).mono ?_; rintro e w' ⟨rfl, rfl⟩) | (go_at_fn gc; refine (c4 _ hIT HKM.out HE.out).mono ?_; rintro e w' ⟨rfl, hE⟩))
            (try simp only [Exit.inBlock, Exit.then])
            refine bodyPost_ret (results_none rfl _ _ _) rfl ?_
            refine ⟨rfl, Q, some k, HR.out _ ?_, hE⟩
            rw [HD.out]
            exact .conf (by rw [HOQ.out]; exact HE.out)
          · have h0' : ((o : Int) == 0) = false := by simp [h0]
            have HZ : Hid (openOf k (truthOf Q) ≠ 0) := by unfold Hid; rw [HOQ.out]; exact h0
            have HZ' : Hid (o ≠ 0) := h0
            clear h0
            cases hs : single o with
            | false =>
              rw [hs] at c2
              have HCalm : Hid (single (openOf k (truthOf Q)) = true → within (openOf k (truthOf Q)) (truthOf Q) = true) := fun h => by rw [HOQ.out, hs] at h; cases h
              clear hs
              go_wp2_with (first | (go_at_call 85; refine (c1 _).mono ?_; rintro e w' ⟨rfl, rfl⟩) | (go_at_call 86; refine (c2 _).mono ?_; rintro e w' ⟨rfl, rfl⟩))
              go_roundw
              case rel =>
                refine ⟨Q, b, i + 1, by rw [HTe.out], rfl, by go_num, by omega, HT, hIT, HG, HN, fun R hR => HR.out R ?_⟩
                rw [HD.out]
                exact .skip HZ.out HCalm.out hR
              case measure => simp [intOf]; omega
            | true =>
              rw [hs] at c2
              cases hwi : within o T with
              | true =>
                rw [hwi] at c3
                have HCalm : Hid (single (openOf k (truthOf Q)) = true → within (openOf k (truthOf Q)) (truthOf Q) = true) := fun _ => by rw [HOQ.out, ← HTe.out]; exact hwi
                clear hs hwi
                go_wp2_with (first | (go_at_call 85; refine (c1 _).mono ?_; rintro e w' ⟨rfl, rfl⟩) | (go_at_call 86; refine (c2 _).mono ?_; rintro e w' ⟨rfl, rfl⟩) | (go_at_call 87; refine (c3 _).mono ?_; rintro e w' ⟨rfl, rfl⟩))
                go_roundw
                case rel =>
                  refine ⟨Q, b, i + 1, by rw [HTe.out], rfl, by go_num, by omega, HT, hIT, HG, HN, fun R hR => HR.out R ?_⟩
                  rw [HD.out]
                  exact .skip HZ.out HCalm.out hR
                case measure => simp [intOf]; omega
              | false =>
                rw [hwi] at c3
                have HF : Hid (free (T ||| o) < free S) := by
                  have h1 := free_open hV H40.out.2 H40.out.1 hs hwi
                  cases b with
                  | true => exact Nat.lt_trans h1 (by rw [HTe.out]; exact HG.out rfl)
                  | false => rw [HTe.out, HN.out rfl] at h1 ⊢; exact h1
                have HSi : Hid (single o = true) := hs
                have HWi : Hid (within o T = false) := hwi
                clear hs hwi
                go_wp2_with (first | (go_at_call 85; refine (c1 _).mono ?_; rintro e w' ⟨rfl, rfl⟩) | (go_at_call 86; refine (c2 _).mono ?_; rintro e w' ⟨rfl, rfl⟩) | (go_at_call 87; refine (c3 _).mono ?_; rintro e w' ⟨rfl, rfl⟩) | (go_at_fn gu; refine (c5 _ hIT HKM.out HZ'.out HSi.out HWi.out).mono ?_; rintro e w' ⟨rfl, hIT2⟩))
                go_roundw
                case rel =>
                  have HT2 : truthOf (⟨o, k, lv Q⟩ :: Q) = T ||| o := by rw [truthOf, HTe.out]
                  refine ⟨⟨o, k, lv Q⟩ :: Q, true, i + 1, by rw [HT2], rfl, by go_num, by omega, by unfold Hid; rw [HT2]; exact Nat.or_lt_two_pow H40.out.1 H40.out.2, hIT2, (fun _ => by rw [HT2]; exact HF.out), (fun hb => by cases hb), fun R hR => HR.out R ?_⟩
                  rw [HD.out]
                  refine .unit HZ.out (by rw [HOQ.out]; exact HSi.out) (by rw [HOQ.out, ← HTe.out]; exact HWi.out) ?_
                  rw [HOQ.out]
                  exact hR
                case measure => simp [intOf]; omega
        · obtain rfl : i = K.length := by omega
          go_wp2
          go_roundw
          case rel =>
            refine ⟨Q, b, rfl, rfl, HT, hIT, ?_⟩
            have h := HR.out
            rw [List.drop_length] at h
            exact h
          case measure =>
            cases b with
            | true => have := HG.out rfl; simp [intOf, bn]; omega
            | false => have := HN.out rfl; rw [← this]; simp [intOf, bn]
end Go.Proofs.YtomebpjjeldhdaaDoor
