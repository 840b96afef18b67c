/-
  The walks of the document's passes over clauses.
-/
import Derived.Test.YtlodenfdcckemaaDoorH16
import Derived.Deep.RegionWith
namespace Go.Proofs.YtlodenfdcckemaaDoor
open Go.RowKit

theorem mem_lists' {cs : List (List Int)} {k : Nat} (hk : k < cs.length) : cs.getD k [] ∈ cs := by rw [getD_lt _ _ _ hk]; exact List.getElem_mem hk

/-- What a pass leaves: the table it found, or one with more in it. -/
structure RPassed (V : Nat) (C : List (List Int)) (G : Int → Prop) (bs bs' : List Bool) (again : Bool) (seen : List (List Int)) : Prop where
  come : RCome V C G bs'
  more : ∀ l, IsLit V l → there bs l = true → there bs' l = true
  grown : again = true → room bs' < room bs
  le : room bs' ≤ room bs
  calm : again = false → crash bs' = false → bs' = bs ∧ ∀ c ∈ seen, Dull bs c

theorem RPassed.start {V : Nat} {C : List (List Int)} {G : Int → Prop} {bs : List Bool} (h : RCome V C G bs) : RPassed V C G bs bs false [] :=
  ⟨h, fun _ _ h => h, (fun h => by cases h), Nat.le_refl _, fun _ _ => ⟨rfl, (fun c hc => by cases hc)⟩⟩

theorem RPassed.dull {V : Nat} {C : List (List Int)} {G : Int → Prop} {bs bs' : List Bool} {again : Bool} {seen : List (List Int)} (h : RPassed V C G bs bs' again seen) {c : List Int} (hd : Dull bs' c) : RPassed V C G bs bs' again (seen ++ [c]) :=
  ⟨h.come, h.more, h.grown, h.le, fun h1 h2 => ⟨(h.calm h1 h2).1, fun d hd' => by
    rcases List.mem_append.1 hd' with h3 | h3
    · exact (h.calm h1 h2).2 d h3
    · rw [List.mem_singleton] at h3
      subst h3
      have e := (h.calm h1 h2).1
      rw [e] at hd
      exact hd⟩⟩

theorem RPassed.crashed {V : Nat} (hV : V ≤ 20) {C : List (List Int)} {G : Int → Prop} {bs bs' : List Bool} {again : Bool} {seen : List (List Int)} (h : RPassed V C G bs bs' again seen) (hc : Conf C G) (c : List Int) : RPassed V C G bs (bs'.set 64 true) again (seen ++ [c]) := by
  have hl := h.come.len
  have hr := room_crash hl
  refine ⟨h.come.crashed hV hc, fun l hl' ht => by rw [there_crash hV hl']; exact h.more l hl' ht, fun ha => Nat.lt_of_le_of_lt hr (h.grown ha), Nat.le_trans hr h.le, fun _ hx => ?_⟩
  rw [crash_crash hl] at hx
  cases hx

theorem RPassed.added {V : Nat} (hV : V ≤ 20) {C : List (List Int)} {G : Int → Prop} {bs bs' : List Bool} {again : Bool} {seen : List (List Int)} (h : RPassed V C G bs bs' again seen) {l : Int} (hl : IsLit V l) (hf : Fol C G l) (ht : there bs' l = false) (c : List Int) : RPassed V C G bs (addL bs' l) true (seen ++ [c]) := by
  have hlen := h.come.len
  have hr := room_addL hV hlen hl ht
  refine ⟨h.come.add hV hl hf, fun m hm htm => by rw [addL_there hV hlen hl hm, h.more m hm htm]; rfl, fun _ => Nat.lt_of_lt_of_le hr h.le, Nat.le_trans (Nat.le_of_lt hr) h.le, fun hx => by cases hx⟩

set_option maxRecDepth 100000 in
set_option maxHeartbeats 4000000 in
theorem rpass_any (V : Nat) (hV : V ≤ 20) (C : List (List Int)) (G : Int → Prop) (Hk : Nat) (bs : List Bool) (ao : Option Addr) (cap : Nat) (cs : List (List Int)) (w : World) (hB : Blk w Hk 83 (bvs bs)) (hc : ListsAt w Hk ao cs) (hcC : ∀ c ∈ cs, c ∈ C) (hlit : ∀ c ∈ cs, ∀ l ∈ c, IsLit V l) (hlen : cs.length ≤ 4611686018427387904) (heach : ∀ c ∈ cs, c.length ≤ 20) (hR : RCome V C G bs) :
    Calls Tryd.prog 78 #[.pointer (some ⟨Hk, 0, none⟩), .slice ao cs.length cap] w fun e w' => ∃ (again : Bool) (bs' : List Bool), e = .returned (.bool again) ∧ Blk w' Hk 83 (bvs bs') ∧ RPassed V C G bs bs' again cs ∧ Chg (fun k => k = Hk) w w' := by
  go_enter Tryd.func78, Tryd.ntmps78
  go_wp2
  go_loopw [5, 6] (fun a x wr => ∃ (i : Nat) (again : Bool) (bs' : List Bool), i ≤ cs.length ∧ a = .bool again ∧ x = .int .i64 i ∧ Hid (Blk wr Hk 83 (bvs bs')) ∧ Hid (RPassed V C G bs bs' again (cs.take i)) ∧ Hid (Chg (fun k => k = Hk) w wr)) (fun _ x _ => cs.length - (intOf x).toNat)
  case atStart => exact ⟨0, false, bs, Nat.zero_le _, rfl, rfl, hB, RPassed.start hR, Chg.refl _ _⟩
  case round =>
    obtain ⟨i, again, bs', hi, rfl, rfl, HB, HP, HC⟩ := hrel
    have hbl := HP.out.come.len
    have hc64 := HB.out.cell (i := 64) (by simp; omega) undef
    have hf64 := HB.out.frozen 64
    have hHl := HB.out.lt
    rw [bvs_get (by omega)] at hc64
    by_cases hlt : i < cs.length
    · have hcr := hc.below (HC.out.below (B := Hk) (Nat.le_of_lt hB.lt) (fun k e => by omega)) (Nat.le_refl _)
      obtain ⟨b, o, rfl, hb, hcell⟩ := hcr (by intro h; rw [h] at hlt; simp at hlt)
      obtain ⟨A, Cc, hck, hin⟩ := hcell i hlt
      have hmem := mem_lists' hlt
      have hl := hlit _ hmem
      have he := heach _ hmem
      have HMC : Hid (cs.getD i [] ∈ C) := hcC _ hmem
      have HT : Hid (cs.take (i + 1) = cs.take i ++ [cs.getD i []]) := by unfold Hid; rw [List.take_succ_eq_append_getElem hlt, getD_lt _ _ _ hlt]
      generalize cs.getD i [] = c at hck hin hl he HT HMC
      clear hcell hmem hcr
      cases hx : bs'.getD 64 false with
      | true =>
        rw [hx] at hc64
        have HX : Hid (crash bs' = true) := hx
        clear hx
        have HP2 : Hid (RPassed V C G bs bs' again cs) := ⟨HP.out.come, HP.out.more, HP.out.grown, HP.out.le, fun _ hx => by rw [HX.out] at hx; cases hx⟩
        clear hc
        go_wp2
        go_ret
        exact ⟨again, bs', rfl, HB.out, HP2.out, HC.out⟩
      | false =>
        rw [hx] at hc64
        have HX : Hid (crash bs' = false) := hx
        clear hx
        have c1 := rleft_any V hV Hk bs' A Cc c wr HB.out hbl (hin.mono (Nat.le_of_lt hHl)) hl (by omega)
        have HL : Hid (∀ l ∈ c, IsLit V l) := hl
        clear hin hl
        go_wp2_with fail
        refine c1.mono ?_
        rintro e w2 ⟨one, n, rfl, hsp, q, rfl⟩
        clear c1
        obtain ⟨w2, HW⟩ : ∃ w2, Hid (w2 = wr.drewN q) := ⟨_, rfl⟩
        rw [← HW.out]
        have HB2 : Hid (Blk w2 Hk 83 (bvs bs')) := by unfold Hid; rw [HW.out]; exact HB.out.drewN q
        have HC2 : Hid (Chg (fun k => k = Hk) w w2) := by unfold Hid; rw [HW.out]; exact HC.out.drewN q
        have hc642 : w2.cell? ⟨Hk, 64, none⟩ = some (.bool false) := by rw [HW.out]; exact hc64
        have hf642 : w2.frozen? ⟨Hk, 64, none⟩ = false := HB2.out.frozen 64
        have hHl2 : Hk < w2.heap.size := HB2.out.lt
        clear hc64 hf64 hHl HB HC hck
        by_cases hn0 : n = 0
        · subst hn0
          have HP2 : Hid (RPassed V C G bs (bs'.set 64 true) again (cs.take (i + 1))) := by
            unfold Hid; rw [HT.out]
            exact HP.out.crashed hV (HP.out.come.conf0 HMC.out HL.out hsp) c
          have HB3 : Hid (Blk (w2.setCell ⟨Hk, 64, none⟩ (.bool true)) Hk 83 (bvs (bs'.set 64 true))) := by
            unfold Hid; rw [bvs, List.map_set]; exact HB2.out.set 64 _
          have HC3 : Hid (Chg (fun k => k = Hk) w (w2.setCell ⟨Hk, 64, none⟩ (.bool true))) := Chg.setB (S := fun k => k = Hk) HC2.out Hk 64 rfl _
          clear hsp
          go_wp2
          go_roundw
          case rel => exact ⟨i + 1, again, bs'.set 64 true, by omega, rfl, by go_num, HB3, HP2, HC3⟩
          case measure => simp [intOf]; omega
        · by_cases hn1 : n = 1
          · subst hn1
            obtain ⟨hol, hof⟩ := HP.out.come.fol1 HMC.out HL.out hsp
            have HOL : Hid (IsLit V one) := hol
            have hr1 := rp_lt hV hol
            obtain ⟨_, ho1, ho2⟩ := hol
            have hoh : one ≤ 20 := by omega
            have hol2 : -20 ≤ one := by omega
            have cpl := rplace_any one hoh hol2
            have cT := HB2.out.cell (i := rp one) (by simp; omega) undef
            rw [bvs_get (by omega)] at cT
            have HTh : Hid (there bs' one = bs'.getD (rp one) false) := rfl
            generalize rp one = p at *
            cases hth : bs'.getD p false with
            | true =>
              rw [hth] at cT
              have HP2 : Hid (RPassed V C G bs bs' again (cs.take (i + 1))) := by
                unfold Hid; rw [HT.out]
                exact HP.out.dull (hsp.dull1 (by rw [HTh.out]; exact hth))
              clear hsp hth
              go_wp2
              go_quiet ((go_at_call 52; exact Calls.quiet_of ((cpl _).mono fun e w' h => ⟨h.1, 0, h.2⟩)))
              go_wp2
              go_roundw
              case rel => exact ⟨i + 1, again, bs', by omega, rfl, by go_num, HB2.out.drewN _, HP2, HC2.out.drewN _⟩
              case measure => simp [intOf]; omega
            | false =>
              rw [hth] at cT
              have HP2 : Hid (RPassed V C G bs (addL bs' one) true (cs.take (i + 1))) := by
                unfold Hid; rw [HT.out]
                exact HP.out.added hV HOL.out hof (by rw [HTh.out]; exact hth) c
              clear hsp hth hof
              go_wp2
              go_quiet ((go_at_call 52; exact Calls.quiet_of ((cpl _).mono fun e w' h => ⟨h.1, 0, h.2⟩)))
              go_wp2_with (go_at_call 77; refine (radd_any V hV Hk bs' one _ (HB2.out.drewN _) hbl HOL.out).mono ?_; rintro e w4 ⟨rfl, hB4, hC4⟩)
              go_roundw
              case rel => exact ⟨i + 1, true, addL bs' one, by omega, rfl, by go_num, hB4, HP2, (HC2.out.drewN _).trans hC4⟩
              case measure => simp [intOf]; omega
          · have hn2 : n = 2 := by
              rcases hsp with ⟨h, _⟩ | ⟨h, _⟩ | ⟨h, _⟩ <;> omega
            subst hn2
            have HP2 : Hid (RPassed V C G bs bs' again (cs.take (i + 1))) := by
              unfold Hid; rw [HT.out]
              exact HP.out.dull hsp.dull2
            clear hsp hn0 hn1
            go_wp2
            go_quiet (fail)
            go_wp2
            go_roundw
            case rel => exact ⟨i + 1, again, bs', by omega, rfl, by go_num, HB2.out.drewN _, HP2, HC2.out.drewN _⟩
            case measure => simp [intOf]; omega
    · obtain rfl : i = cs.length := by omega
      go_wp2
      go_ret
      have h := HP.out
      rw [List.take_length] at h
      exact ⟨again, bs', rfl, HB.out, h, HC.out⟩
end Go.Proofs.YtlodenfdcckemaaDoor
