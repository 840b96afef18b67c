/-
  Several texts, one behind the other.
-/
import Derived.Test.YtlodenfdcckemaaDoorH12
import Derived.Test.YtlodenfdcckemaaDoorH9
import Derived.Deep.RegionWith
import Derived.Deep.QuietTactic
import Derived.BigQuiet
/-
  The walks of the document's way through what follows at once.
-/

namespace Go.Proofs.YtlodenfdcckemaaDoor
open Go.RowKit

abbrev bvs (bs : List Bool) : List Value := bs.map Value.bool

theorem bvs_get {bs : List Bool} {i : Nat} (hi : i < bs.length) : (bvs bs).getD i undef = .bool (bs.getD i false) := by simp [hi]

set_option maxHeartbeats 400000 in
theorem rplace_any (l : Int) (h1 : l ≤ 20) (h2 : -20 ≤ l) (w : World) :
    Calls Tryd.prog 52 #[.int .i64 l] w fun e w' => e = .returned (.int .i64 (rp l)) ∧ w' = w := by
  by_cases h : l < 0
  · have HP : Hid ((rp l : Int) = 32 - l) := by unfold Hid rp; rw [if_pos h]; omega
    go_enter Tryd.func52, Tryd.ntmps52
    go_wp2
    go_ret
    exact ⟨by rw [HP.out]; rfl, rfl⟩
  · have HP : Hid ((rp l : Int) = l) := by unfold Hid rp; rw [if_neg h]; omega
    go_enter Tryd.func52, Tryd.ntmps52
    go_wp2
    go_ret
    exact ⟨by rw [HP.out]; rfl, rfl⟩

set_option maxHeartbeats 2000000 in
theorem radd_any (V : Nat) (hV : V ≤ 20) (Hk : Nat) (bs : List Bool) (l : Int) (w : World) (hB : Blk w Hk 83 (bvs bs)) (hbl : bs.length = 65) (hl : IsLit V l) :
    Calls Tryd.prog 77 #[.pointer (some ⟨Hk, 0, none⟩), .int .i64 l] w fun e w' => e = .returned (.tuple #[]) ∧ Blk w' Hk 83 (bvs (addL bs l)) ∧ Chg (fun k => k = Hk) w w' := by
  have hr1 := rp_lt hV hl
  have hr2 := rp_lt hV hl.neg
  obtain ⟨h0, h1, h2⟩ := hl
  have hlo : -20 ≤ l := by omega
  have hhi : l ≤ 20 := by omega
  clear h0 h1 h2
  have hc1 := hB.cell (i := rp l) (by simp; omega) undef
  have hf1 := hB.frozen (rp l)
  rw [bvs_get (by omega)] at hc1
  generalize bs.getD (rp l) false = old at hc1
  have HB : Hid (Blk w Hk 83 (bvs bs)) := hB
  have hHl := hB.lt
  clear hB
  have hcall1 := rplace_any l hhi hlo
  have hcall2 := rplace_any (-l) (by omega) (by omega)
  generalize hp1 : rp l = p1 at *
  generalize hp2 : rp (-l) = p2 at *
  have HP1 : Hid (rp l = p1) := hp1
  have HP2 : Hid (rp (-l) = p2) := hp2
  clear hp1 hp2
  go_enter Tryd.func77, Tryd.ntmps77
  go_wp2
  go_region_with (go_at_call 52; refine (hcall1 _).mono ?_; rintro e w' ⟨rfl, rfl⟩)
  all_goals
    have HB1 : Hid (Blk (w.setCell ⟨Hk, p1, none⟩ (.bool true)).drew Hk 83 (bvs (bs.set p1 true))) := by
      have := HB.out.set p1 (.bool true)
      rw [← List.map_set] at this
      exact this.drew
    have HC1 : Hid (Chg (fun k => k = Hk) w (w.setCell ⟨Hk, p1, none⟩ (.bool true)).drew) := Chg.drew (Chg.setB (S := fun k => k = Hk) (Chg.refl _ _) Hk p1 rfl _)
    generalize (w.setCell ⟨Hk, p1, none⟩ (.bool true)).drew = w1 at *
    have hc2 := HB1.out.cell (i := p2) (by simp; omega) undef
    have hc3 := HB1.out.cell (i := 64) (by simp; omega) undef
    have hf3 := HB1.out.frozen 64
    have hl1 := HB1.out.lt
    rw [bvs_get (by simp; omega)] at hc2 hc3
    generalize (bs.set p1 true).getD 64 false = old3 at hc3
    have HD : Hid (addL bs l = if (bs.set p1 true).getD p2 false then (bs.set p1 true).set 64 true else bs.set p1 true) := by
      unfold Hid addL there; rw [HP1.out, HP2.out]
    cases hb : (bs.set p1 true).getD p2 false with
    | true =>
      rw [hb] at hc2
      have hadd : addL bs l = (bs.set p1 true).set 64 true := by rw [HD.out, hb]; rfl
      have HA : Hid _ := hadd
      clear hadd hb
      go_wp2
      go_quiet ((go_at_call 52; exact Calls.quiet_of ((hcall2 _).mono fun e w' h => ⟨h.1, 0, h.2⟩)))
      go_wp2
      go_end0
      refine ⟨rfl, ?_, ?_⟩
      · rw [HA.out, bvs, List.map_set]
        exact (HB1.out.drewN _).set 64 _
      · exact Chg.setB (S := fun k => k = Hk) (HC1.out.drewN _) Hk 64 rfl _
    | false =>
      rw [hb] at hc2
      have hadd : addL bs l = bs.set p1 true := by rw [HD.out, hb]; rfl
      have HA : Hid _ := hadd
      clear hadd hb
      go_wp2
      go_quiet ((go_at_call 52; exact Calls.quiet_of ((hcall2 _).mono fun e w' h => ⟨h.1, 0, h.2⟩)))
      go_wp2
      go_end0
      refine ⟨rfl, ?_, ?_⟩
      · rw [HA.out]
        exact HB1.out.drewN _
      · exact HC1.out.drewN _

/-- While a clause is gone through. -/
def LeftMid (bs : List Bool) (c : List Int) (one n : Int) : Prop := (n = 0 ∧ ∀ m ∈ c, there bs (-m) = true) ∨ (n = 1 ∧ one ∈ c ∧ there bs (-one) = false ∧ ∀ m ∈ c, there bs (-m) = false → m = one)

theorem LeftMid.num {bs : List Bool} {c : List Int} {one n : Int} (h : LeftMid bs c one n) : 0 ≤ n ∧ n ≤ 1 := by
  rcases h with ⟨h, _⟩ | ⟨h, _⟩ <;> omega

theorem LeftMid.same {bs : List Bool} {c : List Int} {one n x : Int} (h : LeftMid bs c one n) (hx : there bs (-x) = true) : LeftMid bs (c ++ [x]) one n := by
  rcases h with ⟨h1, h2⟩ | ⟨h1, h2, h3, h4⟩
  · refine Or.inl ⟨h1, fun m hm => ?_⟩
    rcases List.mem_append.1 hm with hm | hm
    · exact h2 m hm
    · rw [List.mem_singleton] at hm; rw [hm]; exact hx
  · refine Or.inr ⟨h1, List.mem_append_left _ h2, h3, fun m hm hf => ?_⟩
    rcases List.mem_append.1 hm with hm | hm
    · exact h4 m hm hf
    · rw [List.mem_singleton] at hm; rw [hm, hx] at hf; cases hf

theorem LeftMid.first {bs : List Bool} {c : List Int} {one x : Int} (h : LeftMid bs c one 0) (hx : there bs (-x) = false) : LeftMid bs (c ++ [x]) x 1 := by
  rcases h with ⟨_, h2⟩ | ⟨h1, _⟩
  · refine Or.inr ⟨rfl, by simp, hx, fun m hm hf => ?_⟩
    rcases List.mem_append.1 hm with hm | hm
    · rw [h2 m hm] at hf; cases hf
    · rw [List.mem_singleton] at hm; exact hm
  · omega

theorem LeftMid.again {bs : List Bool} {c : List Int} {one : Int} (h : LeftMid bs c one 1) : LeftMid bs (c ++ [one]) one 1 := by
  rcases h with ⟨h1, _⟩ | ⟨h1, h2, h3, h4⟩
  · omega
  · refine Or.inr ⟨h1, by simp, h3, fun m hm hf => ?_⟩
    rcases List.mem_append.1 hm with hm | hm
    · exact h4 m hm hf
    · rw [List.mem_singleton] at hm; exact hm

theorem LeftMid.two {bs : List Bool} {c d : List Int} {one x : Int} (h : LeftMid bs d one 1) (hd : ∀ m ∈ d, m ∈ c) (hxc : x ∈ c) (hx : there bs (-x) = false) (hne : x ≠ one) : LeftSpec bs c 0 2 := by
  rcases h with ⟨h1, _⟩ | ⟨_, h2, h3, _⟩
  · omega
  · exact Or.inr (Or.inr ⟨rfl, one, hd one h2, x, hxc, fun e => hne e.symm, h3, hx⟩)

theorem LeftMid.spec {bs : List Bool} {c : List Int} {one n : Int} (h : LeftMid bs c one n) : LeftSpec bs c one n.toNat := by
  rcases h with ⟨h1, h2⟩ | ⟨h1, h2⟩
  · exact Or.inl ⟨by omega, h2⟩
  · exact Or.inr (Or.inl ⟨by omega, h2⟩)

theorem take_succ_getD (c : List Int) (k : Nat) (hk : k < c.length) : c.take (k + 1) = c.take k ++ [c.getD k 0] := by
  rw [List.take_succ_eq_append_getElem hk, getD_lt _ _ _ hk]

set_option maxHeartbeats 4000000 in
theorem rleft_any (V : Nat) (hV : V ≤ 20) (Hk : Nat) (bs : List Bool) (ao : Option Addr) (cap : Nat) (c : List Int) (w : World) (hB : Blk w Hk 83 (bvs bs)) (hbl : bs.length = 65) (hc : IntsAt w w.heap.size ao c) (hlit : ∀ l ∈ c, IsLit V l) (hlen : c.length ≤ 4611686018427387904) :
    Calls Tryd.prog 94 #[.pointer (some ⟨Hk, 0, none⟩), .slice ao c.length cap] w fun e w' => ∃ (one : Int) (n : Nat), e = .returned (.tuple #[.int .i64 one, .int .i64 n]) ∧ LeftSpec bs c one n ∧ ∃ q, w' = w.drewN q := by
  go_enter Tryd.func94, Tryd.ntmps94
  go_wp2
  go_loopw [6, 7, 8] (fun a b i wr => ∃ (one n : Int) (k q : Nat), k ≤ c.length ∧ a = .int .i64 one ∧ b = .int .i64 n ∧ i = .int .i64 k ∧ Hid (LeftMid bs (c.take k) one n) ∧ wr = w.drewN q) (fun _ _ i _ => c.length - (intOf i).toNat)
  case atStart => exact ⟨0, 0, 0, 0, Nat.zero_le _, rfl, rfl, rfl, Or.inl ⟨rfl, fun m hm => absurd hm (by simp)⟩, rfl⟩
  case round =>
    obtain ⟨one, n, k, q, hk, rfl, rfl, rfl, HM, rfl⟩ := hrel
    obtain ⟨hn0, hn1⟩ := HM.out.num
    by_cases hlt : k < c.length
    · obtain ⟨b, o, rfl, hb, hcell⟩ := hc (by intro h; rw [h] at hlt; simp at hlt)
      have hck : (w.drewN q).cell? ⟨b, o + k, none⟩ = _ := hcell k hlt
      have hx := hlit (c.getD k 0) (by rw [getD_lt _ _ _ hlt]; exact List.getElem_mem hlt)
      have HT : Hid (c.take (k + 1) = c.take k ++ [c.getD k 0]) := take_succ_getD c k hlt
      have HXM : Hid (c.getD k 0 ∈ c) := by unfold Hid; rw [getD_lt _ _ _ hlt]; exact List.getElem_mem hlt
      generalize c.getD k 0 = x at hck hx HT HXM
      have hr2 := rp_lt hV hx.neg
      obtain ⟨_, hx1, hx2⟩ := hx
      have hxl : -20 ≤ -x := by omega
      have hxh : -x ≤ 20 := by omega
      have hB2 : Blk (w.drewN q) Hk 83 (bvs bs) := hB.drewN q
      have hcT := hB2.cell (i := rp (-x)) (by simp; omega) undef
      rw [bvs_get (by omega)] at hcT
      have hcall := rplace_any (-x) hxh hxl
      have HTh : Hid (there bs (-x) = bs.getD (rp (-x)) false) := rfl
      generalize rp (-x) = p at *
      have hHl := hB2.lt
      clear hcell hB hB2 hlit
      generalize hw3 : w.drewN q = w3 at *
      have HW : Hid (w.drewN q = w3) := hw3
      clear hw3
      cases hbb : bs.getD p false with
      | true =>
        rw [hbb] at hcT
        have HX1 : Hid (there bs (-x) = true) := by unfold Hid; rw [HTh.out, hbb]
        clear hbb
        go_wp2
        go_quiet ((go_at_call 52; exact Calls.quiet_of ((hcall _).mono fun e w' h => ⟨h.1, 0, h.2⟩)))
        go_wp2
        go_roundw
        case rel => exact ⟨one, n, k + 1, q + nq, by omega, rfl, rfl, by go_num, by rw [HT.out]; exact HM.out.same HX1.out, by rw [← HW.out, World.drewN_drewN]⟩
        case measure => simp [intOf]; omega
      | false =>
        rw [hbb] at hcT
        have HX1 : Hid (there bs (-x) = false) := by unfold Hid; rw [HTh.out, hbb]
        clear hbb
        go_wp2
        go_quiet ((go_at_call 52; exact Calls.quiet_of ((hcall _).mono fun e w' h => ⟨h.1, 0, h.2⟩)))
        by_cases hn : n = 0
        · subst hn
          go_wp2
          go_roundw
          case rel => exact ⟨x, 1, k + 1, q + nq, by omega, rfl, rfl, by go_num, by rw [HT.out]; exact HM.out.first HX1.out, by rw [← HW.out, World.drewN_drewN]⟩
          case measure => simp [intOf]; omega
        · have hn' : n = 1 := by omega
          subst hn'
          by_cases hxo : x = one
          · subst hxo
            have hxx : (x != x) = false := by simp
            go_wp2
            go_roundw
            case rel => exact ⟨x, 1, k + 1, q + nq, by omega, rfl, rfl, by go_num, by rw [HT.out]; exact HM.out.again, by rw [← HW.out, World.drewN_drewN]⟩
            case measure => simp [intOf]; omega
          · have hxx : (x != one) = true := by simp [hxo]
            have HNE : Hid (x ≠ one) := hxo
            clear hxo
            go_wp2
            go_ret2
            exact ⟨0, 2, rfl, HM.out.two (fun m hm => List.mem_of_mem_take hm) HXM.out HX1.out HNE.out, q + nq, by rw [← HW.out, World.drewN_drewN]⟩
    · obtain rfl : k = c.length := by omega
      go_wp2
      go_ret2
      have h := HM.out
      rw [List.take_length] at h
      exact ⟨one, n.toNat, by rw [show ((n.toNat : Nat) : Int) = n by omega]; rfl, h.spec, q, rfl⟩
end Go.Proofs.YtlodenfdcckemaaDoor

/-
  The walks of the document's passes over clauses.
-/

namespace Go.Proofs.YtlodenfdcckemaaDoor
open Go.RowKit

theorem mem_lists' {cs : List (List Int)} {k : Nat} (hk : k < cs.length) : cs.getD k [] ∈ cs := by rw [getD_lt _ _ _ hk]; exact List.getElem_mem hk

/-- What a pass leaves: the table it found, or one with more in it. -/
structure RPassed (V : Nat) (C : List (List Int)) (G : Int → Prop) (bs bs' : List Bool) (again : Bool) (seen : List (List Int)) : Prop where
  come : RCome V C G bs'
  more : ∀ l, IsLit V l → there bs l = true → there bs' l = true
  grown : again = true → room bs' < room bs
  le : room bs' ≤ room bs
  calm : again = false → crash bs' = false → bs' = bs ∧ ∀ c ∈ seen, Dull bs c

theorem RPassed.start {V : Nat} {C : List (List Int)} {G : Int → Prop} {bs : List Bool} (h : RCome V C G bs) : RPassed V C G bs bs false [] :=
  ⟨h, fun _ _ h => h, (fun h => by cases h), Nat.le_refl _, fun _ _ => ⟨rfl, (fun c hc => by cases hc)⟩⟩

theorem RPassed.dull {V : Nat} {C : List (List Int)} {G : Int → Prop} {bs bs' : List Bool} {again : Bool} {seen : List (List Int)} (h : RPassed V C G bs bs' again seen) {c : List Int} (hd : Dull bs' c) : RPassed V C G bs bs' again (seen ++ [c]) :=
  ⟨h.come, h.more, h.grown, h.le, fun h1 h2 => ⟨(h.calm h1 h2).1, fun d hd' => by
    rcases List.mem_append.1 hd' with h3 | h3
    · exact (h.calm h1 h2).2 d h3
    · rw [List.mem_singleton] at h3
      subst h3
      have e := (h.calm h1 h2).1
      rw [e] at hd
      exact hd⟩⟩

theorem RPassed.crashed {V : Nat} (hV : V ≤ 20) {C : List (List Int)} {G : Int → Prop} {bs bs' : List Bool} {again : Bool} {seen : List (List Int)} (h : RPassed V C G bs bs' again seen) (hc : Conf C G) (c : List Int) : RPassed V C G bs (bs'.set 64 true) again (seen ++ [c]) := by
  have hl := h.come.len
  have hr := room_crash hl
  refine ⟨h.come.crashed hV hc, fun l hl' ht => by rw [there_crash hV hl']; exact h.more l hl' ht, fun ha => Nat.lt_of_le_of_lt hr (h.grown ha), Nat.le_trans hr h.le, fun _ hx => ?_⟩
  rw [crash_crash hl] at hx
  cases hx

theorem RPassed.added {V : Nat} (hV : V ≤ 20) {C : List (List Int)} {G : Int → Prop} {bs bs' : List Bool} {again : Bool} {seen : List (List Int)} (h : RPassed V C G bs bs' again seen) {l : Int} (hl : IsLit V l) (hf : Fol C G l) (ht : there bs' l = false) (c : List Int) : RPassed V C G bs (addL bs' l) true (seen ++ [c]) := by
  have hlen := h.come.len
  have hr := room_addL hV hlen hl ht
  refine ⟨h.come.add hV hl hf, fun m hm htm => by rw [addL_there hV hlen hl hm, h.more m hm htm]; rfl, fun _ => Nat.lt_of_lt_of_le hr h.le, Nat.le_trans (Nat.le_of_lt hr) h.le, fun hx => by cases hx⟩

set_option maxRecDepth 100000 in
set_option maxHeartbeats 4000000 in
theorem rpass_any (V : Nat) (hV : V ≤ 20) (C : List (List Int)) (G : Int → Prop) (Hk : Nat) (bs : List Bool) (ao : Option Addr) (cap : Nat) (cs : List (List Int)) (w : World) (hB : Blk w Hk 83 (bvs bs)) (hc : ListsAt w Hk ao cs) (hcC : ∀ c ∈ cs, c ∈ C) (hlit : ∀ c ∈ cs, ∀ l ∈ c, IsLit V l) (hlen : cs.length ≤ 4611686018427387904) (heach : ∀ c ∈ cs, c.length ≤ 20) (hR : RCome V C G bs) :
    Calls Tryd.prog 78 #[.pointer (some ⟨Hk, 0, none⟩), .slice ao cs.length cap] w fun e w' => ∃ (again : Bool) (bs' : List Bool), e = .returned (.bool again) ∧ Blk w' Hk 83 (bvs bs') ∧ RPassed V C G bs bs' again cs ∧ Chg (fun k => k = Hk) w w' := by
  go_enter Tryd.func78, Tryd.ntmps78
  go_wp2
  go_loopw [5, 6] (fun a x wr => ∃ (i : Nat) (again : Bool) (bs' : List Bool), i ≤ cs.length ∧ a = .bool again ∧ x = .int .i64 i ∧ Hid (Blk wr Hk 83 (bvs bs')) ∧ Hid (RPassed V C G bs bs' again (cs.take i)) ∧ Hid (Chg (fun k => k = Hk) w wr)) (fun _ x _ => cs.length - (intOf x).toNat)
  case atStart => exact ⟨0, false, bs, Nat.zero_le _, rfl, rfl, hB, RPassed.start hR, Chg.refl _ _⟩
  case round =>
    obtain ⟨i, again, bs', hi, rfl, rfl, HB, HP, HC⟩ := hrel
    have hbl := HP.out.come.len
    have hc64 := HB.out.cell (i := 64) (by simp; omega) undef
    have hf64 := HB.out.frozen 64
    have hHl := HB.out.lt
    rw [bvs_get (by omega)] at hc64
    by_cases hlt : i < cs.length
    · have hcr := hc.below (HC.out.below (B := Hk) (Nat.le_of_lt hB.lt) (fun k e => by omega)) (Nat.le_refl _)
      obtain ⟨b, o, rfl, hb, hcell⟩ := hcr (by intro h; rw [h] at hlt; simp at hlt)
      obtain ⟨A, Cc, hck, hin⟩ := hcell i hlt
      have hmem := mem_lists' hlt
      have hl := hlit _ hmem
      have he := heach _ hmem
      have HMC : Hid (cs.getD i [] ∈ C) := hcC _ hmem
      have HT : Hid (cs.take (i + 1) = cs.take i ++ [cs.getD i []]) := by unfold Hid; rw [List.take_succ_eq_append_getElem hlt, getD_lt _ _ _ hlt]
      generalize cs.getD i [] = c at hck hin hl he HT HMC
      clear hcell hmem hcr
      cases hx : bs'.getD 64 false with
      | true =>
        rw [hx] at hc64
        have HX : Hid (crash bs' = true) := hx
        clear hx
        have HP2 : Hid (RPassed V C G bs bs' again cs) := ⟨HP.out.come, HP.out.more, HP.out.grown, HP.out.le, fun _ hx => by rw [HX.out] at hx; cases hx⟩
        clear hc
        go_wp2
        go_ret
        exact ⟨again, bs', rfl, HB.out, HP2.out, HC.out⟩
      | false =>
        rw [hx] at hc64
        have HX : Hid (crash bs' = false) := hx
        clear hx
        have c1 := rleft_any V hV Hk bs' A Cc c wr HB.out hbl (hin.mono (Nat.le_of_lt hHl)) hl (by omega)
        have HL : Hid (∀ l ∈ c, IsLit V l) := hl
        clear hin hl
        go_wp2_with fail
        refine c1.mono ?_
        rintro e w2 ⟨one, n, rfl, hsp, q, rfl⟩
        clear c1
        obtain ⟨w2, HW⟩ : ∃ w2, Hid (w2 = wr.drewN q) := ⟨_, rfl⟩
        rw [← HW.out]
        have HB2 : Hid (Blk w2 Hk 83 (bvs bs')) := by unfold Hid; rw [HW.out]; exact HB.out.drewN q
        have HC2 : Hid (Chg (fun k => k = Hk) w w2) := by unfold Hid; rw [HW.out]; exact HC.out.drewN q
        have hc642 : w2.cell? ⟨Hk, 64, none⟩ = some (.bool false) := by rw [HW.out]; exact hc64
        have hf642 : w2.frozen? ⟨Hk, 64, none⟩ = false := HB2.out.frozen 64
        have hHl2 : Hk < w2.heap.size := HB2.out.lt
        clear hc64 hf64 hHl HB HC hck
        by_cases hn0 : n = 0
        · subst hn0
          have HP2 : Hid (RPassed V C G bs (bs'.set 64 true) again (cs.take (i + 1))) := by
            unfold Hid; rw [HT.out]
            exact HP.out.crashed hV (HP.out.come.conf0 HMC.out HL.out hsp) c
          have HB3 : Hid (Blk (w2.setCell ⟨Hk, 64, none⟩ (.bool true)) Hk 83 (bvs (bs'.set 64 true))) := by
            unfold Hid; rw [bvs, List.map_set]; exact HB2.out.set 64 _
          have HC3 : Hid (Chg (fun k => k = Hk) w (w2.setCell ⟨Hk, 64, none⟩ (.bool true))) := Chg.setB (S := fun k => k = Hk) HC2.out Hk 64 rfl _
          clear hsp
          go_wp2
          go_roundw
          case rel => exact ⟨i + 1, again, bs'.set 64 true, by omega, rfl, by go_num, HB3, HP2, HC3⟩
          case measure => simp [intOf]; omega
        · by_cases hn1 : n = 1
          · subst hn1
            obtain ⟨hol, hof⟩ := HP.out.come.fol1 HMC.out HL.out hsp
            have HOL : Hid (IsLit V one) := hol
            have hr1 := rp_lt hV hol
            obtain ⟨_, ho1, ho2⟩ := hol
            have hoh : one ≤ 20 := by omega
            have hol2 : -20 ≤ one := by omega
            have cpl := rplace_any one hoh hol2
            have cT := HB2.out.cell (i := rp one) (by simp; omega) undef
            rw [bvs_get (by omega)] at cT
            have HTh : Hid (there bs' one = bs'.getD (rp one) false) := rfl
            generalize rp one = p at *
            cases hth : bs'.getD p false with
            | true =>
              rw [hth] at cT
              have HP2 : Hid (RPassed V C G bs bs' again (cs.take (i + 1))) := by
                unfold Hid; rw [HT.out]
                exact HP.out.dull (hsp.dull1 (by rw [HTh.out]; exact hth))
              clear hsp hth
              go_wp2
              go_quiet ((go_at_call 52; exact Calls.quiet_of ((cpl _).mono fun e w' h => ⟨h.1, 0, h.2⟩)))
              go_wp2
              go_roundw
              case rel => exact ⟨i + 1, again, bs', by omega, rfl, by go_num, HB2.out.drewN _, HP2, HC2.out.drewN _⟩
              case measure => simp [intOf]; omega
            | false =>
              rw [hth] at cT
              have HP2 : Hid (RPassed V C G bs (addL bs' one) true (cs.take (i + 1))) := by
                unfold Hid; rw [HT.out]
                exact HP.out.added hV HOL.out hof (by rw [HTh.out]; exact hth) c
              clear hsp hth hof
              go_wp2
              go_quiet ((go_at_call 52; exact Calls.quiet_of ((cpl _).mono fun e w' h => ⟨h.1, 0, h.2⟩)))
              go_wp2_with (go_at_call 77; refine (radd_any V hV Hk bs' one _ (HB2.out.drewN _) hbl HOL.out).mono ?_; rintro e w4 ⟨rfl, hB4, hC4⟩)
              go_roundw
              case rel => exact ⟨i + 1, true, addL bs' one, by omega, rfl, by go_num, hB4, HP2, (HC2.out.drewN _).trans hC4⟩
              case measure => simp [intOf]; omega
          · have hn2 : n = 2 := by
              rcases hsp with ⟨h, _⟩ | ⟨h, _⟩ | ⟨h, _⟩ <;> omega
            subst hn2
            have HP2 : Hid (RPassed V C G bs bs' again (cs.take (i + 1))) := by
              unfold Hid; rw [HT.out]
              exact HP.out.dull hsp.dull2
            clear hsp hn0 hn1
            go_wp2
            go_quiet (fail)
            go_wp2
            go_roundw
            case rel => exact ⟨i + 1, again, bs', by omega, rfl, by go_num, HB2.out.drewN _, HP2, HC2.out.drewN _⟩
            case measure => simp [intOf]; omega
    · obtain rfl : i = cs.length := by omega
      go_wp2
      go_ret
      have h := HP.out
      rw [List.take_length] at h
      exact ⟨again, bs', rfl, HB.out, h, HC.out⟩
end Go.Proofs.YtlodenfdcckemaaDoor
