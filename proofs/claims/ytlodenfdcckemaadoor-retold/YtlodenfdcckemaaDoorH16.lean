/-
  The walks of the document's way through what follows at once.
-/
import Derived.Test.YtlodenfdcckemaaDoorH15
import Derived.Test.YtlodenfdcckemaaDoorH10
import Derived.Deep.RegionWith
import Derived.Deep.QuietTactic
import Derived.BigQuiet
namespace Go.Proofs.YtlodenfdcckemaaDoor
open Go.RowKit

abbrev bvs (bs : List Bool) : List Value := bs.map Value.bool

theorem bvs_get {bs : List Bool} {i : Nat} (hi : i < bs.length) : (bvs bs).getD i undef = .bool (bs.getD i false) := by simp [hi]

set_option maxHeartbeats 400000 in
theorem rplace_any (l : Int) (h1 : l ≤ 20) (h2 : -20 ≤ l) (w : World) :
    Calls Tryd.prog 52 #[.int .i64 l] w fun e w' => e = .returned (.int .i64 (rp l)) ∧ w' = w := by
  by_cases h : l < 0
  · have HP : Hid ((rp l : Int) = 32 - l) := by unfold Hid rp; rw [if_pos h]; omega
    go_enter Tryd.func52, Tryd.ntmps52
    go_wp2
    go_ret
    exact ⟨by rw [HP.out]; rfl, rfl⟩
  · have HP : Hid ((rp l : Int) = l) := by unfold Hid rp; rw [if_neg h]; omega
    go_enter Tryd.func52, Tryd.ntmps52
    go_wp2
    go_ret
    exact ⟨by rw [HP.out]; rfl, rfl⟩

set_option maxHeartbeats 2000000 in
theorem radd_any (V : Nat) (hV : V ≤ 20) (Hk : Nat) (bs : List Bool) (l : Int) (w : World) (hB : Blk w Hk 83 (bvs bs)) (hbl : bs.length = 65) (hl : IsLit V l) :
    Calls Tryd.prog 77 #[.pointer (some ⟨Hk, 0, none⟩), .int .i64 l] w fun e w' => e = .returned (.tuple #[]) ∧ Blk w' Hk 83 (bvs (addL bs l)) ∧ Chg (fun k => k = Hk) w w' := by
  have hr1 := rp_lt hV hl
  have hr2 := rp_lt hV hl.neg
  obtain ⟨h0, h1, h2⟩ := hl
  have hlo : -20 ≤ l := by omega
  have hhi : l ≤ 20 := by omega
  clear h0 h1 h2
  have hc1 := hB.cell (i := rp l) (by simp; omega) undef
  have hf1 := hB.frozen (rp l)
  rw [bvs_get (by omega)] at hc1
  generalize bs.getD (rp l) false = old at hc1
  have HB : Hid (Blk w Hk 83 (bvs bs)) := hB
  have hHl := hB.lt
  clear hB
  have hcall1 := rplace_any l hhi hlo
  have hcall2 := rplace_any (-l) (by omega) (by omega)
  generalize hp1 : rp l = p1 at *
  generalize hp2 : rp (-l) = p2 at *
  have HP1 : Hid (rp l = p1) := hp1
  have HP2 : Hid (rp (-l) = p2) := hp2
  clear hp1 hp2
  go_enter Tryd.func77, Tryd.ntmps77
  go_wp2
  go_region_with (go_at_call 52; refine (hcall1 _).mono ?_; rintro e w' ⟨rfl, rfl⟩)
  all_goals
    have HB1 : Hid (Blk (w.setCell ⟨Hk, p1, none⟩ (.bool true)).drew Hk 83 (bvs (bs.set p1 true))) := by
      have := HB.out.set p1 (.bool true)
      rw [← List.map_set] at this
      exact this.drew
    have HC1 : Hid (Chg (fun k => k = Hk) w (w.setCell ⟨Hk, p1, none⟩ (.bool true)).drew) := Chg.drew (Chg.setB (S := fun k => k = Hk) (Chg.refl _ _) Hk p1 rfl _)
    generalize (w.setCell ⟨Hk, p1, none⟩ (.bool true)).drew = w1 at *
    have hc2 := HB1.out.cell (i := p2) (by simp; omega) undef
    have hc3 := HB1.out.cell (i := 64) (by simp; omega) undef
    have hf3 := HB1.out.frozen 64
    have hl1 := HB1.out.lt
    rw [bvs_get (by simp; omega)] at hc2 hc3
    generalize (bs.set p1 true).getD 64 false = old3 at hc3
    have HD : Hid (addL bs l = if (bs.set p1 true).getD p2 false then (bs.set p1 true).set 64 true else bs.set p1 true) := by
      unfold Hid addL there; rw [HP1.out, HP2.out]
    cases hb : (bs.set p1 true).getD p2 false with
    | true =>
      rw [hb] at hc2
      have hadd : addL bs l = (bs.set p1 true).set 64 true := by rw [HD.out, hb]; rfl
      have HA : Hid _ := hadd
      clear hadd hb
      go_wp2
      go_quiet ((go_at_call 52; exact Calls.quiet_of ((hcall2 _).mono fun e w' h => ⟨h.1, 0, h.2⟩)))
      go_wp2
      go_end0
      refine ⟨rfl, ?_, ?_⟩
      · rw [HA.out, bvs, List.map_set]
        exact (HB1.out.drewN _).set 64 _
      · exact Chg.setB (S := fun k => k = Hk) (HC1.out.drewN _) Hk 64 rfl _
    | false =>
      rw [hb] at hc2
      have hadd : addL bs l = bs.set p1 true := by rw [HD.out, hb]; rfl
      have HA : Hid _ := hadd
      clear hadd hb
      go_wp2
      go_quiet ((go_at_call 52; exact Calls.quiet_of ((hcall2 _).mono fun e w' h => ⟨h.1, 0, h.2⟩)))
      go_wp2
      go_end0
      refine ⟨rfl, ?_, ?_⟩
      · rw [HA.out]
        exact HB1.out.drewN _
      · exact HC1.out.drewN _

/-- While a clause is gone through. -/
def LeftMid (bs : List Bool) (c : List Int) (one n : Int) : Prop := (n = 0 ∧ ∀ m ∈ c, there bs (-m) = true) ∨ (n = 1 ∧ one ∈ c ∧ there bs (-one) = false ∧ ∀ m ∈ c, there bs (-m) = false → m = one)

theorem LeftMid.num {bs : List Bool} {c : List Int} {one n : Int} (h : LeftMid bs c one n) : 0 ≤ n ∧ n ≤ 1 := by
  rcases h with ⟨h, _⟩ | ⟨h, _⟩ <;> omega

theorem LeftMid.same {bs : List Bool} {c : List Int} {one n x : Int} (h : LeftMid bs c one n) (hx : there bs (-x) = true) : LeftMid bs (c ++ [x]) one n := by
  rcases h with ⟨h1, h2⟩ | ⟨h1, h2, h3, h4⟩
  · refine Or.inl ⟨h1, fun m hm => ?_⟩
    rcases List.mem_append.1 hm with hm | hm
    · exact h2 m hm
    · rw [List.mem_singleton] at hm; rw [hm]; exact hx
  · refine Or.inr ⟨h1, List.mem_append_left _ h2, h3, fun m hm hf => ?_⟩
    rcases List.mem_append.1 hm with hm | hm
    · exact h4 m hm hf
    · rw [List.mem_singleton] at hm; rw [hm, hx] at hf; cases hf

theorem LeftMid.first {bs : List Bool} {c : List Int} {one x : Int} (h : LeftMid bs c one 0) (hx : there bs (-x) = false) : LeftMid bs (c ++ [x]) x 1 := by
  rcases h with ⟨_, h2⟩ | ⟨h1, _⟩
  · refine Or.inr ⟨rfl, by simp, hx, fun m hm hf => ?_⟩
    rcases List.mem_append.1 hm with hm | hm
    · rw [h2 m hm] at hf; cases hf
    · rw [List.mem_singleton] at hm; exact hm
  · omega

theorem LeftMid.again {bs : List Bool} {c : List Int} {one : Int} (h : LeftMid bs c one 1) : LeftMid bs (c ++ [one]) one 1 := by
  rcases h with ⟨h1, _⟩ | ⟨h1, h2, h3, h4⟩
  · omega
  · refine Or.inr ⟨h1, by simp, h3, fun m hm hf => ?_⟩
    rcases List.mem_append.1 hm with hm | hm
    · exact h4 m hm hf
    · rw [List.mem_singleton] at hm; exact hm

theorem LeftMid.two {bs : List Bool} {c d : List Int} {one x : Int} (h : LeftMid bs d one 1) (hd : ∀ m ∈ d, m ∈ c) (hxc : x ∈ c) (hx : there bs (-x) = false) (hne : x ≠ one) : LeftSpec bs c 0 2 := by
  rcases h with ⟨h1, _⟩ | ⟨_, h2, h3, _⟩
  · omega
  · exact Or.inr (Or.inr ⟨rfl, one, hd one h2, x, hxc, fun e => hne e.symm, h3, hx⟩)

theorem LeftMid.spec {bs : List Bool} {c : List Int} {one n : Int} (h : LeftMid bs c one n) : LeftSpec bs c one n.toNat := by
  rcases h with ⟨h1, h2⟩ | ⟨h1, h2⟩
  · exact Or.inl ⟨by omega, h2⟩
  · exact Or.inr (Or.inl ⟨by omega, h2⟩)

theorem take_succ_getD (c : List Int) (k : Nat) (hk : k < c.length) : c.take (k + 1) = c.take k ++ [c.getD k 0] := by
  rw [List.take_succ_eq_append_getElem hk, getD_lt _ _ _ hk]

set_option maxHeartbeats 4000000 in
theorem rleft_any (V : Nat) (hV : V ≤ 20) (Hk : Nat) (bs : List Bool) (ao : Option Addr) (cap : Nat) (c : List Int) (w : World) (hB : Blk w Hk 83 (bvs bs)) (hbl : bs.length = 65) (hc : IntsAt w w.heap.size ao c) (hlit : ∀ l ∈ c, IsLit V l) (hlen : c.length ≤ 4611686018427387904) :
    Calls Tryd.prog 94 #[.pointer (some ⟨Hk, 0, none⟩), .slice ao c.length cap] w fun e w' => ∃ (one : Int) (n : Nat), e = .returned (.tuple #[.int .i64 one, .int .i64 n]) ∧ LeftSpec bs c one n ∧ ∃ q, w' = w.drewN q := by
  go_enter Tryd.func94, Tryd.ntmps94
  go_wp2
  go_loopw [6, 7, 8] (fun a b i wr => ∃ (one n : Int) (k q : Nat), k ≤ c.length ∧ a = .int .i64 one ∧ b = .int .i64 n ∧ i = .int .i64 k ∧ Hid (LeftMid bs (c.take k) one n) ∧ wr = w.drewN q) (fun _ _ i _ => c.length - (intOf i).toNat)
  case atStart => exact ⟨0, 0, 0, 0, Nat.zero_le _, rfl, rfl, rfl, Or.inl ⟨rfl, fun m hm => absurd hm (by simp)⟩, rfl⟩
  case round =>
    obtain ⟨one, n, k, q, hk, rfl, rfl, rfl, HM, rfl⟩ := hrel
    obtain ⟨hn0, hn1⟩ := HM.out.num
    by_cases hlt : k < c.length
    · obtain ⟨b, o, rfl, hb, hcell⟩ := hc (by intro h; rw [h] at hlt; simp at hlt)
      have hck : (w.drewN q).cell? ⟨b, o + k, none⟩ = _ := hcell k hlt
      have hx := hlit (c.getD k 0) (by rw [getD_lt _ _ _ hlt]; exact List.getElem_mem hlt)
      have HT : Hid (c.take (k + 1) = c.take k ++ [c.getD k 0]) := take_succ_getD c k hlt
      have HXM : Hid (c.getD k 0 ∈ c) := by unfold Hid; rw [getD_lt _ _ _ hlt]; exact List.getElem_mem hlt
      generalize c.getD k 0 = x at hck hx HT HXM
      have hr2 := rp_lt hV hx.neg
      obtain ⟨_, hx1, hx2⟩ := hx
      have hxl : -20 ≤ -x := by omega
      have hxh : -x ≤ 20 := by omega
      have hB2 : Blk (w.drewN q) Hk 83 (bvs bs) := hB.drewN q
      have hcT := hB2.cell (i := rp (-x)) (by simp; omega) undef
      rw [bvs_get (by omega)] at hcT
      have hcall := rplace_any (-x) hxh hxl
      have HTh : Hid (there bs (-x) = bs.getD (rp (-x)) false) := rfl
      generalize rp (-x) = p at *
      have hHl := hB2.lt
      clear hcell hB hB2 hlit
      generalize hw3 : w.drewN q = w3 at *
      have HW : Hid (w.drewN q = w3) := hw3
      clear hw3
      cases hbb : bs.getD p false with
      | true =>
        rw [hbb] at hcT
        have HX1 : Hid (there bs (-x) = true) := by unfold Hid; rw [HTh.out, hbb]
        clear hbb
        go_wp2
        go_quiet ((go_at_call 52; exact Calls.quiet_of ((hcall _).mono fun e w' h => ⟨h.1, 0, h.2⟩)))
        go_wp2
        go_roundw
        case rel => exact ⟨one, n, k + 1, q + nq, by omega, rfl, rfl, by go_num, by rw [HT.out]; exact HM.out.same HX1.out, by rw [← HW.out, World.drewN_drewN]⟩
        case measure => simp [intOf]; omega
      | false =>
        rw [hbb] at hcT
        have HX1 : Hid (there bs (-x) = false) := by unfold Hid; rw [HTh.out, hbb]
        clear hbb
        go_wp2
        go_quiet ((go_at_call 52; exact Calls.quiet_of ((hcall _).mono fun e w' h => ⟨h.1, 0, h.2⟩)))
        by_cases hn : n = 0
        · subst hn
          go_wp2
          go_roundw
          case rel => exact ⟨x, 1, k + 1, q + nq, by omega, rfl, rfl, by go_num, by rw [HT.out]; exact HM.out.first HX1.out, by rw [← HW.out, World.drewN_drewN]⟩
          case measure => simp [intOf]; omega
        · have hn' : n = 1 := by omega
          subst hn'
          by_cases hxo : x = one
          · subst hxo
            have hxx : (x != x) = false := by simp
            go_wp2
            go_roundw
            case rel => exact ⟨x, 1, k + 1, q + nq, by omega, rfl, rfl, by go_num, by rw [HT.out]; exact HM.out.again, by rw [← HW.out, World.drewN_drewN]⟩
            case measure => simp [intOf]; omega
          · have hxx : (x != one) = true := by simp [hxo]
            have HNE : Hid (x ≠ one) := hxo
            clear hxo
            go_wp2
            go_ret2
            exact ⟨0, 2, rfl, HM.out.two (fun m hm => List.mem_of_mem_take hm) HXM.out HX1.out HNE.out, q + nq, by rw [← HW.out, World.drewN_drewN]⟩
    · obtain rfl : k = c.length := by omega
      go_wp2
      go_ret2
      have h := HM.out
      rw [List.take_length] at h
      exact ⟨one, n.toNat, by rw [show ((n.toNat : Nat) : Int) = n by omega]; rfl, h.spec, q, rfl⟩
end Go.Proofs.YtlodenfdcckemaaDoor
