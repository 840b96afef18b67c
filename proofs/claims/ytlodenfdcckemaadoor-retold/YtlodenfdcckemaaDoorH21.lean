/-
  Propagate, whole.
-/
import Derived.Test.YtlodenfdcckemaaDoorH17
import Derived.Test.YtlodenfdcckemaaDoorH18
import Derived.Test.YtlodenfdcckemaaDoorH20
import Derived.Deep.RegionWith
namespace Go.Proofs.YtlodenfdcckemaaDoor
open Go.RowKit

/-- The boxes of what follows and of the conflict, and the kept clauses. -/
structure Boxes (w0 w : World) (H : Nat) (v : Value) (K : List Nat) (F R : Nat) (S : Nat) (b : Bool) : Prop where
  cls : Cls w H v K
  fol : Blk w F 71 [sv S]
  box : Blk w R 4 [.bool b]
  old : Below w0.heap.size w0 w

theorem Boxes.chg {w0 w w' : World} {H : Nat} {v : Value} {K : List Nat} {F R S : Nat} {b : Bool} {T : Nat → Prop} (h : Boxes w0 w H v K F R S b) (hc : Chg T w w') (h1 : ¬ T H) (h2 : ∀ k, v.ownBlock = some k → ¬ T k) (h3 : ∀ k, T k → w0.heap.size ≤ k) : Cls w' H v K ∧ Below w0.heap.size w0 w' :=
  ⟨h.cls.chg hc h1 h2, h.old.trans (hc.below h.old.size h3)⟩

set_option maxHeartbeats 1000000 in
theorem prop1_any (o k F S : Nat) (ho : o < 18446744073709551616) (hS : S < 18446744073709551616) (w : World) (h : Blk w F 71 [sv S]) : Calls Tryd.prog 45 #[sv o, sv k, .pointer (some ⟨F, 0, none⟩)] w fun e w' => e = .returned (.tuple #[]) ∧ w' = w.setCell ⟨F, 0, none⟩ (sv (S ||| o)) := by
  have c0 : w.cell? ⟨F, 0, none⟩ = some (sv S) := h.cell (i := 0) (by simp) undef
  have f0 := h.frozen 0
  have hor := or_spell S o hS ho
  go_enter Tryd.func45, Tryd.ntmps45
  go_wp2
  go_end0
  exact ⟨rfl, rfl⟩

theorem prop2_any (k R : Nat) (b : Bool) (w : World) (h : Blk w R 4 [.bool b]) : Calls Tryd.prog 46 #[sv k, .pointer (some ⟨R, 0, none⟩)] w fun e w' => e = .returned (.tuple #[]) ∧ w' = w.setCell ⟨R, 0, none⟩ (.bool true) := by
  have c0 : w.cell? ⟨R, 0, none⟩ = some (.bool b) := h.cell (i := 0) (by simp) undef
  have f0 := h.frozen 0
  go_enter Tryd.func46, Tryd.ntmps46
  go_wp2
  go_end0
  exact ⟨rfl, rfl⟩

theorem prop_start {w w3 w4 : World} {H : Nat} {v : Value} {K : List Nat} {F R mk : Nat} {g : List Int} (hmk : maskOf g = mk) (hCl : Cls w4 H v K) (F2 : Blk w3 F 71 [sv mk]) (R2 : Blk w3 R 4 [.bool false]) (hb : Below w.heap.size w w3) (hBe : Below w3.drew.heap.size w3.drew w4) : Boxes w w4 H v K F R (maskOf g) false := by
  have hBe' : Below w3.heap.size w3 w4 := ⟨hBe.os, hBe.tape, hBe.output, hBe.size, hBe.block⟩
  rw [hmk]
  exact ⟨hCl, F2.below' hBe', R2.below' hBe', hb.trans (hBe'.mono hb.size)⟩

theorem prop_conf {w : World} {H : Nat} {v : Value} {K : List Nat} {F R : Nat} (hwR : w.heap.size < R) (S k : Nat) (w' : World) (h : Boxes w w' H v K F R S false) :
    Calls Tryd.prog 46 (#[sv k] ++ #[.pointer (some ⟨R, 0, none⟩)]) w' fun e w'' => e = .returned (.tuple #[]) ∧ Blk w'' R 4 [.bool true] ∧ Below w.heap.size w w'' := by
  refine (prop2_any k R false w' h.box).mono ?_
  rintro e w'' ⟨rfl, rfl⟩
  have hC : Chg (fun k => k = R) w' (w'.setCell ⟨R, 0, none⟩ (.bool true)) := Chg.setB (S := fun k => k = R) (Chg.refl _ _) R 0 rfl _
  exact ⟨rfl, h.box.set 0 _, h.old.trans (hC.below h.old.size fun k e => by omega)⟩

theorem prop_unit {w w3 : World} {H : Nat} {v : Value} {K : List Nat} {F R V : Nat} (hV : V ≤ 20) (hFR : F ≠ R) (hwF : w.heap.size < F) (hHb : w3.heap.size ≤ H) (hOw : ∀ k, v.ownBlock = some k → w3.heap.size ≤ k) (hF3 : F < w3.heap.size) (S o k : Nat) (w' : World) (h : Boxes w w' H v K F R S false) (hS : S < 2 ^ (2 * V)) (ho : o < 2 ^ (2 * V)) :
    Calls Tryd.prog 45 (#[sv o, sv k] ++ #[.pointer (some ⟨F, 0, none⟩)]) w' fun e w'' => e = .returned (.tuple #[]) ∧ Boxes w w'' H v K F R (S ||| o) false := by
  refine (prop1_any o k F S (lt64 hV ho) (lt64 hV hS) w' h.fol).mono ?_
  rintro e w'' ⟨rfl, rfl⟩
  have hC : Chg (fun k => k = F) w' (w'.setCell ⟨F, 0, none⟩ (sv (S ||| o))) := Chg.setB (S := fun k => k = F) (Chg.refl _ _) F 0 rfl _
  obtain ⟨h1, h2⟩ := h.chg hC (by omega) (fun k e hk => by have := hOw k e; omega) (fun k e => by omega)
  exact ⟨rfl, h1, h.fol.set 0 _, h.box.chg hC (fun e => hFR e.symm), h2⟩

theorem prop_from {w w3 w4 : World} {H : Nat} {v : Value} {K : List Nat} {F R V mk : Nat} {cs : List (List Int)} {g : List Int} (hV : V ≤ 20) (hFR : F ≠ R) (hwF : w.heap.size < F) (hwR : w.heap.size < R) (hHb : w3.drew.heap.size ≤ H) (hOw : ∀ k, v.ownBlock = some k → w3.drew.heap.size ≤ k) (hF3 : F < w3.heap.size) (hmk : maskOf g = mk) (hCl : Cls w4 H v K) (hCo : Cover V K cs) (hlits : ∀ l ∈ g, IsLit V l) (hLe : K.length ≤ 4611686018427387904)
    (F2 : Blk w3 F 71 [sv mk]) (R2 : Blk w3 R 4 [.bool false]) (hb : Below w.heap.size w w3) (hBe : Below w3.drew.heap.size w3.drew w4) :
    Calls Tryd.prog 48 #[.pointer (some ⟨H, 0, none⟩), sv mk, .func (.func 45) #[] #[.pointer (some ⟨F, 0, none⟩)], .func (.func 46) #[] #[.pointer (some ⟨R, 0, none⟩)]] w4 fun e w' => e = .returned (.tuple #[]) ∧
      ((Conf cs (fun l => l ∈ g) ∧ Blk w' R 4 [.bool true] ∧ Below w.heap.size w w') ∨ ∃ S, Come V cs (fun l => l ∈ g) S ∧ (∀ k ∈ K, Calm k S) ∧ Boxes w w' H v K F R S false) := by
  have h0 := prop_start hmk hCl F2 R2 hb hBe
  have h := from_any 45 46 #[.pointer (some ⟨F, 0, none⟩)] #[.pointer (some ⟨R, 0, none⟩)] (enters_of Tryd.func45 (by kernel_rfl) rfl) (enters_of Tryd.func46 (by kernel_rfl) rfl) H v K V hV cs hCo g hlits hLe (fun S w' => Boxes w w' H v K F R S false) (fun w' => Blk w' R 4 [.bool true] ∧ Below w.heap.size w w') (fun _ _ h => h.cls)
    (fun S o k w' h h1 h2 => prop_unit hV hFR hwF (w3 := w3) hHb hOw hF3 S o k w' h h1 h2) (fun S k w' h => prop_conf hwR S k w' h) w4 h0
  rw [hmk] at h
  exact h

theorem Own.base {w : World} {b b' : Nat} {t : TypeId} {v : Value} {xs : List Value} (h : Own w b t v xs) (hb : b' ≤ b) : Own w b' t v xs := by
  rcases h with h | ⟨g, cap, h1, h2, h3⟩
  · exact Or.inl h
  · exact Or.inr ⟨g, cap, h1, Nat.le_trans hb h2, h3⟩

/-- What Propagate answers to literals that are ones. -/
def PropRes (V : Nat) (C : List (List Int)) (g : List Int) (w0 w' : World) (e : Ending) : Prop :=
  (Conf C (fun l => l ∈ g) ∧ e = .returned (.tuple #[.slice none 0 0, .bool true, .int .i64 0])) ∨
  ∃ S v, Come V C (fun l => l ∈ g) S ∧ Shut C (fun l => l ∈ g) (fun l => IsLit V l ∧ S.testBit (pl l) = true) ∧ e = .returned (.tuple #[v, .bool false, .int .i64 0]) ∧ Own w' w0.heap.size 3 v (ints (litsOf 64 S))

theorem lits_all {V : Nat} {g : List Int} (h : litsFault V g = 0) : ∀ l ∈ g, IsLit V l := by
  unfold litsFault at h
  split at h
  · rename_i h2
    intro l hl
    have := List.all_eq_true.1 h2 l hl
    unfold lit at this
    simp only [Bool.and_eq_true, Bool.not_eq_true', beq_eq_false_iff_ne, decide_eq_true_eq] at this
    exact ⟨this.1.1, this.1.2, this.2⟩
  · cases h

set_option maxRecDepth 100000 in
set_option maxHeartbeats 4000000 in
theorem propagate_good (n : Nat) (ao go : Option Addr) (cap gcap : Nat) (cs : List (List Int)) (g : List Int) (w : World) (hc : ListsAt w w.heap.size ao cs) (hgi : IntsAt w w.heap.size go g) (hg : Good n cs) (hf : (fault n cs).1 = 0) (hgl : litsFault n g = 0) (hlen : g.length ≤ 4611686018427387904) (hT : Tab w) (hw0 : 0 < w.heap.size) :
    Calls Tryd.prog 13 #[.agg #[.int .i64 n, .slice ao cs.length cap], .slice go g.length gcap] w fun e w' => PropRes n cs g w w' e ∧ Below w.heap.size w w' := by
  have hne : ((fault n cs).1 != 0) = false := by simp [hf]
  have hl0 : (litsFault n g != 0) = false := by simp [hgl]
  have hlits := lits_all hgl
  have hV := hg.vars
  have hmany : cs.length ≤ 4611686018427387904 := by have := hg.many; omega
  have hw1 : Below w.heap.size w (w.alloc (.cells #[.int .i64 n, .slice ao cs.length cap] 31)) := (Below.refl _ _).alloc (Nat.le_refl _) _
  have B0 : Blk (w.alloc (.cells #[.int .i64 n, .slice ao cs.length cap] 31)) w.heap.size 31 [.int .i64 n, .slice ao cs.length cap] := blk_new w [.int .i64 n, .slice ao cs.length cap] 31
  go_enter Tryd.func13, Tryd.ntmps13
  go_wp2_with fail
  generalize w.alloc (.cells #[.int .i64 n, .slice ao cs.length cap] 31) = W at *
  refine (of_any n ao cap cs W ((hc.below hw1 (Nat.le_refl _)).mono hw1.size)).mono ?_
  rintro e w1 ⟨rfl, hb1⟩
  have hb : Below w.heap.size w w1 := hw1.trans (hb1.mono hw1.size)
  have B1 := B0.below' hb1
  have n0 : w1.cell? ⟨w.heap.size, 0, none⟩ = some (.int .i64 n) := B1.cell (i := 0) (by simp) undef
  have n1 : w1.cell? ⟨w.heap.size, 1, none⟩ = some (.slice ao cs.length cap) := B1.cell (i := 1) (by simp) undef
  have hg1 := (hgi.below hb (Nat.le_refl _)).mono hb.size
  have c1 := faultLits_any n go gcap g w1 _ hg1 (by omega) (by omega) hlen
  have c2 := litsOf_any n hV go gcap g w1 _ hg1 hlits hlen
  have hBl := B1.lt
  have HBw : Hid (Below w.heap.size w w1) := hb
  clear hf hgl hw1 B0 hb1 hb
  go_wp2_with (first | (go_at_call 43; refine c1.mono ?_; rintro e w' ⟨rfl, hw'⟩; obtain rfl := hw'.symm) | (go_at_call 44; refine c2.mono ?_; rintro e w' ⟨rfl, hw'⟩; obtain rfl := hw'.symm))
  have hm40 := maskOf_lt hlits
  have hm64 := lt64 hV hm40
  have A1 := alloc_below w1 (.cells #[sv (maskOf g)] 71)
  have S1 := alloc_size w1 (.cells #[sv (maskOf g)] 71)
  have F1 : Blk (w1.alloc (.cells #[sv (maskOf g)] 71)) w1.heap.size 71 [sv (maskOf g)] := blk_new w1 [sv (maskOf g)] 71
  have B2 := B1.below' A1
  generalize w1.alloc (.cells #[sv (maskOf g)] 71) = w2 at *
  have A2 := alloc_below w2 (.cells #[.bool false] 4)
  have S2 := alloc_size w2 (.cells #[.bool false] 4)
  have R2 : Blk (w2.alloc (.cells #[.bool false] 4)) w2.heap.size 4 [.bool false] := blk_new w2 [.bool false] 4
  have F2 := F1.below' A2
  have B3 := B2.below' A2
  generalize w2.alloc (.cells #[.bool false] 4) = w3 at *
  have hb3 : Below w.heap.size w w3 := HBw.out.trans ((A1.mono HBw.out.size).trans (A2.mono (by have := HBw.out.size; omega)))
  have hsz0 := HBw.out.size
  have HS1 : Hid (w2.heap.size = w1.heap.size + 1) := S1
  have HS2 : Hid (w3.heap.size = w2.heap.size + 1) := S2
  rw [HS1.out] at R2
  obtain ⟨F, HF⟩ : ∃ F, Hid (F = w1.heap.size) := ⟨_, rfl⟩
  obtain ⟨R, HR⟩ : ∃ R, Hid (R = w1.heap.size + 1) := ⟨_, rfl⟩
  rw [← HR.out, ← HF.out]
  rw [← HF.out] at F2
  rw [← HR.out] at R2
  have hFR : F ≠ R := by have h1 := HF.out; have h2 := HR.out; omega
  have hwF : w.heap.size < F := by have h1 := HF.out; have h2 := hBl; omega
  have hwR : w.heap.size < R := by have h1 := HR.out; have h2 := hBl; omega
  have c3 := folOf_any n hV ao cap cs w3.drew (((hc.below hb3 (Nat.le_refl _)).mono hb3.size : ListsAt w3 w3.heap.size ao cs) : ListsAt w3.drew w3.drew.heap.size ao cs) (fun c hc l hl => hg.lits c hc l hl) hg.many hg.long
  have m0 : w3.cell? ⟨w.heap.size, 0, none⟩ = some (.int .i64 n) := B3.cell (i := 0) (by simp) undef
  have m1 : w3.cell? ⟨w.heap.size, 1, none⟩ = some (.slice ao cs.length cap) := B3.cell (i := 1) (by simp) undef
  have mF : w3.cell? ⟨F, 0, none⟩ = some (sv (maskOf g)) := F2.cell (i := 0) (by simp) undef
  have hB3l := B3.lt
  have hF3l := F2.lt
  have hR3l := R2.lt
  have HB3 : Hid (Below w.heap.size w w3) := hb3
  have hRw3 : R + 1 = w3.heap.size := by have h1 := HR.out; have h2 := HS1.out; have h3 := HS2.out; omega
  have HRW : Hid (R + 1 = w3.heap.size) := hRw3
  have HW0 : Hid (0 < w.heap.size) := hw0
  have HTb : Hid (Tab w) := hT
  clear hRw3 n0 n1 c1 c2 hg1 B1 B2 A1 A2 S1 S2 F1 hb3 hT
  generalize hmk : maskOf g = mk at *
  have HMK : Hid (maskOf g = mk) := hmk
  clear hmk
  go_region_with (first
    | (go_at_call 47; refine c3.mono ?_; rintro e w4 ⟨H, v, K, rfl, hCl, hCo, hLe, hHb, hOw, hBe⟩; have mF4 : w4.cell? ⟨F, 0, none⟩ = some (sv mk) := (hBe.cell (p := ⟨F, 0, none⟩) hF3l).trans mF)
    | (go_at_call 48; refine (prop_from hV hFR hwF hwR hHb hOw hF3l HMK.out hCl hCo hlits (Nat.le_trans hLe hmany) F2 R2 HB3.out hBe).mono ?_; rintro e w5 ⟨rfl, hres⟩))
  all_goals
    rcases hres with ⟨hconf, hbx, hb5⟩ | ⟨S, hS, hcalm, hbx⟩
    · have HCf : Hid (Conf cs (fun l => l ∈ g)) := hconf
      have cR : w5.cell? ⟨R, 0, none⟩ = some (.bool true) := hbx.cell (i := 0) (by simp) undef
      have HB5 : Hid (Below w.heap.size w w5) := hb5
      have hRl := hbx.lt
      clear hconf hbx hb5 c3
      go_wp2
      go_ret3
      exact ⟨Or.inl ⟨HCf.out, rfl⟩, HB5.out⟩
    · have HS : Hid (Come n cs (fun l => l ∈ g) S) := hS
      have HSh : Hid (Shut cs (fun l => l ∈ g) (fun l => IsLit n l ∧ S.testBit (pl l) = true)) := hS.shut hV hCo hlits (fun k hk => hcalm k hk)
      have hS64 := lt64 hV hS.small
      have cR : w5.cell? ⟨R, 0, none⟩ = some (.bool false) := hbx.box.cell (i := 0) (by simp) undef
      have cF : w5.cell? ⟨F, 0, none⟩ = some (sv S) := hbx.fol.cell (i := 0) (by simp) undef
      have hRl := hbx.box.lt
      have hFl := hbx.fol.lt
      have HB5 : Hid (Below w.heap.size w w5) := hbx.old
      have c9 := list_any S hS64 w5 (HTb.out.below HB5.out HW0.out) (by have := HB5.out.size; have := HW0.out; omega)
      clear hS hcalm hbx c3
      go_wp2_with (go_at_call 49; refine c9.mono ?_; rintro e w6 ⟨vl, rfl, hOl, hb6⟩)
      go_ret3
      refine ⟨Or.inr ⟨S, vl, HS.out, HSh.out, rfl, ?_⟩, HB5.out.trans (hb6.mono HB5.out.size)⟩
      exact hOl.base HB5.out.size
end Go.Proofs.YtlodenfdcckemaaDoor
