/-
  The walk of the law on what follows.
-/
import Derived.Test.YtlodenfdcckemaaDoorPropAll
import Derived.Test.YtlodenfdcckemaaDoorBkTake
import Derived.Test.YtlodenfdcckemaaDoorBkKept
import Derived.Test.YtlodenfdcckemaaDoorSame1
import Derived.Test.YtlodenfdcckemaaDoorFaultsLaw
namespace Go.Proofs.YtlodenfdcckemaaDoor
open Go.RowKit

/-- What stays as it is, and the literals, and the list that is handed in. -/
structure InvG (w w' : World) (N hb g : Nat) (vars : Int) (ao : Option Addr) (cap : Nat) (cs : List (List Int)) (go : Option Addr) (gg : Nat) (zs : List Int) : Prop where
  inv : Inv w w' N hb g vars ao cap cs
  ints : IntsAt w' w'.heap.size go zs
  hand : Blk w' gg 3 ((zs ++ [77, 77, 77, 77]).map (Value.int .i64))

theorem InvG.step {w w' w'' : World} {N hb g : Nat} {vars : Int} {ao : Option Addr} {cap : Nat} {cs : List (List Int)} {go : Option Addr} {gg : Nat} {zs : List Int} (h : InvG w w' N hb g vars ao cap cs go gg zs) (hb' : Below w'.heap.size w' w'') : InvG w w'' N hb g vars ao cap cs go gg zs :=
  ⟨h.inv.step hb', (h.ints.below hb' (Nat.le_refl _)).mono hb'.size, h.hand.below' hb'⟩

theorem InvG.given {w w' : World} {N hb g : Nat} {vars : Int} {ao : Option Addr} {cap : Nat} {cs : List (List Int)} {go : Option Addr} {gg : Nat} {zs : List Int} (h : InvG w w' N hb g vars ao cap cs go gg zs) : IntsAt w' w'.heap.size (some ⟨gg, 0, none⟩) zs := by
  intro _
  refine ⟨gg, 0, rfl, h.hand.lt, fun i hi => ?_⟩
  rw [Nat.zero_add, h.hand.cell (i := i) (by simp; omega) undef]
  simp [List.getElem?_append, hi]

set_option maxRecDepth 100000 in
set_option maxHeartbeats 8000000 in
theorem props_any (vars : Int) (ao go : Option Addr) (cap gcap : Nat) (cs : List (List Int)) (zs : List Int) (w : World) (hc : ListsAt w w.heap.size ao cs) (hz : IntsAt w w.heap.size go zs) (hF : Fits cs) (hzl : zs.length * 8 ≤ 140737488351232) (hnum : ∀ l ∈ zs, -9223372036854775808 ≤ l ∧ l ≤ 9223372036854775807) (hT : Tab w) (hw0 : 0 < w.heap.size) :
    Calls Tryd.prog 4 #[fm vars ao cap cs, .slice go zs.length gcap] w fun e w' => e = .returned (.bool true) ∧ Below w.heap.size w w' := by
  have hw1 : Below w.heap.size w (w.alloc (.cells #[.int .i64 vars, .slice ao cs.length cap] 31)) := (Below.refl _ _).alloc (Nat.le_refl _) _
  have hc1 : Hid (ListsAt (w.alloc (.cells #[.int .i64 vars, .slice ao cs.length cap] 31)) (w.alloc (.cells #[.int .i64 vars, .slice ao cs.length cap] 31)).heap.size ao cs) := (hc.below hw1 (Nat.le_refl _)).mono hw1.size
  unfold fm
  go_enter Tryd.func4, Tryd.ntmps4
  go_wp2_with fail
  refine (handed_any vars ao cap cs _ hc1.out hF.len hF.each).mono ?_
  rintro e w1 ⟨g, rfl, hg1, hH1, hb1⟩
  have I0 := Inv.start hc hH1 (by simpa using hb1)
  have hz0 := (hz.below I0.old (Nat.le_refl _)).mono I0.old.size
  clear hw1 hc1 hc hb1 hH1 hg1
  obtain ⟨n0, n1, m0, m1, hl⟩ := I0.cells
  go_wp2_with fail
  refine (numbers_any go gcap zs _ hz0 hzl).mono ?_
  rintro e w2 ⟨rfl, hHz, hbn⟩
  have I : InvG w w2 _ _ _ vars ao cap cs go _ zs := ⟨I0.step hbn, (hz0.below hbn (Nat.le_refl _)).mono hbn.size, hHz⟩
  clear n0 n1 m0 m1 hl I0 hz0 hHz hbn
  generalize (w1.alloc (.cells #[.int .i64 vars, .slice (some ⟨g, 0, none⟩) cs.length (cs.length + 4)] 31)).heap.size = gg at *
  obtain ⟨n0, n1, m0, m1, hl⟩ := I.inv.cells
  have hgv := I.given
  by_cases hf : (fault vars cs).1 = 0
  · obtain ⟨n, rfl, hgd⟩ := good_of hf
    have HF : Hid ((fault n cs).1 = 0) := hf
    have hfe : ((fault n cs).1 != 0) = false := by simp [hf]
    clear hf
    go_wp2_with fail
    refine (propagate_all n (some ⟨g, 0, none⟩) (some ⟨gg, 0, none⟩) (cs.length + 4) (zs.length + 4) cs zs _ hl hgv hgd HF.out (by omega) (hT.below I.inv.old hw0) (Nat.lt_of_lt_of_le hw0 I.inv.old.size)).mono ?_
    rintro e w3 ⟨vl, ys, c, x, rfl, hOl, hP, hb3⟩
    have hsz3 := hb3.size
    have I3 := I.step hb3
    clear n0 n1 m0 m1 hl hgv
    obtain ⟨n0, n1, m0, m1, hl⟩ := I3.inv.cells
    have hlf := I3.inv.lists
    go_wp2_with fail
    refine (refFault_any n ao cap cs _ hlf hF.nums).mono ?_
    rintro e w4 ⟨rfl, hb4⟩
    have b24 : Below w2.heap.size w2 w4 := hb3.trans (hb4.mono hsz3)
    have hOl4 := hOl.below' hb4
    have I4 := I.step b24
    clear n0 n1 m0 m1 hl hlf I3
    obtain ⟨n0, n1, m0, m1, hl⟩ := I4.inv.cells
    have hlf := I4.inv.lists
    have hgf := I4.ints
    go_wp2_with fail
    refine (rprop_all n ao go cap gcap cs zs _ hlf hgf hgd (by omega) hnum).mono ?_
    rintro e w5 ⟨vm, ys', c', x', rfl, hOm, hP', hb5⟩
    obtain ⟨rfl, rfl, rfl⟩ := hP.same hP'
    have hyl := hP.len hgd.vars
    have b25 : Below w2.heap.size w2 w5 := b24.trans (hb5.mono b24.size)
    have hOl5 := hOl4.below' hb5
    clear n0 n1 m0 m1 hl hlf hgf I4 hP hP' hOl hOl4
    obtain ⟨lo, lc, hvl, hil⟩ := hOl5.ints (Nat.le_refl _)
    obtain ⟨mo, mc, hvm, him⟩ := hOm.ints (Nat.le_refl _)
    subst hvl
    subst hvm
    go_wp2_with fail
    refine (same_any lo mo lc mc ys w5 hil him (by omega)).mono ?_
    rintro e w6 ⟨rfl, q6, rfl⟩
    have b26 : Below w2.heap.size w2 (w5.drewN q6) := b25.trans ((drewN_below q6).mono b25.size)
    have hOl6 : Own (w5.drewN q6) w2.heap.size 3 (.slice lo ys.length lc) (ints ys) := hOl5.chg (S := fun _ => False) ((Chg.refl _ _).drewN q6) (fun _ _ h => h)
    clear hil him hOl5 hOm b25
    generalize w5.drewN q6 = w6 at *
    go_wp2_with fail
    have BO : Blk (w6.alloc (.cells #[.slice none 0 0, .slice none 0 0, .slice none 0 0] 27)) w6.heap.size 27 [nilV, nilV, nilV] := blk_new w6 [nilV, nilV, nilV] 27
    have bO := alloc_below w6 (.cells #[.slice none 0 0, .slice none 0 0, .slice none 0 0] 27)
    have b27 : Below w2.heap.size w2 (w6.alloc (.cells #[.slice none 0 0, .slice none 0 0, .slice none 0 0] 27)) := b26.trans (bO.mono b26.size)
    have hOl7 := hOl6.below' bO
    have hdis : ∀ k, (Value.slice lo ys.length lc).ownBlock = some k → ¬ Foot w6.heap.size nilV nilV nilV [] [] k := by
      intro k e hk
      have hk' := (hOl6.lt e).2
      rcases hk with h | h | h | h | ⟨_, h, _⟩ | ⟨_, h, _⟩
      · omega
      · simp [Value.ownBlock] at h
      · simp [Value.ownBlock] at h
      · simp [Value.ownBlock] at h
      · cases h
      · cases h
    have hs26 := b26.size
    have hlw2 : ∀ k, (Value.slice lo ys.length lc).ownBlock = some k → w2.heap.size ≤ k := fun k e => (hOl6.lt e).1
    generalize w6.heap.size = O at *
    generalize w6.alloc (.cells #[.slice none 0 0, .slice none 0 0, .slice none 0 0] 27) = w7 at *
    refine (take_any O nilV nilV nilV (.slice lo ys.length lc) [] [] ys w7 (Bk.start BO) (by simp) (hOl7.base (Nat.zero_le _)) (by omega) hdis).mono ?_
    rintro e w8 ⟨rfl, vl', vm', E', hBk8, hE8, hFt8, hC8⟩
    have b28 : Below w2.heap.size w2 w8 := by
      refine b27.trans (hC8.below b27.size ?_)
      rintro k (h | h)
      · rcases h with h | h | h | h | ⟨_, h, _⟩ | ⟨_, h, _⟩
        · omega
        · simp [Value.ownBlock] at h
        · simp [Value.ownBlock] at h
        · simp [Value.ownBlock] at h
        · cases h
        · cases h
      · exact hlw2 k h
    have I8 := I.step b28
    clear hOl6 hOl7 hC8 b27 bO BO b26 hdis hFt8
    obtain ⟨n0, n1, m0, m1, hl⟩ := I8.inv.cells
    have hlf := I8.inv.lists
    go_wp2_with fail
    refine (keptLists_any g ao cap cs _ I8.inv.hand hlf hF.len hF.each).mono ?_
    rintro e w9 ⟨rfl, hb9⟩
    have I9 := I8.step hb9
    have hBk9 := hBk8.below' hb9
    clear n0 n1 m0 m1 hl hlf I8 hBk8
    have hgf := I9.ints
    go_wp2_with fail
    refine (kept_any gg go gcap zs _ I9.hand hgf hzl).mono ?_
    rintro e w10 ⟨rfl, hb10⟩
    have I10 := I9.step hb10
    have hBk10 := hBk9.below' hb10
    clear hgf I9 hBk9
    go_wp2_with fail
    refine (booksKept_any O vl' vm' nilV E' [] _ hBk10 (by rw [hE8]; simp) (by simp)).mono ?_
    rintro e w11 ⟨rfl, hb11⟩
    have I11 := I10.step hb11
    have e1 : (c == c) = true := by simp
    have e2 : (x == x) = true := by simp
    clear I10 hBk10
    go_wp2
    go_ret
    exact ⟨rfl, I11.inv.old⟩
  · have hfe : ((fault vars cs).1 != 0) = true := by simp [hf]
    have hee : ((fault vars cs).1 == (fault vars cs).1) = true := by simp
    have HF : Hid (¬ (fault vars cs).1 = 0) := hf
    clear hf
    go_wp2_with fail
    refine (propagate_bad vars (some ⟨g, 0, none⟩) (cs.length + 4) cs _ _ hl HF.out).mono ?_
    rintro e w3 ⟨rfl, hbn⟩
    replace I := I.step hbn
    clear n0 n1 m0 m1 hl hgv
    obtain ⟨n0, n1, m0, m1, hl⟩ := I.inv.cells
    have hlf := I.inv.lists
    go_wp2_with fail
    refine (refFault_any vars ao cap cs _ hlf hF.nums).mono ?_
    rintro e w4 ⟨rfl, hbn⟩
    replace I := I.step hbn
    clear n0 n1 m0 m1 hl hlf
    go_wp2
    go_ret
    exact ⟨rfl, I.inv.old⟩
end Go.Proofs.YtlodenfdcckemaaDoor
