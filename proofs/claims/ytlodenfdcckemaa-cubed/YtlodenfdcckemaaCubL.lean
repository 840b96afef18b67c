/-
  The walk of the law on parts.
-/
import Derived.Test.YtlodenfdcckemaaRefCub
import Derived.Test.YtlodenfdcckemaaEntryC
import Derived.Test.YtlodenfdcckemaaSls
import Derived.Test.YtlodenfdcckemaaBkLists
import Derived.Test.YtlodenfdcckemaaBkKept
import Derived.Test.YtlodenfdcckemaaFaultsLaw
namespace Go.Proofs.Ytlodenfdcckemaa
open Go.RowKit

/-- What the call and the document answer, of a formula without a fault. -/
def partsL (n : Nat) (cs : List (List Int)) (k : Int) : List (List Int) := if partFault n cs k = 0 then cubesOf n cs k.toNat else []

theorem partsL_few {n : Nat} {cs : List (List Int)} {k : Int} : (partsL n cs k).length ≤ 32 ∧ ∀ c ∈ partsL n cs k, c.length ≤ 5 := by
  unfold partsL
  split
  · rename_i h
    obtain ⟨j, rfl, h1, h2⟩ := partFault_good h
    rw [Int.toNat_natCast]
    refine ⟨by rw [cubesOf_len]; exact (cub_shl h1).2, fun c hc => ?_⟩
    unfold cubesOf at hc
    obtain ⟨m, -, rfl⟩ := List.mem_map.1 hc
    rw [signedL_len, heavy_len cs h2]
    exact h1
  · exact ⟨by simp, fun c hc => by cases hc⟩

theorem cubes_law (n : Nat) (ao : Option Addr) (cap : Nat) (cs : List (List Int)) (k : Int) (w : World) (hc : ListsAt w w.heap.size ao cs) (hg : Good n cs) :
    Calls Try.prog 21 #[fm n ao cap cs, .int .i64 k] w fun e w' => ∃ v vs, e = .returned (.tuple #[v, .int .i64 (partFault n cs k)]) ∧ MadeS w' w.heap.size v vs (partsL n cs k) ∧ Below w.heap.size w w' := by
  by_cases hf : partFault n cs k = 0
  · obtain ⟨j, rfl, h1, h2⟩ := partFault_good hf
    refine (cubes_good n ao cap cs j w hc hg hf h1 h2).mono ?_
    rintro e w' ⟨v, vs, rfl, hM, hb⟩
    exact ⟨v, vs, by rw [hf], by unfold partsL; rw [if_pos hf]; exact hM, hb⟩
  · refine (cubes_bad n ao cap cs k w hc hf).mono ?_
    rintro e w' ⟨rfl, hb⟩
    exact ⟨_, [], rfl, by unfold partsL; rw [if_neg hf]; exact MadeS.start _ _, hb⟩

theorem rcubes_law (n : Nat) (ao : Option Addr) (cap : Nat) (cs : List (List Int)) (k : Int) (w : World) (hc : ListsAt w w.heap.size ao cs) (hg : Good n cs) (h0 : (fault n cs).1 = 0) :
    Calls Try.prog 22 #[fm n ao cap cs, .int .i64 k] w fun e w' => ∃ v vs, e = .returned (.tuple #[v, .int .i64 (partFault n cs k)]) ∧ MadeS w' w.heap.size v vs (partsL n cs k) ∧ Below w.heap.size w w' := by
  by_cases hf : partFault n cs k = 0
  · obtain ⟨j, rfl, h1, h2⟩ := partFault_good hf
    refine (rcubes_good n ao cap cs j w hc hg h1 h2).mono ?_
    rintro e w' ⟨v, vs, rfl, hM, hb⟩
    exact ⟨v, vs, by rw [hf], by unfold partsL; rw [if_pos hf]; exact hM, hb⟩
  · have hx : k < 0 ∨ 5 < k ∨ (n : Int) < k := by
      apply Classical.byContradiction
      intro hno
      exact hf (by unfold partFault; rw [if_neg (by simp [h0]), if_neg hno])
    have h9 : partFault n cs k = 9 := by unfold partFault; rw [if_neg (by simp [h0]), if_pos hx]
    refine (rcubes_bad n ao cap cs k w hx).mono ?_
    rintro e w' ⟨rfl, hb⟩
    exact ⟨_, [], by rw [h9], by unfold partsL; rw [if_neg hf]; exact MadeS.start _ _, hb⟩

theorem foot_nil' {O k : Nat} (h : Foot O nilV nilV nilV [] [] k) : k = O := by
  rcases h with h | h | h | h | ⟨e, he, _⟩ | ⟨d, hd, _⟩
  · exact h
  · simp [Value.ownBlock] at h
  · simp [Value.ownBlock] at h
  · simp [Value.ownBlock] at h
  · cases he
  · cases hd

/-- The law's books between two turns. -/
structure CubI (W0 : World) (N : Nat) (wr : World) (i : Nat) (vl vm vo : Value) (E : List (Value × Int)) (D : List Value) : Prop where
  bk : Bk wr N vl vm vo E D
  few : E.length ≤ 200 * i
  outs : D.length ≤ 4 * i
  foot : ∀ k, Foot N vl vm vo E D k → N ≤ k
  old : Below N W0 wr

set_option maxRecDepth 100000 in
set_option maxHeartbeats 4000000 in
theorem cubed_any (vars : Int) (ao : Option Addr) (cap : Nat) (cs : List (List Int)) (k : Int) (w : World) (hc : ListsAt w w.heap.size ao cs) (hF : Fits cs) :
    Calls Try.prog 5 #[fm vars ao cap cs, .int .i64 k] w fun e w' => e = .returned (.bool true) ∧ Below w.heap.size w w' := by
  have hw1 : Below w.heap.size w (w.alloc (.cells #[.int .i64 vars, .slice ao cs.length cap] 24)) := (Below.refl _ _).alloc (Nat.le_refl _) _
  have hc1 : Hid (ListsAt (w.alloc (.cells #[.int .i64 vars, .slice ao cs.length cap] 24)) (w.alloc (.cells #[.int .i64 vars, .slice ao cs.length cap] 24)).heap.size ao cs) := (hc.below hw1 (Nat.le_refl _)).mono hw1.size
  have BF := blk_new w [.int .i64 vars, .slice ao cs.length cap] 24
  dsimp only [List.toArray] at BF
  unfold fm
  go_enter Try.func5, Try.ntmps5
  go_wp2_with fail
  refine (refFault_any vars ao cap cs _ hc1.out hF.nums).mono ?_
  rintro e w1 ⟨rfl, hb1⟩
  have hx1 : Below w.heap.size w w1 := hw1.trans (hb1.mono hw1.size)
  have hcx : Hid (ListsAt w1 w1.heap.size ao cs) := (hc.below hx1 (Nat.le_refl _)).mono hx1.size
  have BF1 := BF.below' hb1
  have n0 : w1.cell? ⟨w.heap.size, 0, none⟩ = some (.int .i64 vars) := BF1.cell (i := 0) (by simp) undef
  have n1 : w1.cell? ⟨w.heap.size, 1, none⟩ = some (.slice ao cs.length cap) := BF1.cell (i := 1) (by simp) undef
  go_wp2_with fail
  refine (handed_any vars ao cap cs _ hcx.out hF.len hF.each).mono ?_
  rintro e w2 ⟨g, rfl, hg2, hH2, hb2⟩
  have I0 := Inv.start hc hH2 (by have h := hb1.trans (hb2.mono hb1.size); simpa using h)
  clear hw1 hc1 hc hb1 hH2 hg2 hb2 n0 n1 BF BF1 hcx hx1
  have hs0 : (w2.alloc (.cells #[.int .i64 vars, .slice (some ⟨g, 0, none⟩) cs.length (cs.length + 4)] 24)).heap.size = w2.heap.size + 1 := World.size_alloc _ _
  have BO := blk_new (w2.alloc (.cells #[.int .i64 vars, .slice (some ⟨g, 0, none⟩) cs.length (cs.length + 4)] 24)) [nilV, nilV, nilV] 33
  have hbO := alloc_below (w2.alloc (.cells #[.int .i64 vars, .slice (some ⟨g, 0, none⟩) cs.length (cs.length + 4)] 24)) (.cells #[.slice none 0 0, .slice none 0 0, .slice none 0 0] 33)
  have I1 := I0.step hbO
  obtain ⟨n0, n1, m0, m1, hl⟩ := I0.cells
  obtain ⟨n0', n1', m0', m1', hl'⟩ := I1.cells
  rw [hs0] at BO hbO
  dsimp only [List.toArray] at BO
  go_wp2
  generalize (w2.alloc (.cells #[.int .i64 vars, .slice (some ⟨g, 0, none⟩) cs.length (cs.length + 4)] 24)).alloc (.cells #[.slice none 0 0, .slice none 0 0, .slice none 0 0] 33) = W3 at *
  generalize w2.alloc (.cells #[.int .i64 vars, .slice (some ⟨g, 0, none⟩) cs.length (cs.length + 4)] 24) = W2 at *
  have HI0 : Hid (CubI W2 (w2.heap.size + 1) W3 0 nilV nilV nilV [] []) := ⟨Bk.start BO, by simp, by simp, fun q e => Nat.le_of_eq (foot_nil' e).symm, hbO⟩
  have HInv : Hid _ := I0
  clear n0 n1 m0 m1 hl n0' n1' m0' m1' hl' I0 I1 BO hbO
  go_loopw [9] (fun x wr => ∃ (i : Nat) (vl vm vo : Value) (E : List (Value × Int)) (D : List Value), i ≤ 2 ∧ x = .int .i64 i ∧ Hid (CubI W2 (w2.heap.size + 1) wr i vl vm vo E D)) (fun x _ => 2 - (intOf x).toNat)
  case atStart => exact ⟨0, _, _, _, _, _, Nat.zero_le _, rfl, HI0⟩
  case round =>
    clear HI0
    obtain ⟨i, vl, vm, vo, E, D, hi, rfl, HI⟩ := hrel
    have I := Inv.step HInv.out (show Below W2.heap.size W2 wr by rw [hs0]; exact HI.out.old)
    by_cases hlt : i < 2
    · have hlt' : (i : Int) < 2 := by omega
      obtain ⟨n0, n1, m0, m1, hl⟩ := I.cells
      by_cases hf : (fault vars cs).1 = 0
      · obtain ⟨n, rfl, hgd⟩ := good_of hf
        have HF0 : Hid ((fault n cs).1 = 0) := hf
        have hfe : ((fault n cs).1 != 0) = false := by simp [hf]
        clear hf
        obtain ⟨few1, few2⟩ := @partsL_few n cs k
        have hpe : (partFault n cs k != partFault n cs k) = false := by simp
        have cL := cubes_law n (some ⟨g, 0, none⟩) (cs.length + 4) cs k wr hl hgd
        have cR := fun W hc => rcubes_law n ao cap cs k W hc hgd HF0.out
        generalize partsL n cs k = ps at *
        generalize partFault n cs k = pf at *
        go_wp2_with fail
        refine cL.mono ?_
        clear cL
        rintro e w4 ⟨v, vs, rfl, hM4, hb4⟩
        obtain ⟨la, lc, hv, -, -⟩ := hM4.lists
        subst hv
        have I4 := I.step hb4
        clear n0 n1 m0 m1 hl
        obtain ⟨n0, n1, m0, m1, hl⟩ := I4.cells
        have hlf4 := I4.lists
        go_wp2_with fail
        refine (cR w4 hlf4).mono ?_
        clear cR
        rintro e w5 ⟨u, us, rfl, hM5, hb5⟩
        obtain ⟨ra, rc, hu, -, -⟩ := hM5.lists
        subst hu
        have s4 := hb4.size
        have s5 := hb5.size
        have hM4' := hM4.below' hb5
        have I5 := I4.step hb5
        clear n0 n1 m0 m1 hl hlf4
        obtain ⟨n0, n1, m0, m1, hl⟩ := I5.cells
        obtain ⟨la', lc', e1, hL1, -⟩ := hM4'.lists
        obtain ⟨ra', rc', e2, hL2, -⟩ := hM5.lists
        simp only [Value.slice.injEq, true_and] at e1 e2
        obtain ⟨rfl, rfl⟩ := e1
        obtain ⟨rfl, rfl⟩ := e2
        go_wp2_with fail
        refine (slists_any _ _ _ _ ps w5 hL1 hL2 (by omega) (fun c hc => by have := few2 c hc; omega)).mono ?_
        rintro e w6 ⟨rfl, nd, rfl⟩
        have HB6 : Below w5.heap.size w5 (w5.drewN nd) := below_drewN (Below.refl _ _) nd
        clear n0 n1 m0 m1 hl hL1 hL2
        generalize w5.drewN nd = w6 at *
        have I6 := I5.step HB6
        obtain ⟨n0, n1, m0, m1, hl⟩ := I6.cells
        have s6 := HB6.size
        have hM6 := hM4'.below' HB6
        have kb : Below wr.heap.size wr w6 := (hb4.trans (hb5.mono s4)).trans (HB6.mono (by omega))
        have hBk6 := HI.out.bk.below' kb
        have hfl : ∀ q, Foot (w2.heap.size + 1) vl vm vo E D q → q < wr.heap.size := fun q e => HI.out.bk.foot_lt e
        have vlow : ∀ q, ((Value.slice la ps.length lc).ownBlock = some q ∨ ∃ y ∈ vs, y.ownBlock = some q) → wr.heap.size ≤ q := by
          rintro q (h | ⟨y, hy, h⟩)
          · exact (hM6.oe.lt h).1
          · exact (hM6.lt (List.mem_filterMap.2 ⟨y, hy, h⟩)).1
        have hE := HI.out.few
        have hD := HI.out.outs
        go_wp2_with fail
        refine (takeLists_any (w2.heap.size + 1) vl vm vo (.slice la ps.length lc) E D vs ps w6 hBk6 (by omega) (by omega) (hM6.oe.lower (Nat.zero_le _)) hM6.len (fun i hi => (hM6.ls i hi).lower (Nat.zero_le _)) hM6.nd (by omega) (fun c hc => by have := few2 c hc; omega)
          (fun q h hf => by have := vlow q h; have := hfl q hf; omega)).mono ?_
        rintro e w7 ⟨rfl, vl', vm', vo', E', D', hBk7, hE7, hD7, hF7, hC7⟩
        have hSl : ∀ q, (Foot (w2.heap.size + 1) vl vm vo E D q ∨ (Value.slice la ps.length lc).ownBlock = some q ∨ ∃ y ∈ vs, y.ownBlock = some q) → w2.heap.size + 1 ≤ q := fun q h => by
          rcases h with h | h
          · exact HI.out.foot q h
          · have h1 := vlow q h
            have h2 := HI.out.old.size
            rw [hs0] at h2
            omega
        have hsW := HI.out.old.size
        rw [hs0] at hsW
        have kN7 : Below (w2.heap.size + 1) W2 w7 := (HI.out.old.trans (kb.mono hsW)).trans (hC7.below (by have := kb.size; omega) hSl)
        have I7 := HInv.out.step (show Below W2.heap.size W2 w7 by rw [hs0]; exact kN7)
        clear n0 n1 m0 m1 hl
        obtain ⟨n0, n1, m0, m1, hl⟩ := I7.cells
        go_wp2_with fail
        refine (booksKept_any (w2.heap.size + 1) vl' vm' vo' E' D' w7 hBk7 (by omega) (by omega)).mono ?_
        rintro e w8 ⟨rfl, hb8⟩
        have I8 := I7.step hb8
        clear n0 n1 m0 m1 hl
        obtain ⟨n0, n1, m0, m1, hl⟩ := I8.cells
        have hlf8 := I8.lists
        go_wp2_with fail
        refine (keptLists_any g ao cap cs w8 I8.hand hlf8 hF.len hF.each).mono ?_
        rintro e w9 ⟨rfl, hb9⟩
        have HN : Hid (CubI W2 (w2.heap.size + 1) w9 (i + 1) vl' vm' vo' E' D') := by
          have hx : Below w7.heap.size w7 w9 := hb8.trans (hb9.mono hb8.size)
          refine ⟨hBk7.below' hx, by omega, by omega, fun q h => ?_, kN7.trans (hx.mono (by have := kN7.size; rw [hs0] at this; exact this))⟩
          rcases hF7 q h with h | h | h
          · exact HI.out.foot q h
          · exact hSl q (Or.inr h)
          · have := kb.size; omega
        clear n0 n1 m0 m1 hl hlf8 hC7 hF7
        go_wp2
        go_roundw
        case rel => exact ⟨i + 1, vl', vm', vo', E', D', by omega, by go_num, HN⟩
        case measure => simp [intOf]; omega
      · have hfe : ((fault vars cs).1 != 0) = true := by simp [hf]
        have hee : ((fault vars cs).1 == (fault vars cs).1) = true := by simp
        have cB := cubes_bad vars (some ⟨g, 0, none⟩) (cs.length + 4) cs k wr hl (by rw [partFault_bad k hf]; exact hf)
        rw [partFault_bad k hf] at cB
        clear hf
        go_wp2_with fail
        refine cB.mono ?_
        rintro e w4 ⟨rfl, hb4⟩
        have HB : Hid (Below w.heap.size w w4) := I.old.trans (hb4.mono I.old.size)
        go_wp2
        go_ret
        exact ⟨rfl, HB.out⟩
    · go_wp2
      go_ret
      exact ⟨rfl, I.old⟩
end Go.Proofs.Ytlodenfdcckemaa
