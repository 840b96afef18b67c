/-
  The walk of the law on answers.
-/
import Derived.Test.YtomebpjjeldhdaaDoorSolT
import Derived.Test.YtomebpjjeldhdaaDoorEntryF
namespace Go.Proofs.YtomebpjjeldhdaaDoor
open Go.RowKit

theorem AnsAt.chg {w w' : World} {b : Nat} {zs : List Int} {ps : List (List Int)} {vm vp : Value} {vs : List Value} {S : Nat → Prop} (h : AnsAt w b zs ps vm vp vs) (hC : Chg S w w') (hS : ∀ k, S k → k < b) : AnsAt w' b zs ps vm vp vs := by
  have nb : ∀ k, b ≤ k → ¬ S k := fun k e e' => by have := hS k e'; omega
  exact ⟨h.model.chg hC (fun k e => nb k (h.model.lt e).1), h.proof.oe.chg hC (fun k e => nb k (h.proof.oe.lt e).1), h.proof.len, fun i hi => (h.proof.ls i hi).chg hC (fun k e => nb k ((h.proof.ls i hi).lt e).1), h.proof.nd⟩

theorem AnsAt.lower {w : World} {b b' : Nat} {zs : List Int} {ps : List (List Int)} {vm vp : Value} {vs : List Value} (h : AnsAt w b zs ps vm vp vs) (hb : b' ≤ b) : AnsAt w b' zs ps vm vp vs := ⟨h.model.lower hb, h.proof.lower hb⟩

theorem AnsAt.lt {w : World} {b : Nat} {zs : List Int} {ps : List (List Int)} {vm vp : Value} {vs : List Value} (h : AnsAt w b zs ps vm vp vs) {k : Nat} (e : vm.ownBlock = some k ∨ vp.ownBlock = some k ∨ ∃ y ∈ vs, y.ownBlock = some k) : b ≤ k ∧ k < w.heap.size := by
  rcases e with e | e | ⟨y, hy, e⟩
  · exact h.model.lt e
  · exact h.proof.oe.lt e
  · exact h.proof.lt (List.mem_filterMap.2 ⟨y, hy, e⟩)

theorem solEnd_apart {b : Nat} {e : Ending} {w' : World} {en : End} (h : SolEnd b e w' en) : ∃ vm vp vs, e = .returned (.tuple #[.agg #[.bool (ansOf en).1, vm, vp], .int .i64 0]) ∧ AnsAt w' b (ansOf en).2.1 (ansOf en).2.2 vm vp vs ∧ ∀ y ∈ vs, ∀ k, vm.ownBlock = some k → y.ownBlock ≠ some k := by
  cases en with
  | sat S =>
    obtain ⟨v, rfl, hv⟩ := h
    exact ⟨v, _, [], rfl, ⟨hv, MadeS.start _ _⟩, fun y hy => by cases hy⟩
  | unsat F =>
    obtain ⟨v, vs, rfl, hv⟩ := h
    exact ⟨_, v, vs, rfl, ⟨Own.nil _ _ _, hv⟩, fun y _ k hk => by simp [Value.ownBlock] at hk⟩

theorem Blk.three {w : World} {q : Nat} {t : TypeId} {a b c : Value} (h : Blk w q t [a, b, c]) : w.cell? ⟨q, 0, none⟩ = some a ∧ w.cell? ⟨q, 1, none⟩ = some b ∧ w.cell? ⟨q, 2, none⟩ = some c :=
  ⟨h.cell (i := 0) (by simp) undef, h.cell (i := 1) (by simp) undef, h.cell (i := 2) (by simp) undef⟩

theorem foot_nil {O k : Nat} (h : Foot O nilV nilV nilV [] [] k) : k = O := by
  rcases h with h | h | h | h | ⟨_, h, _⟩ | ⟨_, h, _⟩
  · exact h
  · simp [Value.ownBlock] at h
  · simp [Value.ownBlock] at h
  · simp [Value.ownBlock] at h
  · cases h
  · cases h

set_option maxRecDepth 100000 in
set_option maxHeartbeats 8000000 in
theorem solves_any (vars : Int) (ao : Option Addr) (cap : Nat) (cs : List (List Int)) (w : World) (hc : ListsAt w w.heap.size ao cs) (hF : Fits cs) (hT : Tab w) (hw0 : 0 < w.heap.size) :
    Calls Tryd.prog 6 #[fm vars ao cap cs] w fun e w' => e = .returned (.bool true) ∧ Below w.heap.size w w' := by
  have hw1 : Below w.heap.size w (w.alloc (.cells #[.int .i64 vars, .slice ao cs.length cap] 31)) := (Below.refl _ _).alloc (Nat.le_refl _) _
  have hc1 : Hid (ListsAt (w.alloc (.cells #[.int .i64 vars, .slice ao cs.length cap] 31)) (w.alloc (.cells #[.int .i64 vars, .slice ao cs.length cap] 31)).heap.size ao cs) := (hc.below hw1 (Nat.le_refl _)).mono hw1.size
  have BF := blk_new w [.int .i64 vars, .slice ao cs.length cap] 31
  dsimp only [List.toArray] at BF
  unfold fm
  go_enter Tryd.func6, Tryd.ntmps6
  go_wp2_with fail
  refine (refFault_any vars ao cap cs _ hc1.out hF.nums).mono ?_
  rintro e w1 ⟨rfl, hb1⟩
  have hx1 : Below w.heap.size w w1 := hw1.trans (hb1.mono hw1.size)
  have hcx : Hid (ListsAt w1 w1.heap.size ao cs) := (hc.below hx1 (Nat.le_refl _)).mono hx1.size
  have BF1 := BF.below' hb1
  have n0 : w1.cell? ⟨w.heap.size, 0, none⟩ = some (.int .i64 vars) := BF1.cell (i := 0) (by simp) undef
  have n1 : w1.cell? ⟨w.heap.size, 1, none⟩ = some (.slice ao cs.length cap) := BF1.cell (i := 1) (by simp) undef
  go_wp2_with fail
  refine (handed_any vars ao cap cs _ hcx.out hF.len hF.each).mono ?_
  rintro e w2 ⟨g, rfl, hg2, hH2, hb2⟩
  have I0 := Inv.start hc hH2 (by have h := hb1.trans (hb2.mono hb1.size); simpa using h)
  clear hw1 hc1 hc hb1 hH2 hg2 hb2 n0 n1 BF BF1 hcx hx1
  have hs0 : (w2.alloc (.cells #[.int .i64 vars, .slice (some ⟨g, 0, none⟩) cs.length (cs.length + 4)] 31)).heap.size = w2.heap.size + 1 := World.size_alloc _ _
  have BO := blk_new (w2.alloc (.cells #[.int .i64 vars, .slice (some ⟨g, 0, none⟩) cs.length (cs.length + 4)] 31)) [nilV, nilV, nilV] 27
  have hbO := alloc_below (w2.alloc (.cells #[.int .i64 vars, .slice (some ⟨g, 0, none⟩) cs.length (cs.length + 4)] 31)) (.cells #[.slice none 0 0, .slice none 0 0, .slice none 0 0] 27)
  have I1 := I0.step hbO
  have hs1 : ((w2.alloc (.cells #[.int .i64 vars, .slice (some ⟨g, 0, none⟩) cs.length (cs.length + 4)] 31)).alloc (.cells #[.slice none 0 0, .slice none 0 0, .slice none 0 0] 27)).heap.size = w2.heap.size + 1 + 1 := by rw [World.size_alloc, hs0]
  obtain ⟨n0, n1, m0, m1, hl⟩ := I0.cells
  obtain ⟨n0', n1', m0', m1', hl'⟩ := I1.cells
  rw [hs0] at BO hbO
  dsimp only [List.toArray] at BO
  by_cases hf : (fault vars cs).1 = 0
  · obtain ⟨n, rfl, hgd⟩ := good_of hf
    have HF : Hid ((fault n cs).1 = 0) := hf
    have hfe : ((fault n cs).1 != 0) = false := by simp [hf]
    clear hf
    go_wp2_with fail
    generalize (w2.alloc (.cells #[.int .i64 n, .slice (some ⟨g, 0, none⟩) cs.length (cs.length + 4)] 31)).alloc (.cells #[.slice none 0 0, .slice none 0 0, .slice none 0 0] 27) = W3 at *
    generalize w2.alloc (.cells #[.int .i64 n, .slice (some ⟨g, 0, none⟩) cs.length (cs.length + 4)] 31) = W2 at *
    have hTp := hT.below I1.old hw0
    have hpos := I1.old.size
    refine (solve_good n (some ⟨g, 0, none⟩) (cs.length + 4) cs _ hl' hgd HF.out hTp (by omega)).mono ?_
    rintro e w4 ⟨en, hEn, hOk, hS, hb4⟩
    obtain ⟨vm, vp, vs, rfl, hA, hvv⟩ := solEnd_apart hS
    obtain ⟨z1, z2, z3⟩ := ans_few hgd.vars hOk
    obtain ⟨pa, pc, hvp, -, -⟩ := hA.proof.lists
    obtain ⟨ma, mc, hvm⟩ := hA.model.shape
    rw [List.length_map] at hvm
    subst hvp
    subst hvm
    have HEn : Hid _ := hEn
    have HOk : Hid _ := hOk
    have s4 := hb4.size
    have I4 := I1.step hb4
    have BO4 := BO.below' hb4
    have k4 : Below (w2.heap.size + 1) W2 w4 := hbO.trans (hb4.mono (by omega))
    have hbA := alloc_below w4 (.cells #[.bool (ansOf en).1, .slice ma (ansOf en).2.1.length mc, .slice pa (ansOf en).2.2.length pc] 50)
    have BA := blk_new w4 [.bool (ansOf en).1, .slice ma (ansOf en).2.1.length mc, .slice pa (ansOf en).2.2.length pc] 50
    have hsA : (w4.alloc (.cells #[.bool (ansOf en).1, .slice ma (ansOf en).2.1.length mc, .slice pa (ansOf en).2.2.length pc] 50)).heap.size = w4.heap.size + 1 := World.size_alloc _ _
    dsimp only [List.toArray] at BA
    obtain ⟨q0, q1, q2⟩ := BA.three
    clear n0 n1 m0 m1 hl n0' n1' m0' m1' hl' hEn hOk hS
    go_wp2_with fail
    generalize w4.alloc (.cells #[.bool (ansOf en).1, .slice ma (ansOf en).2.1.length mc, .slice pa (ansOf en).2.2.length pc] 50) = W4 at *
    have hA4 := hA.below' hbA
    refine (copied_any (ansOf en).1 (ansOf en).2.1 (ansOf en).2.2 _ _ _ vs _ hA4 (by omega) (by omega) (fun c hc => by have := (z3 c hc).1; omega)).mono ?_
    rintro e w5 ⟨v1, v2, vs2, rfl, hC, hb5⟩
    obtain ⟨ra, rc, hr2, -, -⟩ := hC.proof.lists
    obtain ⟨xa, xc, hx2⟩ := hC.model.shape
    rw [List.length_map] at hx2
    subst hr2
    subst hx2
    have s5 := hb5.size
    have I5 := (I4.step hbA).step hb5
    have BO5 := (BO4.below' hbA).below' hb5
    have BA5 := BA.below' hb5
    have hA5 := hA4.below' hb5
    have k5 : Below (w2.heap.size + 1) W2 w5 := (k4.trans (hbA.mono (by omega))).trans (hb5.mono (by omega))
    have hbW := alloc_below w5 (.cells #[.bool (ansOf en).1, .slice xa (ansOf en).2.1.length xc, .slice ra (ansOf en).2.2.length rc] 50)
    have BW := blk_new w5 [.bool (ansOf en).1, .slice xa (ansOf en).2.1.length xc, .slice ra (ansOf en).2.2.length rc] 50
    have hsW : (w5.alloc (.cells #[.bool (ansOf en).1, .slice xa (ansOf en).2.1.length xc, .slice ra (ansOf en).2.2.length rc] 50)).heap.size = w5.heap.size + 1 := World.size_alloc _ _
    dsimp only [List.toArray] at BW
    have I6 := I5.step hbW
    have BO6 := BO5.below' hbW
    have BA6 := BA5.below' hbW
    have hA6 := hA5.below' hbW
    have hC6 := hC.below' hbW
    obtain ⟨n0, n1, m0, m1, hl⟩ := I6.cells
    obtain ⟨n0', n1', m0', m1', hl'⟩ := I5.cells
    obtain ⟨p0, p1, p2⟩ := BA6.three
    obtain ⟨p0', p1', p2'⟩ := BA5.three
    clear q0 q1 q2
    go_wp2_with fail
    generalize w5.alloc (.cells #[.bool (ansOf en).1, .slice xa (ansOf en).2.1.length xc, .slice ra (ansOf en).2.2.length rc] 50) = W5 at *
    have k6 : Below (w2.heap.size + 1) W2 W5 := k5.trans (hbW.mono (by omega))
    have hlN : ListsAt W2 (w2.heap.size + 1) ao cs := by have := I0.lists; rw [hs0] at this; exact this
    have hHN : Handed W2 (w2.heap.size + 1) g cs := by have := I0.hand; rw [hs0] at this; exact this
    refine (lright_any n ao cap cs g (w2.heap.size + 1) en _ _ vs (w2.heap.size + 1) nilV nilV nilV [] [] _ (hlN.below k6 (Nat.le_refl _)) (HandedTo.below hHN k6 (Nat.le_refl _)) hF hgd (by omega) HOk.out (hA6.lower (by omega)) hvv (Bk.start BO6) (fun k e => Nat.le_of_eq (foot_nil e).symm) (fun k e e' => by have h1 := foot_nil e'; have h2 := (hA6.lt e).1; omega) (by simp) (by simp)).mono ?_
    rintro e w6 ⟨rfl, vl', vm', vo', E', D', hBk, hE', hD', hFt, hB6, hC6c⟩
    have hSl : ∀ k, (Foot (w2.heap.size + 1) nilV nilV nilV [] [] k ∨ (Value.slice ma (ansOf en).2.1.length mc).ownBlock = some k ∨ (Value.slice pa (ansOf en).2.2.length pc).ownBlock = some k ∨ ∃ y ∈ vs, y.ownBlock = some k) → k < w4.heap.size := fun k e => by
      rcases e with e | e
      · have := foot_nil e; omega
      · exact (hA.lt e).2
    have s6 := hC6c.size
    have hC7 := hC6.chg hC6c (fun k e => by have := hSl k e; omega)
    have BW7 := BW.chg hC6c (fun e => by have := hSl _ e; omega)
    have k7 : Below (w2.heap.size + 1) W2 w6 := k6.trans hB6
    have I7 := I0.step (by rw [hs0]; exact k7)
    have hTp7 := hT.below I7.old hw0
    have hpos7 := I7.old.size
    clear n0 n1 m0 m1 hl n0' n1' m0' m1' hl' p0 p1 p2 p0' p1' p2' BO4 BO5 BO6 BA BA5 BA6 hA hA4 hA5 hA6 hC hC6 I4 I5 I6 I1 BO hb4 hbA hb5 hbW BW k4 k5 k6 hC6c hB6 hvv
    obtain ⟨n0, n1, m0, m1, hl⟩ := I7.cells
    go_wp2_with fail
    refine (solve_good n (some ⟨g, 0, none⟩) (cs.length + 4) cs _ hl hgd HF.out hTp7 (by omega)).mono ?_
    rintro e w7 ⟨en', hEn', -, hS, hb7⟩
    obtain rfl : en' = en := hEn'.det HEn.out
    clear hEn'
    obtain ⟨um, up, us, rfl, hB, huu⟩ := solEnd_apart hS
    obtain ⟨ba, bc, hup, -, -⟩ := hB.proof.lists
    obtain ⟨ea, ec, hum⟩ := hB.model.shape
    rw [List.length_map] at hum
    subst hup
    subst hum
    have s7 := hb7.size
    have I8 := I7.step hb7
    have hC8 := hC7.below' hb7
    have BW8 := BW7.below' hb7
    have hBk8 := hBk.below' hb7
    have hbB := alloc_below w7 (.cells #[.bool (ansOf en').1, .slice ea (ansOf en').2.1.length ec, .slice ba (ansOf en').2.2.length bc] 50)
    have BB := blk_new w7 [.bool (ansOf en').1, .slice ea (ansOf en').2.1.length ec, .slice ba (ansOf en').2.2.length bc] 50
    have hsB : (w7.alloc (.cells #[.bool (ansOf en').1, .slice ea (ansOf en').2.1.length ec, .slice ba (ansOf en').2.2.length bc] 50)).heap.size = w7.heap.size + 1 := World.size_alloc _ _
    dsimp only [List.toArray] at BB
    have BW9 := BW8.below' hbB
    have hC9 := hC8.below' hbB
    have hB9 := hB.below' hbB
    have hBk9 := hBk8.below' hbB
    have k9 : Below (w2.heap.size + 1) W2 (w7.alloc (.cells #[.bool (ansOf en').1, .slice ea (ansOf en').2.1.length ec, .slice ba (ansOf en').2.2.length bc] 50)) := (k7.trans (hb7.mono (by omega))).trans (hbB.mono (by omega))
    obtain ⟨q0, q1, q2⟩ := BB.three
    obtain ⟨p0, p1, p2⟩ := BW9.three
    obtain ⟨p0', p1', p2'⟩ := BW8.three
    clear n0 n1 m0 m1 hl hS
    go_wp2_with fail
    generalize w7.alloc (.cells #[.bool (ansOf en').1, .slice ea (ansOf en').2.1.length ec, .slice ba (ansOf en').2.2.length bc] 50) = W7 at *
    refine (alike_any (ansOf en').1 (ansOf en').2.1 (ansOf en').2.2 _ _ _ _ _ _ _ _ _ hC9 hB9 (by omega) (by omega) (fun c hc => by have := (z3 c hc).1; omega)).mono ?_
    rintro e w8 ⟨rfl, hb8⟩
    have s8 := hb8.size
    have hBk10 := hBk9.below' hb8
    have hB10 := hB9.below' hb8
    have BB10 := BB.below' hb8
    have k10 : Below (w2.heap.size + 1) W2 w8 := k9.trans (hb8.mono (by omega))
    have I10 := I0.step (by rw [hs0]; exact k10)
    obtain ⟨n0, n1, m0, m1, hl⟩ := I10.cells
    obtain ⟨r0, r1, r2⟩ := BB10.three
    clear q0 q1 q2 p0 p1 p2 p0' p1' p2'
    go_wp2_with fail
    refine (lright_any n ao cap cs g (w2.heap.size + 1) en' _ _ us (w2.heap.size + 1) vl' vm' vo' E' D' _ (hlN.below k10 (Nat.le_refl _)) (HandedTo.below hHN k10 (Nat.le_refl _)) hF hgd (by omega) HOk.out (hB10.lower (by omega)) huu hBk10 hFt (fun k e e' => by have h1 := hBk.foot_lt e'; have h2 := (hB10.lt e).1; omega) (by simp at hE'; omega) (by simp at hD'; omega)).mono ?_
    rintro e w9 ⟨rfl, vl2, vm2, vo2, E2, D2, -, -, -, -, hB11, -⟩
    have HB : Hid (Below w.heap.size w w9) := (I0.step (by rw [hs0]; exact k10.trans hB11)).old
    clear hB11 n0 n1 m0 m1 hl r0 r1 r2
    go_wp2
    go_ret
    exact ⟨rfl, HB.out⟩
  · have hfe : ((fault vars cs).1 != 0) = true := by simp [hf]
    have hee : ((fault vars cs).1 == (fault vars cs).1) = true := by simp
    have HF : Hid (¬ (fault vars cs).1 = 0) := hf
    clear hf
    go_wp2_with fail
    refine (solve_entry vars (some ⟨g, 0, none⟩) (cs.length + 4) cs _ hl' HF.out).mono ?_
    rintro e w4 ⟨rfl, hb4⟩
    have I4 := I1.step hb4
    have hbA := alloc_below w4 (.cells #[.bool false, .slice none 0 0, .slice none 0 0] 50)
    have BA := blk_new w4 [.bool false, .slice none 0 0, .slice none 0 0] 50
    dsimp only [List.toArray] at BA
    obtain ⟨q0, q1, q2⟩ := BA.three
    have HB : Hid _ := (I4.step hbA).old
    clear n0 n1 m0 m1 hl n0' n1' m0' m1' hl'
    go_wp2
    go_ret
    exact ⟨rfl, HB.out⟩
end Go.Proofs.YtomebpjjeldhdaaDoor
