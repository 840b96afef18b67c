/-
  The walk of the law's right.
-/
import Derived.Test.YtomebpjjeldhdaaDoorSolC
import Derived.Test.YtomebpjjeldhdaaDoorBkLists
import Derived.Test.YtomebpjjeldhdaaDoorBkKept
import Derived.Test.YtomebpjjeldhdaaDoorFaultsLaw
namespace Go.Proofs.YtomebpjjeldhdaaDoor
open Go.RowKit

theorem blk_keeps {w w' : World} {S : Nat → Prop} {q B : Nat} {t : TypeId} {L : List Value} (h : Blk w q t L) (hc : Chg S w w') (hS : ∀ k, S k → k < B ∨ w.heap.size ≤ k) (hq : B ≤ q) : Blk w' q t L := h.chg hc (fun e => by have := h.lt; rcases hS q e with h1 | h1 <;> omega)

set_option maxRecDepth 100000 in
set_option maxHeartbeats 2000000 in
theorem lright_any (n : Nat) (ao : Option Addr) (cap : Nat) (cs : List (List Int)) (g N : Nat) (en : End) (vm vp : Value) (vs : List Value) (O : Nat) (vl vmm vo : Value) (E : List (Value × Int)) (D : List Value) (w : World) (hc : ListsAt w N ao cs) (hH : Handed w N g cs) (hF : Fits cs) (hg : Good n cs) (hN : N ≤ w.heap.size) (hok : EndOk n cs en) (ha : AnsAt w N (ansOf en).2.1 (ansOf en).2.2 vm vp vs)
    (hvv : ∀ y ∈ vs, ∀ k, vm.ownBlock = some k → y.ownBlock ≠ some k) (hBk : Bk w O vl vmm vo E D) (hft : ∀ k, Foot O vl vmm vo E D k → N ≤ k) (hdis : ∀ k, (vm.ownBlock = some k ∨ vp.ownBlock = some k ∨ ∃ y ∈ vs, y.ownBlock = some k) → ¬ Foot O vl vmm vo E D k) (hE : E.length ≤ 40000000000) (hD : D.length ≤ 80) :
    Calls Tryd.prog 31 #[fm n ao cap cs, .agg #[.int .i64 n, .slice (some ⟨g, 0, none⟩) cs.length (cs.length + 4)], .agg #[.bool (ansOf en).1, vm, vp], .pointer (some ⟨O, 0, none⟩)] w fun e w' => e = .returned (.bool true) ∧ ∃ vl' vm' vo' E' D', Bk w' O vl' vm' vo' E' D' ∧ E'.length ≤ E.length + 4 + 4 * (ansOf en).2.2.length ∧ D'.length = D.length + 4 ∧ (∀ k, Foot O vl' vm' vo' E' D' k → N ≤ k) ∧ Below N w w' ∧ Chg (fun k => Foot O vl vmm vo E D k ∨ vm.ownBlock = some k ∨ vp.ownBlock = some k ∨ ∃ y ∈ vs, y.ownBlock = some k) w w' := by
  obtain ⟨z1, z2, z3⟩ := ans_few hg.vars hok
  have cR := fun W hcW haW => rright_any n ao cap cs en vm vp vs N W hcW hg hok haW
  generalize (ansOf en).1 = s at *
  generalize (ansOf en).2.1 = zs at *
  generalize (ansOf en).2.2 = ps at *
  obtain ⟨pa, pc, hvp, -, -⟩ := ha.proof.lists
  obtain ⟨ma, mc, hvm⟩ := ha.model.shape
  rw [List.length_map] at hvm
  subst hvp
  subst hvm
  have hb3 : Below w.heap.size w (((w.alloc (.cells #[.int .i64 n, .slice ao cs.length cap] 31)).alloc (.cells #[.int .i64 n, .slice (some ⟨g, 0, none⟩) cs.length (cs.length + 4)] 31)).alloc (.cells #[.bool s, .slice ma zs.length mc, .slice pa ps.length pc] 50)) := (((Below.refl _ _).alloc (Nat.le_refl _) _).alloc (by simp) _).alloc (by simp; omega) _
  have B0 := ((blk_new w [.int .i64 n, .slice ao cs.length cap] 31).alloc (.cells #[.int .i64 n, .slice (some ⟨g, 0, none⟩) cs.length (cs.length + 4)] 31)).alloc (.cells #[.bool s, .slice ma zs.length mc, .slice pa ps.length pc] 50)
  have B1 := (blk_new (w.alloc (.cells #[.int .i64 n, .slice ao cs.length cap] 31)) [.int .i64 n, .slice (some ⟨g, 0, none⟩) cs.length (cs.length + 4)] 31).alloc (.cells #[.bool s, .slice ma zs.length mc, .slice pa ps.length pc] 50)
  have B2 := blk_new ((w.alloc (.cells #[.int .i64 n, .slice ao cs.length cap] 31)).alloc (.cells #[.int .i64 n, .slice (some ⟨g, 0, none⟩) cs.length (cs.length + 4)] 31)) [.bool s, .slice ma zs.length mc, .slice pa ps.length pc] 50
  rw [World.size_alloc] at B1
  rw [World.size_alloc, World.size_alloc] at B2
  dsimp only [List.toArray] at B0 B1 B2
  unfold fm
  go_enter Tryd.func31, Tryd.ntmps31
  go_wp2_with fail
  generalize ((w.alloc (.cells #[.int .i64 n, .slice ao cs.length cap] 31)).alloc (.cells #[.int .i64 n, .slice (some ⟨g, 0, none⟩) cs.length (cs.length + 4)] 31)).alloc (.cells #[.bool s, .slice ma zs.length mc, .slice pa ps.length pc] 50) = W0 at *
  have hB20 := B2.lt
  refine (cR W0 ((hc.below (hb3.mono hN) (Nat.le_refl _)).mono (Nat.le_trans hN hb3.size)) (ha.below' hb3)).mono ?_
  rintro e w1 ⟨rfl, hb1⟩
  have s0 := hb3.size
  have s1 := hb1.size
  have k1 : Below w.heap.size w w1 := hb3.trans (hb1.mono s0)
  replace B0 := B0.below' hb1
  replace B1 := B1.below' hb1
  replace B2 := B2.below' hb1
  have p0 : w1.cell? ⟨w.heap.size, 1, none⟩ = some (.slice ao cs.length cap) := B0.cell (i := 1) (by simp) undef
  have p1 : w1.cell? ⟨w.heap.size + 1, 1, none⟩ = some (.slice (some ⟨g, 0, none⟩) cs.length (cs.length + 4)) := B1.cell (i := 1) (by simp) undef
  go_wp2_with fail
  refine (keptLists_any g ao cap cs w1 ((HandedTo.below hH (k1.mono hN) (Nat.le_refl _)).mono (Nat.le_trans hN k1.size)) ((hc.below (k1.mono hN) (Nat.le_refl _)).mono (Nat.le_trans hN k1.size)) hF.len hF.each).mono ?_
  rintro e w2 ⟨rfl, hb2⟩
  have s2 := hb2.size
  have k2 : Below w.heap.size w w2 := k1.trans (hb2.mono k1.size)
  replace B0 := B0.below' hb2
  replace B1 := B1.below' hb2
  replace B2 := B2.below' hb2
  clear p0 p1
  have q1 : w2.cell? ⟨w.heap.size + 1 + 1, 1, none⟩ = some (.slice ma zs.length mc) := B2.cell (i := 1) (by simp) undef
  have hBk2 := hBk.below' k2
  have ha2 := ha.below' k2
  go_wp2_with fail
  refine (take_any O vl vmm vo (.slice ma zs.length mc) E D zs w2 hBk2 (by omega) (ha2.model.lower (Nat.zero_le _)) (by omega) (fun k e => hdis k (Or.inl e))).mono ?_
  rintro e w3 ⟨rfl, vl3, vm3, E3, hBk3, hE3, hF3, hC3⟩
  have hfl : ∀ k, Foot O vl vmm vo E D k → k < w.heap.size := fun k e => hBk.foot_lt e
  have hml : ∀ k, (Value.slice ma zs.length mc).ownBlock = some k → N ≤ k ∧ k < w.heap.size := fun k e => ha.model.lt e
  have s3 := hC3.size
  have hs2 := k2.size
  have hS3 : ∀ k, (Foot O vl vmm vo E D k ∨ (Value.slice ma zs.length mc).ownBlock = some k) → k < w.heap.size ∨ w2.heap.size ≤ k := fun k e => by
    rcases e with e | e
    · exact Or.inl (hfl k e)
    · exact Or.inl (hml k e).2
  replace B0 := blk_keeps B0 hC3 hS3 (Nat.le_refl _)
  replace B1 := blk_keeps B1 hC3 hS3 (by omega)
  replace B2 := blk_keeps B2 hC3 hS3 (by omega)
  have hb3N : Below N w2 w3 := hC3.below (Nat.le_trans hN k2.size) (fun k e => by
    rcases e with e | e
    · exact hft k e
    · exact (hml k e).1)
  have k3 : Below N w w3 := (k2.mono hN).trans hb3N
  have hP3 : MadeS w3 N (.slice pa ps.length pc) vs ps := by
    have hp2 := ha2.proof
    refine ⟨hp2.oe.chg hC3 (fun k e e' => ?_), hp2.len, fun i hi => (hp2.ls i hi).chg hC3 (fun k e e' => ?_), hp2.nd⟩
    · rcases e' with e' | e'
      · exact hdis k (Or.inr (Or.inl e)) e'
      · exact own_ne hp2.oe ha2.model (by decide) e e'
    · have hmem : vs.getD i undef ∈ vs := by rw [getD_lt _ _ _ hi]; exact List.getElem_mem hi
      rcases e' with e' | e'
      · exact hdis k (Or.inr (Or.inr ⟨_, hmem, e⟩)) e'
      · exact hvv _ hmem k e' e
  clear q1
  have q2 : w3.cell? ⟨w.heap.size + 1 + 1, 2, none⟩ = some (.slice pa ps.length pc) := B2.cell (i := 2) (by simp) undef
  have hdis3 : ∀ k, ((Value.slice pa ps.length pc).ownBlock = some k ∨ ∃ y ∈ vs, y.ownBlock = some k) → ¬ Foot O vl3 vm3 vo E3 D k := fun k e e' => by
    have hlt : k < w.heap.size := by
      rcases e with e | ⟨y, hy, e⟩
      · exact (ha.proof.oe.lt e).2
      · exact (ha.proof.lt (List.mem_filterMap.2 ⟨y, hy, e⟩)).2
    rcases hF3 k e' with h1 | h1 | h1
    · exact hdis k (Or.inr e) h1
    · rcases e with e | ⟨y, hy, e⟩
      · exact own_ne ha.proof.oe ha.model (by decide) e h1
      · exact hvv y hy k h1 e
    · omega
  go_wp2_with fail
  refine (takeLists_any O vl3 vm3 vo (.slice pa ps.length pc) E3 D vs ps w3 hBk3 (by omega) (by omega) (hP3.oe.lower (Nat.zero_le _)) hP3.len (fun i hi => (hP3.ls i hi).lower (Nat.zero_le _)) hP3.nd (by omega) (fun c hc => by have := (z3 c hc).1; omega) hdis3).mono ?_
  rintro e w4 ⟨rfl, vl4, vm4, vo4, E4, D4, hBk4, hE4, hD4, hF4, hC4⟩
  have hf3N : ∀ k, Foot O vl3 vm3 vo E3 D k → N ≤ k := fun k e => by
    rcases hF3 k e with h1 | h1 | h1
    · exact hft k h1
    · exact (hml k h1).1
    · omega
  have hf3w : ∀ k, Foot O vl3 vm3 vo E3 D k → k < w.heap.size ∨ w2.heap.size ≤ k := fun k e => by
    rcases hF3 k e with h1 | h1 | h1
    · exact Or.inl (hfl k h1)
    · exact Or.inl (hml k h1).2
    · exact Or.inr h1
  have hpl : ∀ k, ((Value.slice pa ps.length pc).ownBlock = some k ∨ ∃ y ∈ vs, y.ownBlock = some k) → N ≤ k ∧ k < w.heap.size := fun k e => by
    rcases e with e | ⟨y, hy, e⟩
    · exact ha.proof.oe.lt e
    · exact ha.proof.lt (List.mem_filterMap.2 ⟨y, hy, e⟩)
  have nb : ∀ q, w.heap.size ≤ q → q < w2.heap.size → ¬ (Foot O vl3 vm3 vo E3 D q ∨ (Value.slice pa ps.length pc).ownBlock = some q ∨ ∃ y ∈ vs, y.ownBlock = some q) := fun q h1 h2 e => by
    rcases e with e | e
    · rcases hf3w q e with h3 | h3 <;> omega
    · have := (hpl q e).2; omega
  have hw2l : w.heap.size + 1 + 1 < w2.heap.size := by omega
  replace B0 := B0.chg hC4 (nb _ (Nat.le_refl _) (by omega))
  replace B1 := B1.chg hC4 (nb _ (by omega) (by omega))
  have hb4N : Below N w3 w4 := hC4.below (Nat.le_trans hN k3.size) (fun k e => by
    rcases e with e | e
    · exact hf3N k e
    · exact (hpl k e).1)
  have k4 : Below N w w4 := k3.trans hb4N
  clear q2
  have p0 : w4.cell? ⟨w.heap.size, 1, none⟩ = some (.slice ao cs.length cap) := B0.cell (i := 1) (by simp) undef
  have p1 : w4.cell? ⟨w.heap.size + 1, 1, none⟩ = some (.slice (some ⟨g, 0, none⟩) cs.length (cs.length + 4)) := B1.cell (i := 1) (by simp) undef
  go_wp2_with fail
  refine (keptLists_any g ao cap cs w4 ((HandedTo.below hH k4 (Nat.le_refl _)).mono (Nat.le_trans hN k4.size)) ((hc.below k4 (Nat.le_refl _)).mono (Nat.le_trans hN k4.size)) hF.len hF.each).mono ?_
  rintro e w5 ⟨rfl, hb5⟩
  have hBk5 := hBk4.below' hb5
  have k5 : Below N w w5 := k4.trans (hb5.mono (Nat.le_trans hN k4.size))
  clear p0 p1
  go_wp2_with fail
  refine (booksKept_any O vl4 vm4 vo4 E4 D4 w5 hBk5 (by omega) (by omega)).mono ?_
  rintro e w6 ⟨rfl, hb6⟩
  have HB : Hid (Below N w w6) := k5.trans (hb6.mono (Nat.le_trans hN k5.size))
  have HK : Hid (Bk w6 O vl4 vm4 vo4 E4 D4) := hBk5.below' hb6
  have HC : Hid (Chg (fun k => Foot O vl vmm vo E D k ∨ (Value.slice ma zs.length mc).ownBlock = some k ∨ (Value.slice pa ps.length pc).ownBlock = some k ∨ ∃ y ∈ vs, y.ownBlock = some k) w w6) := by
    have c2 : Chg (fun k => Foot O vl vmm vo E D k ∨ (Value.slice ma zs.length mc).ownBlock = some k ∨ (Value.slice pa ps.length pc).ownBlock = some k ∨ ∃ y ∈ vs, y.ownBlock = some k) w w2 := Chg.of_below k2
    have c3 := c2.trans' hC3 (fun i _ e => by
      rcases e with e | e
      · exact Or.inl e
      · exact Or.inr (Or.inl e))
    have c4 := c3.trans' hC4 (fun i hi e => by
      rcases e with e | e
      · rcases hF3 i e with h1 | h1 | h1
        · exact Or.inl h1
        · exact Or.inr (Or.inl h1)
        · omega
      · exact Or.inr (Or.inr e))
    exact (c4.trans (Chg.of_below hb5)).trans (Chg.of_below hb6)
  have HFt : Hid (∀ k, Foot O vl4 vm4 vo4 E4 D4 k → N ≤ k) := fun k e => by
    rcases hF4 k e with h1 | h1 | h1
    · exact hf3N k h1
    · exact (hpl k h1).1
    · have := k3.size; omega
  go_wp2
  go_ret
  exact ⟨rfl, vl4, vm4, vo4, E4, D4, HK.out, by omega, hD4, HFt.out, HB.out, HC.out⟩
end Go.Proofs.YtomebpjjeldhdaaDoor
