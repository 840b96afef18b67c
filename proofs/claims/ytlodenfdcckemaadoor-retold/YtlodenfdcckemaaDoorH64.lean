/-
  What lies in memory while the program takes all words.
-/
import Derived.Test.YtlodenfdcckemaaDoorH63
namespace Go.Proofs.YtlodenfdcckemaaDoor
open Go.RowKit Go.Shelf

/-- Whatever is cells lies as it lay, and so does all below n0. -/
structure Same (n0 : Nat) (W W' : World) : Prop where
  os : W'.os = W.os
  tape : W'.tape = W.tape
  output : W'.output = W.output
  size : W.heap.size ≤ W'.heap.size
  cells : ∀ (k : Nat) (o : Obj), W.heap[k]? = some o → o.isCells = true → W'.heap[k]? = some o
  low : ∀ k, k < n0 → W'.heap[k]? = W.heap[k]?

namespace Same
variable {n0 : Nat} {A B C : World}
theorem refl (n0 : Nat) (A : World) : Same n0 A A := ⟨rfl, rfl, rfl, Nat.le_refl _, fun _ _ h _ => h, fun _ _ => rfl⟩
theorem trans (h : Same n0 A B) (k : Same n0 B C) : Same n0 A C :=
  ⟨k.os.trans h.os, k.tape.trans h.tape, k.output.trans h.output, Nat.le_trans h.size k.size, fun i o hi ho => k.cells i o (h.cells i o hi ho) ho, fun i hi => (k.low i hi).trans (h.low i hi)⟩
theorem of_below (h : Below A.heap.size A B) (hn : n0 ≤ A.heap.size) : Same n0 A B :=
  ⟨h.os, h.tape, h.output, h.size, fun i _ hi _ => (h.block i (Array.getElem?_eq_some_iff.1 hi).1).trans hi, fun i hi => h.block i (by omega)⟩
theorem of_grown {r : Option Nat} (h : A.grownBy B r) (hn : n0 ≤ A.heap.size) (hr : ∀ k, r = some k → n0 ≤ k ∧ ∃ o : Obj, A.heap[k]? = some o ∧ o.isCells = false) : Same n0 A B :=
  ⟨h.os, h.tape, h.output, h.size, fun i o hi ho => (h.block i (Array.getElem?_eq_some_iff.1 hi).1 (fun e => by obtain ⟨_, o', ho', hc⟩ := hr i e.symm; rw [hi] at ho'; cases ho'; rw [ho] at hc; cases hc)).trans hi,
    fun i hi => h.block i (by omega) (fun e => by have := (hr i e.symm).1; omega)⟩
end Same

theorem Blk.same {n0 : Nat} {W W' : World} {g : Nat} {t : TypeId} {L : List Value} (h : Blk W g t L) (hs : Same n0 W W') : Blk W' g t L := hs.cells g _ h rfl
theorem Row1.same {n0 : Nat} {W W' : World} {g cap : Nat} {t : TypeId} {xs : List Value} (h : Row1 W g t cap xs) (hs : Same n0 W W') : Row1 W' g t cap xs := h.elim fun r hr => ⟨r, hr.1.same hs, hr.2⟩
theorem Own.same {n0 : Nat} {W W' : World} {base : Nat} {t : TypeId} {v : Value} {xs : List Value} (h : Own W base t v xs) (hs : Same n0 W W') : Own W' base t v xs := by
  rcases h with h | ⟨g, cap, rfl, h1, h2, hr⟩
  · exact Or.inl h
  · exact Or.inr ⟨g, cap, rfl, h1, h2, hr.same hs⟩
theorem Made.same {n0 : Nat} {W W' : World} {base : Nat} {vE vO : Value} {vs : List Value} {s : St} (h : Made W base vE vO vs s) (hs : Same n0 W W') : Made W' base vE vO vs s :=
  ⟨h.oe.same hs, h.len, fun i hi => (h.ls i hi).same hs, h.oo.same hs, h.nd⟩
theorem Chg.same {S : Nat → Prop} {w W W' : World} (h : Chg S w W) (hs : Same w.heap.size W W') : Chg S w W' :=
  ⟨hs.os.trans h.os, hs.tape.trans h.tape, hs.output.trans h.output, Nat.le_trans h.size hs.size, fun i hi hn => (hs.low i hi).trans (h.block i hi hn),
    fun i o hi ho => (hs.low i (Array.getElem?_eq_some_iff.1 hi).1).trans (h.others i o hi ho)⟩

/-- The blocks and numbers of one call. -/
structure Fx where
  w0 : World
  B : Nat
  L : Nat
  base : Nat
  Bb : Nat
  Be : Nat
  Ba : Nat
  Bc : Nat
  v : Nat
  c : Nat
  m : Int

/-- Which blocks that were there may turn. -/
def Fx.S (f : Fx) (k : Nat) : Prop := k = f.B ∨ k = f.L ∨ f.base ≤ k

structure Fx.Ok (f : Fx) : Prop where
  base : f.base ≤ f.w0.heap.size
  b : 3 < f.B ∧ f.B < f.base
  l : 3 < f.L ∧ f.L < f.base
  new : f.w0.heap.size ≤ f.Bb ∧ f.w0.heap.size ≤ f.Be ∧ f.w0.heap.size ≤ f.Ba ∧ f.w0.heap.size ≤ f.Bc
  ne : f.Ba ≠ f.Bc
  c200 : f.c ≤ 200

structure Fr (f : Fx) (W : World) (s' : ByteArray) (k cnt : Int) (st : St) (vE vO : Value) (vs : List Value) : Prop where
  bb : Blk W f.Bb 148 [.pointer (some ⟨f.B, 0, none⟩)]
  be : Blk W f.Be 34 [.int .i64 0]
  ba : Blk W f.Ba 3 [.int .i64 0]
  bc : Blk W f.Bc 3 [.int .i64 cnt]
  hB : Blk W f.B 123 [.int .i64 f.v, .int .i64 f.c, vE, vO]
  hL : Blk W f.L 117 [.string s', .int .i64 k]
  made : Made W f.base vE vO vs st
  nob : ∀ k, OB vs vO k → k ≠ f.Bc ∧ k ≠ f.Ba
  tabs : Lib.Utf8Tabs 2 3 W
  m0 : W.cell? ⟨1, 0, none⟩ = some (.int .i64 f.m)
  chg : Chg f.S f.w0 W

theorem blk_ne {w : World} {g g' : Nat} {t t' : TypeId} {L L' : List Value} (h : Blk w g t L) (h' : Blk w g' t' L') (ht : t ≠ t') : g ≠ g' := by
  intro e
  subst e
  unfold Blk at h h'
  rw [h] at h'
  simp at h'
  exact ht h'.2

theorem size2 {w : World} (h : Lib.Utf8Tabs 2 3 w) : 3 < w.heap.size := World.block_lt_of_cell? _ _ (h.2 0 (by decide)).1

namespace Fr
variable {f : Fx} {W W' : World} {s' s'' : ByteArray} {k k' cnt : Int} {st st' : St} {vE vO vE' vO' : Value} {vs vs' : List Value}

theorem same (h : Fr f W s' k cnt st vE vO vs) (hs : Same f.w0.heap.size W W') (h2 : 3 < f.w0.heap.size) : Fr f W' s' k cnt st vE vO vs :=
  ⟨h.bb.same hs, h.be.same hs, h.ba.same hs, h.bc.same hs, h.hB.same hs, h.hL.same hs, h.made.same hs, h.nob, tabs_of h.tabs (hs.low 2 (by omega)) (hs.low 3 (by omega)), (World.cell?_of_block (w := W) (hs.low 1 (by omega))).trans h.m0, h.chg.same hs⟩

/-- The next line has been asked for. -/
theorem nexts (h : Fr f W s' k cnt st vE vO vs) (ok : f.Ok) (hc : Chg (· = f.L) W W') (hL : Blk W' f.L 117 [.string s'', .int .i64 k']) : Fr f W' s'' k' cnt st vE vO vs := by
  have l := ok.l
  refine ⟨h.bb.chg hc (blk_ne h.bb h.hL (by decide)), h.be.chg hc (blk_ne h.be h.hL (by decide)), h.ba.chg hc (blk_ne h.ba h.hL (by decide)), h.bc.chg hc (blk_ne h.bc h.hL (by decide)), h.hB.chg hc (blk_ne h.hB h.hL (by decide)), hL, ?_, h.nob, ?_, ?_, ?_⟩
  · exact h.made.chg' hc (fun k e e' => own_blk h.made.oe h.hL (by decide) (by rw [e, e'])) (fun k e e' => h.made.ob_ne h.hL (by decide) (by rw [← e']; exact e))
  · have hs2 := size2 h.tabs
    exact tabs_of h.tabs (hc.block 2 (by omega) (by omega)) (hc.block 3 (by omega) (by omega))
  · exact hc.cell (by omega) h.m0
  · exact h.chg.trans (hc.mono fun k _ e => Or.inr (Or.inl e))

/-- The count has turned. -/
theorem counted (h : Fr f W s' k cnt st vE vO vs) (ok : f.Ok) (n : Int) : Fr f (W.setCell ⟨f.Bc, 0, none⟩ (.int .i64 n)) s' k n st vE vO vs := by
  have hc : Chg (· = f.Bc) W (W.setCell ⟨f.Bc, 0, none⟩ (.int .i64 n)) := (Chg.refl (· = f.Bc) W).setB f.Bc 0 rfl _
  have hset := h.bc.set 0 (.int .i64 n)
  have nw := ok.new
  have bs' := ok.base
  have hw0 := h.chg.size
  have lb := ok.b
  have ll := ok.l
  refine ⟨h.bb.chg hc (blk_ne h.bb h.bc (by decide)), h.be.chg hc (blk_ne h.be h.bc (by decide)), h.ba.chg hc ok.ne, hset, h.hB.chg hc (blk_ne h.hB h.bc (by decide)), h.hL.chg hc (blk_ne h.hL h.bc (by decide)), ?_, h.nob, ?_, ?_, ?_⟩
  · exact h.made.chg' hc (fun k e e' => own_blk h.made.oe h.bc (by decide) (by rw [e, e'])) (fun k e e' => (h.nob k e).1 e')
  · have hs2 := size2 h.tabs
    exact tabs_of h.tabs (hc.block 2 (by omega) (by omega)) (hc.block 3 (by omega) (by omega))
  · exact hc.cell (by omega) h.m0
  · exact h.chg.trans (hc.mono fun k _ e => Or.inr (Or.inr (by omega)))

/-- A word has been taken. -/
theorem took (h : Fr f W s' k cnt st vE vO vs) (ok : f.Ok) (hB : Blk W' f.B 123 [.int .i64 f.v, .int .i64 f.c, vE', vO']) (hM : Made W' f.base vE' vO' vs' st') (hc : Chg (fun k => k = f.B ∨ vE.ownBlock = some k ∨ vO.ownBlock = some k) W W') (ho : ∀ k, OB vs' vO' k → OB vs vO k ∨ W.heap.size ≤ k) : Fr f W' s' k cnt st' vE' vO' vs' := by
  have lb := ok.b
  have ll := ok.l
  have hbl := h.bc.lt
  have hal := h.ba.lt
  have key : ∀ {g : Nat} {t : TypeId} {L : List Value}, Blk W g t L → t ≠ 123 → t ≠ 24 → t ≠ 3 → ¬ (g = f.B ∨ vE.ownBlock = some g ∨ vO.ownBlock = some g) := by
    intro g t L hg h1 h2 h3 e
    rcases e with e | e | e
    · exact blk_ne hg h.hB h1 e
    · exact own_blk h.made.oe hg (fun e => h2 e.symm) e
    · exact own_blk h.made.oo hg (fun e => h3 e.symm) e
  have low : ∀ g, g ≤ 3 → ¬ (g = f.B ∨ vE.ownBlock = some g ∨ vO.ownBlock = some g) := by
    intro g hg e
    rcases e with e | e | e
    · omega
    · have := (h.made.oe.lt e).1; omega
    · have := (h.made.oo.lt e).1; omega
  have three : ∀ g, Blk W g 3 [.int .i64 cnt] ∨ Blk W g 3 [.int .i64 0] → (¬ OB vs vO g) → ¬ (g = f.B ∨ vE.ownBlock = some g ∨ vO.ownBlock = some g) := by
    intro g hg hn e
    rcases e with e | e | e
    · rcases hg with hg | hg
      · exact blk_ne hg h.hB (by decide) e
      · exact blk_ne hg h.hB (by decide) e
    · rcases hg with hg | hg
      · exact own_blk h.made.oe hg (by decide) e
      · exact own_blk h.made.oe hg (by decide) e
    · exact hn (OB.last e)
  refine ⟨h.bb.chg hc (key h.bb (by decide) (by decide) (by decide)), h.be.chg hc (key h.be (by decide) (by decide) (by decide)), h.ba.chg hc (three _ (Or.inr h.ba) (fun e => (h.nob _ e).2 rfl)), h.bc.chg hc (three _ (Or.inl h.bc) (fun e => (h.nob _ e).1 rfl)), hB, h.hL.chg hc (key h.hL (by decide) (by decide) (by decide)), hM, ?_, ?_, ?_, ?_⟩
  · intro k hk
    rcases ho k hk with h1 | h1
    · exact h.nob k h1
    · exact ⟨by omega, by omega⟩
  · have hs2 := size2 h.tabs
    exact tabs_of h.tabs (hc.block 2 (by omega) (low 2 (by omega))) (hc.block 3 (by omega) (low 3 (by omega)))
  · exact hc.cell (low 1 (by omega)) h.m0
  · refine h.chg.trans (hc.mono fun k _ e => ?_)
    rcases e with e | e | e
    · exact Or.inl e
    · exact Or.inr (Or.inr (h.made.oe.lt e).1)
    · exact Or.inr (Or.inr (h.made.oo.lt e).1)
end Fr

/-- The marks of the loops that are over. -/
def Mks (n0 n1 : Nat) (Ds : List Nat) (W : World) : Prop := Ds.Nodup ∧ ∀ D ∈ Ds, n0 ≤ D ∧ D < n1 ∧ W.heap[D]? = some (.deferred (some []))

def dmark (D : Nat) : Deferred := { target := .collected D, args := #[] }

theorem Mks.keeps {n0 n1 : Nat} {Ds : List Nat} {W W' : World} (h : Mks n0 n1 Ds W) (hk : KeepsOthers W W') : Mks n0 n1 Ds W' :=
  ⟨h.1, fun D hD => ⟨(h.2 D hD).1, (h.2 D hD).2.1, hk.same D _ (h.2 D hD).2.2 rfl⟩⟩
theorem Mks.mono {n0 n1 n2 : Nat} {Ds : List Nat} {W : World} (h : Mks n0 n1 Ds W) (hn : n1 ≤ n2) : Mks n0 n2 Ds W := ⟨h.1, fun D hD => ⟨(h.2 D hD).1, by have := (h.2 D hD).2.1; omega, (h.2 D hD).2.2⟩⟩
theorem Mks.cons {n0 n1 n2 D : Nat} {Ds : List Nat} {W : World} (h : Mks n0 n1 Ds W) (h0 : n0 ≤ n1) (h1 : n1 ≤ D) (h2 : D < n2) (hD : W.heap[D]? = some (.deferred (some []))) : Mks n0 n2 (D :: Ds) W := by
  refine ⟨List.nodup_cons.2 ⟨fun e => by have := (h.2 D e).2.1; omega, h.1⟩, fun E hE => ?_⟩
  rcases List.mem_cons.1 hE with rfl | hE
  · exact ⟨by omega, h2, hD⟩
  · exact ⟨(h.2 E hE).1, by have := (h.2 E hE).2.1; omega, (h.2 E hE).2.2⟩
theorem Mks.own {n0 n1 : Nat} {Ds : List Nat} {W W' : World} {row : Option Nat} (h : Mks n0 n1 Ds W) (hg : W.grownBy W' row) (hr : ∀ r, row = some r → n1 ≤ r) : Mks n0 n1 Ds W' :=
  ⟨h.1, fun D hD => ⟨(h.2 D hD).1, (h.2 D hD).2.1, (hg.block D (Array.getElem?_eq_some_iff.1 (h.2 D hD).2.2).1 (fun e => by have := hr D e.symm; have := (h.2 D hD).2.1; omega)).trans (h.2 D hD).2.2⟩⟩

/-- A function leaves over its marks. -/
theorem leave_marks {F : Fence} {n : Nat} {P : Program} {fn : Func} {tmps : Array Value} {R : Ending → World → Prop} {n0 n1 : Nat} (Ds : List Nat) (W : World) (hM : Mks n0 n1 Ds W)
    (h : ∀ W', Same n0 W W' → LeavesInM F n P fn tmps R [] .returning W') : LeavesInM F n P fn tmps R (Ds.map dmark) .returning W := by
  induction Ds generalizing W with
  | nil => exact h W (Same.refl _ _)
  | cons D Ds ih =>
    obtain ⟨hnd, hall⟩ := hM
    have hD := hall D (by simp)
    have hDs := List.nodup_cons.1 hnd
    refine ⟨by simp, .inl ⟨D, _, rfl, run_takeDeferred hD.2.2, ?_⟩⟩
    have hg := grownBy_putObj' W D (.deferred none)
    refine ih _ ⟨hDs.2, fun E hE => ?_⟩ (fun W' hs => h W' (Same.trans ⟨hg.os, hg.tape, hg.output, hg.size, fun i o hi ho => (hg.block i (Array.getElem?_eq_some_iff.1 hi).1 (fun e => by have e' : i = D := (by simpa using e); rw [e', hD.2.2] at hi; cases hi; cases ho)).trans hi, fun i hi => hg.block i (by have := (Array.getElem?_eq_some_iff.1 hD.2.2).1; omega) (fun e => by have e' : i = D := (by simpa using e); omega)⟩ hs))
    have hE' := hall E (by simp [hE])
    refine ⟨hE'.1, hE'.2.1, (hg.block E (Array.getElem?_eq_some_iff.1 hE'.2.2).1 ?_).trans hE'.2.2⟩
    intro e
    have : E = D := by simpa using e
    exact hDs.1 (this ▸ hE)
end Go.Proofs.YtlodenfdcckemaaDoor
