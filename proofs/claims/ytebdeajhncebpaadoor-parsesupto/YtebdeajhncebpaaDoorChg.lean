/-
  What a call has turned, by blocks.
-/
import Derived.Test.YtebdeajhncebpaaDoorRows1
import Derived.RangeFuncOwn
namespace Go.Proofs.YtebdeajhncebpaaDoor
open Go.RowKit

/-- Of the blocks that were there only those in S have turned. -/
structure Chg (S : Nat → Prop) (w w' : World) : Prop where
  os : w'.os = w.os
  tape : w'.tape = w.tape
  output : w'.output = w.output
  size : w.heap.size ≤ w'.heap.size
  block : ∀ k, k < w.heap.size → ¬ S k → w'.heap[k]? = w.heap[k]?
  others : ∀ (k : Nat) (o : Obj), w.heap[k]? = some o → o.isCells = false → w'.heap[k]? = some o

theorem Chg.refl (S : Nat → Prop) (w : World) : Chg S w w := ⟨rfl, rfl, rfl, Nat.le_refl _, fun _ _ _ => rfl, fun _ _ h _ => h⟩
theorem Chg.trans {S : Nat → Prop} {a b c : World} (h : Chg S a b) (k : Chg S b c) : Chg S a c :=
  ⟨k.os.trans h.os, k.tape.trans h.tape, k.output.trans h.output, Nat.le_trans h.size k.size, fun i hi hn => (k.block i (Nat.lt_of_lt_of_le hi h.size) hn).trans (h.block i hi hn), fun i o hi ho => k.others i o (h.others i o hi ho) ho⟩
theorem Chg.mono {S T : Nat → Prop} {a b : World} (h : Chg S a b) (hs : ∀ k, k < a.heap.size → S k → T k) : Chg T a b :=
  ⟨h.os, h.tape, h.output, h.size, fun i hi hn => h.block i hi (fun e => hn (hs i hi e)), h.others⟩
theorem Chg.of_below {S : Nat → Prop} {a b : World} (h : Below a.heap.size a b) : Chg S a b := ⟨h.os, h.tape, h.output, h.size, fun i hi _ => h.block i hi, fun i _ hi _ => (h.block i (Array.getElem?_eq_some_iff.1 hi).1).trans hi⟩
theorem Chg.of_grown {S : Nat → Prop} {a b : World} {r : Option Nat} (h : a.grownBy b r) (hr : ∀ k, r = some k → S k) (hc : ∀ k, r = some k → ∀ o : Obj, a.heap[k]? = some o → o.isCells = true) : Chg S a b :=
  ⟨h.os, h.tape, h.output, h.size, fun i hi hn => h.block i hi (fun e => hn (hr i e.symm)), fun i o hi ho => (h.block i (Array.getElem?_eq_some_iff.1 hi).1 (fun e => by have := hc i e.symm o hi; rw [ho] at this; cases this)).trans hi⟩
theorem Chg.set {S : Nat → Prop} {a b : World} (h : Chg S a b) {p : Addr} (hp : S p.block) (v : Value) : Chg S a (b.setCell p v) :=
  ⟨h.os, h.tape, h.output, by simpa [World.setCell] using h.size, fun i hi hn => (Below.heap_setCell b p v i (fun e => hn (by rw [e]; exact hp))).trans (h.block i hi hn), fun i o hi ho => (KeepsOthers.setCell b p v).same i o (h.others i o hi ho) ho⟩
theorem Chg.below {S : Nat → Prop} {B : Nat} {a b : World} (h : Chg S a b) (hB : B ≤ a.heap.size) (hs : ∀ k, S k → B ≤ k) : Below B a b :=
  ⟨h.os, h.tape, h.output, h.size, fun i hi => h.block i (by omega) (fun e => by have := hs i e; omega)⟩

theorem Own.chg {w w' : World} {base : Nat} {t : TypeId} {v : Value} {xs : List Value} {S : Nat → Prop} (h : Own w base t v xs) (hc : Chg S w w') (hn : ∀ k, v.ownBlock = some k → ¬ S k) : Own w' base t v xs := by
  rcases h with h | ⟨g, cap, rfl, h1, h2, hr⟩
  · exact Or.inl h
  · exact Or.inr ⟨g, cap, rfl, h1, h2, hr.of_block (hc.block g hr.lt (hn g rfl))⟩


theorem Own.cells {w : World} {base : Nat} {t : TypeId} {v : Value} {xs : List Value} (h : Own w base t v xs) {k : Nat} (e : v.ownBlock = some k) (o : Obj) (ho : w.heap[k]? = some o) : o.isCells = true := by
  rcases h with ⟨rfl, _⟩ | ⟨g, cap, rfl, _, _, r, hr, _⟩
  · simp [Value.ownBlock] at e
  · simp [Value.ownBlock] at e
    subst e
    unfold Blk at hr
    rw [hr] at ho
    cases ho
    rfl
theorem Chg.keeps {S : Nat → Prop} {a b : World} (h : Chg S a b) : KeepsOthers a b := ⟨h.size, h.others⟩
theorem Chg.setB {S : Nat → Prop} {a b : World} (h : Chg S a b) (B i : Nat) (hp : S B) (v : Value) : Chg S a (b.setCell ⟨B, i, none⟩ v) := h.set (p := ⟨B, i, none⟩) hp v
theorem Blk.chg {w w' : World} {g : Nat} {t : TypeId} {L : List Value} {S : Nat → Prop} (h : Blk w g t L) (hc : Chg S w w') (hn : ¬ S g) : Blk w' g t L := h.of_block (hc.block g h.lt hn)
theorem Chg.drewN {S : Nat → Prop} {a b : World} (h : Chg S a b) (n : Nat) : Chg S a (b.drewN n) := ⟨h.os, h.tape, h.output, h.size, h.block, h.others⟩
theorem Chg.drew {S : Nat → Prop} {a b : World} (h : Chg S a b) : Chg S a b.drew := ⟨h.os, h.tape, h.output, h.size, h.block, h.others⟩
theorem Chg.cell {S : Nat → Prop} {a b : World} (h : Chg S a b) {g i : Nat} {v : Value} (hg : ¬ S g) (hc : a.cell? ⟨g, i, none⟩ = some v) : b.cell? ⟨g, i, none⟩ = some v := by
  have hlt : g < a.heap.size := World.block_lt_of_cell? _ _ hc
  exact (World.cell?_of_block (w := a) (h.block g hlt hg)).trans hc
end Go.Proofs.YtebdeajhncebpaaDoor
