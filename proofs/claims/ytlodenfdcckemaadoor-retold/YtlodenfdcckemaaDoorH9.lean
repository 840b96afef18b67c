/-
  What a call has turned, by blocks.
-/
import Derived.Test.YtlodenfdcckemaaDoorH7
import Derived.RangeFuncOwn
import Derived.Laws.IdiomCopy
namespace Go.Proofs.YtlodenfdcckemaaDoor
open Go.RowKit

/-- Of the blocks that were there only those in S have turned. -/
structure Chg (S : Nat → Prop) (w w' : World) : Prop where
  os : w'.os = w.os
  tape : w'.tape = w.tape
  output : w'.output = w.output
  size : w.heap.size ≤ w'.heap.size
  block : ∀ k, k < w.heap.size → ¬ S k → w'.heap[k]? = w.heap[k]?
  others : ∀ (k : Nat) (o : Obj), w.heap[k]? = some o → o.isCells = false → w'.heap[k]? = some o

theorem Chg.refl (S : Nat → Prop) (w : World) : Chg S w w := ⟨rfl, rfl, rfl, Nat.le_refl _, fun _ _ _ => rfl, fun _ _ h _ => h⟩
theorem Chg.trans {S : Nat → Prop} {a b c : World} (h : Chg S a b) (k : Chg S b c) : Chg S a c :=
  ⟨k.os.trans h.os, k.tape.trans h.tape, k.output.trans h.output, Nat.le_trans h.size k.size, fun i hi hn => (k.block i (Nat.lt_of_lt_of_le hi h.size) hn).trans (h.block i hi hn), fun i o hi ho => k.others i o (h.others i o hi ho) ho⟩
theorem Chg.mono {S T : Nat → Prop} {a b : World} (h : Chg S a b) (hs : ∀ k, k < a.heap.size → S k → T k) : Chg T a b :=
  ⟨h.os, h.tape, h.output, h.size, fun i hi hn => h.block i hi (fun e => hn (hs i hi e)), h.others⟩
theorem Chg.of_below {S : Nat → Prop} {a b : World} (h : Below a.heap.size a b) : Chg S a b := ⟨h.os, h.tape, h.output, h.size, fun i hi _ => h.block i hi, fun i _ hi _ => (h.block i (Array.getElem?_eq_some_iff.1 hi).1).trans hi⟩
theorem Chg.of_grown {S : Nat → Prop} {a b : World} {r : Option Nat} (h : a.grownBy b r) (hr : ∀ k, r = some k → S k) (hc : ∀ k, r = some k → ∀ o : Obj, a.heap[k]? = some o → o.isCells = true) : Chg S a b :=
  ⟨h.os, h.tape, h.output, h.size, fun i hi hn => h.block i hi (fun e => hn (hr i e.symm)), fun i o hi ho => (h.block i (Array.getElem?_eq_some_iff.1 hi).1 (fun e => by have := hc i e.symm o hi; rw [ho] at this; cases this)).trans hi⟩
theorem Chg.set {S : Nat → Prop} {a b : World} (h : Chg S a b) {p : Addr} (hp : S p.block) (v : Value) : Chg S a (b.setCell p v) :=
  ⟨h.os, h.tape, h.output, by simpa [World.setCell] using h.size, fun i hi hn => (Below.heap_setCell b p v i (fun e => hn (by rw [e]; exact hp))).trans (h.block i hi hn), fun i o hi ho => (KeepsOthers.setCell b p v).same i o (h.others i o hi ho) ho⟩
theorem Chg.below {S : Nat → Prop} {B : Nat} {a b : World} (h : Chg S a b) (hB : B ≤ a.heap.size) (hs : ∀ k, S k → B ≤ k) : Below B a b :=
  ⟨h.os, h.tape, h.output, h.size, fun i hi => h.block i (by omega) (fun e => by have := hs i e; omega)⟩

theorem Own.chg {w w' : World} {base : Nat} {t : TypeId} {v : Value} {xs : List Value} {S : Nat → Prop} (h : Own w base t v xs) (hc : Chg S w w') (hn : ∀ k, v.ownBlock = some k → ¬ S k) : Own w' base t v xs := by
  rcases h with h | ⟨g, cap, rfl, h1, h2, hr⟩
  · exact Or.inl h
  · exact Or.inr ⟨g, cap, rfl, h1, h2, hr.of_block (hc.block g hr.lt (hn g rfl))⟩


theorem Own.cells {w : World} {base : Nat} {t : TypeId} {v : Value} {xs : List Value} (h : Own w base t v xs) {k : Nat} (e : v.ownBlock = some k) (o : Obj) (ho : w.heap[k]? = some o) : o.isCells = true := by
  rcases h with ⟨rfl, _⟩ | ⟨g, cap, rfl, _, _, r, hr, _⟩
  · simp [Value.ownBlock] at e
  · simp [Value.ownBlock] at e
    subst e
    unfold Blk at hr
    rw [hr] at ho
    cases ho
    rfl
theorem Chg.keeps {S : Nat → Prop} {a b : World} (h : Chg S a b) : KeepsOthers a b := ⟨h.size, h.others⟩
theorem Chg.setB {S : Nat → Prop} {a b : World} (h : Chg S a b) (B i : Nat) (hp : S B) (v : Value) : Chg S a (b.setCell ⟨B, i, none⟩ v) := h.set (p := ⟨B, i, none⟩) hp v
theorem Blk.chg {w w' : World} {g : Nat} {t : TypeId} {L : List Value} {S : Nat → Prop} (h : Blk w g t L) (hc : Chg S w w') (hn : ¬ S g) : Blk w' g t L := h.of_block (hc.block g h.lt hn)
theorem Chg.drewN {S : Nat → Prop} {a b : World} (h : Chg S a b) (n : Nat) : Chg S a (b.drewN n) := ⟨h.os, h.tape, h.output, h.size, h.block, h.others⟩
theorem Chg.drew {S : Nat → Prop} {a b : World} (h : Chg S a b) : Chg S a b.drew := ⟨h.os, h.tape, h.output, h.size, h.block, h.others⟩
theorem Chg.cell {S : Nat → Prop} {a b : World} (h : Chg S a b) {g i : Nat} {v : Value} (hg : ¬ S g) (hc : a.cell? ⟨g, i, none⟩ = some v) : b.cell? ⟨g, i, none⟩ = some v := by
  have hlt : g < a.heap.size := World.block_lt_of_cell? _ _ hc
  exact (World.cell?_of_block (w := a) (h.block g hlt hg)).trans hc
abbrev ints (zs : List Int) : List Value := zs.map (Value.int .i64)

/-- Two rows of other types lie in other blocks. -/
theorem own_ne {w : World} {b b' : Nat} {t t' : TypeId} {v v' : Value} {xs ys : List Value} (h : Own w b t v xs) (h' : Own w b' t' v' ys) (ht : t ≠ t') {k : Nat} (e : v.ownBlock = some k) : v'.ownBlock ≠ some k := by
  intro e'
  rcases h with ⟨rfl, _⟩ | ⟨g, cap, rfl, _, _, r, hr, _⟩
  · simp [Value.ownBlock] at e
  · rcases h' with ⟨rfl, _⟩ | ⟨g', cap', rfl, _, _, r', hr', _⟩
    · simp [Value.ownBlock] at e'
    · simp [Value.ownBlock] at e e'
      subst e; subst e'
      unfold Blk at hr hr'
      rw [hr] at hr'
      simp at hr'
      exact ht hr'.2

theorem own_blk {w : World} {b B : Nat} {t t' : TypeId} {v : Value} {xs L : List Value} (h : Own w b t v xs) (h' : Blk w B t' L) (ht : t ≠ t') : v.ownBlock ≠ some B := by
  intro e
  rcases h with ⟨rfl, _⟩ | ⟨g, cap, rfl, _, _, r, hr, _⟩
  · simp [Value.ownBlock] at e
  · simp [Value.ownBlock] at e
    subst e
    unfold Blk at hr h'
    rw [hr] at h'
    simp at h'
    exact ht h'.2

theorem own_of {w : World} {base g cap n : Nat} {t : TypeId} {xs : List Value} (h : w.ownsRow base t 1 (.slice (some ⟨g, 0, none⟩) n cap) n xs) : Own w base t (.slice (some ⟨g, 0, none⟩) n cap) xs := by
  obtain ⟨hr, hb, h63, hl⟩ := row1_of h
  exact Or.inr ⟨g, cap, by rw [hl], hb, h63, hr⟩

theorem alloc_below (w : World) (o : Obj) : Below w.heap.size w (w.alloc o) := (Below.refl _ _).alloc (Nat.le_refl _) o
theorem alloc_size (w : World) (o : Obj) : (w.alloc o).heap.size = w.heap.size + 1 := by simp

/-- The second step's set may hold blocks that the first world has not. -/
theorem Chg.trans2 {S T : Nat → Prop} {a b c : World} (h : Chg S a b) (k : Chg T b c) (hT : ∀ i, i < a.heap.size → T i → S i) : Chg S a c :=
  ⟨k.os.trans h.os, k.tape.trans h.tape, k.output.trans h.output, Nat.le_trans h.size k.size, fun i hi hn => (k.block i (Nat.lt_of_lt_of_le hi h.size) (fun e => hn (hT i hi e))).trans (h.block i hi hn), fun i o hi ho => k.others i o (h.others i o hi ho) ho⟩

theorem Row1.setOver {w : World} {g : Nat} {t : TypeId} {cap : Nat} {xs : List Value} (h : Row1 w g t cap xs) {i : Nat} (hi : xs.length ≤ i) (v : Value) : Row1 (w.setCell ⟨g, i, none⟩ v) g t cap xs := by
  obtain ⟨r, hr, hl⟩ := h
  have := hr.set i v
  rw [List.set_append_right _ _ hi] at this
  exact ⟨_, this, by simpa using hl⟩

theorem Row1.setOvers {g : Nat} {t : TypeId} {cap : Nat} {xs : List Value} : ∀ (vs : List Value) (o : Nat) (w : World), Row1 w g t cap xs → xs.length ≤ o → Row1 (w.setCells g o vs) g t cap xs
  | [], _, _, h, _ => h
  | v :: r, o, w, h, ho => by
    rw [World.setCells]
    exact Row1.setOvers r (o + 1) _ (h.setOver ho v) (by omega)

theorem Chg.setsB {S : Nat → Prop} {a : World} {g : Nat} (hg : S g) : ∀ (vs : List Value) (o : Nat) (b : World), Chg S a b → Chg S a (b.setCells g o vs)
  | [], _, _, h => h
  | v :: r, o, b, h => by
    rw [World.setCells]
    exact Chg.setsB hg r (o + 1) _ (h.setB g o hg v)

theorem Row1.less' {w : World} {g : Nat} {t : TypeId} {cap : Nat} {xs : List Value} (h : Row1 w g t cap xs) (n : Nat) : Row1 w g t cap (xs.take n) := by
  obtain ⟨r, hr, hl⟩ := h
  refine ⟨xs.drop n ++ r, ?_, ?_⟩
  · rw [← List.append_assoc, List.take_append_drop]; exact hr
  · rw [← List.append_assoc, List.take_append_drop]; exact hl
end Go.Proofs.YtlodenfdcckemaaDoor
