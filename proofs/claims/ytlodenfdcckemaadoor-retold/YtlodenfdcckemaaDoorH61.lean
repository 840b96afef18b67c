/-
  Clauses that are being made, in memory.
-/
import Derived.Test.YtlodenfdcckemaaDoorH60
namespace Go.Proofs.YtlodenfdcckemaaDoor
open Go.RowKit

/-- The blocks of the clauses. -/
def OB (vs : List Value) (vO : Value) (k : Nat) : Prop := ∃ y ∈ vs ++ [vO], y.ownBlock = some k
theorem OB.last {vs : List Value} {vO : Value} {k : Nat} (e : vO.ownBlock = some k) : OB vs vO k := ⟨vO, by simp, e⟩

structure Made (w : World) (base : Nat) (vE vO : Value) (vs : List Value) (s : St) : Prop where
  oe : Own w base 24 vE vs
  len : vs.length = s.ended.length
  ls : ∀ i, i < vs.length → Own w base 3 (vs.getD i undef) (ints (s.ended.getD i []))
  oo : Own w base 3 vO (ints s.opened)
  nd : ((vs ++ [vO]).filterMap Value.ownBlock).Nodup

namespace Made
variable {w w' : World} {base : Nat} {vE vO : Value} {vs : List Value} {s : St}

theorem start (w : World) (base : Nat) : Made w base (.slice none 0 0) (.slice none 0 0) [] ⟨[], []⟩ :=
  ⟨Own.nil _ _ _, rfl, fun i hi => absurd hi (by simp), Own.nil _ _ _, List.nodup_nil⟩

theorem chg {S : Nat → Prop} (h : Made w base vE vO vs s) (hc : Chg S w w') (hn : ∀ k, base ≤ k → k < w.heap.size → ¬ S k) : Made w' base vE vO vs s :=
  ⟨h.oe.chg hc (fun k e => hn k (h.oe.lt e).1 (h.oe.lt e).2), h.len, fun i hi => (h.ls i hi).chg hc (fun k e => hn k ((h.ls i hi).lt e).1 ((h.ls i hi).lt e).2), h.oo.chg hc (fun k e => hn k (h.oo.lt e).1 (h.oo.lt e).2), h.nd⟩

theorem chg' {S : Nat → Prop} (h : Made w base vE vO vs s) (hc : Chg S w w') (hE : ∀ k, vE.ownBlock = some k → ¬ S k) (hn : ∀ k, OB vs vO k → ¬ S k) : Made w' base vE vO vs s :=
  ⟨h.oe.chg hc (fun k e => hE k e), h.len, fun i hi => (h.ls i hi).chg hc (fun k e => hn k ⟨vs[i], List.mem_append.2 (Or.inl (List.getElem_mem hi)), by rw [getD_lt _ _ _ hi] at e; exact e⟩), h.oo.chg hc (fun k e => hn k (OB.last e)), h.nd⟩

theorem ob_lt (h : Made w base vE vO vs s) {k : Nat} (e : OB vs vO k) : base ≤ k ∧ k < w.heap.size := by
  obtain ⟨y, hy, e⟩ := e
  rcases List.mem_append.1 hy with hy | hy
  · obtain ⟨i, hi, rfl⟩ := List.getElem_of_mem hy
    have := h.ls i hi
    rw [getD_lt _ _ _ hi] at this
    exact this.lt e
  · simp at hy; subst hy; exact h.oo.lt e

/-- No block of the clauses has another type. -/
theorem ob_ne {B : Nat} {t : TypeId} {L : List Value} (h : Made w base vE vO vs s) (hB : Blk w B t L) (ht : t ≠ 3) : ¬ OB vs vO B := by
  rintro ⟨y, hy, e⟩
  rcases List.mem_append.1 hy with hy | hy
  · obtain ⟨i, hi, rfl⟩ := List.getElem_of_mem hy
    have := h.ls i hi
    rw [getD_lt _ _ _ hi] at this
    exact own_blk this hB (fun e => ht e.symm) e
  · simp at hy; subst hy; exact own_blk h.oo hB (fun e => ht e.symm) e

theorem below' (h : Made w base vE vO vs s) (hb : Below w.heap.size w w') : Made w' base vE vO vs s := h.chg (S := fun _ => False) (Chg.of_below hb) (fun _ _ _ e => e)

theorem drewN (h : Made w base vE vO vs s) (n : Nat) : Made (w.drewN n) base vE vO vs s := h.chg (S := fun _ => False) ((Chg.refl _ _).drewN n) (fun _ _ _ e => e)

theorem open_ne (h : Made w base vE vO vs s) {i : Nat} (hi : i < vs.length) {k : Nat} (e : vO.ownBlock = some k) : (vs.getD i undef).ownBlock ≠ some k := by
  intro e'
  have hnd := h.nd
  rw [List.filterMap_append, List.nodup_append] at hnd
  refine hnd.2.2 k ?_ k (by simp [e]) rfl
  rw [List.mem_filterMap]
  exact ⟨_, by rw [getD_lt _ _ _ hi]; exact List.getElem_mem hi, e'⟩

/-- A number more in the open clause. -/
theorem more {B : Nat} {t : TypeId} {L : List Value} {x : Int} {g cap : Nat} (h : Made w base vE vO vs s) (hB : Blk w B t L) (ht : t ≠ 3 ∧ t ≠ 24)
    (hown : Own w' base 3 (.slice (some ⟨g, 0, none⟩) (s.opened.length + 1) cap) (ints s.opened ++ [.int .i64 x])) (hC : Chg (fun k => vO.ownBlock = some k) w w') (hat : vO.ownBlock = some g ∨ w.heap.size ≤ g) :
    Made w' base vE (.slice (some ⟨g, 0, none⟩) (s.opened.length + 1) cap) vs ⟨s.ended, s.opened ++ [x]⟩ ∧ Blk w' B t L ∧ (∀ k, OB vs (.slice (some ⟨g, 0, none⟩) (s.opened.length + 1) cap) k → OB vs vO k ∨ w.heap.size ≤ k) := by
  refine ⟨⟨h.oe.chg hC (fun k e e' => own_ne h.oe h.oo (by decide) e e'), h.len, fun i hi => (h.ls i hi).chg hC (fun k e e' => h.open_ne hi e' e), ?_, ?_⟩, ?_, ?_⟩
  · simpa [ints] using hown
  · have hnd := h.nd
    rw [List.filterMap_append, List.nodup_append] at hnd ⊢
    refine ⟨hnd.1, by simp [Value.ownBlock], ?_⟩
    intro a ha b hb
    simp [Value.ownBlock] at hb
    subst hb
    rcases hat with e | e
    · exact hnd.2.2 a ha b (by simp [e])
    · obtain ⟨v, hv, hva⟩ := List.mem_filterMap.1 ha
      obtain ⟨i, hi, rfl⟩ := List.getElem_of_mem hv
      have := ((h.ls i hi).lt (g := a) (by rw [getD_lt _ _ _ hi]; exact hva)).2
      omega
  · exact hB.chg hC (fun e => own_blk h.oo hB (fun e => ht.1 e.symm) e)
  · rintro k ⟨y, hy, e⟩
    rcases List.mem_append.1 hy with hy | hy
    · exact Or.inl ⟨y, by simp [hy], e⟩
    · simp at hy
      rw [hy] at e
      simp [Value.ownBlock] at e
      subst e
      exact hat.imp (fun e => OB.last e) (fun e => e)

/-- The open clause has ended. -/
theorem ends {B : Nat} {t : TypeId} {L : List Value} {g cap : Nat} (h : Made w base vE vO vs s) (hB : Blk w B t L) (ht : t ≠ 3 ∧ t ≠ 24)
    (hown : Own w' base 24 (.slice (some ⟨g, 0, none⟩) (vs.length + 1) cap) (vs ++ [vO])) (hC : Chg (fun k => vE.ownBlock = some k) w w') :
    Made w' base (.slice (some ⟨g, 0, none⟩) (vs.length + 1) cap) (.slice none 0 0) (vs ++ [vO]) ⟨s.ended ++ [s.opened], []⟩ ∧ Blk w' B t L ∧ (∀ k, OB (vs ++ [vO]) (.slice none 0 0) k → OB vs vO k) := by
  have hl := h.len
  refine ⟨⟨hown, by simp [hl], fun i hi => ?_, Own.nil _ _ _, ?_⟩, ?_, ?_⟩
  · by_cases hlt : i < vs.length
    · have := (h.ls i hlt).chg hC (fun k e e' => own_ne h.oe (h.ls i hlt) (by decide) e' e)
      rw [getD_lt _ _ _ hi, List.getElem_append_left hlt, getD_lt _ _ _ (by simp; omega), List.getElem_append_left (by omega)]
      rw [getD_lt _ _ _ hlt, getD_lt _ _ _ (by omega)] at this
      exact this
    · have hi' : i = vs.length := by simp at hi; omega
      subst hi'
      have := h.oo.chg hC (fun k e e' => own_ne h.oe h.oo (by decide) e' e)
      rw [getD_lt _ _ _ hi, getD_lt _ _ _ (by simp; omega)]
      simpa [hl] using this
  · have hnd := h.nd
    rw [List.filterMap_append, show List.filterMap Value.ownBlock [Value.slice none 0 0] = [] from rfl, List.append_nil]
    exact hnd
  · exact hB.chg hC (fun e => own_blk h.oe hB (fun e => ht.2 e.symm) e)
  · rintro k ⟨y, hy, e⟩
    rcases List.mem_append.1 hy with hy | hy
    · exact ⟨y, hy, e⟩
    · simp at hy
      rw [hy] at e
      simp [Value.ownBlock] at e

end Made
end Go.Proofs.YtlodenfdcckemaaDoor
