/-
  Lists that a call has made; changes of blocks of some types alone.
-/
import Derived.Test.YtlodenfdcckemaaGreatDoorChg
namespace Go.Proofs.YtlodenfdcckemaaGreatDoor
open Go.RowKit

/-- Only blocks of some types have turned. -/
def TChg (Ts : TypeId → Prop) (w w' : World) : Prop := ∃ S, Chg S w w' ∧ ∀ b, S b → b < w.heap.size → ∃ t L, Blk w b t L ∧ Ts t

namespace TChg
variable {Ts : TypeId → Prop} {w w' : World}
theorem of_below (h : Below w.heap.size w w') : TChg Ts w w' := ⟨fun _ => False, Chg.of_below h, fun _ e => e.elim⟩
theorem size (h : TChg Ts w w') : w.heap.size ≤ w'.heap.size := h.elim fun _ hs => hs.1.size
theorem blk (h : TChg Ts w w') {g : Nat} {t : TypeId} {L : List Value} (hB : Blk w g t L) (ht : ¬ Ts t) : Blk w' g t L := by
  obtain ⟨S, hc, hS⟩ := h
  refine hB.chg hc fun e => ?_
  obtain ⟨t', L', hB', h'⟩ := hS g e hB.lt
  unfold Blk at hB hB'
  rw [hB] at hB'
  simp at hB'
  exact ht (hB'.2 ▸ h')
theorem own (h : TChg Ts w w') {b : Nat} {t : TypeId} {v : Value} {xs : List Value} (hO : Own w b t v xs) (ht : ¬ Ts t) : Own w' b t v xs := by
  rcases hO with h0 | ⟨g, cap, rfl, h1, h2, r, hr, hl⟩
  · exact Or.inl h0
  · exact Or.inr ⟨g, cap, rfl, h1, h2, r, h.blk hr ht, hl⟩
theorem mono {Us : TypeId → Prop} (h : TChg Ts w w') (hs : ∀ t, Ts t → Us t) : TChg Us w w' := by
  obtain ⟨S, hc, hS⟩ := h
  exact ⟨S, hc, fun b hb hl => by obtain ⟨t, L, h1, h2⟩ := hS b hb hl; exact ⟨t, L, h1, hs t h2⟩⟩
end TChg

theorem Own.blkOf {w : World} {b : Nat} {t : TypeId} {v : Value} {xs : List Value} (h : Own w b t v xs) {k : Nat} (e : v.ownBlock = some k) : ∃ L, Blk w k t L := by
  rcases h with ⟨rfl, _⟩ | ⟨g, cap, rfl, _, _, r, hr, _⟩
  · simp [Value.ownBlock] at e
  · simp [Value.ownBlock] at e; subst e; exact ⟨_, hr⟩
theorem Own.lower {w : World} {b b' : Nat} {t : TypeId} {v : Value} {xs : List Value} (h : Own w b t v xs) (hb : b' ≤ b) : Own w b' t v xs := by
  rcases h with h0 | ⟨g, cap, rfl, h1, h2, hr⟩
  · exact Or.inl h0
  · exact Or.inr ⟨g, cap, rfl, Nat.le_trans hb h1, h2, hr⟩

theorem Tryz.infoInts : (Tryz.prog.info? 32).map (fun i => (i.zero, i.size, i.bytes)) = some (some (.slice none 0 0), 1, 24) := by kernel_rfl

/-- Lists that a call has made: each its own block, all from base on, no two in one. -/
structure MadeS (w : World) (base : Nat) (v : Value) (vs : List Value) (cs : List (List Int)) : Prop where
  oe : Own w base 32 v vs
  len : vs.length = cs.length
  ls : ∀ i, i < vs.length → Own w base 3 (vs.getD i undef) (ints (cs.getD i []))
  nd : (vs.filterMap Value.ownBlock).Nodup

theorem MadeS.start (w : World) (base : Nat) : MadeS w base (.slice none 0 0) [] [] := ⟨Own.nil _ _ _, rfl, fun i hi => absurd hi (by simp), List.nodup_nil⟩
theorem MadeS.tchg {w w' : World} {base : Nat} {v : Value} {vs : List Value} {cs : List (List Int)} {Ts : TypeId → Prop} (h : MadeS w base v vs cs) (ht : TChg Ts w w') (h1 : ¬ Ts 32) (h2 : ¬ Ts 3) : MadeS w' base v vs cs := ⟨ht.own h.oe h1, h.len, fun i hi => ht.own (h.ls i hi) h2, h.nd⟩
theorem MadeS.below' {w w' : World} {base : Nat} {v : Value} {vs : List Value} {cs : List (List Int)} (h : MadeS w base v vs cs) (hb : Below w.heap.size w w') : MadeS w' base v vs cs := ⟨h.oe.below' hb, h.len, fun i hi => (h.ls i hi).below' hb, h.nd⟩
theorem MadeS.lower {w : World} {b b' : Nat} {v : Value} {vs : List Value} {cs : List (List Int)} (h : MadeS w b v vs cs) (hb : b' ≤ b) : MadeS w b' v vs cs := ⟨h.oe.lower hb, h.len, fun i hi => (h.ls i hi).lower hb, h.nd⟩

/-- The blocks of lists that lie below some place. -/
theorem MadeS.lt {w : World} {base : Nat} {v : Value} {vs : List Value} {cs : List (List Int)} (h : MadeS w base v vs cs) {k : Nat} (hk : k ∈ vs.filterMap Value.ownBlock) : base ≤ k ∧ k < w.heap.size := by
  obtain ⟨y, hy, e⟩ := List.mem_filterMap.1 hk
  obtain ⟨i, hi, rfl⟩ := List.getElem_of_mem hy
  have := h.ls i hi
  rw [getD_lt _ _ _ hi] at this
  exact this.lt e

theorem MadeS.more {w w1 w' : World} {base g cap n : Nat} {v x : Value} {vs : List Value} {cs : List (List Int)} {c : List Int} (h : MadeS w base v vs cs) (hb : Below w.heap.size w w1) (hx : Own w1 w.heap.size 3 x (ints c)) (hbase : base ≤ w.heap.size) (hown : Own w' base 32 (.slice (some ⟨g, 0, none⟩) n cap) (vs ++ [x])) (hC : Chg (fun k => v.ownBlock = some k) w1 w') : MadeS w' base (.slice (some ⟨g, 0, none⟩) n cap) (vs ++ [x]) (cs ++ [c]) := by
  have hl := h.len
  have h1 := h.below' hb
  refine ⟨hown, by simp [hl], fun i hi => ?_, ?_⟩
  · by_cases hlt : i < vs.length
    · have := (h1.ls i hlt).chg hC (fun k e e' => own_ne h1.oe (h1.ls i hlt) (by decide) e' e)
      rw [getD_lt _ _ _ hi, List.getElem_append_left hlt, getD_lt _ _ _ (by simp; omega), List.getElem_append_left (by omega)]
      rw [getD_lt _ _ _ hlt, getD_lt _ _ _ (by omega)] at this
      exact this
    · have hi' : i = vs.length := by simp at hi; omega
      subst hi'
      have := (hx.lower hbase).chg hC (fun k e e' => own_ne h1.oe hx (by decide) e' e)
      rw [getD_lt _ _ _ hi, getD_lt _ _ _ (by simp; omega)]
      simpa [hl] using this
  · rw [List.filterMap_append, List.nodup_append]
    refine ⟨h.nd, ?_, fun a ha b hb' => ?_⟩
    · cases e : x.ownBlock with
      | none => simp [e]
      | some k => simp [e]
    · have h2 := (h.lt ha).2
      obtain ⟨y, hy, e⟩ := List.mem_filterMap.1 hb'
      rw [List.mem_singleton] at hy
      subst hy
      have h3 := (hx.lt e).1
      omega

end Go.Proofs.YtlodenfdcckemaaGreatDoor
