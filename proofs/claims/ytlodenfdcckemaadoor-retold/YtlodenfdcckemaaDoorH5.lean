/-
  What lies in memory: lists of numbers, lists of lists; what the document says of faults, on plain lists.
-/
import Derived.Test.YtlodenfdcckemaaDoorRows
import Derived.WalkKit
import Derived.WalkSpells
import Derived.WalkLawsBesides
namespace Go.Proofs.YtlodenfdcckemaaDoor
open Go.RowKit

/-- The numbers zs lie at ao, below block B. -/
def IntsAt (w : World) (B : Nat) (ao : Option Addr) (zs : List Int) : Prop :=
  zs ≠ [] → ∃ b o, ao = some ⟨b, o, none⟩ ∧ b < B ∧ ∀ i, i < zs.length → w.cell? ⟨b, o + i, none⟩ = some (.int .i64 (zs.getD i 0))

/-- The lists cs lie at ao, below block B, each with some room. -/
def ListsAt (w : World) (B : Nat) (ao : Option Addr) (cs : List (List Int)) : Prop :=
  cs ≠ [] → ∃ b o, ao = some ⟨b, o, none⟩ ∧ b < B ∧ ∀ i, i < cs.length → ∃ A C, w.cell? ⟨b, o + i, none⟩ = some (.slice A (cs.getD i []).length C) ∧ IntsAt w B A (cs.getD i [])

theorem IntsAt.below {w w' : World} {B B' : Nat} {ao : Option Addr} {zs : List Int} (h : IntsAt w B ao zs) (hb : Below B' w w') (hB : B ≤ B') : IntsAt w' B ao zs := by
  intro hne
  obtain ⟨b, o, e, hlt, hc⟩ := h hne
  exact ⟨b, o, e, hlt, fun i hi => (hb.cell (p := ⟨b, o + i, none⟩) (Nat.lt_of_lt_of_le hlt hB)).trans (hc i hi)⟩

theorem IntsAt.mono {w : World} {B B' : Nat} {ao : Option Addr} {zs : List Int} (h : IntsAt w B ao zs) (hB : B ≤ B') : IntsAt w B' ao zs := by
  intro hne
  obtain ⟨b, o, e, hlt, hc⟩ := h hne
  exact ⟨b, o, e, Nat.lt_of_lt_of_le hlt hB, hc⟩

theorem ListsAt.below {w w' : World} {B B' : Nat} {ao : Option Addr} {cs : List (List Int)} (h : ListsAt w B ao cs) (hb : Below B' w w') (hB : B ≤ B') : ListsAt w' B ao cs := by
  intro hne
  obtain ⟨b, o, e, hlt, hc⟩ := h hne
  refine ⟨b, o, e, hlt, fun i hi => ?_⟩
  obtain ⟨A, C, h1, h2⟩ := hc i hi
  exact ⟨A, C, (hb.cell (p := ⟨b, o + i, none⟩) (Nat.lt_of_lt_of_le hlt hB)).trans h1, h2.below hb hB⟩

theorem ListsAt.mono {w : World} {B B' : Nat} {ao : Option Addr} {cs : List (List Int)} (h : ListsAt w B ao cs) (hB : B ≤ B') : ListsAt w B' ao cs := by
  intro hne
  obtain ⟨b, o, e, hlt, hc⟩ := h hne
  refine ⟨b, o, e, Nat.lt_of_lt_of_le hlt hB, fun i hi => ?_⟩
  obtain ⟨A, C, h1, h2⟩ := hc i hi
  exact ⟨A, C, h1, h2.mono hB⟩

theorem getD_lt {α : Type} (l : List α) (d : α) (k : Nat) (h : k < l.length) : l.getD k d = l[k] := by simp [h]

/-- May a number be a literal of so many variables? -/
def lit (vars l : Int) : Bool := !(l == 0) && decide (l ≤ vars) && decide (-vars ≤ l)

/-- The fault of one clause: 5: too long; 6: a literal that is none. -/
def clauseFault (vars : Int) (c : List Int) : Int := if 20 < c.length then 5 else if c.all (lit vars) then 0 else 6

/-- The first fault among clauses, told from place i on. -/
def clausesFault (vars : Int) : Nat → List (List Int) → Int × Int
  | _, [] => (0, 0)
  | i, c :: cs => if clauseFault vars c = 0 then clausesFault vars (i + 1) cs else (clauseFault vars c, i)

/-- The fault of a formula. -/
def fault (vars : Int) (cs : List (List Int)) : Int × Int :=
  if vars < 0 ∨ 20 < vars then (3, 0) else if 200 < cs.length then (4, 0) else clausesFault vars 0 cs

theorem clausesFault_step (vars : Int) (k : Nat) (cs : List (List Int)) (hk : k < cs.length) :
    clausesFault vars k (cs.drop k) = if clauseFault vars (cs.getD k []) = 0 then clausesFault vars (k + 1) (cs.drop (k + 1)) else (clauseFault vars (cs.getD k []), (k : Int)) := by
  have e : cs.drop k = cs.getD k [] :: cs.drop (k + 1) := by
    rw [List.drop_eq_getElem_cons hk, getD_lt _ _ _ hk]
  rw [e, clausesFault]

theorem clausesFault_end (vars : Int) (k : Nat) (cs : List (List Int)) (hk : cs.length ≤ k) : clausesFault vars k (cs.drop k) = (0, 0) := by
  rw [List.drop_eq_nil_of_le hk, clausesFault]

theorem all_take_succ (p : Int → Bool) (c : List Int) (k : Nat) (hk : k < c.length) : (c.take (k + 1)).all p = ((c.take k).all p && p (c.getD k 0)) := by
  rw [List.take_succ_eq_append_getElem hk, List.all_append, getD_lt _ _ _ hk]; simp

theorem all_false_of (p : Int → Bool) (c : List Int) (k : Nat) (hk : k < c.length) (h : p (c.getD k 0) = false) : c.all p = false := by
  rw [List.all_eq_false]
  rw [getD_lt _ _ _ hk] at h
  exact ⟨c[k], List.getElem_mem hk, by simp [h]⟩

end Go.Proofs.YtlodenfdcckemaaDoor
