/-
  The walk of the law on faults.
-/
import Derived.Test.YtlodenfdcckemaaDoorH43
import Derived.Test.YtlodenfdcckemaaDoorH19
import Derived.Test.YtlodenfdcckemaaDoorH49
namespace Go.Proofs.YtlodenfdcckemaaDoor
open Go.RowKit

/-- What stays as it is while the law runs: the formula, in its box at block N; the one that is handed in, at block g, in its box at block hb. -/
structure Inv (w w' : World) (N hb g : Nat) (vars : Int) (ao : Option Addr) (cap : Nat) (cs : List (List Int)) : Prop where
  old : Below w.heap.size w w'
  sz : w.heap.size = N
  boxF : Blk w' N 31 [.int .i64 vars, .slice ao cs.length cap]
  boxH : Blk w' hb 31 [.int .i64 vars, .slice (some ⟨g, 0, none⟩) cs.length (cs.length + 4)]
  lists : ListsAt w' w'.heap.size ao cs
  hand : Handed w' w'.heap.size g cs

theorem Inv.step {w w' w'' : World} {N hb g : Nat} {vars : Int} {ao : Option Addr} {cap : Nat} {cs : List (List Int)} (h : Inv w w' N hb g vars ao cap cs) (hb' : Below w'.heap.size w' w'') : Inv w w'' N hb g vars ao cap cs :=
  ⟨h.old.trans (hb'.mono h.old.size), h.sz, h.boxF.below' hb', h.boxH.below' hb', (h.lists.below hb' (Nat.le_refl _)).mono hb'.size, (HandedTo.below h.hand hb' (Nat.le_refl _)).mono hb'.size⟩

theorem Inv.alloc {w w' : World} {N hb g : Nat} {vars : Int} {ao : Option Addr} {cap : Nat} {cs : List (List Int)} (h : Inv w w' N hb g vars ao cap cs) (o : Obj) : Inv w (w'.alloc o) N hb g vars ao cap cs :=
  h.step ((Below.refl _ _).alloc (Nat.le_refl _) o)

theorem Inv.cells {w w' : World} {N hb g : Nat} {vars : Int} {ao : Option Addr} {cap : Nat} {cs : List (List Int)} (h : Inv w w' N hb g vars ao cap cs) :
    w'.cell? ⟨N, 0, none⟩ = some (.int .i64 vars) ∧ w'.cell? ⟨N, 1, none⟩ = some (.slice ao cs.length cap) ∧ w'.cell? ⟨hb, 0, none⟩ = some (.int .i64 vars) ∧ w'.cell? ⟨hb, 1, none⟩ = some (.slice (some ⟨g, 0, none⟩) cs.length (cs.length + 4)) ∧
      ListsAt w' w'.heap.size (some ⟨g, 0, none⟩) cs :=
  ⟨h.boxF.cell (i := 0) (by simp) undef, h.boxF.cell (i := 1) (by simp) undef, h.boxH.cell (i := 0) (by simp) undef, h.boxH.cell (i := 1) (by simp) undef, Handed.lists h.hand⟩

theorem Inv.start {w w1 : World} {g : Nat} {vars : Int} {ao : Option Addr} {cap : Nat} {cs : List (List Int)} (hc : ListsAt w w.heap.size ao cs) (hH : Handed w1 w1.heap.size g cs)
    (hb : Below (w.heap.size + 1) (w.alloc (.cells #[.int .i64 vars, .slice ao cs.length cap] 31)) w1) :
    Inv w (w1.alloc (.cells #[.int .i64 vars, .slice (some ⟨g, 0, none⟩) cs.length (cs.length + 4)] 31)) w.heap.size w1.heap.size g vars ao cap cs := by
  have hw1 : Below w.heap.size w (w.alloc (.cells #[.int .i64 vars, .slice ao cs.length cap] 31)) := (Below.refl _ _).alloc (Nat.le_refl _) _
  have hw2 : Below w.heap.size w w1 := hw1.trans (hb.mono (by omega))
  have hb3 : Below w1.heap.size w1 (w1.alloc (.cells #[.int .i64 vars, .slice (some ⟨g, 0, none⟩) cs.length (cs.length + 4)] 31)) := (Below.refl _ _).alloc (Nat.le_refl _) _
  have hw3 := hw2.trans (hb3.mono hw2.size)
  refine ⟨hw3, rfl, ?_, ?_, (hc.below hw3 (Nat.le_refl _)).mono hw3.size, (HandedTo.below hH hb3 (Nat.le_refl _)).mono hb3.size⟩
  · have B0 : Blk (w.alloc (.cells #[.int .i64 vars, .slice ao cs.length cap] 31)) w.heap.size 31 [.int .i64 vars, .slice ao cs.length cap] := blk_new w [.int .i64 vars, .slice ao cs.length cap] 31
    exact (B0.below hb (by omega)).below' hb3
  · exact blk_new w1 [.int .i64 vars, .slice (some ⟨g, 0, none⟩) cs.length (cs.length + 4)] 31

/-- What is asked of a formula's size and numbers: what Go's own memory gives. -/
structure Fits (cs : List (List Int)) : Prop where
  len : cs.length * 24 ≤ 140737488351232
  each : ∀ c ∈ cs, c.length * 8 ≤ 140737488351232
  nums : ∀ c ∈ cs, ∀ l ∈ c, -9223372036854775808 ≤ l ∧ l ≤ 9223372036854775807


end Go.Proofs.YtlodenfdcckemaaDoor
