/-
  Lists of lists held against each other (where there is no search: never beside SolS).
-/
import Derived.Test.YtlodenfdcckemabDoorH24
import Derived.Test.YtlodenfdcckemabDoorH23
import Derived.Test.YtlodenfdcckemabDoorH19
import Derived.Laws.OwnMore
namespace Go.Proofs.YtlodenfdcckemabDoor
open Go.RowKit

theorem MadeS.lists {w : World} {base : Nat} {v : Value} {vs : List Value} {cs : List (List Int)} (h : MadeS w base v vs cs) : ∃ ao cap, v = .slice ao cs.length cap ∧ ListsAt w w.heap.size ao cs ∧ cs.length ≤ cap := by
  have hlen := h.len
  rcases h.oe with ⟨rfl, h0⟩ | ⟨g, cap, rfl, hb, h63, hr⟩
  · have : cs = [] := by rw [h0] at hlen; simpa using hlen.symm
    subst this
    exact ⟨none, 0, rfl, fun h => absurd rfl h, Nat.le_refl _⟩
  · refine ⟨some ⟨g, 0, none⟩, cap, by rw [hlen], fun hne => ⟨g, 0, rfl, hr.lt, fun i hi => ?_⟩, by rw [← hlen]; exact hr.le⟩
    have hi' : i < vs.length := by omega
    obtain ⟨A, C, h1, h2⟩ := (h.ls i hi').ints (Nat.le_refl _)
    exact ⟨A, C, by rw [Nat.zero_add, hr.cell hi' undef, h1], h2⟩

theorem own_intsAt {w : World} {base : Nat} {v : Value} {zs : List Int} (h : Own w base 3 v (ints zs)) : ∃ ao cap, v = .slice ao zs.length cap ∧ IntsAt w w.heap.size ao zs := h.ints (Nat.le_refl _)

theorem ints_drewN {w : World} {ao : Option Addr} {zs : List Int} (h : IntsAt w w.heap.size ao zs) (n : Nat) : IntsAt (w.drewN n) (w.drewN n).heap.size ao zs := h

end Go.Proofs.YtlodenfdcckemabDoor
