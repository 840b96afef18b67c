/-
  The library's table, as the row lists it.
-/
import Derived.Test.YtlodenfdcckemaaGreatDoorTz
import Derived.Test.YtlodenfdcckemaaGreatDoorRows
import Derived.Lib.LaidU8T
import Derived.Shelf.Vars
namespace Go.Proofs.YtlodenfdcckemaaGreatDoor
open Go.RowKit Go.Shelf Go.Lib

theorem bruijn_eq : (Rows.laid_math_bits_deBruijn64tab : DataW Unit) = tabData .u8 (Lib.deBruijn64tab.map fun n : Nat => (n : Int)) := by kernel_rfl

theorem tab_of_reads {w : World} (h : VarReads Tryz.prog w "math/bits.deBruijn64tab" (tabData .u8 (Lib.deBruijn64tab.map fun n : Nat => (n : Int)))) : Tab w := by
  obtain ⟨g, t, cs, fuel, p, hg, hty, hvar, hd⟩ := h
  obtain rfl := Option.some.inj ((show Tryz.prog.globalNamed "math/bits.deBruijn64tab" = some 0 by kernel_rfl).symm.trans hg)
  obtain rfl := Option.some.inj ((show (Tryz.prog.globals[0]?).map (·.type) = some 128 by kernel_rfl).symm.trans hty)
  have hcs := cells_of_tab Tryz.underlying128 Tryz.underlying5 (by kernel_rfl) (by kernel_rfl) hd
  intro j hj
  rw [World.var?_cell hg hvar j, ← Array.getElem?_toList, hcs]
  simp [hj]
end Go.Proofs.YtlodenfdcckemaaGreatDoor
