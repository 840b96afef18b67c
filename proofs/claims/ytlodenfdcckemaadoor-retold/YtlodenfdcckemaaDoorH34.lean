/-
  The library's table, as the row lists it.
-/
import Derived.Test.YtlodenfdcckemaaDoorH18
import Derived.Test.YtlodenfdcckemaaDoorRows
import Derived.Lib.LaidU8T
import Derived.Shelf.Vars
namespace Go.Proofs.YtlodenfdcckemaaDoor
open Go.RowKit Go.Shelf Go.Lib

theorem bruijn_eq : (Rows.laid_math_bits_deBruijn64tab : DataW Unit) = tabData .u8 (Lib.deBruijn64tab.map fun n : Nat => (n : Int)) := by kernel_rfl

theorem tab_of_reads {w : World} (h : VarReads Tryd.prog w "math/bits.deBruijn64tab" (tabData .u8 (Lib.deBruijn64tab.map fun n : Nat => (n : Int)))) : Tab w := by
  obtain ⟨g, t, cs, fuel, p, hg, hty, hvar, hd⟩ := h
  obtain rfl := Option.some.inj ((show Tryd.prog.globalNamed "math/bits.deBruijn64tab" = some 0 by kernel_rfl).symm.trans hg)
  obtain rfl := Option.some.inj ((show (Tryd.prog.globals[0]?).map (·.type) = some 132 by kernel_rfl).symm.trans hty)
  have hcs := cells_of_tab Tryd.underlying132 Tryd.underlying5 (by kernel_rfl) (by kernel_rfl) hd
  intro j hj
  rw [World.var?_cell hg hvar j, ← Array.getElem?_toList, hcs]
  simp [hj]
end Go.Proofs.YtlodenfdcckemaaDoor
