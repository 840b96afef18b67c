/-
  A formula as it is handed in.
-/
import Derived.Test.YtlodenfdcckemaaFault
import Derived.Test.YtlodenfdcckemaaOrder
namespace Go.Proofs.Ytlodenfdcckemaa
open Go.RowKit

/-- A formula's value. -/
abbrev fm (vars : Int) (ao : Option Addr) (cap : Nat) (cs : List (List Int)) : Value := .agg #[.int .i64 vars, .slice ao cs.length cap]
end Go.Proofs.Ytlodenfdcckemaa
