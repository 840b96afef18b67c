/-
  A formula as it is handed in.
-/
import Derived.Test.YtlodenfdcckemaaGreatDoorFault
import Derived.Test.YtlodenfdcckemaaGreatDoorOrder
namespace Go.Proofs.YtlodenfdcckemaaGreatDoor
open Go.RowKit

/-- A formula's value. -/
abbrev fm (vars : Int) (ao : Option Addr) (cap : Nat) (cs : List (List Int)) : Value := .agg #[.int .i64 vars, .slice ao cs.length cap]
end Go.Proofs.YtlodenfdcckemaaGreatDoor
