/-
  A formula as it is handed in.
-/
import Derived.Test.YtlodenfdcckemaaDoorH12
import Derived.Test.YtlodenfdcckemaaDoorH42
namespace Go.Proofs.YtlodenfdcckemaaDoor
open Go.RowKit

/-- A formula's value. -/
abbrev fm (vars : Int) (ao : Option Addr) (cap : Nat) (cs : List (List Int)) : Value := .agg #[.int .i64 vars, .slice ao cs.length cap]
end Go.Proofs.YtlodenfdcckemaaDoor
