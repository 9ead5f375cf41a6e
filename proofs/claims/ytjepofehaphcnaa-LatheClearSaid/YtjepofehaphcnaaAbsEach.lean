import Derived.Test.YtjepofehaphcnaaAbsArgs
set_option linter.unusedSectionVars false
set_option linter.unusedSimpArgs false
set_option linter.unusedVariables false
/-! Abs: regions whose order is drawn, in which several operations that make memory may come up at once; cuts behind a region. -/
namespace Go.Abs
open Go Go.RowKit
section each
variable {P : Program} {W : World} {C : Cls W} {r : Option Nat} {n : Nat} {Q : Post} {fr : Fr} {m : Mem} {ops : Array Oper} {fuel : Nat} {listed : Array Bool}
end each
end Go.Abs
namespace Go.Abs
open Go Go.RowKit
end Go.Abs
namespace Go.Abs
open Go Go.RowKit
section minx
variable {P : Program} {W : World} {C : Cls W} {o : Oper} {fr : Fr} {m : Mem}
end minx
end Go.Abs
