import Derived.Test.YtkahddncdoamiaaAbsMap2
set_option linter.unusedSectionVars false
set_option linter.unusedSimpArgs false
set_option linter.unusedVariables false
/-! Abs: bytes and unsigned words; variables of several cells; slices of values of one cell. -/
namespace Go.Abs
open Go Go.RowKit
section arith
variable {P : Program} {W : World} {C : Cls W} {o : Oper} {fr : Fr} {m : Mem}
end arith
section mem
variable {P : Program} {W : World} {C : Cls W} {o : Oper} {fr : Fr} {m : Mem}
/-! ### variables of several cells -/
abbrev Ent.vs (T : TypeId) (B : Nat) (cs : List Value) : Ent := .box B ⟨cs, T, cs.length⟩
/-! ### results that lie in several cells -/
/-! ### arrays -/
/-! ### slices of values of one cell -/
/-! ### variables that hold nothing known yet -/
end mem
section draw
variable {P : Program} {W : World} {C : Cls W} {r : Option Nat} {n : Nat} {Q : Post} {fr : Fr} {m : Mem} {ops : Array Oper}
end draw
end Go.Abs
