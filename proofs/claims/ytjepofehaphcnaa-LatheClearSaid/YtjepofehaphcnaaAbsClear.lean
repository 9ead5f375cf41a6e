import Derived.Test.YtjepofehaphcnaaAbsLate
set_option linter.unusedSectionVars false
set_option linter.unusedSimpArgs false
set_option linter.unusedVariables false
/-! Abs: the builtin 'clear' of the end of a slice of the call's own. -/
namespace Go.Abs
open Go Go.RowKit Go.Proofs
set_option linter.unusedVariables false
set_option linter.unusedSectionVars false
section cl
variable {P : Program} {W : World} {o : Oper} {fr : Fr} {m : Mem}
end cl
end Go.Abs
