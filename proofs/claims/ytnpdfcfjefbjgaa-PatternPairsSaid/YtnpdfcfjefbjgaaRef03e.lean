import Derived.Test.YtnpdfcfjefbjgaaRef03c
set_option linter.unusedSectionVars false
set_option linter.unusedSimpArgs false
set_option linter.unusedVariables false
namespace Go.R03
open Go Go.Abs Go.RowKit Go.Proofs
set_option maxRecDepth 20000
attribute [local irreducible] AWp AOps ADr AAny thenQ blockQ retQ
set_option linter.unusedVariables false
/-! ### two rubbers -/
end Go.R03
