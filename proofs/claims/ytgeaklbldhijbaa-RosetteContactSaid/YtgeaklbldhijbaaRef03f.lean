import Derived.Test.YtgeaklbldhijbaaRef03e
set_option linter.unusedSectionVars false
set_option linter.unusedSimpArgs false
set_option linter.unusedVariables false
namespace Go.R03
open Go Go.Abs Go.RowKit Go.Proofs
set_option maxRecDepth 20000
attribute [local irreducible] AWp AOps ADr AAny thenQ blockQ retQ
set_option linter.unusedVariables false
/-- The error of Find. -/
def FINDE (l b : List Int) : Int := if ask l b ≠ 0 then ask l b else if lifted (below l b) b = l then 0 else 6
end Go.R03
