import Derived.Test.YtgeaklbldhijbaaMat03e
import Derived.Test.YtgeaklbldhijbaaRef03f
set_option linter.unusedSectionVars false
set_option linter.unusedSimpArgs false
set_option linter.unusedVariables false
/-! Layer 3: the reference's count. -/
namespace Go.R03
open Go Go.Abs Go.RowKit Go.Proofs
set_option maxRecDepth 20000
set_option maxHeartbeats 8000000
attribute [local irreducible] AWp AOps ADr AAny thenQ blockQ retQ
set_option linter.unusedVariables false
def CNTE (l b : List Int) : Int := if ask l b ≠ 0 then ask l b else if 7 < b.length then 4 else 0
def CNT (l b : List Int) : Int := if CNTE l b ≠ 0 then 0 else ((sols l b % 1000000007 : Nat) : Int)
/-! ### sums over the states -/
end Go.R03
