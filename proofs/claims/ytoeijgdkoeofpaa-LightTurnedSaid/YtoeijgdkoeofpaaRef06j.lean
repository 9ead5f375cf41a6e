import Derived.Test.YtoeijgdkoeofpaaRef06i
set_option linter.unusedSectionVars false
set_option linter.unusedSimpArgs false
set_option linter.unusedVariables false
/-! Layer 6: the reference's lists; levels; LightPictures. -/
namespace Go.R06
open Go Go.Abs Go.RowKit Go.Proofs
set_option maxRecDepth 20000
set_option maxHeartbeats 8000000
attribute [local irreducible] AWp AOps ADr AAny thenQ blockQ retQ asgQ rndQ retM
set_option linter.unusedVariables false
set_option linter.unusedSectionVars false
theorem fLevels : Fun Try.prog 49 := ⟨_, _, Try.func49, rfl, by kernel_rfl⟩
end Go.R06
