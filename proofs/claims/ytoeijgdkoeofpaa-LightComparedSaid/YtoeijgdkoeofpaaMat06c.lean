import Derived.Test.YtoeijgdkoeofpaaMat06b
set_option linter.unusedSectionVars false
set_option linter.unusedSimpArgs false
set_option linter.unusedVariables false
/-! Layer 6: pure mathematics: what is turned, mirrored or raised; higher lights; flat surfaces. -/
namespace Go.R06
set_option linter.unusedVariables false
/-! ### raised, higher, flat -/
end Go.R06
