import Derived.Test.YtgeaklbldhijbaaMat03e
set_option linter.unusedSectionVars false
set_option linter.unusedSimpArgs false
set_option linter.unusedVariables false
/-! Layer 3: counts turn and mirror with the rosette. -/
namespace Go.R03
end Go.R03
