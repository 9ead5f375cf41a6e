import Derived.Test.YtgeaklbldhijbaaMat03f
set_option linter.unusedSectionVars false
set_option linter.unusedSimpArgs false
set_option linter.unusedVariables false
/-! Layer 3: all lists, one by one. -/
namespace Go.R03
end Go.R03
