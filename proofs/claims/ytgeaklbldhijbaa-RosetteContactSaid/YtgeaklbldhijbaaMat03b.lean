import Derived.Test.YtgeaklbldhijbaaMat03
set_option linter.unusedSectionVars false
set_option linter.unusedSimpArgs false
set_option linter.unusedVariables false
/-! Layer 3: turned and mirrored rosettes, periods, axes, matches, two rubbers. -/
namespace Go.R03
section around
variable {f b : List Int} (hn : 1 ≤ f.length) (hb : Rub b)
include hn hb
end around
/-! ### turns by the law's own words -/
/-! ### periods -/
/-! ### axes -/
end Go.R03
