import Derived.Test.YthkheklnlggnbaaMat05d
set_option linter.unusedSectionVars false
set_option linter.unusedSimpArgs false
set_option linter.unusedVariables false
/-! Layer 5: distances: spots of a line alone, and lines that share a spot. -/
namespace Go.R05
set_option linter.unusedVariables false
set_option linter.unusedSectionVars false
end Go.R05
