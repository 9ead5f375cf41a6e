import Derived.Test.YtgeaklbldhijbaaOut03l
import Derived.Test.YtgeaklbldhijbaaPro03i
import Derived.Test.YtgeaklbldhijbaaPro03r
set_option linter.unusedSectionVars false
set_option linter.unusedSimpArgs false
set_option linter.unusedVariables false
/-! Layer 3: what the program's other functions do. -/
namespace Go.R03
open Go Go.Abs Go.RowKit Go.Proofs
theorem ros2 : Ros2 where
  contacts := pContacts_c
  needed := pNeeded_c
end Go.R03
