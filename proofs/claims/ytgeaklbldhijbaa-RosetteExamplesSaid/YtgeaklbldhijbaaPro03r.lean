import Derived.Test.YtgeaklbldhijbaaOut03a
import Derived.Test.YtgeaklbldhijbaaPro03c
import Derived.Test.YtgeaklbldhijbaaPro03f
set_option linter.unusedSectionVars false
set_option linter.unusedSimpArgs false
set_option linter.unusedVariables false
/-! Layer 3: what the program's functions do, all together. -/
namespace Go.R03
open Go Go.Abs Go.RowKit Go.Proofs
theorem ros : Ros where
  check := pcheck_q
  checkR := pcheckR_q
  lift := pLift_c
  under := pUnder_c
  close := pClose_c
  grind := pGrind_c
  find := pFind_c
  count := pCount_c
  turned := pTurned_c
  mirrored := pMirrored_c
  period := pPeriod_c
  axes := pAxes_c
  mtch := pMatch_c
end Go.R03
