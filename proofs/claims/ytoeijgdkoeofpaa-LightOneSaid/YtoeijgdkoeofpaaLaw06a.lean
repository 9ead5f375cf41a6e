import Derived.Test.YtoeijgdkoeofpaaRef06t
set_option linter.unusedSectionVars false
set_option linter.unusedSimpArgs false
set_option linter.unusedVariables false
/-! Layer 6: LightCompared, LightOne. -/
namespace Go.R06
open Go Go.Abs Go.RowKit Go.Proofs
set_option maxRecDepth 20000
set_option maxHeartbeats 8000000
attribute [local irreducible] AWp AOps ADr AAny thenQ blockQ retQ asgQ rndQ retM
set_option linter.unusedVariables false
set_option linter.unusedSectionVars false
theorem brt_ok {t : Tw} {p : Int} {l : Li} (h : (brt t p l).2 = 0) : Fit t p l ∧ (brt t p l).1 = shd t p l := by
  unfold brt at h ⊢
  split at h
  · rename_i h1; exact ⟨chkB_fit h1, by rw [if_pos h1]⟩
  · rename_i h1; exact absurd h h1
theorem brt_er {t : Tw} {p : Int} {l : Li} (h : (brt t p l).2 ≠ 0) : (brt t p l).1 = (0, 0) := by
  unfold brt at h ⊢
  split at h
  · exact absurd rfl h
  · rename_i h1; rw [if_neg h1]
theorem cmI_bd (x y : Int) : -1 ≤ cmI x y ∧ cmI x y ≤ 1 := by unfold cmI; split; omega; split <;> omega
theorem cmpQ_bd (a b : Tw) : -1 ≤ cmpQ a b ∧ cmpQ a b ≤ 1 := by
  unfold cmpQ; split
  · exact cmI_bd _ _
  · omega
end Go.R06
