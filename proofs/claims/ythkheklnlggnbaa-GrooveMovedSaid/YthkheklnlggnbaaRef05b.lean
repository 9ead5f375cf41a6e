import Derived.Test.YthkheklnlggnbaaPro05e
set_option linter.unusedSectionVars false
set_option linter.unusedSimpArgs false
set_option linter.unusedVariables false
/-! Layer 5: the reference: lines, vectors, lowest terms, Less, a spot and a segment, segments that meet. -/
namespace Go.R05
open Go Go.Abs Go.RowKit Go.Proofs
set_option maxRecDepth 20000
set_option maxHeartbeats 4000000
attribute [local irreducible] AWp AOps ADr AAny thenQ blockQ retQ asgQ rndQ retM
set_option linter.unusedVariables false
set_option linter.unusedSectionVars false
/-- What Less can compare. -/
def lesOk (p : Sq) : Prop := (0 ≤ p.1 ∧ p.1 ≤ 4611686018427387904) ∧ (1 ≤ p.2 ∧ p.2 ≤ 968000000)
theorem lesOk.ok {p : Sq} (h : lesOk p) : okS p := by unfold lesOk okS at *; omega
theorem low_sml {p : Sq} (h : smlS p) : smlS (low p) := by
  obtain ⟨p1, p2⟩ := p
  obtain ⟨⟨a1, a2⟩, a3, a4⟩ := h
  simp only at a1 a2 a3 a4
  have hg := (low_ok (p := (p1, p2)) ⟨a1, by show 0 < p2; omega⟩).1
  refine ⟨⟨hg.1, ?_⟩, hg.2, ?_⟩
  · exact Int.le_trans (Int.ediv_le_self _ a1) a2
  · exact Int.le_trans (Int.ediv_le_self _ (by omega)) a4
end Go.R05
