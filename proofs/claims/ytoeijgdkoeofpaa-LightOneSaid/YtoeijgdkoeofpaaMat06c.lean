import Derived.Test.YtoeijgdkoeofpaaMat06b
set_option linter.unusedSectionVars false
set_option linter.unusedSimpArgs false
set_option linter.unusedVariables false
/-! Layer 6: pure mathematics: what is turned, mirrored or raised; higher lights; flat surfaces. -/
namespace Go.R06
set_option linter.unusedVariables false
/-! ### raised, higher, flat -/
/-- A higher light. -/
theorem dk_high {s : Su} (g : GoodS s) (l : Li) {b : Int} (hb : 0 ≤ b) {x y : Int} (h : dk s ⟨l.x, l.y, l.z + b⟩ x y = true) : dk s l x y = true := by
  rw [dk_iff] at h ⊢
  obtain ⟨h0, j, h1, h2, h3⟩ := h
  refine ⟨h0, j, h1, h2, ?_⟩
  unfold dkA at h3 ⊢
  rw [Bool.and_eq_true] at h3 ⊢
  refine ⟨h3.1, decide_eq_true ?_⟩
  have h4 := of_decide_eq_true h3.2
  have h4 : 4 * (j : Int) * s.p * (l.z + b) < gl l * (md s (x + j * sx l) (y + j * sy l) - md s x y) := h4
  have : 0 ≤ 4 * (j : Int) * s.p * b := Int.mul_nonneg (Int.mul_nonneg (by omega) (by have := g.p; omega)) hb
  rw [Int.mul_add] at h4
  omega
/-- Who lies in shadow sees a higher facet. -/
theorem dk_above {s : Su} (g : GoodS s) {l : Li} (hl : GoodL l) {x y : Int} (h : dk s l x y = true) : ∃ u v, inC s u v = true ∧ md s x y < md s u v := by
  rw [dk_iff] at h
  obtain ⟨h0, j, h1, h2, h3⟩ := h
  unfold dkA at h3
  rw [Bool.and_eq_true] at h3
  refine ⟨_, _, h3.1, ?_⟩
  have h4 := of_decide_eq_true h3.2
  have : 0 ≤ 4 * (j : Int) * s.p * l.z := Int.mul_nonneg (Int.mul_nonneg (by omega) (by have := g.p; omega)) (by have := hl.z; omega)
  have hg0 := gl_nn l
  rcases Int.lt_or_le (md s x y) (md s (x + j * sx l) (y + j * sy l)) with q | q
  · exact q
  · exfalso
    have : gl l * (md s (x + j * sx l) (y + j * sy l) - md s x y) ≤ 0 := Int.mul_nonpos_of_nonneg_of_nonpos hg0 (by omega)
    omega
theorem dk_slant {s : Su} {l : Li} {x y : Int} (h : dk s l x y = true) : ¬(l.x = 0 ∧ l.y = 0) := by
  rw [dk_iff] at h
  intro e
  exact h.1 ((gl_zero l).2 e)
end Go.R06
