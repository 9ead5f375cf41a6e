set_option linter.unusedSectionVars false
set_option linter.unusedSimpArgs false
set_option linter.unusedVariables false
/-! Layer 5: the first n of 16 numbers. -/
namespace Go.R05
set_option linter.unusedVariables false
set_option linter.unusedSectionVars false
/-- The first n of 16 numbers; 0 behind them. -/
def pf (f : Nat → Int) (n : Nat) : List Int := (List.range 16).map fun j => if j < n then f j else 0
theorem pf_len (f : Nat → Int) (n : Nat) : (pf f n).length = 16 := by simp [pf]
theorem pf_get (f : Nat → Int) (n : Nat) {j : Nat} (h : j < 16) : (pf f n)[j]? = some (if j < n then f j else 0) := by simp [pf, h]
theorem pf_at (f : Nat → Int) (n : Nat) {j : Nat} (h : j < 16) : (pf f n).getD j 0 = if j < n then f j else 0 := by rw [List.getD_eq_getElem?_getD, pf_get f n h]; rfl
theorem pf_set (f : Nat → Int) {i : Nat} (h : i < 16) : (pf f i).set i (f i) = pf f (i + 1) := by
  apply List.ext_getElem?
  intro j
  by_cases hj : j < 16
  · rw [List.getElem?_set, pf_len, pf_get _ _ hj, pf_get _ _ hj]
    by_cases e : i = j
    · subst e; simp [h]
    · rw [if_neg e]
      by_cases g : j < i
      · rw [if_pos g, if_pos (by omega)]
      · rw [if_neg g, if_neg (by omega)]
  · rw [List.getElem?_eq_none (by simp [pf_len]; omega), List.getElem?_eq_none (by rw [pf_len]; omega)]
theorem pf_zero (f : Nat → Int) : pf f 0 = List.replicate 16 0 := by
  simp only [pf, Nat.not_lt_zero, if_false]; rfl
end Go.R05
