set_option linter.unusedSectionVars false
set_option linter.unusedSimpArgs false
set_option linter.unusedVariables false
/-! Layer 5: how a slip is hidden: the mathematics. -/
namespace Go.R05
set_option linter.unusedVariables false
set_option linter.unusedSectionVars false
/-- The number of a range that is nearest to 0. -/
def clz (lo hi : Int) : Int := min (max lo 0) hi
def ptA (F a b s : Int) : Int := clz (max (s - a) (F - b)) (min (s + a) (F + b))
theorem mul0 (L : Nat) {m : Int} (hm : 0 ≤ m) : 0 ≤ (L : Int) * m := Int.mul_nonneg (Int.natCast_nonneg _) hm
/-- As far as so many steps. -/
def can (F m : Int) (L : Nat) (s : Int) : Prop := s - F ≤ L * m ∧ F - s ≤ L * m
instance (F m : Int) (L : Nat) (s : Int) : Decidable (can F m L s) := inferInstanceAs (Decidable (_ ∧ _))
/-! ### costs -/
/-! ### the table of the reference -/
end Go.R05
