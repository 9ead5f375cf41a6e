import Derived.Test.YtgeaklbldhijbaaOut03b
set_option linter.unusedSectionVars false
set_option linter.unusedSimpArgs false
set_option linter.unusedVariables false
/-! Layer 3: RosetteMatched. -/
namespace Go.R03
open Go Go.Abs Go.RowKit Go.Proofs
set_option maxRecDepth 20000
set_option maxHeartbeats 8000000
attribute [local irreducible] AWp AOps ADr AAny thenQ blockQ retQ
set_option linter.unusedVariables false

theorem fTurnedP : Fun Try.prog 43 := ⟨_, _, Try.func43, rfl, by kernel_rfl⟩
theorem fPeriodP : Fun Try.prog 47 := ⟨_, _, Try.func47, rfl, by kernel_rfl⟩
theorem fMatchP : Fun Try.prog 51 := ⟨_, _, Try.func51, rfl, by kernel_rfl⟩
theorem isMatch_uniq {f g : List Int} {s t : Nat} (hs : IsMatch f g s) (ht : IsMatch f g t) : s = t := by
  rcases Nat.lt_trichotomy s t with h | h | h
  · exact absurd hs.2.1 (ht.2.2 s h)
  · exact h
  · exact absurd ht.2.1 (hs.2.2 t h)
end Go.R03
