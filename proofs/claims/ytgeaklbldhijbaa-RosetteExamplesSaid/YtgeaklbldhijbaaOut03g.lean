import Derived.Test.YtgeaklbldhijbaaOut03f
set_option linter.unusedSectionVars false
set_option linter.unusedSimpArgs false
set_option linter.unusedVariables false
/-! Layer 3: RosettePeriods. -/
namespace Go.R03
open Go Go.Abs Go.RowKit Go.Proofs
set_option maxRecDepth 20000
set_option maxHeartbeats 8000000
attribute [local irreducible] AWp AOps ADr AAny thenQ blockQ retQ
set_option linter.unusedVariables false

theorem isPer_uniq {f : List Int} (hn : 1 ≤ f.length) {p q : Nat} (hp : IsPer f p) (hq : IsPer f q) : p = q :=
  Nat.dvd_antisymm (Int.ofNat_dvd.1 ((per_dvd hn hp).1 hq.2.2.1)) (Int.ofNat_dvd.1 ((per_dvd hn hq).1 hp.2.2.1))
theorem period_is {f : List Int} (h1 : chk f = 0) {p : Nat} (hp : IsPer f p) {v : Value} (hv : PERIOD' f v) : v = .tuple #[.int .i64 p, .int .i64 0] := by
  obtain ⟨a1, a2, a3⟩ := chk_ok h1
  rcases hv with ⟨h, _⟩ | ⟨_, s2, h2, rfl⟩
  · exact absurd h1 h
  · rw [isPer_uniq (by omega) h2 hp]
end Go.R03
