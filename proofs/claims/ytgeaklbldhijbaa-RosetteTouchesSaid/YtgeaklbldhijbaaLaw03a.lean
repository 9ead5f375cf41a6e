import Derived.Test.YtgeaklbldhijbaaLaw03
set_option linter.unusedSectionVars false
set_option linter.unusedSimpArgs false
set_option linter.unusedVariables false
/-! Layer 3: RosetteLifts, by the contracts of the program's functions. -/
namespace Go.R03
open Go Go.Abs Go.RowKit Go.Proofs
set_option maxRecDepth 20000
set_option maxHeartbeats 4000000
attribute [local irreducible] AWp AOps ADr AAny thenQ blockQ retQ
set_option linter.unusedVariables false
/-- A function of a rosette and a rubber, that returns a list and an error. -/
def LB (f : Nat) (G : List Int → List Int → List Int) : Prop := ∀ (W : World) (vf vb : Value) (f1 b : List Int), SL W Mem.none 1 vf f1.length (i64s f1) → SL W Mem.none 1 vb b.length (i64s b) →
  ACalls Try.prog (gen W) f #[vf, vb] Mem.none (RES (ask f1 b) (G f1 b))
theorem sames_self (a : List Int) : sames a a = true := decide_eq_true rfl
end Go.R03
