import Derived.Test.YtgeaklbldhijbaaRef03c
set_option linter.unusedSectionVars false
set_option linter.unusedSimpArgs false
set_option linter.unusedVariables false
namespace Go.R03
open Go Go.Abs Go.RowKit Go.Proofs
set_option maxRecDepth 20000
attribute [local irreducible] AWp AOps ADr AAny thenQ blockQ retQ
set_option linter.unusedVariables false
def tIn (f b : List Int) (p q : Nat) (most : Int) (k : Nat) : List Int := (List.range k).flatMap fun (i : Nat) => if ((p : Int) + (-((b.length / 2 : Nat) : Int) + i)) % (f.length : Int) = q ∧ f.getD q 0 - b.getD i 0 = most then [(q : Int)] else []
def touches (f b : List Int) (p : Nat) : List Int := (List.range f.length).flatMap fun q => tIn f b p q (liftAt f b p) (2 * (b.length / 2) + 1)
/-! ### what is needed -/
def dec (f : List Int) (q : Nat) : List Int := f.set q (f.getD q 0 - 1)
def needs (f b : List Int) (q : Nat) : Bool := decide (f.getD q 0 ≠ 0) && !sames (lifted (dec f q) b) (lifted f b)
def needed (f b : List Int) : List Int := ((List.range f.length).filter (needs f b)).map Int.ofNat
theorem dec_length (f : List Int) (q : Nat) : (dec f q).length = f.length := by simp [dec]
end Go.R03
