import Derived.Test.YtoeijgdkoeofpaaRef06t
import Derived.Test.YtoeijgdkoeofpaaMat06c
set_option linter.unusedSectionVars false
set_option linter.unusedSimpArgs false
set_option linter.unusedVariables false
/-! Layer 6: a surface that is turned or mirrored: the laws' own 'around'. -/
namespace Go.R06
open Go Go.Abs Go.RowKit Go.Proofs
set_option maxRecDepth 20000
set_option maxHeartbeats 8000000
attribute [local irreducible] AWp AOps ADr AAny thenQ blockQ retQ asgQ rndQ retM
set_option linter.unusedVariables false
set_option linter.unusedSectionVars false
/-- Where the point (x, y) comes. -/
def dst (s : Su) (mir : Bool) (x y : Nat) : Nat := if mir then y * s.w.toNat + (s.w - 1 - x).toNat else x * s.h.toNat + (s.h - 1 - y).toNat
/-- make of ints, whose slice is written out. -/
theorem h_makeF {P : Program} {W : World} {o : Oper} {fr : Fr} {m : Mem} {I S : TypeId} (t : IntT P I S) {l : List Ent} {x y : Operand} {kl kc : IntKind} {n : Int} (k : Nat) {K : Value → Mem → Prop} (H : HP m l) (ho : o.op = .makeSlice S x y) (hx : evalF fr x = .int kl n) (hy : evalF fr y = .int kc n) (hn : n = k) (hk : k ≤ 1000000)
    (h : ∀ (p : Option Addr × Nat) m', HP m' (.i I (.slice p.1 k p.2) (List.replicate k 0) :: l) → Le m m' → K (.slice p.1 k p.2) m') : AOp P (gen W) o fr m K :=
  h_makeI t k H ho hx hy hn hk fun v' m' H hl => by
    obtain ⟨a, c, e, _⟩ := ((H.sl 0 rfl).sl (W := W)).value
    have e : v' = .slice a k c := by rw [e]; simp
    subst e
    exact h (a, c) m' H hl
end Go.R06
