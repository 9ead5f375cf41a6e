import Derived.Test.YthkheklnlggnbaaLaw05b
import Derived.Test.YthkheklnlggnbaaRef05b
import Derived.Test.YthkheklnlggnbaaMat05a
set_option linter.unusedSectionVars false
set_option linter.unusedSimpArgs false
set_option linter.unusedVariables false
/-! Layer 5: GrooveApart. -/
namespace Go.R05
open Go Go.Abs Go.RowKit Go.Proofs
set_option maxRecDepth 20000
set_option maxHeartbeats 8000000
attribute [local irreducible] AWp AOps ADr AAny thenQ blockQ retQ asgQ rndQ retM
set_option linter.unusedVariables false
set_option linter.unusedSectionVars false
theorem q_eqS5 {W : World} {o : Oper} {fr : Fr} {m : Mem} {x y : Operand} {yt : TypeId} {p q : Sq} {b : Bool} (ho : o.op = .binOp .eql 32 x y yt) (hx : evalF fr x = sp p) (hy : evalF fr y = sp q) (hb : decide (p = q) = b) : QOp Try.prog W o fr m (.bool b) := by
  refine q_eqlS (ds := [(0, .int .i64), (1, .int .i64)]) Try.underlying32 (by kernel_rfl) (by kernel_rfl) (by kernel_rfl) ho hx hy ?_
  subst hb
  show some ((p.1 == q.1) && ((p.2 == q.2) && true)) = some (decide _)
  congr 1
  rw [Bool.eq_iff_iff]
  simp [Prod.ext_iff]
theorem one_two (x y : Int) : ∀ u ∈ [[Value.int .i64 x, Value.int .i64 y]].flatten, u.oneCell' = true := fun u hu => by
  simp at hu; rcases hu with rfl | rfl <;> rfl
end Go.R05
