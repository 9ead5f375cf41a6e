import Derived.Test.YtoeijgdkoeofpaaAbsArgs
set_option linter.unusedSectionVars false
set_option linter.unusedSimpArgs false
set_option linter.unusedVariables false
/-! Abs: regions whose order is drawn, in which several operations that make memory may come up at once; cuts behind a region. -/
namespace Go.Abs
open Go Go.RowKit
section each
variable {P : Program} {W : World} {C : Cls W} {r : Option Nat} {n : Nat} {Q : Post} {fr : Fr} {m : Mem} {ops : Array Oper} {fuel : Nat} {listed : Array Bool}
end each
end Go.Abs
namespace Go.Abs
open Go Go.RowKit
end Go.Abs
namespace Go.Abs
open Go Go.RowKit
section minx
variable {P : Program} {W : World} {C : Cls W} {o : Oper} {fr : Fr} {m : Mem}
theorem q_minX {x y : Operand} {ts : Array TypeId} {k : IntKind} {a b X : Int} (hX : min a b = X) (ho : o.op = .call { callee := .builtin .min, args := #[x, y], argTypes := ts }) (hx : evalF fr x = .int k a) (hy : evalF fr y = .int k b) : QOp P W o fr m (.int k X) := by
  subst hX; exact q_min ho hx hy
theorem q_maxX {x y : Operand} {ts : Array TypeId} {k : IntKind} {a b X : Int} (hX : max a b = X) (ho : o.op = .call { callee := .builtin .max, args := #[x, y], argTypes := ts }) (hx : evalF fr x = .int k a) (hy : evalF fr y = .int k b) : QOp P W o fr m (.int k X) := by
  subst hX; exact q_max ho hx hy
end minx
end Go.Abs
