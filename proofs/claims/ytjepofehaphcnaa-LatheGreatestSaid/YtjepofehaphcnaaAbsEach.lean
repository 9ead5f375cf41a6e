import Derived.Test.YtjepofehaphcnaaAbsArgs
set_option linter.unusedSectionVars false
set_option linter.unusedSimpArgs false
set_option linter.unusedVariables false
/-! Abs: regions whose order is drawn, in which several operations that make memory may come up at once; cuts behind a region. -/
namespace Go.Abs
open Go Go.RowKit
section each
variable {P : Program} {W : World} {C : Cls W} {r : Option Nat} {n : Nat} {Q : Post} {fr : Fr} {m : Mem} {ops : Array Oper} {fuel : Nat} {listed : Array Bool}
/-- What is known behind a piece of code. -/
def cutQ (ts : List Nat) (I : List Value → Mem → Prop) : Post
  | .normal, fr, m => I (ts.map fr) m
  | _, _, _ => False
theorem awp_cut {c : Code} (ts : List Nat) (I : List Value → Mem → Prop) (h : AWp P C r n c (cutQ ts I) fr m) (k : ∀ b vs m', I vs m' → Q .normal (upds b ts vs) m') : AWp P C r n c Q fr m := fun m0 w0 a w ha => by
  refine wpIn_mono (h m0 w0 a w ha) fun e a' w' hq => ?_
  cases e with
  | normal =>
    obtain ⟨fr', m', h1, h2⟩ := hq
    have := k fr' (ts.map fr') m' h2
    rw [upds_self] at this
    exact ⟨fr', m', h1, this⟩
  | exit id => obtain ⟨fr', m', h1, h2⟩ := hq; exact h2.elim
  | goto l => obtain ⟨fr', m', h1, h2⟩ := hq; exact h2.elim
  | ret => obtain ⟨fr', m', h1, h2⟩ := hq; exact h2.elim
  | panic c => exact hq.elim
  | outgrown => exact hq.elim
end each
end Go.Abs
namespace Go.Abs
open Go Go.RowKit
end Go.Abs
namespace Go.Abs
open Go Go.RowKit
section minx
variable {P : Program} {W : World} {C : Cls W} {o : Oper} {fr : Fr} {m : Mem}
theorem q_maxX {x y : Operand} {ts : Array TypeId} {k : IntKind} {a b X : Int} (hX : max a b = X) (ho : o.op = .call { callee := .builtin .max, args := #[x, y], argTypes := ts }) (hx : evalF fr x = .int k a) (hy : evalF fr y = .int k b) : QOp P W o fr m (.int k X) := by
  subst hX; exact q_max ho hx hy
end minx
end Go.Abs
