import Derived.Test.YtjepofehaphcnaaAbsMapB
set_option linter.unusedSectionVars false
set_option linter.unusedSimpArgs false
set_option linter.unusedVariables false
/-! Abs: regions whose order is drawn, in which a store that turns memory stands beside operations that read none. -/
namespace Go.Abs
open Go Go.RowKit
section
variable {P : Program} {r : Option Nat} {ops : Array Oper} {Q : Exit → Act → World → Prop} {T : Nat → Bool}
/-- As fixedAt, but for the operations in T. -/
def fixedT (ops : Array Oper) (T : Nat → Bool) (j : Nat) : Bool :=
  (List.range ops.size).all fun k => k == j || reach ops ops.size j k || reach ops ops.size k j || T k
def AnyT (P : Program) (r : Option Nat) (ops : Array Oper) (Q : Exit → Act → World → Prop) (T : Nat → Bool) : Nat → (World → Prop) → Array Bool → Act → Prop
  | 0, S, listed, a => Region.ready .any ops listed = [] ∧ ∀ w, S w → Q .normal a w
  | fuel + 1, S, listed, a => (Region.ready .any ops listed = [] → ∀ w, S w → Q .normal a w) ∧
      ∀ j ∈ Region.ready .any ops listed, ∀ w, S w → wpOpIn (fen r) 0 P ops Q j (fun a' w' => ∃ S' : World → Prop, S' w' ∧ (∀ w x, S' w → Still w x → S' x) ∧
        ((∀ w, S' w → S w) ∨ fixedT ops T j = true) ∧ AnyT P r ops Q T fuel S' (listed.setIfInBounds j true) a') a w
theorem AnyT.any : ∀ (fuel : Nat) (S : World → Prop) (listed : Array Bool) (a : Act), AnyT P r ops Q T fuel S listed a → ∀ w, S w → wpAnyIn (fen r) 0 P .any ops Q fuel listed a w
  | 0, _, _, _, h, w, hw => ⟨h.1, h.2 w hw⟩
  | fuel + 1, _, _, _, h, w, hw => ⟨fun h0 => h.1 h0 w hw, fun j hj => wpOpIn_mono (fun a' w' ⟨S', h1, _, _, h4⟩ => AnyT.any fuel S' _ a' h4 w' h1) (h.2 j hj w hw)⟩
end
/-- An operation that reads no memory. -/
def QPure (P : Program) (o : Oper) (fr : Fr) (v : Value) : Prop := ∀ w : World, (execOp (evalF fr) o).run P w = .ok (.value v) w
section moves
variable {P : Program} {W : World} {C : Cls W} {r : Option Nat} {n : Nat} {Q : Post} {fr : Fr} {m : Mem} {ops : Array Oper} {fuel : Nat} {listed : Array Bool} {T : Nat → Bool}
theorem QPure.q {o : Oper} {v : Value} (h : QPure P o fr v) : QOp P W o fr m v := q_of_run fun w _ => h w
end moves
end Go.Abs
