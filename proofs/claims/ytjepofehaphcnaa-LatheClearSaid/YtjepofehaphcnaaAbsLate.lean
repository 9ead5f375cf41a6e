import Derived.Test.YtjepofehaphcnaaAbsEach
set_option linter.unusedSectionVars false
set_option linter.unusedSimpArgs false
set_option linter.unusedVariables false
/-! Abs: regions whose order is drawn, in which stores stand beside operations that read: what these read lies in entries 'LJ' that stay. -/
namespace Go.Abs
open Go Go.RowKit
section
variable {P : Program} {r : Option Nat} {ops : Array Oper} {Q : Exit → Act → World → Prop} {T : Nat → Bool} {J : World → Prop}
def AnyJ (P : Program) (r : Option Nat) (ops : Array Oper) (Q : Exit → Act → World → Prop) (T : Nat → Bool) (J : World → Prop) : Nat → (World → Prop) → Array Bool → Act → Prop
  | 0, S, listed, a => Region.ready .any ops listed = [] ∧ ∀ w, S w → Q .normal a w
  | fuel + 1, S, listed, a => (Region.ready .any ops listed = [] → ∀ w, S w → Q .normal a w) ∧
      ∀ j ∈ Region.ready .any ops listed, ∀ w, S w → wpOpIn (fen r) 0 P ops Q j (fun a' w' => ∃ S' : World → Prop, S' w' ∧ (∀ w x, S' w → Still w x → S' x) ∧ (∀ w, S' w → J w) ∧
        ((∀ w, S' w → S w) ∨ fixedT ops T j = true) ∧ AnyJ P r ops Q T J fuel S' (listed.setIfInBounds j true) a') a w
theorem AnyJ.any : ∀ (fuel : Nat) (S : World → Prop) (listed : Array Bool) (a : Act), AnyJ P r ops Q T J fuel S listed a → ∀ w, S w → wpAnyIn (fen r) 0 P .any ops Q fuel listed a w
  | 0, _, _, _, h, w, hw => ⟨h.1, h.2 w hw⟩
  | fuel + 1, _, _, _, h, w, hw => ⟨fun h0 => h.1 h0 w hw, fun j hj => wpOpIn_mono (fun a' w' ⟨S', h1, _, _, _, h4⟩ => AnyJ.any fuel S' _ a' h4 w' h1) (h.2 j hj w hw)⟩
end
section moves
variable {P : Program} {W : World} {C : Cls W} {r : Option Nat} {n : Nat} {Q : Post} {fr : Fr} {m : Mem} {ops : Array Oper} {fuel : Nat} {listed : Array Bool} {T : Nat → Bool} {LJ : List Ent}
end moves
end Go.Abs
