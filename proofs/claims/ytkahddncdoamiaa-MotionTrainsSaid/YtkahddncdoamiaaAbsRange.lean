import Derived.Test.YtkahddncdoamiaaAbsInts
set_option linter.unusedSectionVars false
set_option linter.unusedSimpArgs false
set_option linter.unusedVariables false
/-! Abs: closures, and ranges over functions. -/
namespace Go.Abs
open Go Go.RowKit
section clos
variable {P : Program} {W : World} {C : Cls W} {o : Oper} {fr : Fr} {m : Mem}
theorem q_makeFunc {fn : Fn} {first cap : Array Operand} {vs us : Array Value} (ho : o.op = .makeFunc fn first cap) (hf : first.toList.map (evalF fr) = vs.toList) (hc : cap.toList.map (evalF fr) = us.toList) : QOp P W o fr m (.func fn vs us) := q_of_run fun w _ => by
  have e1 : first.map (evalF fr) = vs := by apply Array.toList_inj.1; simpa using hf
  have e2 : cap.map (evalF fr) = us := by apply Array.toList_inj.1; simpa using hc
  simp [execOp, ho, e1, e2, Instr.makeFunc]
theorem callv_op {f : FuncId} {x : Operand} {xs : Array Operand} {ts : Array TypeId} {first cap args : Array Value} {w : World} (hf : Fun P f)
    (ho : o.op = .call { callee := .value x, args := xs, argTypes := ts }) (hv : evalF fr x = .func (.func f) first cap) (hx : first.toList ++ xs.toList.map (evalF fr) ++ cap.toList = args.toList) : (execOp (evalF fr) o).run P w = .ok (.enter f args) w := by
  have hx' : first ++ xs.map (evalF fr) ++ cap = args := by apply Array.toList_inj.1; simpa using hx
  subst hx'
  obtain ⟨fn, c, hf, hb, hn⟩ := hf
  have hn' : ¬ fn.name = "runtime.NumGoroutine" := by simpa using hn
  simp [execOp, ho, hv, resolve, Deferred.ofValue, invoke, callFunc, hf, hb, hn']
theorem a_callvm {f : FuncId} {x : Operand} {xs : Array Operand} {ts : Array TypeId} {first cap args : Array Value} {R : Value → Mem → Prop} (hf : Fun P f) (hc : ACalls P C f args m R)
    (ho : o.op = .call { callee := .value x, args := xs, argTypes := ts }) (hv : evalF fr x = .func (.func f) first cap) (hx : first.toList ++ xs.toList.map (evalF fr) ++ cap.toList = args.toList) : AOp P C o fr m R := fun w hw => by
  rw [callv_op hf ho hv hx]
  exact hc w hw
end clos

/-! ### yield -/
/-! ### for .. := range f -/
/-- What a round's body must come to: on (I), or out (J). -/
def rndQ (I : Mem → Prop) (J : Exit → Mem → Prop) : Post
  | .normal, _, m => I m
  | x, _, m => J x m
def asgQ (K : Fr → Mem → Prop) : Post
  | .normal, fr, m => K fr m
  | _, _, _ => False
section rng
variable {P : Program} {W : World}
end rng
end Go.Abs
