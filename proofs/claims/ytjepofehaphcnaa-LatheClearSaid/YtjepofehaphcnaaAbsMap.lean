import Derived.Test.YtjepofehaphcnaaAbsBox
set_option linter.unusedSectionVars false
set_option linter.unusedSimpArgs false
set_option linter.unusedVariables false
/-! Abs: maps of the call's own whose keys are integers. -/
namespace Go.Abs
open Go Go.RowKit
/-- An entry: its key, its value, and when it came in. -/
structure KV where
  k : Int
  v : Value
  b : Nat
def KV.e (kk : IntKind) (x : KV) : MapEntry := { key := .int kk x.k, val := x.v, born := x.b }
def kvs (kk : IntKind) (l : List KV) : Array MapEntry := (l.map (KV.e kk)).toArray
abbrev Ent.map (B : Nat) (kk : IntKind) (l : List KV) (c : Nat) : Ent := .obj B (.map (kvs kk l) c)
section ops
variable {P : Program} {W : World} {C : Cls W} {o : Oper} {fr : Fr} {m : Mem}
end ops
end Go.Abs
