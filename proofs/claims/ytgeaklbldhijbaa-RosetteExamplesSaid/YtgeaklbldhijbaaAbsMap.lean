import Derived.Test.YtgeaklbldhijbaaAbsBox
set_option linter.unusedSectionVars false
set_option linter.unusedSimpArgs false
set_option linter.unusedVariables false
/-! Abs: maps of the call's own whose keys are integers. -/
namespace Go.Abs
open Go Go.RowKit
/-- An entry: its key, its value, and when it came in. -/
structure KV where
  k : Int
  v : Value
  b : Nat
def KV.e (kk : IntKind) (x : KV) : MapEntry := { key := .int kk x.k, val := x.v, born := x.b }
def kvs (kk : IntKind) (l : List KV) : Array MapEntry := (l.map (KV.e kk)).toArray
abbrev Ent.map (B : Nat) (kk : IntKind) (l : List KV) (c : Nat) : Ent := .obj B (.map (kvs kk l) c)
section ops
variable {P : Program} {W : World} {C : Cls W} {o : Oper} {fr : Fr} {m : Mem}
theorem Conc.turnO {w : World} {B : Nat} {o o' : Obj} (h : Conc W m w) (hB : m.obj B = some o) (hn : notCells o' = true) : Conc W (m.putO B o') (putObj w B o') ∧ Frm m w (m.putO B o') (putObj w B o') := by
  obtain ⟨hW, hw, hno⟩ := h.obj B o hB
  have hlt := h.ltO hB
  have hget : m B = Option.none := by
    cases e : m B with
    | none => rfl
    | some b => have := h.apart e; rw [this] at hB; cases hB
  refine ⟨⟨⟨h.below.os, h.below.tape, h.below.output, by simp [putObj]; exact h.below.size, fun i hi => by rw [putObj_ne _ _ (by omega)]; exact h.below.block i hi⟩, fun B' b hb => ?_, fun B' x hx => ?_⟩, ⟨by simp [putObj], fun B' hB' hf => ?_⟩⟩
  · have : B' ≠ B := fun e => by
      have hb' : m B' = some b := hb
      rw [e, hget] at hb'; cases hb'
    rw [putObj_ne _ _ this]; exact h.blk B' b hb
  · simp only [Mem.putO] at hx
    split at hx
    · rename_i e
      subst e
      obtain rfl := Option.some.inj hx
      exact ⟨hW, putObj_at _ _ hlt, hn⟩
    · rename_i e
      rw [putObj_ne _ _ e]; exact h.obj B' x hx
  · have hne : B' ≠ B := fun e => by have := hf.2; rw [e, hB] at this; cases this
    exact ⟨Mem.free_putO hf hne, putObj_ne _ _ hne⟩
theorem HP.turnO {l : List Ent} (H : HP m l) (i : Nat) {B : Nat} {o o' : Obj} (hi : l[i]? = some (.obj B o)) : HP (m.putO B o') (l.set i (.obj B o')) := by
  refine H.turn i hi (p' := .obj B o') (by show (m.putO B o').obj B = some o'; simp [Mem.putO]) (fun q hq hok => ?_) (fun B' hB' => .inl hB')
  have hq' : q.blk ≠ some B := fun e => hq B e rfl
  cases q with
  | sl vq eq sq nq xq => exact hok
  | box B' b => exact hok
  | obj B' x =>
    have hne : B' ≠ B := fun e => hq' (by rw [e]; rfl)
    show (m.putO B o').obj B' = some x
    simp [Mem.putO, hne]; exact hok
theorem run_getMap {w : World} {l : List Ent} (H : HP m l) (hw : Conc W m w) (i : Nat) {B : Nat} {ob : Obj} (hi : l[i]? = some (.obj B ob)) : (getObj B).run P w = .ok ob w := by
  obtain ⟨_, h2, h3⟩ := hw.obj B ob (H.obj i hi)
  cases ob <;> simp [notCells] at h3 <;> simp [getObj, Sem.run, h2]
end ops
end Go.Abs
