import Derived.Test.YtkahddncdoamiaaAbsHeap
set_option linter.unusedSectionVars false
set_option linter.unusedSimpArgs false
set_option linter.unusedVariables false
/-! Abs: variables of the call's own in memory (boxes), results that lie there. -/
namespace Go.Abs
open Go Go.RowKit
section ops
variable {P : Program} {W : World} {C : Cls W} {o : Oper} {fr : Fr} {m : Mem}
/-- A variable that holds v. -/
abbrev Ent.v (T : TypeId) (B : Nat) (v : Value) : Ent := .box B ⟨[v], T, 1⟩
theorem h_new {T : TypeId} {v : Value} {l : List Ent} {K : Value → Mem → Prop} (H : HP m l) (hv : v.cells = #[v])
    (hr : ∀ w, (execOp (evalF fr) o).run P w = .ok (.value (.pointer (some ⟨w.heap.size, 0, Option.none⟩))) (w.alloc (.cells #[v] T)))
    (h : ∀ B m', HP m' (.v T B v :: l) → Le m m' → K (.pointer (some ⟨B, 0, Option.none⟩)) m') : AOp P (gen W) o fr m K := fun w hw => by
  rw [hr]
  have := Conc.alloc hw #[v] T
  refine ⟨_, this.1, this.2.1, h _ _ ((H.keep (Keep.put (Conc.fresh hw) _)).cons (p := .v T w.heap.size v) (Mem.put_at _ _ _) fun q hq B hB hqB => ?_) (Le.put (Conc.fresh hw) _)⟩
  obtain rfl : w.heap.size = B := by simpa [Ent.blk] using hB
  exact Ent.known (H.ok q hq) hqB ⟨Conc.fresh hw, Conc.freshO hw⟩
/-- A parameter that is captured. -/
theorem h_box {T : TypeId} {x : Operand} {v : Value} {l : List Ent} {K : Value → Mem → Prop} (H : HP m l) (ho : o.op = .box T x) (hx : evalF fr x = v) (hv : v.cells = #[v])
    (h : ∀ B m', HP m' (.v T B v :: l) → Le m m' → K (.pointer (some ⟨B, 0, Option.none⟩)) m') : AOp P (gen W) o fr m K :=
  h_new H hv (fun w => by simp [execOp, ho, hx, Instr.box, newVar, newRow, hv]) h
/-- A variable that is captured. -/
theorem h_alloc {T : TypeId} {z : Value} {i : TypeInfo} {l : List Ent} {K : Value → Mem → Prop} (hi : P.info? T = some i) (hz : i.zero = some z) (hv : z.cells = #[z]) (H : HP m l) (ho : o.op = .alloc T)
    (h : ∀ B m', HP m' (.v T B z :: l) → Le m m' → K (.pointer (some ⟨B, 0, Option.none⟩)) m') : AOp P (gen W) o fr m K :=
  h_new H hv (fun w => by simp [execOp, ho, Instr.alloc, zeroValue, typeInfo, hi, hz, newVar, newRow, hv]) h
theorem HP.cell {l : List Ent} (H : HP m l) (i : Nat) {B : Nat} {T : TypeId} {v : Value} (hi : l[i]? = some (.v T B v)) : cellAt W m ⟨B, 0, Option.none⟩ v := ⟨rfl, .inr ⟨_, H.box i hi, rfl⟩⟩
theorem q_var {T T' : TypeId} {x : Operand} {d : TypeDesc} {l : List Ent} (i : Nat) {B : Nat} {v : Value} (hT : P.underlying T = some d) (hd : flat d = true) (H : HP m l) (hi : l[i]? = some (.v T' B v))
    (ho : o.op = .load T x) (hx : evalF fr x = .pointer (some ⟨B, 0, Option.none⟩)) : QOp P W o fr m v := q_loadAt hT hd (H.cell i hi) ho hx
theorem h_setVar {T T' : TypeId} {inf : TypeInfo} {x y : Operand} {l : List Ent} (i : Nat) {B : Nat} {v u : Value} {K : Value → Mem → Prop} (hT : P.info? T = some inf) (hs : inf.size = 1) (H : HP m l) (hi : l[i]? = some (.v T' B v))
    (ho : o.op = .store T x y) (hx : evalF fr x = .pointer (some ⟨B, 0, Option.none⟩)) (hy : evalF fr y = u) (h1 : u.oneCell' = true)
    (h : ∀ m', HP m' (l.set i (.v T' B u)) → (∀ B' b, B' ≠ B → m B' = some b → m' B' = some b) → (∀ B o, m.obj B = some o → m'.obj B = some o) → K undef m') : AOp P (gen W) o fr m K := by
  have hB := H.box i hi
  have hput : ∀ B' b, B' ≠ B → m B' = some b → (m.put B ⟨[u], T', 1⟩) B' = some b := fun B' b hne hb => by simp [Mem.put, hne, hb]
  refine a_store hT hs ho hx hy h1 hB (by simp) (h _ (H.turn i hi (p' := .v T' B u) (Mem.put_at _ _ _) (fun q hq hok => ?_) (fun B' hB' => .inl hB')) hput fun _ _ h => h)
  have hq' : q.blk ≠ some B := fun e => hq B e rfl
  cases q with
  | sl vq eq sq nq xq =>
    refine OWN.keepNe (v := .slice (some ⟨B, 0, Option.none⟩) 0 0) (fun B' b hne hb => hput B' b (fun e => hne (by rw [e]; rfl)) hb) hok fun B' h1 h2 => ?_
    have : B = B' := by simpa [blkOf] using h2
    subst this
    exact hq' h1
  | box B' b => exact hput B' b (fun e => hq' (by rw [e]; rfl)) hok
  | obj B' o => exact hok
end ops
section more
variable {P : Program} {W : World} {C : Cls W} {o : Oper} {fr : Fr} {m : Mem}
end more
theorem cellAt.world {W : World} {m : Mem} {a : Addr} {v : Value} {w : World} (h : cellAt W m a v) (hc : Conc W m w) : cellAt w Mem.none a v := by
  have := h.cell hc
  exact ⟨h.1, .inl ⟨World.block_lt_of_cell? _ _ this, this⟩⟩
/-! ### where a round goes on -/
theorem pn_asg {K : Fr → Mem → Prop} {fr : Fr} {m : Mem} (h : K fr m) : asgQ K .normal fr m := h
theorem pn_rnd {I : Mem → Prop} {J : Exit → Mem → Prop} {fr : Fr} {m : Mem} (h : I m) : rndQ I J .normal fr m := h
theorem pr_rnd {I : Mem → Prop} {J : Exit → Mem → Prop} {fr : Fr} {m : Mem} (h : J .ret m) : rndQ I J .ret fr m := h
theorem px_rnd {I : Mem → Prop} {J : Exit → Mem → Prop} {id : Nat} {fr : Fr} {m : Mem} (h : J (.exit id) m) : rndQ I J (.exit id) fr m := h
/-! ### Results that lie in memory -/
def retM (V : Fr → Mem → Value → Prop) (R : Value → Mem → Prop) : Post
  | .normal, fr, m => ∃ v, V fr m v ∧ R v m
  | .ret, fr, m => ∃ v, V fr m v ∧ R v m
  | _, _, _ => False
theorem pn_retM {V : Fr → Mem → Value → Prop} {R : Value → Mem → Prop} {fr : Fr} {m : Mem} (h : ∃ v, V fr m v ∧ R v m) : retM V R .normal fr m := h
theorem pr_retM {V : Fr → Mem → Value → Prop} {R : Value → Mem → Prop} {fr : Fr} {m : Mem} (h : ∃ v, V fr m v ∧ R v m) : retM V R .ret fr m := h
end Go.Abs
