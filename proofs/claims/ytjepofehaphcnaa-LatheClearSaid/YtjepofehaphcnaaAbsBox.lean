import Derived.Test.YtjepofehaphcnaaAbsHeap
set_option linter.unusedSectionVars false
set_option linter.unusedSimpArgs false
set_option linter.unusedVariables false
/-! Abs: variables of the call's own in memory (boxes), results that lie there. -/
namespace Go.Abs
open Go Go.RowKit
section ops
variable {P : Program} {W : World} {C : Cls W} {o : Oper} {fr : Fr} {m : Mem}
/-- A variable that holds v. -/
abbrev Ent.v (T : TypeId) (B : Nat) (v : Value) : Ent := .box B ⟨[v], T, 1⟩
theorem h_new {T : TypeId} {v : Value} {l : List Ent} {K : Value → Mem → Prop} (H : HP m l) (hv : v.cells = #[v])
    (hr : ∀ w, (execOp (evalF fr) o).run P w = .ok (.value (.pointer (some ⟨w.heap.size, 0, Option.none⟩))) (w.alloc (.cells #[v] T)))
    (h : ∀ B m', HP m' (.v T B v :: l) → Le m m' → K (.pointer (some ⟨B, 0, Option.none⟩)) m') : AOp P (gen W) o fr m K := fun w hw => by
  rw [hr]
  have := Conc.alloc hw #[v] T
  refine ⟨_, this.1, this.2.1, h _ _ ((H.keep (Keep.put (Conc.fresh hw) _)).cons (p := .v T w.heap.size v) (Mem.put_at _ _ _) fun q hq B hB hqB => ?_) (Le.put (Conc.fresh hw) _)⟩
  obtain rfl : w.heap.size = B := by simpa [Ent.blk] using hB
  exact Ent.known (H.ok q hq) hqB ⟨Conc.fresh hw, Conc.freshO hw⟩
/-- A parameter that is captured. -/
theorem h_box {T : TypeId} {x : Operand} {v : Value} {l : List Ent} {K : Value → Mem → Prop} (H : HP m l) (ho : o.op = .box T x) (hx : evalF fr x = v) (hv : v.cells = #[v])
    (h : ∀ B m', HP m' (.v T B v :: l) → Le m m' → K (.pointer (some ⟨B, 0, Option.none⟩)) m') : AOp P (gen W) o fr m K :=
  h_new H hv (fun w => by simp [execOp, ho, hx, Instr.box, newVar, newRow, hv]) h
/-- A variable that is captured. -/
theorem h_alloc {T : TypeId} {z : Value} {i : TypeInfo} {l : List Ent} {K : Value → Mem → Prop} (hi : P.info? T = some i) (hz : i.zero = some z) (hv : z.cells = #[z]) (H : HP m l) (ho : o.op = .alloc T)
    (h : ∀ B m', HP m' (.v T B z :: l) → Le m m' → K (.pointer (some ⟨B, 0, Option.none⟩)) m') : AOp P (gen W) o fr m K :=
  h_new H hv (fun w => by simp [execOp, ho, Instr.alloc, zeroValue, typeInfo, hi, hz, newVar, newRow, hv]) h
theorem HP.cell {l : List Ent} (H : HP m l) (i : Nat) {B : Nat} {T : TypeId} {v : Value} (hi : l[i]? = some (.v T B v)) : cellAt W m ⟨B, 0, Option.none⟩ v := ⟨rfl, .inr ⟨_, H.box i hi, rfl⟩⟩
theorem q_var {T T' : TypeId} {x : Operand} {d : TypeDesc} {l : List Ent} (i : Nat) {B : Nat} {v : Value} (hT : P.underlying T = some d) (hd : flat d = true) (H : HP m l) (hi : l[i]? = some (.v T' B v))
    (ho : o.op = .load T x) (hx : evalF fr x = .pointer (some ⟨B, 0, Option.none⟩)) : QOp P W o fr m v := q_loadAt hT hd (H.cell i hi) ho hx
/-- The same, of a variable that lies in the world. -/
theorem q_varW {T : TypeId} {x : Operand} {d : TypeDesc} {a : Addr} {v : Value} (hT : P.underlying T = some d) (hd : flat d = true) (h : cellAt W m a v)
    (ho : o.op = .load T x) (hx : evalF fr x = .pointer (some a)) : QOp P W o fr m v := q_loadAt hT hd h ho hx
theorem h_setVar {T T' : TypeId} {inf : TypeInfo} {x y : Operand} {l : List Ent} (i : Nat) {B : Nat} {v u : Value} {K : Value → Mem → Prop} (hT : P.info? T = some inf) (hs : inf.size = 1) (H : HP m l) (hi : l[i]? = some (.v T' B v))
    (ho : o.op = .store T x y) (hx : evalF fr x = .pointer (some ⟨B, 0, Option.none⟩)) (hy : evalF fr y = u) (h1 : u.oneCell' = true)
    (h : ∀ m', HP m' (l.set i (.v T' B u)) → (∀ B' b, B' ≠ B → m B' = some b → m' B' = some b) → (∀ B o, m.obj B = some o → m'.obj B = some o) → K undef m') : AOp P (gen W) o fr m K := by
  have hB := H.box i hi
  have hput : ∀ B' b, B' ≠ B → m B' = some b → (m.put B ⟨[u], T', 1⟩) B' = some b := fun B' b hne hb => by simp [Mem.put, hne, hb]
  refine a_store hT hs ho hx hy h1 hB (by simp) (h _ (H.turn i hi (p' := .v T' B u) (Mem.put_at _ _ _) (fun q hq hok => ?_) (fun B' hB' => .inl hB')) hput fun _ _ h => h)
  have hq' : q.blk ≠ some B := fun e => hq B e rfl
  cases q with
  | sl vq eq sq nq xq =>
    refine OWN.keepNe (v := .slice (some ⟨B, 0, Option.none⟩) 0 0) (fun B' b hne hb => hput B' b (fun e => hne (by rw [e]; rfl)) hb) hok fun B' h1 h2 => ?_
    have : B = B' := by simpa [blkOf] using h2
    subst this
    exact hq' h1
  | box B' b => exact hput B' b (fun e => hq' (by rw [e]; rfl)) hok
  | obj B' o => exact hok
end ops
theorem fill_vals {z : Array Value} : ∀ (vs : List Value) (k : Nat) (els : List (Nat × Value)), (∀ v ∈ vs, v.cells = #[v]) → z.size = k + vs.length → els = (vs.zipIdx k).map (fun x => (x.2, x.1)) →
    ∀ z', z'.size = z.size → Instr.fill (fun i => some (i * 1, 1)) z' els = some (over z' k vs)
  | [], k, els, _, _, he, z', _ => by subst he; simp [Instr.fill, over]
  | y :: vs, k, els, hv, hz, he, z', hz' => by
    subst he
    have hy := hv y (List.mem_cons_self ..)
    simp only [List.zipIdx_cons, List.map_cons]
    rw [fill_cons (off := k) (size := 1) (by simp) (by rw [hy]; rfl) (by simp at hz; omega)]
    have := fill_vals (z := z) vs (k + 1) _ (fun v h => hv v (List.mem_cons_of_mem _ h)) (by simp at hz; omega) rfl (over z' k [y]) (by rw [over_size]; exact hz')
    rw [show y.cells.toList = [y] by rw [hy], this]
    rfl
section more
variable {P : Program} {W : World} {C : Cls W} {o : Oper} {fr : Fr} {m : Mem}
/-- Values of one cell written out as a slice: 'fill' is done. -/
theorem h_buildV {T e : TypeId} {i : TypeInfo} {z : Value} {n : Nat} {parts : Array (Nat × Operand)} {l : List Ent} {K : Value → Mem → Prop} (vs : List Value)
    (hT : P.underlying T = some (.slice e)) (hi : P.info? e = some i) (hz : i.zero = some z) (hs : i.size = 1) (H : HP m l) (ho : o.op = .buildSlice T n parts) (hx : parts.toList.map (fun (j, x) => (j, evalF fr x)) = (vs.zipIdx 0).map (fun x => (x.2, x.1))) (hv : ∀ v ∈ vs, v.cells = #[v]) (hn : vs.length = n) (hm : n ≤ 1000000)
    (h : ∀ v m', HP m' (.sl v e 1 n vs :: l) → Le m m' → K v m') : AOp P (gen W) o fr m K := by
  refine h_buildS (cs := vs.toArray) hT hi hz hs H ho (by omega) (fun z0 => ?_) (by simp [hn]) (fun v m' h2 h3 => h v m' (by simpa using h2) h3)
  rw [fill_vals (z := (Array.range (n * 1)).map (fun j => z0[j % z0.size]!)) vs 0 _ hv (by simp [hn]) hx _ rfl, over_all _ _ (by simp [hn])]
/-- A call of a function value. -/
theorem h_callv {f : FuncId} {x : Operand} {xs : Array Operand} {ts : Array TypeId} {first cap args : Array Value} {R : Value → Mem → Prop} {K : Value → Mem → Prop} (hf : Fun P f) (hc : ∀ w, Conc W m w → ACalls P (gen w) f args Mem.none R)
    (ho : o.op = .call { callee := .value x, args := xs, argTypes := ts }) (hv : evalF fr x = .func (.func f) first cap) (hx : first.toList ++ xs.toList.map (evalF fr) ++ cap.toList = args.toList)
    (h : ∀ v m2, R v m2 → SepA m m2 → K v (m.union m2)) : AOp P (gen W) o fr m K := fun w hw => by
  rw [callv_op hf ho hv hx]
  refine (hc w hw w (Conc.start w)).mono fun e w' ⟨v, m2, h1, h2, _, h3⟩ => ?_
  have hu := Conc.union hw h2
  exact ⟨v, _, h1, hu.1, Conc.frmU h2, h v m2 h3 (Conc.sepA hw h2)⟩
end more
theorem cellAt.world {W : World} {m : Mem} {a : Addr} {v : Value} {w : World} (h : cellAt W m a v) (hc : Conc W m w) : cellAt w Mem.none a v := by
  have := h.cell hc
  exact ⟨h.1, .inl ⟨World.block_lt_of_cell? _ _ this, this⟩⟩
/-! ### where a round goes on -/
theorem pn_asg {K : Fr → Mem → Prop} {fr : Fr} {m : Mem} (h : K fr m) : asgQ K .normal fr m := h
theorem pn_rnd {I : Mem → Prop} {J : Exit → Mem → Prop} {fr : Fr} {m : Mem} (h : I m) : rndQ I J .normal fr m := h
theorem pr_rnd {I : Mem → Prop} {J : Exit → Mem → Prop} {fr : Fr} {m : Mem} (h : J .ret m) : rndQ I J .ret fr m := h
theorem px_rnd {I : Mem → Prop} {J : Exit → Mem → Prop} {id : Nat} {fr : Fr} {m : Mem} (h : J (.exit id) m) : rndQ I J (.exit id) fr m := h
/-! ### Results that lie in memory -/
def ResM (P : Program) (W : World) (fn : Func) (V : Fr → Mem → Value → Prop) : Prop :=
  ∀ (fr : Fr) (D : List Nat) (a : Act) (w : World) (m : Mem) (v : Value), FR fn.ntmps fr D a → Conc W m w → V fr m v → (results fn a.tmps).run P w = .ok v w
def retM (V : Fr → Mem → Value → Prop) (R : Value → Mem → Prop) : Post
  | .normal, fr, m => ∃ v, V fr m v ∧ R v m
  | .ret, fr, m => ∃ v, V fr m v ∧ R v m
  | _, _, _ => False
theorem pn_retM {V : Fr → Mem → Value → Prop} {R : Value → Mem → Prop} {fr : Fr} {m : Mem} (h : ∃ v, V fr m v ∧ R v m) : retM V R .normal fr m := h
theorem pr_retM {V : Fr → Mem → Value → Prop} {R : Value → Mem → Prop} {fr : Fr} {m : Mem} (h : ∃ v, V fr m v ∧ R v m) : retM V R .ret fr m := h
theorem leave_marksM {P : Program} {W : World} {C : Cls W} {fn : Func} {V : Fr → Mem → Value → Prop} {R : Value → Mem → Prop} {m0 : Mem} {w0 : World} (hr : ResM P W fn V) (hW : W.heap.size ≤ w0.heap.size) {fr : Fr} {m : Mem} {v : Value} (hV : V fr m v) (hR : R v m) {D0 : List Nat} {a : Act} (ha : FR fn.ntmps fr D0 a) :
    ∀ (D : List Nat) (w : World), D.Nodup → (∀ r ∈ D, w0.heap.size ≤ r ∧ w.heap[r]? = some (.deferred (some [])) ∧ m.free r) → C.C m w → Frm m0 w0 m w →
      LeavesInM Fence.wide 0 P fn a.tmps (fun e w' => ∃ v m', e = .returned v ∧ C.C m' w' ∧ Frm m0 w0 m' w' ∧ R v m') (D.map markOf) .returning w
  | [], w, _, _, hc, hf => ⟨_, hr fr D0 a w m v ha (C.conc hc) hV, _, m, rfl, hc, hf, hR⟩
  | r :: D, w, hnd, hm, hc, hf => by
    obtain ⟨h0, h1, h2⟩ := hm r (List.mem_cons_self ..)
    have hc' := C.other (o := .deferred none) hc h2 (by omega)
    have hf' : Frm m0 w0 m (putObj w r (.deferred none)) := ⟨by simp [putObj]; exact hf.size, fun B hB hfr => by
      rw [putObj_ne _ _ (by omega)]; exact hf.old B hB hfr⟩
    refine ⟨by simp, .inl ⟨r, _, rfl, take_mark h1, ?_⟩⟩
    exact leave_marksM hr hW hV hR ha D _ (List.nodup_cons.1 hnd).2 (fun x hx => by
        obtain ⟨g0, g1, g2⟩ := hm x (List.mem_cons_of_mem _ hx)
        have : x ≠ r := fun e => (List.nodup_cons.1 hnd).1 (e ▸ hx)
        exact ⟨g0, by rw [putObj_ne _ _ this]; exact g1, g2⟩) hc' hf'
theorem acalls_of_bodyM {P : Program} {W : World} {C : Cls W} {f : FuncId} {fn : Func} {c : Code} {args : Array Value} {m : Mem} {R : Value → Mem → Prop} {V : Fr → Mem → Value → Prop}
    (hf : P.funcs[f]? = some fn) (hb : fn.body = some c) (hr : ResM P W fn V) (hn : args.size ≤ fn.ntmps) (h : AWp P C none fn.ntmps c (retM V R) (argsF args) m) : ACalls P C f args m R := fun w hw => by
  refine callsIn_wide.1 (callsIn_of_wp_marks (n := 0) hf hb trivial (wpIn_mono (h m w _ w ⟨⟨[], argsFR hn, ⟨fun r hr => (by cases hr), fun l e => (by cases e), fun l e => (by cases e)⟩⟩, hw, Frm.refl _ _⟩) fun e a w' hq => ?_))
  have hW := (C.conc hw).below.size
  cases e with
  | normal =>
    obtain ⟨fr, m', h1, v, hv, h3⟩ := hq
    obtain ⟨D, g1, g2⟩ := h1.fr
    have := leave_marksM (C := C) hr hW hv h3 g1 D w' g1.nodup g2.marks h1.c h1.frm
    rw [← g1.defers] at this
    exact this
  | ret =>
    obtain ⟨fr, m', h1, v, hv, h3⟩ := hq
    obtain ⟨D, g1, g2⟩ := h1.fr
    have := leave_marksM (C := C) hr hW hv h3 g1 D w' g1.nodup g2.marks h1.c h1.frm
    rw [← g1.defers] at this
    exact this
  | panic c => exact hq.elim
  | outgrown => exact hq.elim
  | exit id => obtain ⟨fr, m', h1, h3⟩ := hq; exact h3.elim
  | goto l => obtain ⟨fr, m', h1, h3⟩ := hq; exact h3.elim
end Go.Abs
