import Derived.Test.YtjepofehaphcnaaAbsInts
set_option linter.unusedSectionVars false
set_option linter.unusedSimpArgs false
set_option linter.unusedVariables false
/-! Abs: closures, and ranges over functions. -/
namespace Go.Abs
open Go Go.RowKit
section clos
variable {P : Program} {W : World} {C : Cls W} {o : Oper} {fr : Fr} {m : Mem}
theorem q_makeFunc {fn : Fn} {first cap : Array Operand} {vs us : Array Value} (ho : o.op = .makeFunc fn first cap) (hf : first.toList.map (evalF fr) = vs.toList) (hc : cap.toList.map (evalF fr) = us.toList) : QOp P W o fr m (.func fn vs us) := q_of_run fun w _ => by
  have e1 : first.map (evalF fr) = vs := by apply Array.toList_inj.1; simpa using hf
  have e2 : cap.map (evalF fr) = us := by apply Array.toList_inj.1; simpa using hc
  simp [execOp, ho, e1, e2, Instr.makeFunc]
theorem callv_op {f : FuncId} {x : Operand} {xs : Array Operand} {ts : Array TypeId} {first cap args : Array Value} {w : World} (hf : Fun P f)
    (ho : o.op = .call { callee := .value x, args := xs, argTypes := ts }) (hv : evalF fr x = .func (.func f) first cap) (hx : first.toList ++ xs.toList.map (evalF fr) ++ cap.toList = args.toList) : (execOp (evalF fr) o).run P w = .ok (.enter f args) w := by
  have hx' : first ++ xs.map (evalF fr) ++ cap = args := by apply Array.toList_inj.1; simpa using hx
  subst hx'
  obtain ⟨fn, c, hf, hb, hn⟩ := hf
  have hn' : ¬ fn.name = "runtime.NumGoroutine" := by simpa using hn
  simp [execOp, ho, hv, resolve, Deferred.ofValue, invoke, callFunc, hf, hb, hn']
theorem a_callvm {f : FuncId} {x : Operand} {xs : Array Operand} {ts : Array TypeId} {first cap args : Array Value} {R : Value → Mem → Prop} (hf : Fun P f) (hc : ACalls P C f args m R)
    (ho : o.op = .call { callee := .value x, args := xs, argTypes := ts }) (hv : evalF fr x = .func (.func f) first cap) (hx : first.toList ++ xs.toList.map (evalF fr) ++ cap.toList = args.toList) : AOp P C o fr m R := fun w hw => by
  rw [callv_op hf ho hv hx]
  exact hc w hw
end clos

/-! ### yield -/
def setAll (tmps : Array Value) : List Nat → List Value → Array Value
  | t :: ts, v :: vs => setAll (tmps.setIfInBounds t v) ts vs
  | _, _ => tmps
theorem foldl_setAll : ∀ (ps : List Nat) (as : List Value) (tmps : Array Value), (ps.zip as).foldl (fun tmps (x : Nat × Value) => tmps.setIfInBounds x.1 x.2) tmps = setAll tmps ps as
  | [], _, _ => rfl
  | _ :: _, [], _ => rfl
  | p :: ps, a :: as, tmps => by simp only [List.zip_cons_cons, List.foldl_cons, setAll]; exact foldl_setAll ps as _
theorem FR.setAll {n : Nat} {fr : Fr} {D D' : List Nat} {a : Act} (h : FR n fr D a) (hd : D'.Nodup) (ps : List Nat) (as : List Value) : FR n (upds fr ps as) D' ⟨setAll a.tmps ps as, D'.map markOf⟩ := by
  induction ps generalizing fr a as with
  | nil => exact ⟨h.size, rfl, hd, h.at_⟩
  | cons p ps ih =>
    cases as with
    | nil => exact ⟨h.size, rfl, hd, h.at_⟩
    | cons v as => exact ih (h.put (some p) v) as
def Yields (P : Program) {W : World} (C : Cls W) (l : Nat) (args : Array Value) (m : Mem) (R : Value → Mem → Prop) : Prop :=
  ∀ w, C.C m w → ∃ L : Loop, w.heap[l]? = some (.loop L) ∧ args.size = L.params.size ∧
    RoundIn Fence.wide 0 P l L.fn (setAll L.tmps L.params.toList args.toList) L.assign L.body w (fun e w' => ∃ v m', e = .returned v ∧ C.C m' w' ∧ Frm m w m' w' ∧ R v m')
theorem a_yield {P : Program} {W : World} {C : Cls W} {o : Oper} {fr : Fr} {m : Mem} {l : Nat} {x : Operand} {xs : Array Operand} {ts : Array TypeId} {args : Array Value} {R : Value → Mem → Prop} (hY : Yields P C l args m R)
    (ho : o.op = .call { callee := .value x, args := xs, argTypes := ts }) (hv : evalF fr x = .func (.yield l) #[] #[]) (hx : xs.toList.map (evalF fr) = args.toList) : AOp P C o fr m R := fun w hw => by
  have hx' : xs.map (evalF fr) = args := by apply Array.toList_inj.1; simpa using hx
  obtain ⟨L, h1, h2, h3⟩ := hY w hw
  have hg : (Instr.getLoop l).run P w = .ok L w := by simp [Instr.getLoop, getObj, Sem.run, h1]
  have hr : (execOp (evalF fr) o).run P w = .ok (.round l L.fn (setAll L.tmps L.params.toList args.toList) L.assign L.body) w := by
    have hz : (L.params.zip args).foldl (fun tmps (t, a) => tmps.setIfInBounds t a) L.tmps = setAll L.tmps L.params.toList args.toList := by
      rw [← Array.foldl_toList, Array.toList_zip]; exact foldl_setAll _ _ _
    simp [execOp, ho, hv, resolve, Deferred.ofValue, invoke, hx', Instr.yield, hg, h2]
    have hsz : (L.params.zip args).size = L.params.size := by simp [h2]
    rw [← hsz]
    exact hz
  rw [hr]
  exact h3

/-! ### for .. := range f -/
theorem putObj_at (w : World) {r : Nat} (o : Obj) (h : r < w.heap.size) : (putObj w r o).heap[r]? = some o := by simp [putObj, h]
theorem putObj_size (w : World) (r : Nat) (o : Obj) : (putObj w r o).heap.size = w.heap.size := by simp [putObj]
theorem run_setObj {P : Program} {w : World} {l : Nat} {L : Loop} (h : w.heap[l]? = some (.loop L)) (o : Obj) : (setObj l o).run P w = .ok () (putObj w l o) := by
  simp [setObj, Sem.run, h, putObj]
theorem run_getLoop {P : Program} {w : World} {l : Nat} {L : Loop} (h : w.heap[l]? = some (.loop L)) : (Instr.getLoop l).run P w = .ok L w := by simp [Instr.getLoop, getObj, Sem.run, h]
theorem run_begin {P : Program} {w : World} {l : Nat} {L : Loop} (h : w.heap[l]? = some (.loop L)) (hs : L.state = .ready) : (Instr.beginRound l).run P w = .ok () (putObj w l (.loop { L with state := .busy })) := by
  simp [Instr.beginRound, run_getLoop h, run_setObj h, hs]
theorem run_end {P : Program} {w : World} {l : Nat} {L : Loop} (h : w.heap[l]? = some (.loop L)) (j : Option Code) : (Instr.endRound l j).run P w = .ok (.bool j.isNone) (putObj w l (.loop { L with state := if j.isNone then .ready else .done, pending := j })) := by
  simp [Instr.endRound, run_getLoop h, run_setObj h]
theorem run_endLoop {P : Program} {w : World} {l : Nat} {L : Loop} (h : w.heap[l]? = some (.loop L)) (hs : (L.state == .busy) = false) : (Instr.endLoop l).run P w = .ok L.pending (putObj w l (.loop { L with state := .exhausted })) := by
  have hs' : ¬ L.state = .busy := fun e => by rw [e] at hs; exact absurd hs (by decide)
  simp [Instr.endLoop, run_getLoop h, run_setObj h, hs']
/-- The code that leaves so. -/
def codeOf : Exit → Option Code
  | .ret => some .ret
  | .exit id => some (.exit id)
  | .goto l => some (.goto l)
  | _ => none
/-- What a round's body must come to: on (I), or out (J). -/
def rndQ (I : Mem → Prop) (J : Exit → Mem → Prop) : Post
  | .normal, _, m => I m
  | x, _, m => J x m
def asgQ (K : Fr → Mem → Prop) : Post
  | .normal, fr, m => K fr m
  | _, _, _ => False
theorem Mem.putO_le {m : Mem} {l : Nat} {o : Obj} (hf : m.free l) : Le m (m.putO l o) := ⟨fun B b hb => ⟨[], by show m.get B = _; rw [hb]; simp⟩, fun B x hx => by
  have : B ≠ l := fun e => by rw [e, hf.2] at hx; cases hx
  simp [Mem.putO, this, hx]⟩
theorem Conc.putO {W : World} {m : Mem} {w : World} {l : Nat} {o : Obj} (h : Conc W m w) (hl : w.heap[l]? = some o) (hn : notCells o = true) (hW : W.heap.size ≤ l) : Conc W (m.putO l o) w :=
  ⟨h.below, h.blk, fun B x hx => by
    simp only [Mem.putO] at hx
    split at hx
    · rename_i e
      obtain rfl := Option.some.inj hx
      subst e
      exact ⟨hW, hl, hn⟩
    · exact h.obj B x hx⟩
theorem Mem.putO_free {m : Mem} {l B : Nat} {o : Obj} (h : (m.putO l o).free B) : B ≠ l ∧ m.free B := by
  have hne : B ≠ l := fun e => by subst e; have := h.2; simp [Mem.putO] at this
  refine ⟨hne, h.1, ?_⟩
  have := h.2
  simpa [Mem.putO, hne] using this
theorem Mem.free_putO {m : Mem} {l B : Nat} {o : Obj} (h : m.free B) (hne : B ≠ l) : (m.putO l o).free B := ⟨h.1, by simp [Mem.putO, hne]; exact h.2⟩
section rng
variable {P : Program} {W : World}
/-- A round's end: what the record becomes. -/
theorem round_close {L L' : Loop} {l : Nat} {m m1 m2 : Mem} {w w1 w3 : World} {o : Obj} (hf : m.free l) (hW : W.heap.size ≤ l) (f1 : Frm m w m1 w1) (hlt : l < w.heap.size) (f2 : Frm m1 (putObj w1 l o) m2 w3) (hc : Conc W m2 w3) :
    m2.free l ∧ w3.heap[l]? = some o ∧ Conc W (m2.putO l (.loop L')) (putObj w3 l (.loop L')) ∧ Frm (m.putO l (.loop L)) w (m2.putO l (.loop L')) (putObj w3 l (.loop L')) := by
  have hlt1 : l < w1.heap.size := Nat.lt_of_lt_of_le hlt f1.size
  have hm1 := (f1.old l hlt hf).1
  obtain ⟨hm2, e2⟩ := f2.old l (by simpa [putObj] using hlt1) hm1
  rw [putObj_at _ _ hlt1] at e2
  have hlt3 : l < w3.heap.size := (Array.getElem?_eq_some_iff.1 e2).1
  refine ⟨hm2, e2, Conc.putO (Conc.other hc hm2 hW) (putObj_at _ _ hlt3) rfl hW, ?_, fun B hB hfB => ?_⟩
  · rw [putObj_size]
    have := f2.size
    rw [putObj_size] at this
    exact Nat.le_trans f1.size this
  · obtain ⟨hne, hfm⟩ := Mem.putO_free hfB
    obtain ⟨g1, g2⟩ := f1.old B hB hfm
    obtain ⟨g3, g4⟩ := f2.old B (by rw [putObj_size]; exact Nat.lt_of_lt_of_le hB f1.size) g1
    rw [putObj_ne _ _ hne] at g4
    exact ⟨Mem.free_putO g3 hne, by rw [putObj_ne _ _ hne, g4, g2]⟩
/-- One call of yield: from the round's body. -/
theorem yields_of {n : Nat} {L : Loop} {l : Nat} {args : Array Value} {fr : Fr} {D : List Nat} {I1 : Mem → Prop} {J : Exit → Mem → Prop} {m : Mem} (hs : L.state = .ready) (hp : L.pending = none) (hsz : args.size = L.params.size)
    (hf : m.free l) (hW : W.heap.size ≤ l) (hfr : FR n fr D ⟨L.tmps, D.map markOf⟩)
    (hb : AWp P (gen W) (some l) n L.assign (asgQ (fun fr1 m1 => AWp P (gen W) (some l) n L.body (rndQ I1 J) fr1 m1)) (upds fr L.params.toList args.toList) m) :
    Yields P (gen W) l args (m.putO l (.loop L)) (fun v M' => ∃ m', m'.free l ∧ ((v = .bool true ∧ M' = m'.putO l (.loop L) ∧ I1 m') ∨
      (v = .bool false ∧ ∃ x c, codeOf x = some c ∧ M' = m'.putO l (.loop { L with state := .done, pending := some c }) ∧ J x m'))) := by
  intro w hw
  have hwl : w.heap[l]? = some (.loop L) := (hw.obj l (.loop L) (by simp [Mem.putO])).2.1
  have hlt : l < w.heap.size := (Array.getElem?_eq_some_iff.1 hwl).1
  have hwm : Conc W m w := Conc.forget hw (Mem.putO_le hf)
  refine ⟨L, hwl, hsz, ?_⟩
  refine roundIn_of_wpIn (F := Fence.wide) trivial ?_
  have hat : At (gen W) (some l) n m w (upds fr L.params.toList args.toList) m ⟨setAll L.tmps L.params.toList args.toList, []⟩ w :=
    ⟨⟨[], hfr.setAll List.nodup_nil _ _, ⟨fun r hr => (by cases hr), fun l' e => by cases e; exact ⟨L, hwl, hf⟩, fun _ _ => rfl⟩⟩, hwm, Frm.refl _ _⟩
  refine wpIn_mono (hb m w _ w hat) fun e a1 w1 hq => ?_
  cases e with
  | panic c => exact hq.elim
  | outgrown => exact hq.elim
  | ret => obtain ⟨_, _, _, h⟩ := hq; exact h.elim
  | exit id => obtain ⟨_, _, _, h⟩ := hq; exact h.elim
  | goto g => obtain ⟨_, _, _, h⟩ := hq; exact h.elim
  | normal =>
    obtain ⟨fr1, m1, hat1, hbody⟩ := hq
    obtain ⟨f1, e1⟩ := hat1.frm.old l hlt hf
    have hw1 : w1.heap[l]? = some (.loop L) := e1.trans hwl
    have hlt1 : l < w1.heap.size := (Array.getElem?_eq_some_iff.1 hw1).1
    refine ⟨_, run_begin hw1 hs, ?_⟩
    have hc2 : Conc W m1 (putObj w1 l (.loop { L with state := .busy })) := Conc.other hat1.c f1 hW
    obtain ⟨D1, hfr1, hmk1⟩ := hat1.fr
    obtain rfl := hmk1.nil l rfl
    have hat2 : At (gen W) (some l) n m1 (putObj w1 l (.loop { L with state := .busy })) fr1 m1 a1 (putObj w1 l (.loop { L with state := .busy })) :=
      ⟨⟨[], hfr1, ⟨fun r hr => (by cases hr), fun l' e => by cases e; exact ⟨_, putObj_at _ _ hlt1, f1⟩, fun _ _ => rfl⟩⟩, hc2, Frm.refl _ _⟩
    refine wpIn_mono (hbody m1 _ a1 _ hat2) fun e a2 w3 hq => ?_
    have go : ∀ (x : Exit) (c : Code) (fr2 : Fr) (m2 : Mem), codeOf x = some c → At (gen W) (some l) n m1 (putObj w1 l (.loop { L with state := .busy })) fr2 m2 a2 w3 → J x m2 →
        ∃ v w', (Instr.endRound l (some c)).run P w3 = .ok v w' ∧ ∃ u M', (Ending.returned v) = .returned u ∧ (gen W).C M' w' ∧ Frm (m.putO l (.loop L)) w M' w' ∧
          ∃ m', m'.free l ∧ ((u = .bool true ∧ M' = m'.putO l (.loop L) ∧ I1 m') ∨ (u = .bool false ∧ ∃ x c, codeOf x = some c ∧ M' = m'.putO l (.loop { L with state := .done, pending := some c }) ∧ J x m')) := by
      intro x c fr2 m2 hcx hat3 hj
      obtain ⟨k1, k2, k3, k4⟩ := round_close (L := L) (L' := { L with state := .done, pending := some c }) hf hW hat1.frm hlt hat3.frm hat3.c
      exact ⟨_, _, run_end k2 (some c), _, _, rfl, k3, k4, m2, k1, .inr ⟨rfl, x, c, hcx, rfl, hj⟩⟩
    cases e with
    | panic c => exact hq.elim
    | outgrown => exact hq.elim
    | ret => obtain ⟨fr2, m2, hat3, h⟩ := hq; exact go .ret _ fr2 m2 rfl hat3 h
    | exit id => obtain ⟨fr2, m2, hat3, h⟩ := hq; exact go (.exit id) _ fr2 m2 rfl hat3 h
    | goto g => obtain ⟨fr2, m2, hat3, h⟩ := hq; exact go (.goto g) _ fr2 m2 rfl hat3 h
    | normal =>
      obtain ⟨fr2, m2, hat3, h⟩ := hq
      obtain ⟨k1, k2, k3, k4⟩ := round_close (L := L) (L' := L) hf hW hat1.frm hlt hat3.frm hat3.c
      have eL : ({ { L with state := .busy } with state := if (none : Option Code).isNone then .ready else .done, pending := none } : Loop) = L := by
        cases L; simp_all
      refine ⟨_, _, run_end k2 none, _, m2.putO l (.loop L), rfl, ?_, ?_, m2, k1, .inl ⟨rfl, rfl, h⟩⟩
      · rw [eL]; exact k3
      · rw [eL]; exact k4
theorem Conc.freeTop {m : Mem} {w : World} (h : Conc W m w) : m.free w.heap.size := ⟨h.fresh, h.freshO⟩
def pushed (w : World) (o : Obj) : World := w.alloc o
theorem pushed_old (w : World) (o : Obj) {B : Nat} (hB : B < w.heap.size) : (pushed w o).heap[B]? = w.heap[B]? := by
  exact Below.heap_alloc w o B hB
theorem pushed_top (w : World) (o : Obj) : (pushed w o).heap[w.heap.size]? = some o := by
  show (w.heap.push o)[w.heap.size]? = some o
  simp
theorem pushed_size (w : World) (o : Obj) : (pushed w o).heap.size = w.heap.size + 1 := by simp [pushed]
theorem Conc.pushed {m : Mem} {w : World} (h : Conc W m w) (o : Obj) : Conc W m (pushed w o) :=
  ⟨⟨h.below.os, h.below.tape, h.below.output, by rw [pushed_size]; exact Nat.le_succ_of_le h.below.size, fun i hi => by rw [pushed_old _ _ (Nat.lt_of_lt_of_le hi h.below.size)]; exact h.below.block i hi⟩,
   fun B b hb => by rw [pushed_old _ _ (h.lt hb)]; exact h.blk B b hb, fun B b hb => by rw [pushed_old _ _ (h.ltO hb)]; exact h.obj B b hb⟩
theorem Frm.pushed (m : Mem) (w : World) (o : Obj) : Frm m w m (pushed w o) := ⟨by rw [pushed_size]; omega, fun B hB hf => ⟨hf, pushed_old w o hB⟩⟩
theorem run_newObj (w : World) (o : Obj) : (newObj o).run P w = .ok w.heap.size (pushed w o) := by
  simp [newObj, Sem.run, pushed]
/-- The statement is entered: the record is laid. -/
theorem enter_loop {r : Option Nat} {n : Nat} {m0 m : Mem} {w0 w : World} {fr : Fr} {a : Act} (ha : At (gen W) r n m0 w0 fr m a w) (fn : FuncId) (ps : Array Tmp) (assign body : Code) :
    ∃ (l : Nat) (N D : List Nat) (L : Loop) (w1 : World), (Instr.enterLoop fn a.tmps ps assign body r).run P w = .ok (l, N.map markOf) w1 ∧ L.state = .ready ∧ L.pending = none ∧ L.params = ps ∧ L.tmps = a.tmps ∧ L.assign = assign ∧ L.body = body ∧
      m.free l ∧ w.heap.size ≤ l ∧ W.heap.size ≤ l ∧ FR n fr D a ∧ Conc W (m.putO l (.loop L)) w1 ∧ Frm m w m w1 ∧ FR n fr (N ++ D) { a with defers := N.map markOf ++ a.defers } ∧ w1.heap[l]? = some (.loop L) ∧ (∀ B ∈ N ++ D, B ≠ l) ∧ MarksOk r w0 (N ++ D) m w1 ∧ (∀ l0, r = some l0 → l0 ≠ l) := by
  obtain ⟨D, hfr, hmk⟩ := ha.fr
  have hc : Conc W m w := ha.c
  cases r with
  | none =>
    let w1 := pushed w (.deferred (some []))
    let L : Loop := { state := .ready, pending := none, fn, tmps := a.tmps, params := ps, assign, body, defers := w.heap.size }
    let w2 := pushed w1 (.loop L)
    have s1 : w1.heap.size = w.heap.size + 1 := pushed_size _ _
    have c1 : Conc W m w1 := hc.pushed _
    have c2 : Conc W m w2 := c1.pushed _
    have hl : w2.heap[w1.heap.size]? = some (.loop L) := pushed_top _ _
    have hlt : ∀ B ∈ D, B < w.heap.size := fun B hB => (Array.getElem?_eq_some_iff.1 (hmk.marks B hB).2.1).1
    have f2 : Frm m w m w2 := (Frm.pushed m w _).trans (Frm.pushed m w1 _)
    refine ⟨w1.heap.size, [w.heap.size], D, L, w2, ?_, rfl, rfl, rfl, rfl, rfl, rfl, c1.freeTop, by omega, Nat.le_trans hc.below.size (by omega), hfr, Conc.putO c2 hl rfl (Nat.le_trans hc.below.size (by omega)), f2, ⟨hfr.size, ?_, ?_, hfr.at_⟩, hl, ?_, ⟨?_, fun l e => (by cases e), fun l e => (by cases e)⟩, fun _ e => (by cases e)⟩
    · simp [Instr.enterLoop, run_newObj, markOf, w1, w2, L, pushed]
    · simp [hfr.defers]
    · exact List.nodup_cons.2 ⟨fun h => Nat.lt_irrefl _ (hlt _ h), hfr.nodup⟩
    · intro B hB
      rcases List.mem_cons.1 hB with e | hB
      · omega
      · have := hlt B hB; omega
    · intro B hB
      rcases List.mem_cons.1 hB with e | hB
      · subst e
        refine ⟨ha.frm.size, ?_, hc.freeTop⟩
        rw [pushed_old _ _ (by omega)]
        exact pushed_top _ _
      · obtain ⟨h0, h1, h2⟩ := hmk.marks B hB
        exact ⟨h0, ((f2.old B (hlt B hB) h2).2).trans h1, h2⟩
  | some l0 =>
    obtain ⟨L0, hL0, hf0⟩ := hmk.rnd l0 rfl
    obtain rfl := hmk.nil l0 rfl
    let L : Loop := { state := .ready, pending := none, fn, tmps := a.tmps, params := ps, assign, body, defers := L0.defers }
    let w2 := pushed w (.loop L)
    have hlt0 := (Array.getElem?_eq_some_iff.1 hL0).1
    have c2 : Conc W m w2 := hc.pushed _
    have hl : w2.heap[w.heap.size]? = some (.loop L) := pushed_top _ _
    have f2 : Frm m w m w2 := Frm.pushed m w _
    refine ⟨w.heap.size, [], [], L, w2, ?_, rfl, rfl, rfl, rfl, rfl, rfl, hc.freeTop, Nat.le_refl _, hc.below.size, hfr, Conc.putO c2 hl rfl hc.below.size, f2, hfr, hl, fun B hB => (by cases hB), ⟨fun _ h => (by cases h), fun l e => ?_, fun _ _ => rfl⟩, fun l e => ?_⟩
    · simp [Instr.enterLoop, run_newObj, run_getLoop hL0, w2, L, pushed]
    · cases e; exact ⟨L0, (pushed_old _ _ hlt0).trans hL0, hf0⟩
    · cases e; omega
theorem awp_jump {C : Cls W} {r : Option Nat} {n : Nat} {Q : Post} {fr : Fr} {m : Mem} {x : Exit} {c : Code} (hc : codeOf x = some c) (h : Q x fr m) : AWp P C r n c Q fr m := by
  cases x <;> simp only [codeOf] at hc <;> first | (cases hc; done) | (obtain rfl := Option.some.inj hc)
  · exact awp_exit h
  · exact awp_goto h
  · exact awp_ret h
end rng
end Go.Abs
