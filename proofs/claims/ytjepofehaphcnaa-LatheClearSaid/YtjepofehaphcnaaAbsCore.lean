import Derived.Orders
import Derived.OrdersHeld
import Derived.Below
import Derived.Deep.Draws
import Derived.Deep.Quiet
import Derived.Tactics
import Derived.TacticsIn
import Derived.OrdersIn
import Derived.RangeFuncLeaves
import Derived.RangeFuncIn
import Derived.RangeFuncCalls
set_option linter.unusedSectionVars false
set_option linter.unusedSimpArgs false
set_option linter.unusedVariables false
/-! Abs: a program logic over a partial view of memory ('Mem'): triples for code, regions and operations that hold in every order of evaluation. -/
namespace Go.Abs
open Go Go.RowKit

/-! ### Frames as functions -/
abbrev Fr := Nat → Value
def upd (fr : Fr) (d : Nat) (v : Value) : Fr := fun t => if t = d then v else fr t
def putF (fr : Fr) : Option Tmp → Value → Fr
  | some d, v => upd fr d v
  | none, _ => fr
def evalF (fr : Fr) : Operand → Value
  | .tmp t => fr t
  | .const v => v
  | .global g => .pointer (some ⟨g, 0, none⟩)
  | .func f => .func (.func f) #[] #[]
/-- The mark of the rounds' deferred calls, in a function that ranges over functions. -/
def markOf (r : Nat) : Deferred := { target := .collected r, args := #[] }
structure FR (n : Nat) (fr : Fr) (D : List Nat) (a : Act) : Prop where
  size : a.tmps.size = n
  defers : a.defers = D.map markOf
  nodup : D.Nodup
  at_ : ∀ t, t < n → a.tmps.getD t undef = fr t
def okOpnd (n : Nat) : Operand → Bool
  | .tmp t => decide (t < n)
  | _ => true
def yieldedF (ops : Array Oper) (fr : Fr) (j : Nat) : Option Bool :=
  match ((ops[j]?).bind (·.dst)).map fr with
  | some (.bool b) => some b
  | _ => none
def noSel : Op → Bool
  | .select _ _ => false
  | .defer _ => false
  | _ => true
def okOper (n : Nat) (ops : Array Oper) (o : Oper) : Bool :=
  noSel o.op && o.op.operands.toList.all (okOpnd n) &&
    (match o.guard with
     | some (j, _) => (match (ops[j]?).bind (·.dst) with | some d => decide (d < n) | none => true)
     | none => true)

theorem FR.eval {n : Nat} {fr : Fr} {D : List Nat} {a : Act} (h : FR n fr D a) {x : Operand} (hx : okOpnd n x = true) : a.eval x = evalF fr x := by
  cases x with
  | tmp t => simp only [okOpnd, decide_eq_true_eq] at hx; exact h.at_ t hx
  | _ => rfl
theorem FR.put {n : Nat} {fr : Fr} {D : List Nat} {a : Act} (h : FR n fr D a) (d : Option Tmp) (v : Value) : FR n (putF fr d v) D (a.put d v) := by
  cases d with
  | none => exact h
  | some d =>
    refine ⟨by simp [Act.put, h.size], by simp [Act.put, h.defers], h.nodup, fun t ht => ?_⟩
    have := h.at_ t ht
    simp only [Act.put, putF, upd]
    by_cases e : t = d
    · subst e
      have hs : t < a.tmps.size := by rw [h.size]; exact ht
      simp [hs]
    · rw [if_neg e, ← this]
      simp [Array.getElem?_setIfInBounds_ne (Ne.symm e)]
theorem okOper_spec {n : Nat} {ops : Array Oper} {o : Oper} (h : okOper n ops o = true) :
    ((∀ cs b, o.op ≠ .select cs b) ∧ ∀ c, o.op ≠ .defer c) ∧ (∀ x ∈ o.op.operands, okOpnd n x = true) ∧
    (∀ j b, o.guard = some (j, b) → ∀ d, (ops[j]?).bind (·.dst) = some d → d < n) := by
  simp only [okOper, Bool.and_eq_true] at h
  obtain ⟨⟨h1, h2⟩, h3⟩ := h
  refine ⟨⟨fun cs b e => by rw [e] at h1; simp [noSel] at h1, fun c e => by rw [e] at h1; simp [noSel] at h1⟩, fun x hx => List.all_eq_true.1 h2 x (by simpa using hx), fun j b hg d hd => ?_⟩
  rw [hg] at h3
  simp only [hd, decide_eq_true_eq] at h3
  exact h3
theorem FR.execOp {n : Nat} {fr : Fr} {D : List Nat} {a : Act} (h : FR n fr D a) {ops : Array Oper} {o : Oper} (ho : okOper n ops o = true) : execOp a.eval o = execOp (evalF fr) o :=
  execOp_congr o (okOper_spec ho).1.1 fun x hx => h.eval ((okOper_spec ho).2.1 x hx)
theorem FR.wanted {n : Nat} {fr : Fr} {D : List Nat} {a : Act} (h : FR n fr D a) {ops : Array Oper} {o : Oper} (ho : okOper n ops o = true) :
    Region.wanted o (yielded ops a.tmps) = Region.wanted o (yieldedF ops fr) := by
  unfold Region.wanted
  cases hg : o.guard with
  | none => rfl
  | some jb =>
    obtain ⟨j, b⟩ := jb
    have : yielded ops a.tmps j = yieldedF ops fr j := by
      unfold yielded yieldedF
      cases hd : (ops[j]?).bind (·.dst) with
      | none => rfl
      | some d =>
        have hlt := (okOper_spec ho).2.2 j b hg d hd
        have hs : d < a.tmps.size := by rw [h.size]; exact hlt
        have := h.at_ d hlt
        simp only [Array.getD_eq_getD_getElem?, hs, Array.getElem?_eq_getElem, Option.getD_some] at this
        simp only [Option.bind_some, Option.map_some, hs, Array.getElem?_eq_getElem, this]
        rfl
    simp only [this]

/-! ### Memory: a partial view of the blocks of the call's own -/
structure Blk where
  cells : List Value
  elem : TypeId
  size : Nat
/-- What is known of the call's own blocks: rows of cells, and other objects as they are. -/
structure Mem where
  get : Nat → Option Blk
  obj : Nat → Option Obj
instance : CoeFun Mem (fun _ => Nat → Option Blk) := ⟨Mem.get⟩
def Mem.put (m : Mem) (B : Nat) (b : Blk) : Mem := { m with get := fun j => if j = B then some b else m.get j }
def Mem.putO (m : Mem) (B : Nat) (o : Obj) : Mem := { m with obj := fun j => if j = B then some o else m.obj j }
def notCells : Obj → Bool
  | .cells .. => false
  | _ => true
structure Conc (W : World) (m : Mem) (w : World) : Prop where
  below : Below W.heap.size W w
  blk : ∀ B b, m B = some b → W.heap.size ≤ B ∧ ∃ cur, w.heap[B]? = some (.cells cur b.elem (0, 0)) ∧ cur.size = b.size ∧ cur.toList.take b.cells.length = b.cells
  obj : ∀ B o, m.obj B = some o → W.heap.size ≤ B ∧ w.heap[B]? = some o ∧ notCells o = true
structure Le (m m' : Mem) : Prop where
  get : ∀ B b, m B = some b → ∃ more, m' B = some { b with cells := b.cells ++ more }
  obj : ∀ B o, m.obj B = some o → m'.obj B = some o
theorem Le.refl (m : Mem) : Le m m := ⟨fun _ b h => ⟨[], by rw [h]; simp⟩, fun _ _ h => h⟩
theorem Le.trans {a b c : Mem} (h : Le a b) (k : Le b c) : Le a c := ⟨fun B x hx => by
  obtain ⟨m1, e1⟩ := h.get B x hx
  obtain ⟨m2, e2⟩ := k.get B _ e1
  exact ⟨m1 ++ m2, by rw [e2]; simp⟩, fun B o ho => k.obj B o (h.obj B o ho)⟩
theorem Conc.forget {W : World} {m m' : Mem} {w : World} (h : Conc W m' w) (hl : Le m m') : Conc W m w := by
  refine ⟨h.below, fun B b hb => ?_, fun B o ho => h.obj B o (hl.obj B o ho)⟩
  obtain ⟨more, e⟩ := hl.get B b hb
  obtain ⟨h1, cur, h2, h3, h4⟩ := h.blk B _ e
  refine ⟨h1, cur, h2, h3, ?_⟩
  simp only [List.length_append] at h4
  have := congrArg (List.take b.cells.length) h4
  rw [List.take_take, List.take_left] at this
  rw [Nat.min_eq_left (by omega)] at this
  exact this
theorem Conc.fresh {W : World} {m : Mem} {w : World} (h : Conc W m w) : m w.heap.size = none := by
  cases hm : m w.heap.size with
  | none => rfl
  | some b =>
    obtain ⟨_, cur, h2, _⟩ := h.blk _ _ hm
    simp at h2
theorem Conc.freshO {W : World} {m : Mem} {w : World} (h : Conc W m w) : m.obj w.heap.size = none := by
  cases hm : m.obj w.heap.size with
  | none => rfl
  | some o =>
    obtain ⟨_, h2, _⟩ := h.obj _ _ hm
    simp at h2
theorem Conc.lt {W : World} {m : Mem} {w : World} (h : Conc W m w) {B : Nat} {b : Blk} (hb : m B = some b) : B < w.heap.size := by
  obtain ⟨_, cur, h2, _⟩ := h.blk _ _ hb
  exact (Array.getElem?_eq_some_iff.1 h2).1
theorem Conc.ltO {W : World} {m : Mem} {w : World} (h : Conc W m w) {B : Nat} {o : Obj} (hb : m.obj B = some o) : B < w.heap.size := by
  obtain ⟨_, h2, _⟩ := h.obj _ _ hb
  exact (Array.getElem?_eq_some_iff.1 h2).1
theorem Conc.ge {W : World} {m : Mem} {w : World} (h : Conc W m w) {B : Nat} {b : Blk} (hb : m B = some b) : W.heap.size ≤ B := (h.blk _ _ hb).1
/-- A block that is known as cells is known as nothing else. -/
theorem Conc.apart {W : World} {m : Mem} {w : World} (h : Conc W m w) {B : Nat} {b : Blk} (hb : m B = some b) : m.obj B = none := by
  cases hm : m.obj B with
  | none => rfl
  | some o =>
    obtain ⟨_, cur, h2, _⟩ := h.blk _ _ hb
    obtain ⟨_, h3, h4⟩ := h.obj _ _ hm
    rw [h2] at h3
    obtain rfl := Option.some.inj h3
    cases h4
def Mem.free (m : Mem) (B : Nat) : Prop := m B = none ∧ m.obj B = none
/-- What is not known stays as it was, and is not known. -/
structure Frm (m : Mem) (w : World) (m' : Mem) (w' : World) : Prop where
  size : w.heap.size ≤ w'.heap.size
  old : ∀ B, B < w.heap.size → m.free B → m'.free B ∧ w'.heap[B]? = w.heap[B]?
theorem Frm.refl (m : Mem) (w : World) : Frm m w m w := ⟨Nat.le_refl _, fun _ _ h => ⟨h, rfl⟩⟩
theorem Frm.trans {m1 m2 m3 : Mem} {w1 w2 w3 : World} (h : Frm m1 w1 m2 w2) (k : Frm m2 w2 m3 w3) : Frm m1 w1 m3 w3 :=
  ⟨Nat.le_trans h.size k.size, fun B hB hf => by
    obtain ⟨f2, e2⟩ := h.old B hB hf
    obtain ⟨f3, e3⟩ := k.old B (Nat.lt_of_lt_of_le hB h.size) f2
    exact ⟨f3, e3.trans e2⟩⟩

/-! ### Triples -/
structure Still (w w' : World) : Prop where
  heap : w'.heap = w.heap
  os : w'.os = w.os
  tape : w'.tape = w.tape
  output : w'.output = w.output
theorem Still.refl (w : World) : Still w w := ⟨rfl, rfl, rfl, rfl⟩
theorem Still.drewN (w : World) (k : Nat) : Still w (w.drewN k) := ⟨rfl, rfl, rfl, rfl⟩
theorem Still.trans {a b c : World} (h : Still a b) (k : Still b c) : Still a c :=
  ⟨k.heap.trans h.heap, k.os.trans h.os, k.tape.trans h.tape, k.output.trans h.output⟩
theorem Still.frm {m : Mem} {w w' : World} (h : Still w w') : Frm m w m w' := ⟨by rw [h.heap]; exact Nat.le_refl _, fun B _ hf => ⟨hf, by rw [h.heap]⟩⟩
theorem Still.cell {w w' : World} (h : Still w w') (a : Addr) : w'.cell? a = w.cell? a := by simp [World.cell?, h.heap]
theorem Conc.still {W : World} {m : Mem} {w w' : World} (h : Conc W m w) (k : Still w w') : Conc W m w' :=
  ⟨⟨k.os.trans h.below.os, k.tape.trans h.below.tape, k.output.trans h.below.output, by rw [k.heap]; exact h.below.size, fun i hi => by rw [k.heap]; exact h.below.block i hi⟩,
   fun B b hb => by rw [k.heap]; exact h.blk B b hb, fun B o ho => by rw [k.heap]; exact h.obj B o ho⟩
/-- What is carried from operation to operation: 'Conc' and perhaps more. -/
def putObj (w : World) (r : Nat) (o : Obj) : World := { w with heap := w.heap.setIfInBounds r o }
structure Cls (W : World) where
  C : Mem → World → Prop
  conc : ∀ {m w}, C m w → Conc W m w
  still : ∀ {m w w'}, C m w → Still w w' → C m w'
  forget : ∀ {m m' w}, C m' w → Le m m' → C m w
  other : ∀ {m w r o}, C m w → m.free r → W.heap.size ≤ r → C m (putObj w r o)
theorem putObj_ne (w : World) {r B : Nat} (o : Obj) (h : B ≠ r) : (putObj w r o).heap[B]? = w.heap[B]? := by
  simp [putObj, Array.getElem?_setIfInBounds_ne (Ne.symm h)]
theorem Conc.other {W : World} {m : Mem} {w : World} {r : Nat} {o : Obj} (h : Conc W m w) (hf : m.free r) (hr : W.heap.size ≤ r) : Conc W m (putObj w r o) := by
  refine ⟨⟨h.below.os, h.below.tape, h.below.output, by simp [putObj]; exact h.below.size, fun i hi => by rw [putObj_ne _ _ (by omega)]; exact h.below.block i hi⟩, fun B b hb => ?_, fun B o' ho => ?_⟩
  · have : B ≠ r := fun e => by rw [e, hf.1] at hb; cases hb
    rw [putObj_ne _ _ this]; exact h.blk B b hb
  · have : B ≠ r := fun e => by rw [e, hf.2] at ho; cases ho
    rw [putObj_ne _ _ this]; exact h.obj B o' ho
def gen (W : World) : Cls W := ⟨Conc W, id, Conc.still, Conc.forget, Conc.other⟩
/-- Nothing is made. -/
def calm (W : World) : Cls W := ⟨fun m w => Conc W m w ∧ w.heap.size = W.heap.size, And.left, fun h k => ⟨h.1.still k, by rw [k.heap]; exact h.2⟩, fun h k => ⟨h.1.forget k, h.2⟩, fun h f r => ⟨h.1.other f r, by simp [putObj]; exact h.2⟩⟩
/-- The operation yields v and leaves the world alone but for draws. -/
def QOp (P : Program) (W : World) (o : Oper) (fr : Fr) (m : Mem) (v : Value) : Prop :=
  ∀ w, Conc W m w → Oper.quietUpon P (Still w) w v ((execOp (evalF fr) o).run P w)
def fen : Option Nat → Fence
  | none => Fence.wide
  | some l => Fence.wide.inRound l
def OpRes (P : Program) {W : World} (C : Cls W) (m : Mem) (w : World) (K : Value → Mem → Prop) : Result Next → Prop
  | .ok (.value v) w' => ∃ m', C.C m' w' ∧ Frm m w m' w' ∧ K v m'
  | .ok .skip w' => ∃ m', C.C m' w' ∧ Frm m w m' w' ∧ K undef m'
  | .ok (.enter f args) w' => Calls P f args w' (fun e w'' => ∃ v m', e = .returned v ∧ C.C m' w'' ∧ Frm m w m' w'' ∧ K v m')
  | .ok (.round l f tmps assign body) w' => RoundIn Fence.wide 0 P l f tmps assign body w' (fun e w'' => ∃ v m', e = .returned v ∧ C.C m' w'' ∧ Frm m w m' w'' ∧ K v m')
  | _ => False
def AOp (P : Program) {W : World} (C : Cls W) (o : Oper) (fr : Fr) (m : Mem) (K : Value → Mem → Prop) : Prop :=
  ∀ w, C.C m w → OpRes P C m w K ((execOp (evalF fr) o).run P w)
theorem OpRes.mono {P : Program} {W : World} {C : Cls W} {m0 : Mem} {w0 : World} {K K' : Value → Mem → Prop} (h : ∀ v m, K v m → K' v m) {r : Result Next} (hr : OpRes P C m0 w0 K r) : OpRes P C m0 w0 K' r := by
  cases r with
  | halt x w => exact hr
  | ok n w =>
    cases n <;> simp only [OpRes] at hr ⊢
    case value => obtain ⟨m', h1, h2, h3⟩ := hr; exact ⟨m', h1, h2, h _ _ h3⟩
    case skip => obtain ⟨m', h1, h2, h3⟩ := hr; exact ⟨m', h1, h2, h _ _ h3⟩
    case enter => exact hr.mono fun e w'' ⟨v, m', h1, h2, h3, h4⟩ => ⟨v, m', h1, h2, h3, h _ _ h4⟩
    case round => exact hr.mono fun e w'' ⟨v, m', h1, h2, h3, h4⟩ => ⟨v, m', h1, h2, h3, h _ _ h4⟩
theorem AOp.mono {P : Program} {W : World} {C : Cls W} {o : Oper} {fr : Fr} {m : Mem} {K K' : Value → Mem → Prop} (hh : AOp P C o fr m K) (h : ∀ v m, K v m → K' v m) : AOp P C o fr m K' :=
  fun w hw => OpRes.mono h (hh w hw)
theorem QOp.aop {P : Program} {W : World} {C : Cls W} {o : Oper} {fr : Fr} {m : Mem} {v : Value} {K : Value → Mem → Prop} (h : QOp P W o fr m v) (hK : K v m) : AOp P C o fr m K := by
  intro w hw
  have := h w (C.conc hw)
  generalize (execOp (evalF fr) o).run P w = r at *
  cases r with
  | halt x w => exact this
  | ok n w' =>
    cases n <;> simp only [Oper.quietUpon] at this <;> simp only [OpRes]
    case value => obtain ⟨rfl, rfl⟩ := this; exact ⟨m, hw, Frm.refl _ _, hK⟩
    case skip => obtain ⟨rfl, rfl⟩ := this; exact ⟨m, hw, Frm.refl _ _, hK⟩
    case enter =>
      obtain ⟨rfl, hc⟩ := this
      exact hc.mono fun e w'' ⟨he, hk⟩ => ⟨v, m, he, C.still hw hk, hk.frm, hK⟩
theorem QOp.le {P : Program} {W : World} {o : Oper} {fr : Fr} {m m' : Mem} {v : Value} (h : QOp P W o fr m v) (hl : Le m m') : QOp P W o fr m' v :=
  fun w hw => h w (hw.forget hl)
theorem callsIn_fen {r : Option Nat} {n : Nat} {P : Program} {f : FuncId} {args : Array Value} {w : World} {R : Ending → World → Prop} (h : Calls P f args w R) : CallsIn (fen r) n P f args w R := by
  have h' : CallsIn Fence.wide n P f args w R := callsIn_wide.2 h
  cases r with
  | none => exact h'
  | some l => exact h'
theorem roundIn_fen {r : Option Nat} {k : Nat} {n : Nat} {P : Program} {l : Nat} {f : FuncId} {tmps : Array Value} {assign body : Code} {w : World} {R : Ending → World → Prop} (h : RoundIn Fence.wide k P l f tmps assign body w R) : RoundIn (fen r) n P l f tmps assign body w R := by
  have h' : RoundIn Fence.wide n P l f tmps assign body w R := ⟨trivial, fun c cs _ => h.2 c cs (room_wide _)⟩
  cases r with
  | none => exact h'
  | some l => exact h'
theorem fen_fn (r : Option Nat) (f : FuncId) : (fen r).fn f := by cases r <;> exact trivial
theorem fen_depth (r : Option Nat) : (fen r).depth = none := by cases r <;> rfl
theorem fen_round (r : Option Nat) : (fen r).round = r := by cases r <;> rfl
theorem AOp.wp {P : Program} {W : World} {C : Cls W} {o : Oper} {fr : Fr} {m : Mem} {K : Value → Mem → Prop} (h : AOp P C o fr m K) {a : Act} {w : World} (hc : C.C m w) {r : Option Nat}
    (he : execOp a.eval o = execOp (evalF fr) o) (hdf : ∀ c, o.op ≠ .defer c) {K' : Act → World → Prop} {Q : Exit → Act → World → Prop}
    (hK : ∀ v m' w', C.C m' w' → Frm m w m' w' → K v m' → K' (a.put o.dst v) w') : o.wpIn (fen r) 0 P a w K' Q := by
  have := h w hc
  refine ⟨fun f _ => fen_fn r f, ?_⟩
  rw [Oper.semAt_eq _ _ _ hdf, he]
  generalize (execOp (evalF fr) o).run P w = rr at *
  have hdep : (fen r).depth.isSome = true → 1 ≤ 0 := fun h => by rw [fen_depth] at h; cases h
  cases rr with
  | halt x w => exact this.elim
  | ok n w' =>
    cases n <;> simp only [OpRes] at this <;> simp only [Oper.uponIn]
    case value => obtain ⟨m', h1, h2, h3⟩ := this; exact hK _ _ _ h1 h2 h3
    case skip => obtain ⟨m', h1, h2, h3⟩ := this; exact hK _ _ _ h1 h2 h3
    case enter => exact ⟨hdep, callsIn_fen (this.mono fun e w'' ⟨v, m', h1, h2, h3, h4⟩ => by subst h1; exact hK _ _ _ h2 h3 h4)⟩
    case round => exact ⟨hdep, roundIn_fen (this.mono fun e w'' ⟨v, m', h1, h2, h3, h4⟩ => by subst h1; exact hK _ _ _ h2 h3 h4)⟩

abbrev Post := Exit → Fr → Mem → Prop
/-- The marks' blocks stand, empty, and are not known otherwise. -/
structure MarksOk (r : Option Nat) (w0 : World) (D : List Nat) (m : Mem) (w : World) : Prop where
  marks : ∀ r ∈ D, w0.heap.size ≤ r ∧ w.heap[r]? = some (.deferred (some [])) ∧ m.free r
  rnd : ∀ l, r = some l → ∃ L, w.heap[l]? = some (.loop L) ∧ m.free l
  nil : ∀ l, r = some l → D = []
theorem MarksOk.frm {r : Option Nat} {w0 : World} {D : List Nat} {m m' : Mem} {w w' : World} (h : MarksOk r w0 D m w) (k : Frm m w m' w') : MarksOk r w0 D m' w' := ⟨fun r hr => by
  obtain ⟨h0, h1, h2⟩ := h.marks r hr
  obtain ⟨k1, k2⟩ := k.old r (Array.getElem?_eq_some_iff.1 h1).1 h2
  exact ⟨h0, k2.trans h1, k1⟩, fun l hl => by
  obtain ⟨L, h1, h2⟩ := h.rnd l hl
  obtain ⟨k1, k2⟩ := k.old l (Array.getElem?_eq_some_iff.1 h1).1 h2
  exact ⟨L, k2.trans h1, k1⟩, h.nil⟩
/-- A frame and a world that the abstract state (fr, m) tells of, come to from (m0, w0). -/
structure At {W : World} (C : Cls W) (r : Option Nat) (n : Nat) (m0 : Mem) (w0 : World) (fr : Fr) (m : Mem) (a : Act) (w : World) : Prop where
  fr : ∃ D, FR n fr D a ∧ MarksOk r w0 D m w
  c : C.C m w
  frm : Frm m0 w0 m w
def QC {W : World} (C : Cls W) (r : Option Nat) (n : Nat) (Q : Post) (m0 : Mem) (w0 : World) : Exit → Act → World → Prop
  | .panic _, _, _ => False
  | .outgrown, _, _ => False
  | x, a, w => ∃ fr m, At C r n m0 w0 fr m a w ∧ Q x fr m
def AWp (P : Program) {W : World} (C : Cls W) (r : Option Nat) (n : Nat) (c : Code) (Q : Post) (fr : Fr) (m : Mem) : Prop :=
  ∀ m0 w0 a w, At C r n m0 w0 fr m a w → c.wpIn (fen r) 0 P (QC C r n Q m0 w0) a w
theorem QC.mono {W : World} {C : Cls W} {r : Option Nat} {n : Nat} {Q Q' : Post} {m0 : Mem} {w0 : World} (h : ∀ x fr m, Q x fr m → Q' x fr m) (x : Exit) (a : Act) (w : World) (hq : QC C r n Q m0 w0 x a w) : QC C r n Q' m0 w0 x a w := by
  cases x <;> first | exact hq.elim | (obtain ⟨fr, m, h1, h2⟩ := hq; exact ⟨fr, m, h1, h _ _ _ h2⟩)
theorem AWp.mono {P : Program} {W : World} {C : Cls W} {r : Option Nat} {n : Nat} {c : Code} {Q Q' : Post} {fr : Fr} {m : Mem} (hh : AWp P C r n c Q fr m) (h : ∀ x fr m, Q x fr m → Q' x fr m) : AWp P C r n c Q' fr m :=
  fun m0 w0 a w ha => wpIn_mono (hh m0 w0 a w ha) (QC.mono h)
theorem At.put {W : World} {C : Cls W} {r : Option Nat} {n : Nat} {m0 m m' : Mem} {w0 w w' : World} {fr : Fr} {a : Act} (h : At C r n m0 w0 fr m a w) (hc : C.C m' w') (hf : Frm m w m' w') (d : Option Tmp) (v : Value) : At C r n m0 w0 (putF fr d v) m' (a.put d v) w' := by
  obtain ⟨D, h1, h2⟩ := h.fr
  exact ⟨⟨D, h1.put d v, h2.frm hf⟩, hc, h.frm.trans hf⟩

section code
variable {P : Program} {W : World} {C : Cls W} {r : Option Nat} {n : Nat} {Q : Post} {fr : Fr} {m : Mem}
def thenQ (K : Fr → Mem → Prop) (Q : Post) : Post
  | .normal, fr, m => K fr m
  | x, fr, m => Q x fr m
def blockQ (id : Nat) (Q : Post) : Post
  | .exit id', fr, m => if id' = id then Q .normal fr m else Q (.exit id') fr m
  | x, fr, m => Q x fr m
theorem awp_skip (h : Q .normal fr m) : AWp P C r n .skip Q fr m := fun _ _ _ _ ha => wpIn_skip ⟨fr, m, ha, h⟩
theorem awp_ret (h : Q .ret fr m) : AWp P C r n .ret Q fr m := fun _ _ _ _ ha => wpIn_ret ⟨fr, m, ha, h⟩
theorem awp_exit {id : Nat} (h : Q (.exit id) fr m) : AWp P C r n (.exit id) Q fr m := fun _ _ _ _ ha => wpIn_exit ⟨fr, m, ha, h⟩
theorem awp_goto {l : Nat} (h : Q (.goto l) fr m) : AWp P C r n (.goto l) Q fr m := fun _ _ _ _ ha => wpIn_goto ⟨fr, m, ha, h⟩
theorem awp_label {l : Nat} (h : Q .normal fr m) : AWp P C r n (.label l) Q fr m := fun _ _ _ _ ha => wpIn_label ⟨fr, m, ha, h⟩
theorem awp_seq {x y : Code} (h : AWp P C r n x (thenQ (AWp P C r n y Q) Q) fr m) : AWp P C r n (.seq x y) Q fr m := fun m0 w0 a w ha =>
  wpIn_seq (wpIn_mono (h m0 w0 a w ha) fun e a' w' hq => by
    cases e with
    | normal => obtain ⟨fr', m', h1, h3⟩ := hq; exact h3 m0 w0 a' w' h1
    | panic c => exact hq.elim
    | outgrown => exact hq.elim
    | exit id => exact hq
    | goto l => exact hq
    | ret => exact hq)
theorem awp_cond {c : Operand} {x y : Code} {t : Bool} (hok : okOpnd n c = true) (hc : evalF fr c = .bool t) (h : AWp P C r n (if t then x else y) Q fr m) : AWp P C r n (.cond c x y) Q fr m :=
  fun m0 w0 a w ha => by
    obtain ⟨D, h1, _⟩ := ha.fr
    exact wpIn_cond ((h1.eval hok).trans hc) (h m0 w0 a w ha)
theorem awp_block {id : Nat} {c : Code} (h : AWp P C r n c (blockQ id Q) fr m) : AWp P C r n (.block id c) Q fr m := fun m0 w0 a w ha =>
  wpIn_block (wpIn_mono (h m0 w0 a w ha) fun e a' w' hq => by
    cases e with
    | exit id' =>
      obtain ⟨fr', m', h1, h3⟩ := hq
      simp only [Exit.inBlock]
      simp only [blockQ] at h3
      split
      · rename_i e; rw [if_pos e] at h3; exact ⟨fr', m', h1, h3⟩
      · rename_i e; rw [if_neg e] at h3; exact ⟨fr', m', h1, h3⟩
    | panic c => exact hq.elim
    | outgrown => exact hq.elim
    | normal => exact hq
    | goto l => exact hq
    | ret => exact hq)
def upds (fr : Fr) : List Nat → List Value → Fr
  | t :: ts, v :: vs => upds (upd fr t v) ts vs
  | _, _ => fr
theorem upd_self (fr : Fr) (t : Nat) : upd fr t (fr t) = fr := by funext x; unfold upd; split <;> simp_all
theorem upds_self (fr : Fr) : ∀ ts : List Nat, upds fr ts (ts.map fr) = fr
  | [] => rfl
  | t :: ts => by simp only [List.map_cons, upds, upd_self]; exact upds_self fr ts
/-- A loop: 'ts' are the slots that the round hands on, 'I' says what holds of them and of memory at the round's head. -/
theorem awp_loop {c : Code} (ts : List Nat) (I : List Value → Mem → Prop) (μ : List Value → Mem → Nat) (h0 : I (ts.map fr) m)
    (round : ∀ (b : Fr) (vs : List Value) (m : Mem), vs.length = ts.length → I vs m → AWp P C r n c (thenQ (fun fr' m' => I (ts.map fr') m' ∧ μ (ts.map fr') m' < μ vs m) Q) (upds b ts vs) m) :
    AWp P C r n (.loop c) Q fr m := by
  -- by strong induction on the measure, the loop's law once a round
  have key : ∀ k (fr : Fr) (m : Mem), μ (ts.map fr) m = k → I (ts.map fr) m → ∀ m0 w0 a w, At C r n m0 w0 fr m a w → ∀ (b : Frame) (kk : List Item) (cs : List Frame), b.roundOf = (fen r).round → (fen r).fn b.fn → (fen r).room (cs.length + 1 + 0) →
      ∃ e a' w', QC C r n Q m0 w0 e a' w' ∧ ArrivesIn (Machine.fenced P (fen r)) P (lone (b.atR a (.code c :: .inLoop c :: kk)) cs w) b kk cs e a' w' := by
    intro k
    induction k using Nat.strongRecOn with
    | _ k ih =>
      intro fr m hk hI m0 w0 a w ha b kk cs hro hb hr
      have hrd := round fr (ts.map fr) m (by simp) hI
      rw [upds_self] at hrd
      obtain ⟨e, a1, w1, hq, harr⟩ := hrd m0 w0 a w ha b (.inLoop c :: kk) cs hro hb hr
      cases e with
      | normal =>
        obtain ⟨fr', m', h1, h3, h4⟩ := hq
        obtain ⟨e2, a2, w2, hq2, harr2⟩ := ih (μ (ts.map fr') m') (hk ▸ h4) fr' m' rfl h3 m0 w0 a1 w1 h1 b kk cs hro hb hr
        exact ⟨e2, a2, w2, hq2, .of_steps (StepsIn.trans harr (.one (fenced_calm hb hr rfl) stepR_inLoop)) harr2⟩
      | exit id => exact ⟨.exit id, a1, w1, (show QC C r n Q m0 w0 (.exit id) a1 w1 from hq), .pass (x := .inLoop c) rfl (fun _ _ => .inl (by simp)) harr⟩
      | goto l => exact ⟨.goto l, a1, w1, (show QC C r n Q m0 w0 (.goto l) a1 w1 from hq), .pass (x := .inLoop c) rfl (fun _ _ => .inl (by simp)) harr⟩
      | ret => exact ⟨.ret, a1, w1, (show QC C r n Q m0 w0 .ret a1 w1 from hq), .pass (x := .inLoop c) rfl (fun _ _ => .inl (by simp)) harr⟩
      | panic ch => exact hq.elim
      | outgrown => exact hq.elim
  intro m0 w0 a w ha b kk cs hro hb hr
  obtain ⟨e, a', w', hq, harr⟩ := key _ fr m rfl h0 m0 w0 a w ha b kk cs hro hb hr
  exact ⟨e, a', w', hq, .of_steps (.one (fenced_calm hb hr rfl) stepR_loop) harr⟩
theorem awp_cond_t {c : Operand} {x y : Code} (hok : okOpnd n c = true) (hc : evalF fr c = .bool true) (h : AWp P C r n x Q fr m) : AWp P C r n (.cond c x y) Q fr m := awp_cond hok hc h
theorem awp_cond_f {c : Operand} {x y : Code} (hok : okOpnd n c = true) (hc : evalF fr c = .bool false) (h : AWp P C r n y Q fr m) : AWp P C r n (.cond c x y) Q fr m := awp_cond hok hc h
/-! where the code goes on -/
theorem pn_then {K : Fr → Mem → Prop} (h : K fr m) : thenQ K Q .normal fr m := h
theorem px_then {K : Fr → Mem → Prop} {id : Nat} (h : Q (.exit id) fr m) : thenQ K Q (.exit id) fr m := h
theorem pr_then {K : Fr → Mem → Prop} (h : Q .ret fr m) : thenQ K Q .ret fr m := h
theorem pn_block {id : Nat} (h : Q .normal fr m) : blockQ id Q .normal fr m := h
theorem px_block {id : Nat} (h : Q .normal fr m) : blockQ id Q (.exit id) fr m := by simp only [blockQ, if_true]; exact h
theorem px_block_ne {id id' : Nat} (hne : (id' == id) = false) (h : Q (.exit id') fr m) : blockQ id Q (.exit id') fr m := by
  simp only [blockQ, if_neg (show ¬ id' = id by simpa using hne)]; exact h
theorem pr_block {id : Nat} (h : Q .ret fr m) : blockQ id Q .ret fr m := h
end code

/-! ### Regions without a draw -/
def AOps (P : Program) {W : World} (C : Cls W) (r : Option Nat) (n : Nat) (ops : Array Oper) (Q : Post) : List Oper → Fr → Mem → Prop
  | [], fr, m => Q .normal fr m
  | o :: rest, fr, m => okOper n ops o = true ∧
      ((Region.wanted o (yieldedF ops fr) = true ∧ AOp P C o fr m (fun v m' => AOps P C r n ops Q rest (putF fr o.dst v) m')) ∨
       (Region.wanted o (yieldedF ops fr) = false ∧ AOps P C r n ops Q rest (putF fr o.dst undef) m))
section regions
variable {P : Program} {W : World} {C : Cls W} {r : Option Nat} {n : Nat} {Q : Post} {fr : Fr} {m : Mem} {ops : Array Oper}
theorem AOps.sound : ∀ (l : List Oper) (fr : Fr) (m : Mem), AOps P C r n ops Q l fr m → ∀ m0 w0 a w, At C r n m0 w0 fr m a w → wpListIn (fen r) 0 P ops (QC C r n Q m0 w0) l a w
  | [], fr, m, h, m0, w0, a, w, ha => ⟨fr, m, ha, h⟩
  | o :: rest, fr, m, h, m0, w0, a, w, ha => by
    obtain ⟨hok, h⟩ := h
    obtain ⟨D, hfr, hmk⟩ := ha.fr
    unfold wpListIn
    rw [hfr.wanted hok]
    rcases h with ⟨h1, h2⟩ | ⟨h1, h2⟩
    · rw [if_pos h1]
      exact h2.wp ha.c (hfr.execOp hok) (okOper_spec hok).1.2 fun v m' w' hc hf hk => AOps.sound rest _ _ hk m0 w0 _ _ (ha.put hc hf _ _)
    · rw [if_neg (by simp [h1])]
      exact ⟨fun f _ => fen_fn r f, AOps.sound rest _ _ h2 m0 w0 _ _ (ha.put ha.c (Frm.refl _ _) _ _)⟩
theorem awp_region {id : Nat} {l : List Oper} (h : AOps P C r n l.toArray Q l fr m) : AWp P C r n (.region id l.toArray false) Q fr m :=
  fun m0 w0 a w ha => wpIn_region_lit (AOps.sound l fr m h m0 w0 a w ha)
theorem aops_nil (h : Q .normal fr m) : AOps P C r n ops Q [] fr m := h
theorem aops_then {K : Fr → Mem → Prop} (h : K fr m) : AOps P C r n ops (thenQ K Q) [] fr m := h
theorem aq {o : Oper} {rest : List Oper} {v : Value} {d : Tmp} (hq : QOp P W o fr m v) (hd : o.dst = some d) (hok : okOper n ops o = true) (hw : Region.wanted o (yieldedF ops fr) = true) (h : AOps P C r n ops Q rest (upd fr d v) m) : AOps P C r n ops Q (o :: rest) fr m :=
  ⟨hok, .inl ⟨hw, hq.aop (by rw [hd]; exact h)⟩⟩
theorem ano {o : Oper} {rest : List Oper} {d : Tmp} (hw : Region.wanted o (yieldedF ops fr) = false) (hd : o.dst = some d) (hok : okOper n ops o = true) (h : AOps P C r n ops Q rest (upd fr d undef) m) : AOps P C r n ops Q (o :: rest) fr m :=
  ⟨hok, .inr ⟨hw, by rw [hd]; exact h⟩⟩
theorem aa {o : Oper} {rest : List Oper} {d : Tmp} (hd : o.dst = some d) (hok : okOper n ops o = true) (hw : Region.wanted o (yieldedF ops fr) = true) (h : AOp P C o fr m (fun v m' => AOps P C r n ops Q rest (upd fr d v) m')) : AOps P C r n ops Q (o :: rest) fr m :=
  ⟨hok, .inl ⟨hw, h.mono fun v m' hk => by rw [hd]; exact hk⟩⟩
theorem au {o : Oper} {rest : List Oper} (hd : o.dst = none) (hok : okOper n ops o = true) (hw : Region.wanted o (yieldedF ops fr) = true) (h : AOp P C o fr m (fun _ m' => AOps P C r n ops Q rest fr m')) : AOps P C r n ops Q (o :: rest) fr m :=
  ⟨hok, .inl ⟨hw, h.mono fun v m' hk => by rw [hd]; exact hk⟩⟩
end regions
end Go.Abs
