import Derived.Test.YtjepofehaphcnaaAbsDraw
import Derived.IntWalk
import Derived.Laws.AppendOwn
set_option linter.unusedSectionVars false
set_option linter.unusedSimpArgs false
set_option linter.unusedVariables false
/-! Abs: contracts of functions, facts on memory, and the operations. -/
namespace Go.Abs
open Go Go.RowKit

/-! ### Contracts -/
def ACalls (P : Program) {W : World} (C : Cls W) (f : FuncId) (args : Array Value) (m : Mem) (R : Value → Mem → Prop) : Prop :=
  ∀ w, C.C m w → Calls P f args w (fun e w' => ∃ v m', e = .returned v ∧ C.C m' w' ∧ Frm m w m' w' ∧ R v m')
def QCalls (P : Program) (f : FuncId) (args : Array Value) (w : World) (v : Value) : Prop := Calls P f args w (fun e w' => e = .returned v ∧ Still w w')
def argsF (args : Array Value) : Fr := fun t => args.getD t undef
/-- What the results' variables hold, where they are temporaries. -/
def ResF (P : Program) (fn : Func) (V : Fr → Value) : Prop := ∀ (fr : Fr) (D : List Nat) (a : Act) (w : World), FR fn.ntmps fr D a → (results fn a.tmps).run P w = .ok (V fr) w
section res
variable {P : Program} {fn : Func}
theorem res0 (h : fn.results = #[]) : ResF P fn (fun _ => .tuple #[]) := fun _ _ _ _ _ => by simp [results, h]
theorem res1 {t : Tmp} (h : fn.results = #[.tmp t]) (ht : t < fn.ntmps) : ResF P fn (fun fr => fr t) := fun fr D a w ha => by
  dsimp only
  rw [← ha.at_ t ht]; simp [results, h]
theorem res2 {t u : Tmp} (h : fn.results = #[.tmp t, .tmp u]) (ht : t < fn.ntmps) (hu : u < fn.ntmps) : ResF P fn (fun fr => .tuple #[fr t, fr u]) := fun fr D a w ha => by
  dsimp only
  rw [← ha.at_ t ht, ← ha.at_ u hu]; simp [results, h]
end res
def retQ (V : Fr → Value) (R : Value → Mem → Prop) : Post
  | .normal, fr, m => R (V fr) m
  | .ret, fr, m => R (V fr) m
  | _, _, _ => False
theorem pn_ret {V : Fr → Value} {R : Value → Mem → Prop} {fr : Fr} {m : Mem} (h : R (V fr) m) : retQ V R .normal fr m := h
theorem pr_ret {V : Fr → Value} {R : Value → Mem → Prop} {fr : Fr} {m : Mem} (h : R (V fr) m) : retQ V R .ret fr m := h
theorem argsFR {args : Array Value} {n : Nat} (h : args.size ≤ n) : FR n (argsF args) [] { tmps := args ++ Array.replicate (n - args.size) undef, defers := [] } := by
  refine ⟨by simp; omega, rfl, List.nodup_nil, fun t ht => ?_⟩
  simp only [argsF, Array.getD_eq_getD_getElem?]
  by_cases h' : t < args.size
  · rw [Array.getElem?_append_left h']
  · rw [Array.getElem?_append_right (by omega), Array.getElem?_eq_none (by omega : args.size ≤ t)]
    simp only [Option.getD_none]
    rw [Array.getElem?_replicate]
    split <;> rfl
theorem take_mark {P : Program} {w : World} {r : Nat} (h : w.heap[r]? = some (.deferred (some []))) : (Instr.takeDeferred r).run P w = .ok [] (putObj w r (.deferred none)) := by
  have hlt := (Array.getElem?_eq_some_iff.1 h).1
  simp [Instr.takeDeferred, getObj, setObj, Sem.run, h, putObj]
theorem leave_marks {P : Program} {W : World} {C : Cls W} {fn : Func} {V : Fr → Value} {R : Value → Mem → Prop} {m0 : Mem} {w0 : World} (hr : ResF P fn V) (hW : W.heap.size ≤ w0.heap.size) {fr : Fr} {m : Mem} (hR : R (V fr) m) {D0 : List Nat} {a : Act} (ha : FR fn.ntmps fr D0 a) :
    ∀ (D : List Nat) (w : World), D.Nodup → (∀ r ∈ D, w0.heap.size ≤ r ∧ w.heap[r]? = some (.deferred (some [])) ∧ m.free r) → C.C m w → Frm m0 w0 m w →
      LeavesInM Fence.wide 0 P fn a.tmps (fun e w' => ∃ v m', e = .returned v ∧ C.C m' w' ∧ Frm m0 w0 m' w' ∧ R v m') (D.map markOf) .returning w
  | [], w, _, _, hc, hf => ⟨_, hr fr D0 a w ha, _, m, rfl, hc, hf, hR⟩
  | r :: D, w, hnd, hm, hc, hf => by
    obtain ⟨h0, h1, h2⟩ := hm r (List.mem_cons_self ..)
    have hc' := C.other (o := .deferred none) hc h2 (by omega)
    have hf' : Frm m0 w0 m (putObj w r (.deferred none)) := ⟨by simp [putObj]; exact hf.size, fun B hB hfr => by
      rw [putObj_ne _ _ (by omega)]; exact hf.old B hB hfr⟩
    refine ⟨by simp, .inl ⟨r, _, rfl, take_mark h1, ?_⟩⟩
    exact leave_marks hr hW hR ha D _ (List.nodup_cons.1 hnd).2 (fun x hx => by
        obtain ⟨g0, g1, g2⟩ := hm x (List.mem_cons_of_mem _ hx)
        have : x ≠ r := fun e => (List.nodup_cons.1 hnd).1 (e ▸ hx)
        exact ⟨g0, by rw [putObj_ne _ _ this]; exact g1, g2⟩) hc' hf'
theorem acalls_of_body {P : Program} {W : World} {C : Cls W} {f : FuncId} {fn : Func} {c : Code} {args : Array Value} {m : Mem} {R : Value → Mem → Prop} {V : Fr → Value}
    (hf : P.funcs[f]? = some fn) (hb : fn.body = some c) (hr : ResF P fn V) (hn : args.size ≤ fn.ntmps) (h : AWp P C none fn.ntmps c (retQ V R) (argsF args) m) : ACalls P C f args m R := fun w hw => by
  refine callsIn_wide.1 (callsIn_of_wp_marks (n := 0) hf hb trivial (wpIn_mono (h m w _ w ⟨⟨[], argsFR hn, ⟨fun r hr => (by cases hr), fun l e => (by cases e), fun l e => (by cases e)⟩⟩, hw, Frm.refl _ _⟩) fun e a w' hq => ?_))
  have hW := (C.conc hw).below.size
  cases e with
  | normal =>
    obtain ⟨fr, m', h1, h3⟩ := hq
    obtain ⟨D, g1, g2⟩ := h1.fr
    have := leave_marks (C := C) hr hW h3 g1 D w' g1.nodup g2.marks h1.c h1.frm
    rw [← g1.defers] at this
    exact this
  | ret =>
    obtain ⟨fr, m', h1, h3⟩ := hq
    obtain ⟨D, g1, g2⟩ := h1.fr
    have := leave_marks (C := C) hr hW h3 g1 D w' g1.nodup g2.marks h1.c h1.frm
    rw [← g1.defers] at this
    exact this
  | panic c => exact hq.elim
  | outgrown => exact hq.elim
  | exit id => obtain ⟨fr, m', h1, h3⟩ := hq; exact h3.elim
  | goto l => obtain ⟨fr, m', h1, h3⟩ := hq; exact h3.elim
def Mem.none : Mem := ⟨fun _ => Option.none, fun _ => Option.none⟩
theorem Conc.start (w : World) : Conc w Mem.none w := ⟨Below.refl _ _, fun _ _ h => (by simp [Mem.none] at h), fun _ _ h => (by simp [Mem.none] at h)⟩
/-- A function that makes nothing. -/
theorem qcalls_of {P : Program} {f : FuncId} {args : Array Value} {w : World} {v : Value} (h : ACalls P (calm w) f args Mem.none (fun v' _ => v' = v)) : QCalls P f args w v := by
  refine (h w ⟨Conc.start w, rfl⟩).mono fun e w' ⟨v', m', h1, h2, _, h3⟩ => ?_
  subst h3
  refine ⟨h1, ?_, h2.1.below.os, h2.1.below.tape, h2.1.below.output⟩
  apply Array.ext_getElem?
  intro i
  by_cases hi : i < w.heap.size
  · exact h2.1.below.block i hi
  · have hs : w'.heap.size = w.heap.size := h2.2
    rw [Array.getElem?_eq_none (by omega), Array.getElem?_eq_none (by omega)]
/-- A function that makes memory of its own, seen from the world at the call. -/
def Mem.union (m m2 : Mem) : Mem := ⟨fun B => match m2 B with | some b => some b | Option.none => m B, fun B => match m2.obj B with | some b => some b | Option.none => m.obj B⟩
/-- What is known stays just so. -/
structure Keep (m m' : Mem) : Prop where
  get : ∀ B b, m B = some b → m' B = some b
  obj : ∀ B o, m.obj B = some o → m'.obj B = some o
theorem Keep.refl (m : Mem) : Keep m m := ⟨fun _ _ h => h, fun _ _ h => h⟩
theorem Keep.trans {a b c : Mem} (h : Keep a b) (k : Keep b c) : Keep a c := ⟨fun B x hx => k.get B x (h.get B x hx), fun B x hx => k.obj B x (h.obj B x hx)⟩
theorem Keep.le {m m' : Mem} (h : Keep m m') : Le m m' := ⟨fun B b hb => ⟨[], by rw [h.get B b hb]; simp⟩, h.obj⟩
theorem Keep.put {m : Mem} {B : Nat} (hB : m B = Option.none) (b : Blk) : Keep m (m.put B b) := ⟨fun B' b' h => by
  have : B' ≠ B := fun e => by rw [e, hB] at h; cases h
  simp [Mem.put, this, h], fun _ _ h => h⟩
/-- The block that a slice lies in. -/
def blkOf : Value → Option Nat
  | .slice (some a) _ _ => some a.block
  | _ => Option.none
/-- What an append to v, which gives v', does to memory. -/
structure AppTo (m : Mem) (v : Value) (m' : Mem) (v' : Value) : Prop where
  le : Le m m'
  keep : ∀ B b, blkOf v ≠ some B → m B = some b → m' B = some b
  fresh : ∀ B, blkOf v' = some B → blkOf v = some B ∨ m B = Option.none
  freshO : ∀ B, blkOf v' = some B → blkOf v = some B ∨ m.obj B = Option.none
structure Sep (m m2 : Mem) : Prop where
  get : ∀ B b, m B = some b → m2 B = Option.none
  obj : ∀ B o, m.obj B = some o → m2.obj B = Option.none
theorem Sep.keep {m m2 : Mem} (h : Sep m m2) : Keep m (m.union m2) := ⟨fun B b hb => by simp [Mem.union, h.get B b hb, hb], fun B b hb => by simp [Mem.union, h.obj B b hb, hb]⟩
theorem Sep.le {m m2 : Mem} (h : Sep m m2) : Le m (m.union m2) := h.keep.le
theorem Conc.union {W : World} {m m2 : Mem} {w w' : World} (h : Conc W m w) (h2 : Conc w m2 w') : Conc W (m.union m2) w' ∧ Le m2 (m.union m2) := by
  refine ⟨⟨(h.below.trans (h2.below.mono h.below.size)), fun B b hb => ?_, fun B o ho => ?_⟩, ⟨fun B b hb => ⟨[], by simp [Mem.union, hb]⟩, fun B b hb => by simp [Mem.union, hb]⟩⟩
  · simp only [Mem.union] at hb
    cases e : m2.get B with
    | none =>
      simp only [e] at hb
      obtain ⟨g1, cur, g2, g3, g4⟩ := h.blk B b hb
      exact ⟨g1, cur, (h2.below.block B (h.lt hb)).trans g2, g3, g4⟩
    | some b2 =>
      simp only [e] at hb
      obtain rfl := Option.some.inj hb
      obtain ⟨g1, cur, g2, g3, g4⟩ := h2.blk B _ e
      exact ⟨Nat.le_trans h.below.size g1, cur, g2, g3, g4⟩
  · simp only [Mem.union] at ho
    cases e : m2.obj B with
    | none =>
      simp only [e] at ho
      obtain ⟨g1, g2, g3⟩ := h.obj B o ho
      exact ⟨g1, (h2.below.block B (h.ltO ho)).trans g2, g3⟩
    | some b2 =>
      simp only [e] at ho
      obtain rfl := Option.some.inj ho
      obtain ⟨g1, g2, g3⟩ := h2.obj B _ e
      exact ⟨Nat.le_trans h.below.size g1, g2, g3⟩
/-- Beside what the callee has made nothing has turned. -/
theorem Conc.frmU {m m2 : Mem} {w w' : World} (h2 : Conc w m2 w') : Frm m w (m.union m2) w' := ⟨h2.below.size, fun B hB hf => by
  refine ⟨⟨?_, ?_⟩, h2.below.block B hB⟩
  · show (match m2.get B with | some b => some b | Option.none => m.get B) = Option.none
    cases e : m2.get B with
    | none => exact hf.1
    | some b => have := h2.ge e; omega
  · show (match m2.obj B with | some b => some b | Option.none => m.obj B) = Option.none
    cases e : m2.obj B with
    | none => exact hf.2
    | some b => have := (h2.obj B _ e).1; omega⟩
theorem info4 {P : Program} {t : TypeId} {z : Value} {s b : Nat} (h : (P.info? t).map (fun i => (i.zero, i.size, i.bytes)) = some (some z, s, b)) :
    ∃ i, P.info? t = some i ∧ i.zero = some z ∧ i.size = s ∧ i.bytes = b := by
  cases hi : P.info? t with
  | none => rw [hi] at h; cases h
  | some i => rw [hi] at h; simp at h; exact ⟨i, rfl, h.1, h.2.1, h.2.2⟩

/-! ### Facts on memory -/
def cellAt (W : World) (m : Mem) (a : Addr) (v : Value) : Prop :=
  a.spot = Option.none ∧ ((a.block < W.heap.size ∧ W.cell? a = some v) ∨ ∃ b, m a.block = some b ∧ b.cells[a.off]? = some v)
theorem cellAt.cell {W : World} {m : Mem} {a : Addr} {v : Value} {w : World} (h : cellAt W m a v) (hc : Conc W m w) : w.cell? a = some v := by
  obtain ⟨hs, h⟩ := h
  rcases h with ⟨h1, h2⟩ | ⟨b, h1, h2⟩
  · rw [hc.below.cell h1]; exact h2
  · obtain ⟨_, cur, g2, g3, g4⟩ := hc.blk _ _ h1
    simp only [World.cell?, g2, hs, Option.isSome_none, Bool.false_eq_true, if_false]
    rw [← g4, List.getElem?_take] at h2
    split at h2
    · simpa using h2
    · cases h2
theorem cellAt.le {W : World} {m m' : Mem} {a : Addr} {v : Value} (h : cellAt W m a v) (hl : Le m m') : cellAt W m' a v := by
  obtain ⟨hs, h⟩ := h
  refine ⟨hs, h.imp id fun ⟨b, h1, h2⟩ => ?_⟩
  obtain ⟨more, e⟩ := hl.get _ _ h1
  refine ⟨_, e, ?_⟩
  have hlt : a.off < b.cells.length := (List.getElem?_eq_some_iff.1 h2).1
  rw [List.getElem?_append_left hlt]
  exact h2
/-- v is a slice of n elements, of s cells each, that hold the cells xs. -/
def SL (W : World) (m : Mem) (s : Nat) (v : Value) (n : Nat) (xs : List Value) : Prop :=
  xs.length = n * s ∧ ((n = 0 ∧ ∃ a cap, v = .slice a 0 cap) ∨ ∃ B off cap, v = .slice (some ⟨B, off, Option.none⟩) n cap ∧ n ≤ cap ∧ cap ≤ maxLen ∧ ∀ j u, xs[j]? = some u → cellAt W m ⟨B, off + j, Option.none⟩ u)
theorem SL.le {W : World} {m m' : Mem} {s : Nat} {v : Value} {n : Nat} {xs : List Value} (h : SL W m s v n xs) (hl : Le m m') : SL W m' s v n xs :=
  ⟨h.1, h.2.imp id fun ⟨B, off, cap, h1, h2, h3, h4⟩ => ⟨B, off, cap, h1, h2, h3, fun j u hu => (h4 j u hu).le hl⟩⟩
/-- The same, of a world. -/
theorem SL.world {W : World} {m : Mem} {s : Nat} {v : Value} {n : Nat} {xs : List Value} {w : World} (h : SL W m s v n xs) (hc : Conc W m w) : SL w Mem.none s v n xs :=
  ⟨h.1, h.2.imp id fun ⟨B, off, cap, h1, h2, h3, h4⟩ => ⟨B, off, cap, h1, h2, h3, fun j u hu => by
    have := (h4 j u hu).cell hc
    exact ⟨rfl, .inl ⟨World.block_lt_of_cell? _ _ this, this⟩⟩⟩⟩
/-- A slice of integers that came in. -/
def IsRow (k : IntKind) (w : World) (a : Option Addr) (len cap : Nat) (zs : List Int) : Prop :=
  (a = Option.none ∧ len = 0 ∧ cap = 0 ∧ zs = []) ∨
  ∃ x, a = some x ∧ len ≤ cap ∧ cap ≤ maxLen ∧ zs.length = cap ∧ (∀ i, i < zs.length → w.cell? (x.add i) = some (.int k (zs.getD i 0))) ∧ ∀ n ∈ zs, (Lit.int k n).wf = true
theorem IsRow.sl {k : IntKind} {w : World} {a : Option Addr} {len cap : Nat} {zs : List Int} (h : IsRow k w a len cap zs) :
    SL w Mem.none 1 (.slice a len cap) len ((zs.take len).map (Value.int k)) ∧ (zs.take len).length = len ∧ ∀ n ∈ zs.take len, (Lit.int k n).wf = true := by
  rcases h with ⟨rfl, rfl, rfl, rfl⟩ | ⟨x, rfl, hl, hm, hz, hcell, hwz⟩
  · exact ⟨⟨by simp, .inl ⟨rfl, _, _, rfl⟩⟩, rfl, fun n hn => by simp at hn⟩
  · have hlen : (zs.take len).length = len := by simp; omega
    refine ⟨⟨by simp; omega, ?_⟩, hlen, fun n hn => hwz n (List.mem_of_mem_take hn)⟩
    by_cases h0 : len = 0
    · subst h0; exact .inl ⟨rfl, _, _, rfl⟩
    · obtain ⟨b, off, spot⟩ := x
      have hc := hcell 0 (by omega)
      have hspot : spot = Option.none := by simpa [Addr.add] using World.cell?_spot hc
      subst hspot
      refine .inr ⟨b, off, cap, rfl, hl, hm, fun j u hu => ?_⟩
      have hj : j < len := by have := (List.getElem?_eq_some_iff.1 hu).1; simp at this; omega
      have hc := hcell j (by omega)
      have hadd : (⟨b, off, Option.none⟩ : Addr).add j = ⟨b, off + j, Option.none⟩ := by unfold Addr.add; split <;> simp_all
      rw [hadd] at hc
      have hu2 : u = .int k (zs.getD j 0) := by
        rw [List.getElem?_map, List.getElem?_take, if_pos hj] at hu
        have hjz : j < zs.length := by omega
        simp [hjz] at hu ⊢
        exact hu.symm
      rw [hu2]
      exact ⟨rfl, .inl ⟨World.block_lt_of_cell? _ _ hc, hc⟩⟩
/-- v is a slice of the call's own, from the beginning of a block on; the known cells of the block end where it ends. -/
def OWN (m : Mem) (e : TypeId) (s : Nat) (v : Value) (n : Nat) (xs : List Value) : Prop :=
  xs.length = n * s ∧ ((v = .slice Option.none 0 0 ∧ n = 0) ∨ ∃ B cap, v = .slice (some ⟨B, 0, Option.none⟩) n cap ∧ n ≤ cap ∧ cap ≤ maxLen ∧ m B = some ⟨xs, e, cap * s⟩)
theorem OWN.sl {W : World} {m : Mem} {e : TypeId} {s : Nat} {v : Value} {n : Nat} {xs : List Value} (h : OWN m e s v n xs) : SL W m s v n xs :=
  ⟨h.1, h.2.imp (fun ⟨h1, h2⟩ => ⟨h2, _, _, h1⟩) fun ⟨B, cap, h1, h2, h3, h4⟩ => ⟨B, 0, cap, h1, h2, h3, fun j u hu => ⟨rfl, .inr ⟨_, h4, by simpa using hu⟩⟩⟩⟩
theorem OWN.nil (m : Mem) (e : TypeId) (s : Nat) : OWN m e s (.slice Option.none 0 0) 0 [] := ⟨by simp, .inl ⟨rfl, rfl⟩⟩
theorem OWN.union {m m2 : Mem} {e : TypeId} {s : Nat} {v : Value} {n : Nat} {xs : List Value} (h : OWN m2 e s v n xs) : OWN (m.union m2) e s v n xs :=
  ⟨h.1, h.2.imp id fun ⟨B, cap, h1, h2, h3, h4⟩ => ⟨B, cap, h1, h2, h3, by simp [Mem.union, h4]⟩⟩
theorem Sep.own {m m2 : Mem} {e : TypeId} {s : Nat} {v : Value} {n : Nat} {xs : List Value} (hs : Sep m m2) (h : OWN m e s v n xs) : OWN (m.union m2) e s v n xs :=
  ⟨h.1, h.2.imp id fun ⟨B, cap, h1, h2, h3, h4⟩ => ⟨B, cap, h1, h2, h3, hs.keep.get _ _ h4⟩⟩
theorem Keep.own {m m2 : Mem} {e : TypeId} {s : Nat} {v : Value} {n : Nat} {xs : List Value} (hs : Keep m m2) (h : OWN m e s v n xs) : OWN m2 e s v n xs :=
  ⟨h.1, h.2.imp id fun ⟨B, cap, h1, h2, h3, h4⟩ => ⟨B, cap, h1, h2, h3, hs.get _ _ h4⟩⟩
theorem OWN.blk {m : Mem} {e : TypeId} {s : Nat} {v : Value} {n : Nat} {xs : List Value} (h : OWN m e s v n xs) {B : Nat} (hB : blkOf v = some B) : ∃ b, m B = some b := by
  rcases h.2 with ⟨rfl, _⟩ | ⟨B', cap, rfl, _, _, h4⟩
  · cases hB
  · obtain rfl : B' = B := by simpa [blkOf] using hB
    exact ⟨_, h4⟩
/-- What is told of memory before a block was made holds whatever the block comes to hold. -/
theorem cellAt.put {W : World} {m : Mem} {a : Addr} {v : Value} (h : cellAt W m a v) {B : Nat} (hB : m B = Option.none) (b : Blk) : cellAt W (m.put B b) a v := by
  obtain ⟨hs, h⟩ := h
  refine ⟨hs, h.imp id fun ⟨b', h1, h2⟩ => ⟨b', ?_, h2⟩⟩
  have : a.block ≠ B := fun e => by rw [e, hB] at h1; cases h1
  simp [Mem.put, this, h1]
theorem SL.put {W : World} {m : Mem} {s : Nat} {v : Value} {n : Nat} {xs : List Value} (h : SL W m s v n xs) {B : Nat} (hB : m B = Option.none) (b : Blk) : SL W (m.put B b) s v n xs :=
  ⟨h.1, h.2.imp id fun ⟨B', off, cap, h1, h2, h3, h4⟩ => ⟨B', off, cap, h1, h2, h3, fun j u hu => (h4 j u hu).put hB b⟩⟩
theorem Le.put {m : Mem} {B : Nat} (hB : m B = Option.none) (b : Blk) : Le m (m.put B b) := (Keep.put hB b).le
theorem Mem.put_put (m : Mem) (B : Nat) (b b' : Blk) : (m.put B b).put B b' = m.put B b' := by
  unfold Mem.put
  congr 1
  funext j; dsimp only; split <;> rfl
theorem Mem.put_at (m : Mem) (B : Nat) (b : Blk) : (m.put B b) B = some b := by simp [Mem.put]
end Go.Abs
