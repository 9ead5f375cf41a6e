import Derived.Test.YthkheklnlggnbaaAbsBox
set_option linter.unusedSectionVars false
set_option linter.unusedSimpArgs false
set_option linter.unusedVariables false
/-! Abs: maps of the call's own whose keys are integers. -/
namespace Go.Abs
open Go Go.RowKit
/-- An entry: its key, its value, and when it came in. -/
structure KV where
  k : Int
  v : Value
  b : Nat
def KV.e (kk : IntKind) (x : KV) : MapEntry := { key := .int kk x.k, val := x.v, born := x.b }
def kvs (kk : IntKind) (l : List KV) : Array MapEntry := (l.map (KV.e kk)).toArray
def getK (l : List KV) (x : Int) : Option Value := (l.find? fun e => decide (e.k = x)).map (·.v)
def putK (l : List KV) (x : Int) (v : Value) (c : Nat) : List KV := match l with
  | [] => [⟨x, v, c⟩]
  | e :: l => if e.k = x then ⟨x, v, e.b⟩ :: l else e :: putK l x v c
def clockK (l : List KV) (x : Int) (c : Nat) : Nat := if (getK l x).isSome then c else c + 1
abbrev Ent.map (B : Nat) (kk : IntKind) (l : List KV) (c : Nat) : Ent := .obj B (.map (kvs kk l) c)
def idxK : List KV → Int → Option Nat
  | [], _ => none
  | e :: l, x => if e.k = x then some 0 else (idxK l x).map (· + 1)
theorem findNow_kvs {kd kk : IntKind} (x : Int) : ∀ (l : List KV) (i : Nat), Instr.findNow (.int kd) (.int kk x) (l.map (KV.e kk)) i = some (match idxK l x with | some j => some (i + j, (getK l x).getD undef) | none => none)
  | [], _ => rfl
  | e :: l, i => by
    have ih := findNow_kvs (kd := kd) (kk := kk) x l (i + 1)
    simp only [List.map_cons, Instr.findNow, KV.e, Instr.sameNow, if_true]
    by_cases h : x = e.k
    · have hb : (x == e.k) = true := by simp [h]
      rw [hb]
      simp [idxK, getK, h]
    · have hb : (x == e.k) = false := by simp [h]
      rw [hb]
      have h' : ¬ e.k = x := fun q => h q.symm
      simp only [idxK, h', if_false, getK, List.find?_cons, decide_false]
      rw [show (List.map (KV.e kk) l) = List.map (KV.e kk) l from rfl]
      have e2 : Instr.findNow (.int kd) (.int kk x) (List.map (fun e => ({ key := .int kk e.k, val := e.v, born := e.b } : MapEntry)) l) (i + 1) = Instr.findNow (.int kd) (.int kk x) (List.map (KV.e kk) l) (i + 1) := rfl
      first | rw [e2, ih] | rw [ih]
      cases idxK l x <;> simp [getK] <;> omega
theorem idxK_some {l : List KV} {x : Int} : (getK l x).isSome = (idxK l x).isSome := by
  induction l with
  | nil => rfl
  | cons e l ih =>
    have e1 : getK (e :: l) x = if e.k = x then some e.v else getK l x := by by_cases h : e.k = x <;> simp [getK, h]
    have e2 : idxK (e :: l) x = if e.k = x then some 0 else (idxK l x).map (· + 1) := rfl
    rw [e1, e2]
    by_cases h : e.k = x
    · rw [if_pos h, if_pos h]; rfl
    · rw [if_neg h, if_neg h, ih]; cases idxK l x <;> rfl
theorem putK_idx {kk : IntKind} {x : Int} {v : Value} {c : Nat} : ∀ {l : List KV} {j : Nat}, idxK l x = some j → (l.map (KV.e kk)).modify j (fun e => { e with key := .int kk x, val := v }) = (putK l x v c).map (KV.e kk)
  | [], _, h => by simp [idxK] at h
  | e :: l, j, h => by
    unfold idxK at h
    unfold putK
    by_cases hk : e.k = x
    · rw [if_pos hk] at h ⊢
      obtain rfl := Option.some.inj h
      simp [KV.e]
    · rw [if_neg hk] at h ⊢
      cases hj : idxK l x with
      | none => rw [hj] at h; cases h
      | some i =>
        rw [hj] at h
        obtain rfl := Option.some.inj h
        simp [putK_idx (c := c) hj]
theorem putK_none {kk : IntKind} {x : Int} {v : Value} {c : Nat} : ∀ {l : List KV}, idxK l x = none → l.map (KV.e kk) ++ [{ key := .int kk x, val := v, born := c }] = (putK l x v c).map (KV.e kk)
  | [], _ => rfl
  | e :: l, h => by
    unfold idxK at h
    unfold putK
    by_cases hk : e.k = x
    · rw [if_pos hk] at h; cases h
    · rw [if_neg hk] at h ⊢
      cases hj : idxK l x with
      | none => simp [← putK_none (c := c) (v := v) hj]
      | some i => rw [hj] at h; cases h
theorem getK_put {x y : Int} {v : Value} {c : Nat} : ∀ {l : List KV}, getK (putK l x v c) y = if x = y then some v else getK l y
  | [] => by by_cases h : x = y <;> simp [putK, getK, h]
  | e :: l => by
    have ih := getK_put (x := x) (y := y) (v := v) (c := c) (l := l)
    unfold putK
    by_cases hk : e.k = x
    · rw [if_pos hk]
      by_cases h : x = y
      · simp [getK, h]
      · simp [getK, h, show ¬ e.k = y from fun q => h (hk.symm.trans q)]
    · rw [if_neg hk]
      by_cases h : e.k = y
      · simp [getK, h, show ¬ x = y from fun q => hk (h.trans q.symm)]
      · simp only [getK, List.find?_cons, h, decide_false] at ih ⊢; exact ih
section ops
variable {P : Program} {W : World} {C : Cls W} {o : Oper} {fr : Fr} {m : Mem}
theorem Conc.turnO {w : World} {B : Nat} {o o' : Obj} (h : Conc W m w) (hB : m.obj B = some o) (hn : notCells o' = true) : Conc W (m.putO B o') (putObj w B o') ∧ Frm m w (m.putO B o') (putObj w B o') := by
  obtain ⟨hW, hw, hno⟩ := h.obj B o hB
  have hlt := h.ltO hB
  have hget : m B = Option.none := by
    cases e : m B with
    | none => rfl
    | some b => have := h.apart e; rw [this] at hB; cases hB
  refine ⟨⟨⟨h.below.os, h.below.tape, h.below.output, by simp [putObj]; exact h.below.size, fun i hi => by rw [putObj_ne _ _ (by omega)]; exact h.below.block i hi⟩, fun B' b hb => ?_, fun B' x hx => ?_⟩, ⟨by simp [putObj], fun B' hB' hf => ?_⟩⟩
  · have : B' ≠ B := fun e => by
      have hb' : m B' = some b := hb
      rw [e, hget] at hb'; cases hb'
    rw [putObj_ne _ _ this]; exact h.blk B' b hb
  · simp only [Mem.putO] at hx
    split at hx
    · rename_i e
      subst e
      obtain rfl := Option.some.inj hx
      exact ⟨hW, putObj_at _ _ hlt, hn⟩
    · rename_i e
      rw [putObj_ne _ _ e]; exact h.obj B' x hx
  · have hne : B' ≠ B := fun e => by have := hf.2; rw [e, hB] at this; cases this
    exact ⟨Mem.free_putO hf hne, putObj_ne _ _ hne⟩
theorem HP.turnO {l : List Ent} (H : HP m l) (i : Nat) {B : Nat} {o o' : Obj} (hi : l[i]? = some (.obj B o)) : HP (m.putO B o') (l.set i (.obj B o')) := by
  refine H.turn i hi (p' := .obj B o') (by show (m.putO B o').obj B = some o'; simp [Mem.putO]) (fun q hq hok => ?_) (fun B' hB' => .inl hB')
  have hq' : q.blk ≠ some B := fun e => hq B e rfl
  cases q with
  | sl vq eq sq nq xq => exact hok
  | box B' b => exact hok
  | obj B' x =>
    have hne : B' ≠ B := fun e => hq' (by rw [e]; rfl)
    show (m.putO B o').obj B' = some x
    simp [Mem.putO, hne]; exact hok
theorem h_makeMap {T : TypeId} {l : List Ent} {K : Value → Mem → Prop} (kk : IntKind) (H : HP m l) (ho : o.op = .makeMap T none)
    (h : ∀ B m', HP m' (.map B kk [] 0 :: l) → Le m m' → K (.map (some B)) m') : AOp P (gen W) o fr m K := fun w hw => by
  have hr : (execOp (evalF fr) o).run P w = .ok (.value (.map (some w.heap.size))) (pushed w (.map #[] 0)) := by
    simp [execOp, ho, Instr.makeMap, run_newObj, pushed]
  rw [hr]
  have hf : m.free w.heap.size := hw.freeTop
  have hc : Conc W (m.putO w.heap.size (.map #[] 0)) (pushed w (.map #[] 0)) := Conc.putO (hw.pushed _) (pushed_top _ _) rfl hw.below.size
  have hk : Keep m (m.putO w.heap.size (.map #[] 0)) := ⟨fun B b hb => hb, fun B x hx => by
    have : B ≠ w.heap.size := fun e => by rw [e, hf.2] at hx; cases hx
    simp [Mem.putO, this, hx]⟩
  refine ⟨_, hc, ⟨by rw [pushed_size]; omega, fun B hB hfB => ⟨Mem.free_putO hfB (by omega), pushed_old _ _ hB⟩⟩, h _ _ ((H.keep hk).cons (p := .map w.heap.size kk [] 0) (by show (m.putO _ _).obj _ = _; simp [Mem.putO, kvs]) fun q hq B hB hqB => ?_) (Mem.putO_le hf)⟩
  obtain rfl : w.heap.size = B := by simpa [Ent.blk] using hB
  exact Ent.known (H.ok q hq) hqB hf
theorem run_getMap {w : World} {l : List Ent} (H : HP m l) (hw : Conc W m w) (i : Nat) {B : Nat} {ob : Obj} (hi : l[i]? = some (.obj B ob)) : (getObj B).run P w = .ok ob w := by
  obtain ⟨_, h2, h3⟩ := hw.obj B ob (H.obj i hi)
  cases ob <;> simp [notCells] at h3 <;> simp [getObj, Sem.run, h2]
theorem run_checkKey {T : TypeId} {k kk : IntKind} {x : Int} {b : Bool} {w : World} (hT : P.underlying T = some (.int k)) : (Instr.checkKey b 10000 T (.int kk x)).run P w = .ok () w := by
  have : ∀ n, (Instr.checkKey b (n + 1) T (.int kk x)).run P w = .ok () w := fun n => by simp [Instr.checkKey, run_underlying hT]
  exact this 9999
theorem run_findKey {T : TypeId} {k kk : IntKind} {x : Int} {l : List KV} {w : World} (hT : P.underlying T = some (.int k)) :
    (Instr.findKey T (.int kk x) (kvs kk l).toList).run P w = .ok (match idxK l x with | some j => some (j, (getK l x).getD undef) | none => none) w := by
  have := findNow_kvs (kd := k) (kk := kk) x l 0
  simp only [Instr.findKey, Sem.run_bind, run_underlying hT, Result.andThen_ok, kvs, List.toList_toArray, this]
  cases idxK l x <;> simp
/-- m[x]: the value, or zero. -/
theorem q_lookup {T key elem : TypeId} {k kk : IntKind} {inf : TypeInfo} {z : Value} {x y : Operand} {l : List Ent} (i : Nat) {B : Nat} {es : List KV} {c : Nat} {a : Int} {v : Value} (hT : P.underlying T = some (.map key elem)) (hK : P.underlying key = some (.int k)) (he : P.info? elem = some inf) (hz : inf.zero = some z)
    (H : HP m l) (hi : l[i]? = some (.map B kk es c)) (ho : o.op = .lookup T x y false) (hx : evalF fr x = .map (some B)) (hy : evalF fr y = .int kk a) (hv : (getK es a).getD z = v) : QOp P W o fr m v := q_of_run fun w hw => by
  have h1 := run_getMap (P := P) H hw i hi
  have h2 : ∀ b, (Instr.checkKey b 10000 key (.int kk a)).run P w = .ok () w := fun b => run_checkKey hK
  have h3 := run_findKey (P := P) (kk := kk) (x := a) (l := es) (w := w) hK
  have h4 := idxK_some (l := es) (x := a)
  have hr : (Instr.lookup T (.map (some B)) (.int kk a) false).run P w = .ok v w := by
    cases e : idxK es a with
    | none =>
      rw [e] at h4 h3
      have h5 : getK es a = none := by cases hg : getK es a with | none => rfl | some u => rw [hg] at h4; cases h4
      rw [h5] at hv
      simp at hv
      simp [Instr.lookup, run_underlying hT, h1, h2, h3, zeroValue, typeInfo, he, hz, hv]
    | some j =>
      rw [e] at h4 h3
      obtain ⟨u, hu⟩ : ∃ u, getK es a = some u := by cases hg : getK es a with | none => rw [hg] at h4; cases h4 | some u => exact ⟨u, rfl⟩
      rw [hu] at hv h3
      simp at hv
      simp [Instr.lookup, run_underlying hT, h1, h2, h3, hv]
  have hx2 : execOp (evalF fr) o = (do pure (.value (← Instr.lookup T (.map (some B)) (.int kk a) false))) := by simp [execOp, ho, hx, hy]
  rw [hx2]
  simp [hr]
/-- m[x] = v. -/
theorem h_mapUpdate {T key elem : TypeId} {k kk : IntKind} {x y z : Operand} {l : List Ent} (i : Nat) {B : Nat} {es : List KV} {c : Nat} {a : Int} {v : Value} {K : Value → Mem → Prop} (hT : P.underlying T = some (.map key elem)) (hK : P.underlying key = some (.int k))
    (H : HP m l) (hi : l[i]? = some (.map B kk es c)) (ho : o.op = .mapUpdate T x y z) (hx : evalF fr x = .map (some B)) (hy : evalF fr y = .int kk a) (hz : evalF fr z = v)
    (h : ∀ m', HP m' (l.set i (.map B kk (putK es a v c) (clockK es a c))) → K undef m') : AOp P (gen W) o fr m K := fun w hw => by
  have h1 := run_getMap (P := P) H hw i hi
  have h2 : ∀ b, (Instr.checkKey b 10000 key (.int kk a)).run P w = .ok () w := fun b => run_checkKey hK
  have h3 := run_findKey (P := P) (kk := kk) (x := a) (l := es) (w := w) hK
  have h4 := idxK_some (l := es) (x := a)
  have hob := H.obj i hi
  have hset : ∀ o', (setObj B o').run P w = .ok () (putObj w B o') := fun o' => by
    obtain ⟨_, h2, _⟩ := Conc.obj hw B _ hob
    simp [setObj, Sem.run, h2, putObj]
  have hr : (execOp (evalF fr) o).run P w = .ok .skip (putObj w B (.map (kvs kk (putK es a v c)) (clockK es a c))) := by
    have hx2 : execOp (evalF fr) o = (do Instr.mapUpdate T (.map (some B)) (.int kk a) v; pure .skip) := by simp [execOp, ho, hx, hy, hz]
    rw [hx2]
    suffices hs : (Instr.mapUpdate T (.map (some B)) (.int kk a) v).run P w = .ok () (putObj w B (.map (kvs kk (putK es a v c)) (clockK es a c))) by simp [hs]
    cases e : idxK es a with
    | none =>
      rw [e] at h4 h3
      have hc : clockK es a c = c + 1 := by unfold clockK; rw [h4]; rfl
      have hp := putK_none (kk := kk) (v := v) (c := c) e
      have hp2 : (kvs kk es).push { key := .int kk a, val := v, born := c } = kvs kk (putK es a v c) := by apply Array.toList_inj.1; simpa [kvs] using hp
      simp [Instr.mapUpdate, run_underlying hT, h1, h2, h3, hset, hc, hp2]
    | some j =>
      rw [e] at h4 h3
      have hc : clockK es a c = c := by unfold clockK; rw [h4]; rfl
      have hp := putK_idx (kk := kk) (v := v) (c := c) e
      have hkey : ∀ old : Value, old = .int kk a → (Instr.keyThatStays old (.int kk a)).run P w = .ok (.int kk a) w := fun old ho => by
        subst ho; simp [Instr.keyThatStays, Instr.sameBits]
      have hold : (((kvs kk es)[j]?).map (·.key)).getD (.int kk a) = .int kk a := by
        have : ∀ (l : List KV) (j : Nat), idxK l a = some j → (((l.map (KV.e kk))[j]?).map (·.key)).getD (.int kk a) = .int kk a := by
          intro l
          induction l with
          | nil => intro j h; simp [idxK] at h
          | cons e l ih =>
            intro j h
            unfold idxK at h
            by_cases hk : e.k = a
            · rw [if_pos hk] at h
              obtain rfl := Option.some.inj h
              simp [KV.e, hk]
            · rw [if_neg hk] at h
              cases hj : idxK l a with
              | none => rw [hj] at h; cases h
              | some i =>
                rw [hj] at h
                obtain rfl := Option.some.inj h
                simpa using ih i hj
        simpa [kvs] using this es j e
      have hp2 : (kvs kk es).modify j (fun e => { e with key := .int kk a, val := v }) = kvs kk (putK es a v c) := by apply Array.toList_inj.1; simpa [kvs] using hp
      have hk2 := hkey _ hold
      simp [Instr.mapUpdate, run_underlying hT, h1, h2, h3, hset, hc, hp2, hk2]
  rw [hr]
  have hc := Conc.turnO (o' := .map (kvs kk (putK es a v c)) (clockK es a c)) hw hob rfl
  exact ⟨_, hc.1, hc.2, h _ (H.turnO i hi)⟩
end ops
end Go.Abs
