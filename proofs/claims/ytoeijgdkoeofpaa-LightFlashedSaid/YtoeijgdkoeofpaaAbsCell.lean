import Derived.Test.YtoeijgdkoeofpaaAbsMap2
set_option linter.unusedSectionVars false
set_option linter.unusedSimpArgs false
set_option linter.unusedVariables false
/-! Abs: bytes and unsigned words; variables of several cells; slices of values of one cell. -/
namespace Go.Abs
open Go Go.RowKit
section arith
variable {P : Program} {W : World} {C : Cls W} {o : Oper} {fr : Fr} {m : Mem}
end arith
section mem
variable {P : Program} {W : World} {C : Cls W} {o : Oper} {fr : Fr} {m : Mem}
/-! ### variables of several cells -/
abbrev Ent.vs (T : TypeId) (B : Nat) (cs : List Value) : Ent := .box B ⟨cs, T, cs.length⟩
theorem h_newS {T : TypeId} {cs : Array Value} {l : List Ent} {K : Value → Mem → Prop} (H : HP m l)
    (hr : ∀ w, (execOp (evalF fr) o).run P w = .ok (.value (.pointer (some ⟨w.heap.size, 0, Option.none⟩))) (w.alloc (.cells cs T)))
    (h : ∀ B m', HP m' (.vs T B cs.toList :: l) → Le m m' → K (.pointer (some ⟨B, 0, Option.none⟩)) m') : AOp P (gen W) o fr m K := fun w hw => by
  rw [hr]
  have := Conc.alloc hw cs T
  have e : cs.size = cs.toList.length := by simp
  rw [e] at this
  refine ⟨_, this.1, this.2.1, h _ _ ((H.keep (Keep.put (Conc.fresh hw) _)).cons (p := .vs T w.heap.size cs.toList) (Mem.put_at _ _ _) fun q hq B hB hqB => ?_) (Le.put (Conc.fresh hw) _)⟩
  obtain rfl : w.heap.size = B := by simpa [Ent.blk] using hB
  exact Ent.known (H.ok q hq) hqB ⟨Conc.fresh hw, Conc.freshO hw⟩
theorem h_boxS {T : TypeId} {x : Operand} {cs : Array Value} {l : List Ent} {K : Value → Mem → Prop} (H : HP m l) (ho : o.op = .box T x) (hx : evalF fr x = .agg cs)
    (h : ∀ B m', HP m' (.vs T B cs.toList :: l) → Le m m' → K (.pointer (some ⟨B, 0, Option.none⟩)) m') : AOp P (gen W) o fr m K :=
  h_newS H (fun w => by simp [execOp, ho, hx, Instr.box, newVar, newRow, Value.cells]) h
theorem h_allocS {T : TypeId} {cs : Array Value} {i : TypeInfo} {l : List Ent} {K : Value → Mem → Prop} (hi : P.info? T = some i) (hz : i.zero = some (.agg cs)) (H : HP m l) (ho : o.op = .alloc T)
    (h : ∀ B m', HP m' (.vs T B cs.toList :: l) → Le m m' → K (.pointer (some ⟨B, 0, Option.none⟩)) m') : AOp P (gen W) o fr m K :=
  h_newS H (fun w => by simp [execOp, ho, Instr.alloc, zeroValue, typeInfo, hi, hz, newVar, newRow, Value.cells]) h
theorem HP.setBox {l : List Ent} (H : HP m l) (i : Nat) {B : Nat} {b : Blk} (b' : Blk) (hi : l[i]? = some (.box B b)) : HP (m.put B b') (l.set i (.box B b')) := by
  have hput : ∀ B' x, B' ≠ B → m B' = some x → (m.put B b') B' = some x := fun B' x hne hb => by simp [Mem.put, hne, hb]
  refine H.turn i hi (p' := .box B b') (Mem.put_at _ _ _) (fun q hq hok => ?_) (fun B' hB' => .inl hB')
  have hq' : q.blk ≠ some B := fun e => hq B e rfl
  cases q with
  | sl vq eq sq nq xq =>
    refine OWN.keepNe (v := .slice (some ⟨B, 0, Option.none⟩) 0 0) (fun B' x hne hb => hput B' x (fun e => hne (by rw [e]; rfl)) hb) hok fun B' h1 h2 => ?_
    have : B = B' := by simpa [blkOf] using h2
    subst this
    exact hq' h1
  | box B' x => exact hput B' x (fun e => hq' (by rw [e]; rfl)) hok
  | obj B' o => exact hok
theorem overL_all : ∀ (us xs pre : List Value), us.length = xs.length → overL (pre ++ xs) pre.length us = pre ++ us
  | [], [], pre, _ => by simp [overL]
  | u :: us, x :: xs, pre, h => by
    simp only [overL]
    have ih := overL_all us xs (pre ++ [u]) (by simpa using h)
    have e : (pre ++ x :: xs).set pre.length u = (pre ++ [u]) ++ xs := by simp
    rw [e]
    simp only [List.length_append, List.length_singleton] at ih
    rw [ih]; simp
theorem overL_all0 {us xs : List Value} (h : us.length = xs.length) : overL xs 0 us = us := by simpa using overL_all us xs [] h
/-- The whole variable is stored. -/
theorem h_setVarS {T T' : TypeId} {inf : TypeInfo} {x y : Operand} {l : List Ent} (i : Nat) {B : Nat} {cs us : List Value} {K : Value → Mem → Prop} (hT : P.info? T = some inf) (hs : inf.size = us.length) (H : HP m l) (hi : l[i]? = some (.vs T' B cs))
    (ho : o.op = .store T x y) (hx : evalF fr x = .pointer (some ⟨B, 0, Option.none⟩)) (hy : evalF fr y = .agg us.toArray) (h1 : us.all (·.oneCell') = true) (hl : us.length = cs.length)
    (h : ∀ m', HP m' (l.set i (.vs T' B us)) → K undef m') : AOp P (gen W) o fr m K := by
  have hB := H.box i hi
  refine a_storeS (cs := us.toArray) hT (by simpa using hs) ho hx (by rw [hy]; rfl) (fun u hu => List.all_eq_true.1 h1 u (by simpa using hu)) hB (by simp [hl]) ?_
  have := H.setBox i (b := ⟨cs, T', cs.length⟩) ⟨us, T', us.length⟩ hi
  have e : ({ cells := overL cs 0 us.toArray.toList, elem := T', size := cs.length } : Blk) = ⟨us, T', us.length⟩ := by simp [overL_all0 hl, hl]
  have hk := h _ this
  rw [← e] at hk
  exact hk
/-- One cell of it is stored. -/
theorem h_setCell {T T' : TypeId} {inf : TypeInfo} {x y : Operand} {l : List Ent} (i j : Nat) {B : Nat} {cs : List Value} {u : Value} {K : Value → Mem → Prop} (hT : P.info? T = some inf) (hs : inf.size = 1) (H : HP m l) (hi : l[i]? = some (.vs T' B cs))
    (ho : o.op = .store T x y) (hx : evalF fr x = .pointer (some ⟨B, j, Option.none⟩)) (hy : evalF fr y = u) (h1 : u.oneCell' = true) (hj : j < cs.length)
    (h : ∀ m', HP m' (l.set i (.vs T' B (cs.set j u))) → K undef m') : AOp P (gen W) o fr m K := by
  have hB := H.box i hi
  refine a_store hT hs ho hx hy h1 hB hj ?_
  have := H.setBox i (b := ⟨cs, T', cs.length⟩) ⟨cs.set j u, T', (cs.set j u).length⟩ hi
  have e : ({ cells := cs.set j u, elem := T', size := cs.length } : Blk) = ⟨cs.set j u, T', (cs.set j u).length⟩ := by simp
  have hk := h _ this
  rw [← e] at hk
  exact hk
theorem HP.cellS {l : List Ent} (H : HP m l) (i j : Nat) {B : Nat} {T : TypeId} {cs : List Value} {u : Value} (hi : l[i]? = some (.vs T B cs)) (hj : cs[j]? = some u) : cellAt W m ⟨B, j, Option.none⟩ u := ⟨rfl, .inr ⟨_, H.box i hi, hj⟩⟩
/-- One cell of it. -/
theorem q_varC {T T' : TypeId} {x : Operand} {d : TypeDesc} {l : List Ent} (i j : Nat) {B : Nat} {cs : List Value} {v : Value} (hT : P.underlying T = some d) (hd : flat d = true) (H : HP m l) (hi : l[i]? = some (.vs T' B cs)) (hj : cs[j]? = some v)
    (ho : o.op = .load T x) (hx : evalF fr x = .pointer (some ⟨B, j, Option.none⟩)) : QOp P W o fr m v := q_loadAt hT hd (H.cellS i j hi hj) ho hx
/-- The whole of it. -/
theorem q_varS {T T' : TypeId} {x : Operand} {d : TypeDesc} {inf : TypeInfo} {l : List Ent} (i : Nat) {B : Nat} {cs : List Value} (hT : P.underlying T = some d) (hd : flat d = false) (hf : P.info? T = some inf) (hs : inf.size = cs.length) (H : HP m l) (hi : l[i]? = some (.vs T' B cs))
    (ho : o.op = .load T x) (hx : evalF fr x = .pointer (some ⟨B, 0, Option.none⟩)) : QOp P W o fr m (.agg cs.toArray) :=
  q_loadAtS hT hd hf hs ho hx rfl fun l u hu => by rw [Nat.zero_add]; exact H.cellS i l hi hu
/-! ### results that lie in several cells -/
theorem resMS {P : Program} {W : World} {fn : Func} {t : Tmp} {T : TypeId} {d : TypeDesc} {inf : TypeInfo} (h : fn.results = #[.cell t T]) (ht : t < fn.ntmps) (hT : P.underlying T = some d) (hd : flat d = false) (hf : P.info? T = some inf) :
    ResM P W fn (fun fr m v => ∃ (B : Nat) (cs : List Value), fr t = .pointer (some ⟨B, 0, Option.none⟩) ∧ v = .agg cs.toArray ∧ cs.length = inf.size ∧ ∀ j u, cs[j]? = some u → cellAt W m ⟨B, j, Option.none⟩ u) := fun fr D a w m v ha hc ⟨B, cs, h1, h2, h3, h4⟩ => by
  have e : a.tmps[t]? = some (.pointer (some ⟨B, 0, Option.none⟩)) := by
    have h5 := ha.at_ t ht
    rw [h1] at h5
    have hs : t < a.tmps.size := by rw [ha.size]; exact ht
    simp [hs] at h5 ⊢
    exact h5
  have hl := run_loadAgg (P := P) (a := ⟨B, 0, Option.none⟩) (cs := cs) (w := w) hT hd hf (by omega) fun l u hu => by
    rw [addr_add, Nat.zero_add]; exact (h4 l u hu).cell hc
  subst h2
  simp [results, h, e, asAddr, hl]
theorem resMS1 {P : Program} {W : World} {fn : Func} {t t2 : Tmp} {T : TypeId} {d : TypeDesc} {inf : TypeInfo} (h : fn.results = #[.cell t T, .tmp t2]) (ht : t < fn.ntmps) (ht2 : t2 < fn.ntmps) (hT : P.underlying T = some d) (hd : flat d = false) (hf : P.info? T = some inf) :
    ResM P W fn (fun fr m v => ∃ (B : Nat) (cs : List Value), fr t = .pointer (some ⟨B, 0, Option.none⟩) ∧ v = .tuple #[.agg cs.toArray, fr t2] ∧ cs.length = inf.size ∧ ∀ j u, cs[j]? = some u → cellAt W m ⟨B, j, Option.none⟩ u) := fun fr D a w m v ha hc ⟨B, cs, h1, h2, h3, h4⟩ => by
  have e : a.tmps[t]? = some (.pointer (some ⟨B, 0, Option.none⟩)) := by
    have h5 := ha.at_ t ht
    rw [h1] at h5
    have hs : t < a.tmps.size := by rw [ha.size]; exact ht
    simp [hs] at h5 ⊢
    exact h5
  have e2 : a.tmps[t2]? = some (fr t2) := by
    have h5 := ha.at_ t2 ht2
    have hs : t2 < a.tmps.size := by rw [ha.size]; exact ht2
    simp [hs] at h5 ⊢
    exact h5
  have hl := run_loadAgg (P := P) (a := ⟨B, 0, Option.none⟩) (cs := cs) (w := w) hT hd hf (by omega) fun l u hu => by
    rw [addr_add, Nat.zero_add]; exact (h4 l u hu).cell hc
  subst h2
  simp [results, h, e, e2, asAddr, hl]
/-! ### arrays -/
/-! ### slices of values of one cell -/
/-! ### variables that hold nothing known yet -/
end mem
section draw
variable {P : Program} {W : World} {C : Cls W} {r : Option Nat} {n : Nat} {Q : Post} {fr : Fr} {m : Mem} {ops : Array Oper}
end draw
end Go.Abs
