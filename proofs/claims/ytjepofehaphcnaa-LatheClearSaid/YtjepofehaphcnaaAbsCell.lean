import Derived.Test.YtjepofehaphcnaaAbsMap2
set_option linter.unusedSectionVars false
set_option linter.unusedSimpArgs false
set_option linter.unusedVariables false
/-! Abs: bytes and unsigned words; variables of several cells; slices of values of one cell. -/
namespace Go.Abs
open Go Go.RowKit
section arith
variable {P : Program} {W : World} {C : Cls W} {o : Oper} {fr : Fr} {m : Mem}
end arith
section mem
variable {P : Program} {W : World} {C : Cls W} {o : Oper} {fr : Fr} {m : Mem}
/-! ### variables of several cells -/
abbrev Ent.vs (T : TypeId) (B : Nat) (cs : List Value) : Ent := .box B ⟨cs, T, cs.length⟩
theorem h_newS {T : TypeId} {cs : Array Value} {l : List Ent} {K : Value → Mem → Prop} (H : HP m l)
    (hr : ∀ w, (execOp (evalF fr) o).run P w = .ok (.value (.pointer (some ⟨w.heap.size, 0, Option.none⟩))) (w.alloc (.cells cs T)))
    (h : ∀ B m', HP m' (.vs T B cs.toList :: l) → Le m m' → K (.pointer (some ⟨B, 0, Option.none⟩)) m') : AOp P (gen W) o fr m K := fun w hw => by
  rw [hr]
  have := Conc.alloc hw cs T
  have e : cs.size = cs.toList.length := by simp
  rw [e] at this
  refine ⟨_, this.1, this.2.1, h _ _ ((H.keep (Keep.put (Conc.fresh hw) _)).cons (p := .vs T w.heap.size cs.toList) (Mem.put_at _ _ _) fun q hq B hB hqB => ?_) (Le.put (Conc.fresh hw) _)⟩
  obtain rfl : w.heap.size = B := by simpa [Ent.blk] using hB
  exact Ent.known (H.ok q hq) hqB ⟨Conc.fresh hw, Conc.freshO hw⟩
theorem h_boxS {T : TypeId} {x : Operand} {cs : Array Value} {l : List Ent} {K : Value → Mem → Prop} (H : HP m l) (ho : o.op = .box T x) (hx : evalF fr x = .agg cs)
    (h : ∀ B m', HP m' (.vs T B cs.toList :: l) → Le m m' → K (.pointer (some ⟨B, 0, Option.none⟩)) m') : AOp P (gen W) o fr m K :=
  h_newS H (fun w => by simp [execOp, ho, hx, Instr.box, newVar, newRow, Value.cells]) h
theorem h_allocS {T : TypeId} {cs : Array Value} {i : TypeInfo} {l : List Ent} {K : Value → Mem → Prop} (hi : P.info? T = some i) (hz : i.zero = some (.agg cs)) (H : HP m l) (ho : o.op = .alloc T)
    (h : ∀ B m', HP m' (.vs T B cs.toList :: l) → Le m m' → K (.pointer (some ⟨B, 0, Option.none⟩)) m') : AOp P (gen W) o fr m K :=
  h_newS H (fun w => by simp [execOp, ho, Instr.alloc, zeroValue, typeInfo, hi, hz, newVar, newRow, Value.cells]) h
theorem HP.setBox {l : List Ent} (H : HP m l) (i : Nat) {B : Nat} {b : Blk} (b' : Blk) (hi : l[i]? = some (.box B b)) : HP (m.put B b') (l.set i (.box B b')) := by
  have hput : ∀ B' x, B' ≠ B → m B' = some x → (m.put B b') B' = some x := fun B' x hne hb => by simp [Mem.put, hne, hb]
  refine H.turn i hi (p' := .box B b') (Mem.put_at _ _ _) (fun q hq hok => ?_) (fun B' hB' => .inl hB')
  have hq' : q.blk ≠ some B := fun e => hq B e rfl
  cases q with
  | sl vq eq sq nq xq =>
    refine OWN.keepNe (v := .slice (some ⟨B, 0, Option.none⟩) 0 0) (fun B' x hne hb => hput B' x (fun e => hne (by rw [e]; rfl)) hb) hok fun B' h1 h2 => ?_
    have : B = B' := by simpa [blkOf] using h2
    subst this
    exact hq' h1
  | box B' x => exact hput B' x (fun e => hq' (by rw [e]; rfl)) hok
  | obj B' o => exact hok
theorem overL_all : ∀ (us xs pre : List Value), us.length = xs.length → overL (pre ++ xs) pre.length us = pre ++ us
  | [], [], pre, _ => by simp [overL]
  | u :: us, x :: xs, pre, h => by
    simp only [overL]
    have ih := overL_all us xs (pre ++ [u]) (by simpa using h)
    have e : (pre ++ x :: xs).set pre.length u = (pre ++ [u]) ++ xs := by simp
    rw [e]
    simp only [List.length_append, List.length_singleton] at ih
    rw [ih]; simp
theorem overL_all0 {us xs : List Value} (h : us.length = xs.length) : overL xs 0 us = us := by simpa using overL_all us xs [] h
/-- The whole variable is stored. -/
theorem h_setVarS {T T' : TypeId} {inf : TypeInfo} {x y : Operand} {l : List Ent} (i : Nat) {B : Nat} {cs us : List Value} {K : Value → Mem → Prop} (hT : P.info? T = some inf) (hs : inf.size = us.length) (H : HP m l) (hi : l[i]? = some (.vs T' B cs))
    (ho : o.op = .store T x y) (hx : evalF fr x = .pointer (some ⟨B, 0, Option.none⟩)) (hy : evalF fr y = .agg us.toArray) (h1 : us.all (·.oneCell') = true) (hl : us.length = cs.length)
    (h : ∀ m', HP m' (l.set i (.vs T' B us)) → K undef m') : AOp P (gen W) o fr m K := by
  have hB := H.box i hi
  refine a_storeS (cs := us.toArray) hT (by simpa using hs) ho hx (by rw [hy]; rfl) (fun u hu => List.all_eq_true.1 h1 u (by simpa using hu)) hB (by simp [hl]) ?_
  have := H.setBox i (b := ⟨cs, T', cs.length⟩) ⟨us, T', us.length⟩ hi
  have e : ({ cells := overL cs 0 us.toArray.toList, elem := T', size := cs.length } : Blk) = ⟨us, T', us.length⟩ := by simp [overL_all0 hl, hl]
  have hk := h _ this
  rw [← e] at hk
  exact hk
/-- One cell of it is stored. -/
theorem h_setCell {T T' : TypeId} {inf : TypeInfo} {x y : Operand} {l : List Ent} (i j : Nat) {B : Nat} {cs : List Value} {u : Value} {K : Value → Mem → Prop} (hT : P.info? T = some inf) (hs : inf.size = 1) (H : HP m l) (hi : l[i]? = some (.vs T' B cs))
    (ho : o.op = .store T x y) (hx : evalF fr x = .pointer (some ⟨B, j, Option.none⟩)) (hy : evalF fr y = u) (h1 : u.oneCell' = true) (hj : j < cs.length)
    (h : ∀ m', HP m' (l.set i (.vs T' B (cs.set j u))) → K undef m') : AOp P (gen W) o fr m K := by
  have hB := H.box i hi
  refine a_store hT hs ho hx hy h1 hB hj ?_
  have := H.setBox i (b := ⟨cs, T', cs.length⟩) ⟨cs.set j u, T', (cs.set j u).length⟩ hi
  have e : ({ cells := cs.set j u, elem := T', size := cs.length } : Blk) = ⟨cs.set j u, T', (cs.set j u).length⟩ := by simp
  have hk := h _ this
  rw [← e] at hk
  exact hk
theorem HP.cellS {l : List Ent} (H : HP m l) (i j : Nat) {B : Nat} {T : TypeId} {cs : List Value} {u : Value} (hi : l[i]? = some (.vs T B cs)) (hj : cs[j]? = some u) : cellAt W m ⟨B, j, Option.none⟩ u := ⟨rfl, .inr ⟨_, H.box i hi, hj⟩⟩
/-- One cell of it. -/
theorem q_varC {T T' : TypeId} {x : Operand} {d : TypeDesc} {l : List Ent} (i j : Nat) {B : Nat} {cs : List Value} {v : Value} (hT : P.underlying T = some d) (hd : flat d = true) (H : HP m l) (hi : l[i]? = some (.vs T' B cs)) (hj : cs[j]? = some v)
    (ho : o.op = .load T x) (hx : evalF fr x = .pointer (some ⟨B, j, Option.none⟩)) : QOp P W o fr m v := q_loadAt hT hd (H.cellS i j hi hj) ho hx
/-- The whole of it. -/
theorem q_varS {T T' : TypeId} {x : Operand} {d : TypeDesc} {inf : TypeInfo} {l : List Ent} (i : Nat) {B : Nat} {cs : List Value} (hT : P.underlying T = some d) (hd : flat d = false) (hf : P.info? T = some inf) (hs : inf.size = cs.length) (H : HP m l) (hi : l[i]? = some (.vs T' B cs))
    (ho : o.op = .load T x) (hx : evalF fr x = .pointer (some ⟨B, 0, Option.none⟩)) : QOp P W o fr m (.agg cs.toArray) :=
  q_loadAtS hT hd hf hs ho hx rfl fun l u hu => by rw [Nat.zero_add]; exact H.cellS i l hi hu
/-! ### results that lie in several cells -/
theorem resMS {P : Program} {W : World} {fn : Func} {t : Tmp} {T : TypeId} {d : TypeDesc} {inf : TypeInfo} (h : fn.results = #[.cell t T]) (ht : t < fn.ntmps) (hT : P.underlying T = some d) (hd : flat d = false) (hf : P.info? T = some inf) :
    ResM P W fn (fun fr m v => ∃ (B : Nat) (cs : List Value), fr t = .pointer (some ⟨B, 0, Option.none⟩) ∧ v = .agg cs.toArray ∧ cs.length = inf.size ∧ ∀ j u, cs[j]? = some u → cellAt W m ⟨B, j, Option.none⟩ u) := fun fr D a w m v ha hc ⟨B, cs, h1, h2, h3, h4⟩ => by
  have e : a.tmps[t]? = some (.pointer (some ⟨B, 0, Option.none⟩)) := by
    have h5 := ha.at_ t ht
    rw [h1] at h5
    have hs : t < a.tmps.size := by rw [ha.size]; exact ht
    simp [hs] at h5 ⊢
    exact h5
  have hl := run_loadAgg (P := P) (a := ⟨B, 0, Option.none⟩) (cs := cs) (w := w) hT hd hf (by omega) fun l u hu => by
    rw [addr_add, Nat.zero_add]; exact (h4 l u hu).cell hc
  subst h2
  simp [results, h, e, asAddr, hl]
/-! ### arrays -/
theorem q_indexA {T e : TypeId} {len : Nat} {ie : TypeInfo} {d : TypeDesc} {x y : Operand} {k : IntKind} {cs : Array Value} {u : Value} (j : Nat) (hT : P.underlying T = some (.array len e)) (hd : P.underlying e = some d) (hfl : flat d = true) (he : P.info? e = some ie) (hs : ie.size = 1)
    (ho : o.op = .index T x y) (hx : evalF fr x = .agg cs) (hy : evalF fr y = .int k (j : Int)) (hj : j < len) (hu : cs[j]? = some u) : QOp P W o fr m u := q_of_run fun w _ => by
  have hp := run_part1 (P := P) (T := e) (cs := cs) (off := j) (u := u) (w := w) hd hfl hu
  simp [execOp, ho, hx, hy, Instr.index, asIntOf, run_underlying hT, sizeOf, typeInfo, he, hs, hj, hp]
/-! ### slices of values of one cell -/
theorem q_ixV {T e : TypeId} {x y : Operand} {k : IntKind} {v : Value} {n : Nat} {xs : List Value} {i : Nat} {inf : TypeInfo} (hT : P.underlying T = some (.slice e)) (he : P.info? e = some inf) (hs : inf.size = 1)
    (h : SL W m 1 v n xs) (ho : o.op = .indexAddr T x y) (hx : evalF fr x = v) (hy : evalF fr y = .int k (i : Int)) (hn : i < n) : QOp P W o fr m (ptrAt v i) := by
  have := q_indexAddr (P := P) (W := W) (m := m) hT he hs h ho hx hy (by omega) (by omega)
  rwa [Nat.mul_one, Int.toNat_natCast] at this
theorem h_setV {E : TypeId} {ie : TypeInfo} (hi3 : P.info? E = some ie) (hs : ie.size = 1) {l : List Ent} (i : Nat) {x y : Operand} {v u : Value} {n j : Nat} {xs : List Value} {K : Value → Mem → Prop} (H : HP m l) (hi : l[i]? = some (.sl v E 1 n xs))
    (ho : o.op = .store E x y) (hx : evalF fr x = ptrAt v j) (hy : evalF fr y = u) (h1 : u.oneCell' = true) (hj : j < n)
    (h : ∀ m', HP m' (l.set i (.sl v E 1 n (xs.set j u))) → K undef m') : AOp P (gen W) o fr m K := by
  have hv := H.sl i hi
  obtain ⟨hl, hv⟩ := hv
  rcases hv with ⟨_, h0⟩ | ⟨B, cap, rfl, h1', h2, h3⟩
  · omega
  · have hp : ptrAt (.slice (some ⟨B, 0, Option.none⟩) n cap) j = .pointer (some ⟨B, j, Option.none⟩) := by unfold ptrAt; dsimp only; rw [addr_add, Nat.zero_add]
    refine a_store hi3 hs ho (hx.trans hp) hy h1 h3 (by simp at hl ⊢; omega) (h _ (H.store i hi ⟨by simpa using hl, .inr ⟨B, cap, rfl, h1', h2, ?_⟩⟩ (fun B' b hne hb => ?_) fun B o ho => ho))
    · rw [Mem.put_at]
    · have : B' ≠ B := fun e => hne (by rw [e]; rfl)
      simp [Mem.put, this, hb]
theorem h_appV {T E : TypeId} {ie : TypeInfo} {z : Value} (hT : P.underlying T = some (.slice E)) (hi3 : P.info? E = some ie) (hz : ie.zero = some z) (hz1 : z.cells.size = 1) (hs : ie.size = 1) {l : List Ent} (i : Nat) {x y : Operand} {v u : Value} {n k : Nat} {xs ys : List Value} {K : Value → Mem → Prop} (H : HP m l) (hi : l[i]? = some (.sl v E 1 n xs))
    (hu : SL W m 1 u k ys) (ho : o.op = .call { callee := .builtin .append, args := #[x, y], argTypes := #[T, T] }) (hx : evalF fr x = v) (hy : evalF fr y = u) (h1 : ∀ u ∈ ys, u.oneCell' = true) (hb : (n + k) * ie.bytes ≤ 140737488355328) (hk : n + k ≤ maxLen)
    (h : ∀ v' m', HP m' (l.set i (.sl v' E 1 (n + k) (xs ++ ys))) → Le m m' → K v' m') : AOp P (gen W) o fr m K :=
  a_append hT hi3 hz hs hz1 (by omega) (H.sl i hi) hu ho hx hy h1 hb hk fun v' m' h1 h2 => h v' m' (H.app i hi h2 h1) h2.le
theorem h_makeV {T E : TypeId} {ie : TypeInfo} {z : Value} (hT : P.underlying T = some (.slice E)) (hi3 : P.info? E = some ie) (hz : ie.zero = some z) (hz1 : z.cells = #[z]) (hs : ie.size = 1) {l : List Ent} {x y : Operand} {kl kc : IntKind} {n : Int} (k : Nat) {K : Value → Mem → Prop} (H : HP m l) (ho : o.op = .makeSlice T x y) (hx : evalF fr x = .int kl n) (hy : evalF fr y = .int kc n) (hn : n = k) (hk : k ≤ 1000000) (hb : ie.bytes ≤ 1000)
    (h : ∀ v' m', HP m' (.sl v' E 1 k (List.replicate k z) :: l) → Le m m' → K v' m') : AOp P (gen W) o fr m K := fun w hw => by
  have hfree : m.free w.heap.size := ⟨Conc.fresh hw, Conc.freshO hw⟩
  have hbb : (ie.bytes : Int) * n ≤ 281474976710656 := by
    have : ie.bytes * k ≤ 1000 * 1000000 := Nat.mul_le_mul hb hk
    have h2 : ((ie.bytes * k : Nat) : Int) ≤ ((1000 * 1000000 : Nat) : Int) := Int.ofNat_le.2 this
    have e2 : ((ie.bytes * k : Nat) : Int) = (ie.bytes : Int) * k := by simp
    rw [hn]; omega
  have hr := run_make (P := P) w T E ie z hT hi3 hz kl kc n n (by omega) (Int.le_refl _) hbb (by omega)
  have hx2 : execOp (evalF fr) o = (do pure (.value (← Instr.makeSlice T (.int kl n) (.int kc n)))) := by
    simp [execOp, ho, hx, hy]
  rw [hx2]
  simp only [Sem.run_bind, hr, Result.andThen_ok, Sem.run_pure]
  have hcells : (madeCells z.cells (n.toNat * ie.size)).toList = List.replicate k z := by
    rw [hs, Nat.mul_one, show n.toNat = k by omega, hz1]
    simp only [madeCells, Array.toList_map, Array.toList_range]
    rw [List.eq_replicate_iff]
    refine ⟨by simp, fun b hb => ?_⟩
    obtain ⟨j, _, rfl⟩ := List.mem_map.1 hb
    simp [Nat.mod_one]
  have hc := Conc.alloc hw (madeCells z.cells (n.toNat * ie.size)) E
  have e : m.put w.heap.size ⟨(madeCells z.cells (n.toNat * ie.size)).toList, E, (madeCells z.cells (n.toNat * ie.size)).size⟩ = m.put w.heap.size ⟨List.replicate k z, E, k⟩ := by
    rw [hcells, size_madeCells, hs, Nat.mul_one, show n.toNat = k by omega]
  rw [e] at hc
  refine ⟨_, hc.1, hc.2.1, h _ _ ((H.keep (Keep.put hfree.1 _)).cons (p := .sl (.slice (some ⟨w.heap.size, 0, Option.none⟩) n.toNat n.toNat) E 1 k (List.replicate k z)) ⟨by simp, .inr ⟨_, k, by rw [show n.toNat = k by omega], Nat.le_refl _, by unfold maxLen; omega, by rw [Mem.put_at]; simp⟩⟩ fun q hq B hB hqB => ?_) (Le.put hfree.1 _)⟩
  obtain rfl : w.heap.size = B := by simpa [Ent.blk, blkOf] using hB
  exact Ent.known (H.ok q hq) hqB hfree
/-! ### variables that hold nothing known yet -/
end mem
section draw
variable {P : Program} {W : World} {C : Cls W} {r : Option Nat} {n : Nat} {Q : Post} {fr : Fr} {m : Mem} {ops : Array Oper}
end draw
end Go.Abs
