import Derived.Test.YtjepofehaphcnaaAbsSteps
import Derived.Laws.MakeOwn
set_option linter.unusedSectionVars false
set_option linter.unusedSimpArgs false
set_option linter.unusedVariables false
/-! Abs: append, make, stores, slicing, calls. -/
namespace Go.Abs
open Go Go.RowKit
section ops
variable {P : Program} {W : World} {C : Cls W} {o : Oper} {fr : Fr} {m : Mem}

theorem Conc.setRow {w : World} (h : Conc W m w) {B : Nat} {b : Blk} (hb : m B = some b) (cs : Array Value) (hs : cs.size = b.size) (xs : List Value) (hx : cs.toList.take xs.length = xs) :
    Conc W (m.put B { b with cells := xs }) (w.setRow B cs) ∧ Frm m w (m.put B { b with cells := xs }) (w.setRow B cs) := by
  obtain ⟨g1, cur, g2, g3, g4⟩ := h.blk B b hb
  have hsz : (w.setRow B cs).heap.size = w.heap.size := by simp [World.setRow]
  refine ⟨⟨⟨h.below.os, h.below.tape, h.below.output, by rw [hsz]; exact h.below.size, fun k hk => ?_⟩, fun B' b' hb' => ?_, fun B' o ho => ?_⟩, ⟨by rw [hsz]; exact Nat.le_refl _, fun B' hB' hf => ?_⟩⟩
  · rw [setRow_other _ _ _ _ (by omega)]
    exact h.below.block k hk
  · simp only [Mem.put] at hb'
    split at hb'
    · rename_i e
      subst e
      obtain rfl := Option.some.inj hb'
      exact ⟨g1, cs, setRow_heap w _ cur cs b.elem (0, 0) g2, hs, hx⟩
    · rename_i e
      obtain ⟨k1, c2, k2, k3, k4⟩ := h.blk B' b' hb'
      exact ⟨k1, c2, (setRow_other _ _ _ _ e).trans k2, k3, k4⟩
  · have e : B' ≠ B := fun e => by
      have := h.apart hb
      rw [← e, show m.obj B' = some o from ho] at this
      cases this
    obtain ⟨k1, k2, k3⟩ := h.obj B' o ho
    exact ⟨k1, (setRow_other _ _ _ _ e).trans k2, k3⟩
  · have e : B' ≠ B := fun e => by have := hf.1; rw [e, hb] at this; cases this
    exact ⟨Mem.put_free hf e, setRow_other _ _ _ _ e⟩

theorem SL.cells {s : Nat} {a : Addr} {n cap : Nat} {xs : List Value} {w : World} (h : SL W m s (.slice (some a) n cap) n xs) (hc : Conc W m w) : ∀ j u, xs[j]? = some u → w.cell? (a.add j) = some u := fun j u hu => by
  rcases h.2 with ⟨h1, _⟩ | ⟨B, off, cap', h1, _, _, h4⟩
  · have e1 := h.1
    have e2 := (List.getElem?_eq_some_iff.1 hu).1
    rw [h1] at e1
    omega
  · have e := Option.some.inj (Value.slice.inj h1).1
    have hadd : (⟨B, off, Option.none⟩ : Addr).add j = ⟨B, off + j, Option.none⟩ := by unfold Addr.add; split <;> simp_all
    rw [e, hadd]
    exact (h4 j u hu).cell hc

/-- append of a slice to one of the call's own. -/
theorem a_append {T e : TypeId} {i : TypeInfo} {z : Value} {s : Nat} {x y : Operand} {v u : Value} {n k : Nat} {xs ys : List Value} {K : Value → Mem → Prop}
    (hT : P.underlying T = some (.slice e)) (hi : P.info? e = some i) (hz : i.zero = some z) (hs : i.size = s) (hzs : z.cells.size = s) (hs0 : 0 < s)
    (hv : OWN m e s v n xs) (hu : SL W m s u k ys) (ho : o.op = .call { callee := .builtin .append, args := #[x, y], argTypes := #[T, T] }) (hx : evalF fr x = v) (hy : evalF fr y = u)
    (h1 : ∀ u ∈ ys, u.oneCell' = true) (hb : (n + k) * i.bytes ≤ 140737488355328) (hk : n + k ≤ maxLen)
    (h : ∀ v' m', OWN m' e s v' (n + k) (xs ++ ys) → AppTo m v m' v' → K v' m') : AOp P (gen W) o fr m K := fun w hw => by
  have hx2 : execOp (evalF fr) o = (do pure (.value (← Builtin.append_ #[T, T] o.type #[v, u]))) := by
    simp [execOp, ho, hx, hy, resolve, invoke, builtin]
  rw [hx2]
  subst hs
  have hsmall : ((n + k : Nat) : Int) ≤ 9223372036854775807 := by simp only [maxLen] at hk; omega
  obtain ⟨hvl, hv⟩ := hv
  have hul := hu.1
  have hlen : (xs ++ ys).length = (n + k) * i.size := by rw [List.length_append, hvl, hul, Nat.add_mul]
  -- a new block
  have grown : ∀ old, old < n + k → ∀ w', w' = w.drew.alloc (.cells (xs.toArray ++ ys.toArray ++ Builtin.zeroCells z.cells (grownCap w (n + k) old e - (n + k))) e) →
      ∃ m', Conc W m' w' ∧ Frm m w m' w' ∧ K (.slice (some ⟨w.heap.size, 0, Option.none⟩) (n + k) (grownCap w (n + k) old e)) m' := fun old ho w' hw' => by
    subst hw'
    have hge := grownCap_ge w (n + k) old e
    have hcm := grownCap_le_maxLen w (n + k) old e hk
    have hsz : (xs.toArray ++ ys.toArray ++ Builtin.zeroCells z.cells (grownCap w (n + k) old e - (n + k))).size = grownCap w (n + k) old e * i.size := by
      simp only [Array.size_append, List.size_toArray, size_zeroCells, hzs, hvl, hul, ← Nat.add_mul]
      congr 1; omega
    have hc := Conc.alloc (Conc.still (W := W) (m := m) hw (Still.drewN w 1)) (xs.toArray ++ ys.toArray ++ Builtin.zeroCells z.cells (grownCap w (n + k) old e - (n + k))) e
    have hf : m w.heap.size = Option.none := Conc.fresh hw
    have hc2 : Conc W (m.put w.heap.size ⟨xs ++ ys, e, grownCap w (n + k) old e * i.size⟩) (w.drew.alloc (.cells (xs.toArray ++ ys.toArray ++ Builtin.zeroCells z.cells (grownCap w (n + k) old e - (n + k))) e)) := by
      refine hc.1.forget ⟨fun B b hb => ?_, fun _ _ ho => ho⟩
      simp only [Mem.put] at hb ⊢
      have e1 : (w.drewN 1).heap.size = w.heap.size := rfl
      split at hb
      · rename_i e2
        obtain rfl := Option.some.inj hb
        refine ⟨(Builtin.zeroCells z.cells (grownCap w (n + k) old e - (n + k))).toList, ?_⟩
        rw [e1, if_pos e2, hsz]
        simp
      · rename_i e2
        exact ⟨[], by rw [e1, if_neg e2, hb]; simp⟩
    have hfr : Frm m w (m.put w.heap.size ⟨xs ++ ys, e, grownCap w (n + k) old e * i.size⟩) (w.drew.alloc (.cells (xs.toArray ++ ys.toArray ++ Builtin.zeroCells z.cells (grownCap w (n + k) old e - (n + k))) e)) :=
      ⟨hc.2.1.size, fun B hB hfree => ⟨Mem.put_free hfree (by omega), (hc.2.1.old B hB hfree).2⟩⟩
    refine ⟨_, hc2, hfr, h _ _ ⟨hlen, .inr ⟨w.heap.size, _, rfl, hge, hcm, by rw [Mem.put_at]⟩⟩ ⟨Le.put hf _, fun B b _ hb => (Keep.put hf _).get B b hb, fun B hB => .inr ((show w.heap.size = B by simpa [blkOf] using hB) ▸ hf), fun B hB => .inr ((show w.heap.size = B by simpa [blkOf] using hB) ▸ Conc.freshO hw)⟩⟩
  rcases hv with ⟨rfl, rfl⟩ | ⟨g, cap, rfl, hnc, hcm, hB⟩
  · have hx0 : xs = [] := List.eq_nil_of_length_eq_zero (by simpa using hvl)
    subst hx0
    by_cases hk0 : k = 0
    · subst hk0
      have hy0 : ys = [] := List.eq_nil_of_length_eq_zero (by simpa using hul)
      subst hy0
      obtain ⟨a, c, rfl, _⟩ := hu.value
      have hr : (Builtin.append_ #[T, T] o.type #[.slice Option.none 0 0, .slice a 0 c]).run P w = .ok (.slice Option.none 0 0) w := by
        cases a <;> simp [Builtin.append_, run_underlying hT, sizeOf, typeInfo, hi, Builtin.lenOf, Builtin.firstCells, loadCells, loadCellsFrom]
      simp only [Sem.run_bind, hr, Result.andThen_ok, Sem.run_pure]
      exact ⟨m, hw, Frm.refl _ _, h _ _ ⟨by simp, .inl ⟨rfl, rfl⟩⟩ ⟨Le.refl _, fun _ _ _ h => h, fun _ h => .inl h, fun _ h => .inl h⟩⟩
    · obtain ⟨a, c, rfl, ha, _⟩ := hu.value
      obtain ⟨a, rfl⟩ := ha (by omega)
      have hr := run_append_nil (P := P) w T o.type e i z hT hi hz a k c ys hul (hu.cells hw) (by omega) (by omega) (by simp only [Nat.zero_add] at hb; omega)
      simp only [Sem.run_bind, hr, Result.andThen_ok, Sem.run_pure]
      have := grown 0 (by omega) _ rfl
      simp only [Nat.zero_add, Array.empty_append] at this
      exact this
  · have hcur := hw.blk g _ hB
    obtain ⟨g1, cur, g2, g3, g4⟩ := hcur
    simp only at g2 g3 g4
    by_cases hroom : n + k ≤ cap
    · obtain ⟨a, c, rfl, ha, _⟩ := hu.value
      have key : ∃ w', (Builtin.append_ #[T, T] o.type #[.slice (some ⟨g, 0, Option.none⟩) n cap, .slice a k c]).run P w = .ok (.slice (some ⟨g, 0, Option.none⟩) (n + k) cap) w' ∧
          Conc W (m.put g ⟨xs ++ ys, e, cap * i.size⟩) w' ∧ Frm m w (m.put g ⟨xs ++ ys, e, cap * i.size⟩) w' := by
        have hcs : n * i.size + ys.length ≤ cur.size := by rw [hul, g3, ← Nat.add_mul]; exact Nat.mul_le_mul_right _ hroom
        have hconc := Conc.setRow hw hB (cur.toList.take (n * i.size) ++ ys ++ cur.toList.drop (n * i.size + ys.length)).toArray
          (by simp only [List.size_toArray, List.length_append, List.length_take, List.length_drop, Array.length_toList]; omega) (xs ++ ys)
          (by rw [← hvl, g4]; exact List.take_left)
        cases a with
        | some a =>
          have hr := run_append_room (P := P) w T o.type e i hT hi g n cap cur g2 a k c ys hul (hu.cells hw) h1 hroom hcs
          exact ⟨_, hr, hconc⟩
        | none =>
          have hk0 : k = 0 := by
            rcases Nat.eq_zero_or_pos k with h0 | h0
            · exact h0
            · obtain ⟨b, hb⟩ := ha h0; cases hb
          subst hk0
          have hy0 : ys = [] := List.eq_nil_of_length_eq_zero (by simpa using hul)
          subst hy0
          have hr : (Builtin.append_ #[T, T] o.type #[.slice (some ⟨g, 0, Option.none⟩) n cap, .slice Option.none 0 c]).run P w = .ok (.slice (some ⟨g, 0, Option.none⟩) (n + 0) cap) w := by
            simp [Builtin.append_, run_underlying hT, sizeOf, typeInfo, hi, Builtin.lenOf, Builtin.firstCells, hnc, storeCells]
          refine ⟨w, hr, ?_⟩
          have : m.put g ⟨xs ++ [], e, cap * i.size⟩ = m := by
            unfold Mem.put
            cases m with
            | mk mg mo =>
              congr 1; funext j; dsimp only; split
              · rename_i e1; subst e1; simpa using hB.symm
              · rfl
          rw [this]; exact ⟨hw, Frm.refl _ _⟩
      obtain ⟨w', hr, hc'⟩ := key
      simp only [Sem.run_bind, hr, Result.andThen_ok, Sem.run_pure]
      refine ⟨_, hc'.1, hc'.2, h _ _ ⟨hlen, .inr ⟨g, cap, rfl, hroom, hcm, Mem.put_at _ _ _⟩⟩ ⟨⟨fun B b hb => ?_, fun _ _ ho => ho⟩, fun B b hne hb => ?_, fun B hB => .inl hB, fun B hB => .inl hB⟩⟩
      rotate_left 1
      · have : B ≠ g := fun e => hne (by rw [e]; rfl)
        simp [Mem.put, this, hb]
      simp only [Mem.put]
      split
      · rename_i e1
        subst e1
        obtain rfl := Option.some.inj (hB.symm.trans hb)
        exact ⟨ys, rfl⟩
      · exact ⟨[], by rw [hb]; simp⟩
    · obtain ⟨a, c, rfl, ha, _⟩ := hu.value
      obtain ⟨a, rfl⟩ := ha (by omega)
      have holds : ∀ j u, xs[j]? = some u → w.cell? ((⟨g, 0, Option.none⟩ : Addr).add j) = some u := fun j u hju => by
        have : cellAt W m ⟨g, 0 + j, Option.none⟩ u := ⟨rfl, .inr ⟨_, hB, by simpa using hju⟩⟩
        have hadd : (⟨g, 0, Option.none⟩ : Addr).add j = ⟨g, 0 + j, Option.none⟩ := by unfold Addr.add; split <;> simp_all
        rw [hadd]; exact this.cell hw
      have hr := run_append_grow (P := P) w T o.type e i z hT hi hz ⟨g, 0, Option.none⟩ n cap xs hvl holds a k c ys hul (hu.cells hw) (by omega) (by omega) (growslice_fits (by omega) hb)
      simp only [Sem.run_bind, hr, Result.andThen_ok, Sem.run_pure]
      exact grown cap (by omega) _ rfl

/-- make: a slice of the call's own, of zeros. -/
theorem a_make {T e : TypeId} {i : TypeInfo} {z : Value} {x y : Operand} {kl kc : IntKind} {l c : Int} {K : Value → Mem → Prop}
    (hT : P.underlying T = some (.slice e)) (hi : P.info? e = some i) (hz : i.zero = some z) (hs : i.size = 1) (hz1 : z.cells = #[z]) (ho : o.op = .makeSlice T x y) (hx : evalF fr x = .int kl l) (hy : evalF fr y = .int kc c)
    (h0 : 0 ≤ l) (hlc : l ≤ c) (hb : (i.bytes : Int) * c ≤ 140737488355328) (h63 : c ≤ 9223372036854775807)
    (h : ∀ B, m B = Option.none → W.heap.size ≤ B → K (.slice (some ⟨B, 0, Option.none⟩) l.toNat c.toNat) (m.put B ⟨List.replicate l.toNat z, e, c.toNat⟩)) : AOp P (gen W) o fr m K := fun w hw => by
  have hr := run_make (P := P) w T e i z hT hi hz kl kc l c h0 hlc (by omega) h63
  have hx2 : execOp (evalF fr) o = (do pure (.value (← Instr.makeSlice T (.int kl l) (.int kc c)))) := by
    simp [execOp, ho, hx, hy]
  rw [hx2]
  simp only [Sem.run_bind, hr, Result.andThen_ok, Sem.run_pure]
  have hcells : (madeCells z.cells (c.toNat * i.size)).toList = List.replicate c.toNat z := by
    rw [hz1, hs, Nat.mul_one]
    simp only [madeCells, Array.toList_map, Array.toList_range]
    rw [List.eq_replicate_iff]
    refine ⟨by simp, fun b hb => ?_⟩
    obtain ⟨j, _, rfl⟩ := List.mem_map.1 hb
    simp [Nat.mod_one]
  have hc := Conc.alloc hw (madeCells z.cells (c.toNat * i.size)) e
  refine ⟨m.put w.heap.size ⟨List.replicate l.toNat z, e, c.toNat⟩, hc.1.forget ⟨fun B b hb => ?_, fun _ _ ho => ho⟩, ⟨hc.2.1.size, fun B hB hfree => ⟨Mem.put_free hfree (by omega), (hc.2.1.old B hB hfree).2⟩⟩, h _ (Conc.fresh hw) hc.2.2⟩
  simp only [Mem.put] at hb ⊢
  split at hb
  · rename_i e1
    obtain rfl := Option.some.inj hb
    refine ⟨List.replicate (c.toNat - l.toNat) z, ?_⟩
    rw [if_pos e1, hcells, size_madeCells, hs, Nat.mul_one]
    simp only [Option.some.injEq, Blk.mk.injEq, and_true]
    rw [List.replicate_append_replicate]
    congr 1; omega
  · rename_i e1
    exact ⟨[], by rw [if_neg e1, hb]; simp⟩

theorem setCell_row {w : World} {B k : Nat} {cur : Array Value} {e : TypeId} {u : Value} (h : w.heap[B]? = some (.cells cur e (0, 0))) :
    w.setCell ⟨B, k, Option.none⟩ u = w.setRow B (cur.setIfInBounds k u) := by
  unfold World.setCell World.setRow
  congr 1
  apply Array.ext_getElem?
  intro j
  simp only [Array.getElem?_modify]
  split
  · rename_i e1
    subst e1
    rw [h]
    simp
  · rfl
/-- A store into a cell that is known. -/
theorem a_store {T : TypeId} {i : TypeInfo} {x y : Operand} {B k : Nat} {b : Blk} {u : Value} {K : Value → Mem → Prop} (hT : P.info? T = some i) (hs : i.size = 1)
    (ho : o.op = .store T x y) (hx : evalF fr x = .pointer (some ⟨B, k, Option.none⟩)) (hy : evalF fr y = u) (h1 : u.oneCell' = true) (hB : m B = some b) (hk : k < b.cells.length)
    (h : K undef (m.put B { b with cells := b.cells.set k u })) : AOp P (gen W) o fr m K := fun w hw => by
  obtain ⟨g1, cur, g2, g3, g4⟩ := Conc.blk hw B b hB
  have hkc : k < cur.size := by
    have := congrArg List.length g4
    simp only [List.length_take, Array.length_toList] at this
    omega
  have hcell : ∃ c0, w.cell? ⟨B, k, Option.none⟩ = some c0 := ⟨cur[k], by simp [World.cell?, g2, hkc]⟩
  obtain ⟨c0, hcell⟩ := hcell
  have hfz : w.frozen? ⟨B, k, Option.none⟩ = false := by simp [World.frozen?, g2]
  have hu1 : u.cells.size = 1 ∧ u.cells.toList = [u] := by cases u <;> simp_all [Value.cells, Value.oneCell']
  have hr : (execOp (evalF fr) o).run P w = .ok .skip (w.setCell ⟨B, k, Option.none⟩ u) := by
    have hst : (store ⟨B, k, Option.none⟩ u).run P w = .ok () (w.setCell ⟨B, k, Option.none⟩ u) := by
      rw [run_store P w _ u .plain h1, hcell]
      simp [hfz]
    simp [execOp, ho, hx, hy, Instr.storeAt, Instr.sureAddr, storeVar, sizeOf, typeInfo, hT, hs, hu1, storeCells, Addr.add, hst]
  rw [hr]
  have key := Conc.setRow hw hB (cur.setIfInBounds k u) (by simpa using g3) (b.cells.set k u) ?_
  · rw [setCell_row g2]; exact ⟨_, key.1, key.2, h⟩
  simp only [List.length_set, Array.toList_setIfInBounds]
  conv => rhs; rw [← g4]
  rw [List.take_set]

/-! ### Calls -/
/-- f is a function with a body. -/
def Fun (P : Program) (f : FuncId) : Prop := ∃ fn c, P.funcs[f]? = some fn ∧ fn.body = some c ∧ (fn.name == "runtime.NumGoroutine") = false
theorem calls_op {f : FuncId} {xs : Array Operand} {ts : Array TypeId} {args : Array Value} {w : World} (hf : Fun P f)
    (ho : o.op = .call { callee := .value (.func f), args := xs, argTypes := ts }) (hx : xs.toList.map (evalF fr) = args.toList) : (execOp (evalF fr) o).run P w = .ok (.enter f args) w := by
  have hx' : xs.map (evalF fr) = args := by apply Array.toList_inj.1; simpa using hx
  subst hx'
  obtain ⟨fn, c, hf, hb, hn⟩ := hf
  have hn' : ¬ fn.name = "runtime.NumGoroutine" := by simpa using hn
  simp [execOp, ho, resolve, Deferred.ofValue, evalF, invoke, callFunc, hf, hb, hn']
theorem q_call {f : FuncId} {xs : Array Operand} {ts : Array TypeId} {args : Array Value} {v : Value} (hf : Fun P f) (h : ∀ w, Conc W m w → QCalls P f args w v)
    (ho : o.op = .call { callee := .value (.func f), args := xs, argTypes := ts }) (hx : xs.toList.map (evalF fr) = args.toList) : QOp P W o fr m v := fun w hw => by
  rw [calls_op hf ho hx]
  exact ⟨rfl, h w hw⟩
/-- A call by a contract over the same memory. -/
theorem a_callm {f : FuncId} {xs : Array Operand} {ts : Array TypeId} {args : Array Value} {R : Value → Mem → Prop} (hf : Fun P f) (hc : ACalls P C f args m R)
    (ho : o.op = .call { callee := .value (.func f), args := xs, argTypes := ts }) (hx : xs.toList.map (evalF fr) = args.toList) : AOp P C o fr m R := fun w hw => by
  rw [calls_op hf ho hx]
  exact hc w hw
end ops
end Go.Abs
