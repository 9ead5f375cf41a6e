import Derived.Test.YtoeijgdkoeofpaaAbsLate
set_option linter.unusedSectionVars false
set_option linter.unusedSimpArgs false
set_option linter.unusedVariables false
/-! Abs: the builtin 'clear' of the end of a slice of the call's own. -/
namespace Go.Abs
open Go Go.RowKit Go.Proofs
set_option linter.unusedVariables false
set_option linter.unusedSectionVars false
section cl
variable {P : Program} {W : World} {o : Oper} {fr : Fr} {m : Mem}
theorem overL_take : ∀ (us xs : List Value) (k : Nat), (overL xs k us).take k = xs.take k := by
  intro us xs k
  by_cases h : k + us.length ≤ xs.length
  · rw [overL_split us xs k h, List.append_assoc, List.take_append_of_le_length (by simp; omega), List.take_take, Nat.min_self]
  · apply List.ext_getElem?
    intro i
    rw [List.getElem?_take, List.getElem?_take]
    split
    · rename_i hi
      have : ∀ (us : List Value) (xs : List Value) (k : Nat), i < k → (overL xs k us)[i]? = xs[i]? := by
        intro us
        induction us with
        | nil => intro xs k _; rfl
        | cons u us ih =>
          intro xs k hk
          show (overL (xs.set k u) (k + 1) us)[i]? = _
          rw [ih _ _ (by omega), List.getElem?_set_ne (by omega)]
      exact this us xs k hi
    · rfl
theorem h_clearN {T E : TypeId} {ie : TypeInfo} {z : Value} {s lo : Nat} (hT : P.underlying T = some (.slice E)) (hi3 : P.info? E = some ie) (hz : ie.zero = some z) (hzs : z.cells.size = s) (hz1 : ∀ i, i < s → (z.cells[i]!).oneCell' = true) (hs0 : 0 < s)
    {x : Operand} {l : List Ent} (i : Nat) {v : Value} {n : Nat} {xs : List Value} {K : Value → Mem → Prop} (H : HP m l) (hi : l[i]? = some (.sl v E s n xs)) (hlo : lo ≤ n)
    (ho : o.op = .call { callee := .builtin .clear, args := #[x], argTypes := #[T] }) (hx : evalF fr x = cutV v s lo n)
    (h : ∀ u m' ys, ys.take (lo * s) = xs.take (lo * s) → HP m' (l.set i (.sl v E s n ys)) → K u m') : AOp P (gen W) o fr m K := fun w hw => by
  have hv := H.sl i hi
  obtain ⟨hl, hv⟩ := hv
  by_cases h0 : lo = n
  · have hr : ∃ nn, (execOp (evalF fr) o).run P w = .ok nn w ∧ (nn = .skip ∨ ∃ u, nn = .value u) := by
      rcases hv with ⟨rfl, hn⟩ | ⟨B, cap, rfl, h1, h2, h3⟩
      · subst h0; subst hn
        simp [execOp, ho, hx, cutV, resolve, invoke, builtin, Builtin.clear_, run_underlying hT]
      · subst h0
        by_cases hcl : cap = lo
        · simp [execOp, ho, hx, cutV, hcl, resolve, invoke, builtin, Builtin.clear_, run_underlying hT]
        · have hadd : (⟨B, 0, Option.none⟩ : Addr).add (lo * s) = ⟨B, lo * s, Option.none⟩ := by rw [addr_add, Nat.zero_add]
          simp [execOp, ho, hx, cutV, hcl, hadd, resolve, invoke, builtin, Builtin.clear_, run_underlying hT]
    obtain ⟨nn, hr, hn⟩ := hr
    rw [hr]
    have hH : HP m (l.set i (.sl v E s n xs)) := by rw [set_at_self hi]; exact H
    rcases hn with rfl | ⟨u, rfl⟩
    · exact ⟨_, hw, Frm.refl _ _, h _ _ xs rfl hH⟩
    · exact ⟨_, hw, Frm.refl _ _, h _ _ xs rfl hH⟩
  · rcases hv with ⟨rfl, hn⟩ | ⟨B, cap, rfl, h1, h2, h3⟩
    · omega
    · have hlt : lo < n := by omega
      have hzl : (Builtin.zeroCells z.cells (n - lo)).toList.length = (n - lo) * s := by simp [Builtin.zeroCells, hzs]
      have hz2 : ∀ u ∈ (Builtin.zeroCells z.cells (n - lo)).toList, u.oneCell' = true := fun u hu => by
        simp [Builtin.zeroCells] at hu
        obtain ⟨j, hj, rfl⟩ := hu
        have := hz1 (j % s) (Nat.mod_lt _ hs0)
        rw [hzs]
        simpa using this
      have hle : lo * s + (n - lo) * s = n * s := by rw [← Nat.add_mul]; congr 1; omega
      obtain ⟨w', r, c, f⟩ := storeN (P := P) (Builtin.zeroCells z.cells (n - lo)).toList w m ⟨xs, E, cap * s⟩ (lo * s) 0 hw h3 (by rw [hzl]; show lo * s + 0 + _ ≤ xs.length; omega) hz2
      have hcap : ¬ cap = lo := by omega
      have hadd : (⟨B, 0, Option.none⟩ : Addr).add (lo * s) = ⟨B, lo * s, Option.none⟩ := by rw [addr_add, Nat.zero_add]
      have hr : ∃ nn, (execOp (evalF fr) o).run P w = .ok nn w' ∧ (nn = .skip ∨ ∃ u, nn = .value u) := by
        have hnl : n - lo = (n - lo - 1) + 1 := by omega
        have hcl : (Builtin.clear_ #[T] o.type #[.slice (some ⟨B, lo * s, Option.none⟩) (n - lo) (cap - lo)]).run P w = .ok (.tuple #[]) w' := by
          rw [hnl] at r ⊢
          simp [Builtin.clear_, run_underlying hT, zeroValue, typeInfo, hi3, hz, r]
        simp [execOp, ho, hx, cutV, hcap, hadd, resolve, invoke, builtin, hcl]
      obtain ⟨nn, hr, hn⟩ := hr
      rw [hr]
      have hH : HP (m.put B ⟨overL xs (lo * s + 0) (Builtin.zeroCells z.cells (n - lo)).toList, E, cap * s⟩) (l.set i (.sl (.slice (some ⟨B, 0, Option.none⟩) n cap) E s n (overL xs (lo * s + 0) (Builtin.zeroCells z.cells (n - lo)).toList))) := by
        refine H.store i hi ⟨by rw [overL_length]; exact hl, .inr ⟨B, cap, rfl, h1, h2, by rw [Mem.put_at]⟩⟩ (fun B' b hne hb => ?_) fun B o ho => ho
        have : B' ≠ B := fun e => hne (by rw [e]; rfl)
        simp [Mem.put, this, hb]
      have ht := overL_take (Builtin.zeroCells z.cells (n - lo)).toList xs (lo * s)
      rcases hn with rfl | ⟨u, rfl⟩
      · exact ⟨_, c, f, h _ _ _ ht hH⟩
      · exact ⟨_, c, f, h _ _ _ ht hH⟩
/-- make of values of one cell. -/
theorem h_makeG {S E : TypeId} {i3 : TypeInfo} {z : Value} (hT : P.underlying S = some (.slice E)) (hi : P.info? E = some i3) (hz : i3.zero = some z) (hs : i3.size = 1) (hz1 : z.cells = #[z]) (hby : i3.bytes ≤ 8) {l : List Ent} {x y : Operand} {kl kc : IntKind} {n : Int} (k : Nat) {K : Value → Mem → Prop} (H : HP m l) (ho : o.op = .makeSlice S x y) (hx : evalF fr x = .int kl n) (hy : evalF fr y = .int kc n) (hn : n = k) (hk : k ≤ 1000000)
    (h : ∀ v' m', HP m' (.sl v' E 1 k (List.replicate k z) :: l) → Le m m' → K v' m') : AOp P (gen W) o fr m K := fun w hw => by
  have hbn : (i3.bytes : Int) * n ≤ 281474976710656 := by
    have h1 : (i3.bytes : Int) * n ≤ 8 * n := Int.mul_le_mul_of_nonneg_right (by omega) (by omega)
    omega
  have hA : AOp P (gen W) o fr m (fun v m' => ∃ B, m.free B ∧ v = .slice (some ⟨B, 0, Option.none⟩) k k ∧ m' = m.put B ⟨List.replicate k z, E, k⟩) := fun w hw => by
    have hfree : m.free w.heap.size := ⟨Conc.fresh hw, Conc.freshO hw⟩
    have hr := run_make (P := P) w S E i3 z hT hi hz kl kc n n (by omega) (Int.le_refl _) hbn (by omega)
    have hx2 : execOp (evalF fr) o = (do pure (.value (← Instr.makeSlice S (.int kl n) (.int kc n)))) := by
      simp [execOp, ho, hx, hy]
    rw [hx2]
    simp only [Sem.run_bind, hr, Result.andThen_ok, Sem.run_pure]
    have hcells : (madeCells z.cells (n.toNat * i3.size)).toList = List.replicate k z := by
      rw [hs, Nat.mul_one, show n.toNat = k by omega, hz1]
      simp only [madeCells, Array.toList_map, Array.toList_range]
      rw [List.eq_replicate_iff]
      refine ⟨by simp, fun b hb => ?_⟩
      obtain ⟨j, _, rfl⟩ := List.mem_map.1 hb
      simp [Nat.mod_one]
    have hc := Conc.alloc hw (madeCells z.cells (n.toNat * i3.size)) E
    have e : m.put w.heap.size ⟨(madeCells z.cells (n.toNat * i3.size)).toList, E, (madeCells z.cells (n.toNat * i3.size)).size⟩ = m.put w.heap.size ⟨List.replicate k z, E, k⟩ := by
      rw [hcells, size_madeCells, hs, Nat.mul_one, show n.toNat = k by omega]
    rw [e] at hc
    exact ⟨_, hc.1, hc.2.1, w.heap.size, hfree, by rw [show n.toNat = k by omega], rfl⟩
  refine OpRes.mono ?_ (hA w hw)
  rintro v m' ⟨B, hB, rfl, rfl⟩
  refine h _ _ (H.own (Keep.put hB.1 _) ⟨by simp, .inr ⟨B, k, by simp, by simp, by unfold maxLen; omega, ?_⟩⟩ fun B' hB' => ?_) (Le.put hB.1 _)
  · rw [Mem.put_at]; simp
  · obtain rfl : B = B' := by simpa [blkOf] using hB'
    exact hB
end cl
end Go.Abs
