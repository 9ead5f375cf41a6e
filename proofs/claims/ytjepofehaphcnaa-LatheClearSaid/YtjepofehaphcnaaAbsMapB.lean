import Derived.Test.YtjepofehaphcnaaAbsIter
import Derived.Test.YtjepofehaphcnaaAbsMap2
set_option linter.unusedSectionVars false
set_option linter.unusedSimpArgs false
set_option linter.unusedVariables false
/-! Abs: maps whose keys are bools; slices of structs of the call's own. -/
namespace Go.Abs
open Go Go.RowKit
section ops
variable {κ : Type} [DecidableEq κ] {enc : κ → Value}
variable {P : Program} {W : World} {C : Cls W} {o : Oper} {fr : Fr} {m : Mem}
end ops
/-! ### slices of structs -/
section str
variable {P : Program} {W : World} {C : Cls W} {o : Oper} {fr : Fr} {m : Mem}
/-- append to entry i: of whole structs. -/
theorem h_appN {T E : TypeId} {ie : TypeInfo} {z : Value} {s : Nat} (hT : P.underlying T = some (.slice E)) (hi3 : P.info? E = some ie) (hz : ie.zero = some z) (hz1 : z.cells.size = s) (hs : ie.size = s) (hs0 : 0 < s) {l : List Ent} (i : Nat) {x y : Operand} {v u : Value} {n k : Nat} {xs ys : List Value} {K : Value → Mem → Prop} (H : HP m l) (hi : l[i]? = some (.sl v E s n xs))
    (hu : SL W m s u k ys) (ho : o.op = .call { callee := .builtin .append, args := #[x, y], argTypes := #[T, T] }) (hx : evalF fr x = v) (hy : evalF fr y = u) (h1 : ∀ u ∈ ys, u.oneCell' = true) (hb : (n + k) * ie.bytes ≤ 140737488355328) (hk : n + k ≤ maxLen)
    (h : ∀ v' m', HP m' (l.set i (.sl v' E s (n + k) (xs ++ ys))) → Le m m' → K v' m') : AOp P (gen W) o fr m K :=
  a_append hT hi3 hz hs hz1 hs0 (H.sl i hi) hu ho hx hy h1 hb hk fun v' m' h1 h2 => h v' m' (H.app i hi h2 h1) h2.le
theorem over_app : ∀ (as : List Value) (z : Array Value) (off : Nat) (bs : List Value), over z off (as ++ bs) = over (over z off as) (off + as.length) bs
  | [], z, off, bs => by simp [over]
  | a :: as, z, off, bs => by
    simp only [List.cons_append, over, List.length_cons]
    rw [over_app as, show off + 1 + as.length = off + (as.length + 1) by omega]
theorem fill_aggs {s : Nat} : ∀ (us : List (List Value)) (k : Nat) (z : Array Value), (∀ x ∈ us, x.length = s) → (k + us.length) * s ≤ z.size →
    Instr.fill (fun j => some (j * s, s)) z ((us.zipIdx k).map (fun x => (x.2, Value.agg x.1.toArray))) = some (over z (k * s) us.flatten)
  | [], k, z, _, _ => by simp [Instr.fill, over]
  | u :: us, k, z, hu, hz => by
    have h1 : u.length = s := hu u (by simp)
    simp only [List.length_cons] at hz
    have h2 : (k + (us.length + 1)) * s = k * s + s + us.length * s := by rw [Nat.add_mul, Nat.add_mul, Nat.one_mul]; omega
    have h3 : (k + 1 + us.length) * s = k * s + s + us.length * s := by rw [Nat.add_mul, Nat.add_mul, Nat.one_mul]
    simp only [List.zipIdx_cons, List.map_cons, List.flatten_cons]
    rw [fill_cons (off := k * s) (size := s) rfl (by simp [Value.cells, h1]) (by omega), over_app, h1, show (Value.agg u.toArray).cells.toList = u by simp [Value.cells], show k * s + s = (k + 1) * s by rw [Nat.add_mul, Nat.one_mul]]
    exact fill_aggs us (k + 1) _ (fun x hx => hu x (by simp [hx])) (by rw [over_size]; omega)
theorem flat_len {s : Nat} : ∀ us : List (List Value), (∀ x ∈ us, x.length = s) → us.flatten.length = us.length * s
  | [], _ => by simp
  | a :: us, hu => by
    simp only [List.flatten_cons, List.length_append, List.length_cons]
    rw [flat_len us (fun x hx => hu x (by simp [hx])), hu a (by simp), Nat.add_mul, Nat.one_mul]; omega
/-- Structs written out as a slice. -/
theorem h_buildN {T e : TypeId} {i : TypeInfo} {z : Value} {s n : Nat} {parts : Array (Nat × Operand)} (us : List (List Value)) {l : List Ent} {K : Value → Mem → Prop}
    (hT : P.underlying T = some (.slice e)) (hi : P.info? e = some i) (hz : i.zero = some z) (hs : i.size = s) (H : HP m l) (ho : o.op = .buildSlice T n parts) (hn0 : 0 < n * s) (hn : n * s ≤ 16777216)
    (hx : parts.toList.map (fun (j, x) => (j, evalF fr x)) = (us.zipIdx 0).map (fun x => (x.2, Value.agg x.1.toArray))) (hk : us.length = n) (hu : ∀ x ∈ us, x.length = s)
    (h : ∀ v m', HP m' (.sl v e s n us.flatten :: l) → Le m m' → K v m') : AOp P (gen W) o fr m K := fun w hw => by
  have hs0 : 0 < s := Nat.pos_of_ne_zero fun e => by subst e; simp at hn0
  have hnn : n ≤ n * s := Nat.le_mul_of_pos_right n hs0
  have hlen : us.flatten.length = n * s := by rw [flat_len us hu, hk]
  have hf : ∀ z0 : Array Value, Instr.fill (fun j => some (j * s, s)) ((Array.range (n * s)).map (fun j => z0[j % z0.size]!)) (parts.map fun (j, x) => (j, evalF fr x)).toList = some us.flatten.toArray := fun z0 => by
    rw [Array.toList_map, hx, fill_aggs us 0 _ hu (by simp [hk]), Nat.zero_mul, over_all _ _ (by simp [hlen])]
  have hr : (execOp (evalF fr) o).run P w = .ok (.value (.slice (some ⟨w.heap.size, 0, Option.none⟩) n n)) (w.alloc (.cells us.flatten.toArray e)) := by
    have h0 : ¬ n = 0 := fun e => by rw [e] at hn0; simp at hn0
    have h4 := hf z.cells
    have h5 : n ≠ 0 ∧ s ≠ 0 := ⟨h0, by omega⟩
    simp [execOp, ho, Instr.buildSlice, run_underlying hT, sizeOf, typeInfo, hi, hs, h0, h5, zeroValue, hz, show ¬ n * s = 0 by omega, show ¬ 16777216 < n * s by omega, show ¬ 16777216 < n by omega, show ¬ s = 0 by omega] at h4 ⊢
    simp [h4, newRow]
  rw [hr]
  have := Conc.alloc hw us.flatten.toArray e
  refine ⟨_, this.1, this.2.1, h _ _ (H.own (Keep.put (Conc.fresh hw) _) ⟨hlen, .inr ⟨w.heap.size, n, rfl, Nat.le_refl _, by unfold maxLen; omega, by rw [Mem.put_at]; simp [hlen]⟩⟩ fun B hB => ?_) (Le.put (Conc.fresh hw) _)⟩
  obtain rfl : w.heap.size = B := by simpa [blkOf] using hB
  exact ⟨Conc.fresh hw, Conc.freshO hw⟩
/-- A slice without cells that is not nil. -/
theorem h_build0 {T e : TypeId} {i : TypeInfo} {s : Nat} {l : List Ent} {K : Value → Mem → Prop} (hT : P.underlying T = some (.slice e)) (hi : P.info? e = some i) (hs : i.size = s) (H : HP m l) (ho : o.op = .buildSlice T 0 #[])
    (h : ∀ v m', HP m' (.sl v e s 0 [] :: l) → Le m m' → K v m') : AOp P (gen W) o fr m K := fun w hw => by
  have hr : (execOp (evalF fr) o).run P w = .ok (.value (.slice (some ⟨w.heap.size, 0, Option.none⟩) 0 0)) (w.alloc (.cells #[] e)) := by
    simp [execOp, ho, Instr.buildSlice, run_underlying hT, sizeOf, typeInfo, hi, hs, range0, Instr.fill, newRow]
  rw [hr]
  have := Conc.alloc hw #[] e
  refine ⟨_, this.1, this.2.1, h _ _ (H.own (Keep.put (Conc.fresh hw) _) ⟨by simp, .inr ⟨w.heap.size, 0, rfl, Nat.le_refl _, by unfold maxLen; omega, by rw [Mem.put_at]; simp⟩⟩ fun B hB => ?_) (Le.put (Conc.fresh hw) _)⟩
  obtain rfl : w.heap.size = B := by simpa [blkOf] using hB
  exact ⟨Conc.fresh hw, Conc.freshO hw⟩
/-- The slice nil, as an entry. -/
theorem HP.nilS {l : List Ent} (H : HP m l) (e : TypeId) (s : Nat) : HP m (.sl (.slice Option.none 0 0) e s 0 [] :: l) := H.own (Keep.refl m) (OWN.nil m e s) (fun B hB => by cases hB)
end str
end Go.Abs
