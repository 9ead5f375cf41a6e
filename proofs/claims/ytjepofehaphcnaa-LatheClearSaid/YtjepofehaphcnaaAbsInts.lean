import Derived.Test.YtjepofehaphcnaaAbsSteps2
set_option linter.unusedSectionVars false
set_option linter.unusedSimpArgs false
set_option linter.unusedVariables false
/-! Abs: slices of ints. -/
namespace Go.Abs
open Go Go.RowKit
abbrev i64s (zs : List Int) : List Value := zs.map (Value.int .i64)
/-- The type numbers of int and []int in a program. -/
structure IntT (P : Program) (I S : TypeId) : Prop where
  int : P.underlying I = some (.int .i64)
  slice : P.underlying S = some (.slice I)
  info : ∃ i, P.info? I = some i ∧ i.zero = some (.int .i64 0) ∧ i.size = 1 ∧ i.bytes = 8
theorem Le.none (m : Mem) : Le Mem.none m := ⟨fun _ _ h => (by simp [Mem.none] at h), fun _ _ h => (by simp [Mem.none] at h)⟩
theorem OWN.put {m : Mem} {e : TypeId} {s : Nat} {v : Value} {n : Nat} {xs : List Value} (h : OWN m e s v n xs) {B : Nat} (hB : m B = Option.none) (b : Blk) : OWN (m.put B b) e s v n xs :=
  ⟨h.1, h.2.imp id fun ⟨B', cap, h1, h2, h3, h4⟩ => ⟨B', cap, h1, h2, h3, by
    have : B' ≠ B := fun e => by rw [e, hB] at h4; cases h4
    simp [Mem.put, this, h4]⟩⟩
theorem i64s_one (zs : List Int) : ∀ u ∈ i64s zs, u.oneCell' = true := fun u hu => by
  obtain ⟨z, _, rfl⟩ := List.mem_map.1 hu; rfl
theorem i64s_at {zs : List Int} {j : Nat} (h : j < zs.length) : (i64s zs)[j]? = some (.int .i64 (zs.getD j 0)) := by simp [h]
theorem range0 : Array.range 0 = #[] := by apply Array.toList_inj.1; rw [Array.toList_range]; rfl
theorem OWN.keepNe {m m' : Mem} {v x : Value} {e : TypeId} {s n : Nat} {xs : List Value} (h : ∀ B b, blkOf v ≠ some B → m B = some b → m' B = some b) (hx : OWN m e s x n xs) (hne : ∀ B, blkOf x = some B → blkOf v ≠ some B) : OWN m' e s x n xs :=
  ⟨hx.1, hx.2.imp id fun ⟨B, cap, h1, h2, h3, h4⟩ => ⟨B, cap, h1, h2, h3, h B _ (hne B (by rw [h1]; rfl)) h4⟩⟩
theorem AppTo.own {m m' : Mem} {v v' x : Value} {e : TypeId} {s n : Nat} {xs : List Value} (h : AppTo m v m' v') (hx : OWN m e s x n xs) (hne : ∀ B, blkOf x = some B → blkOf v ≠ some B) :
    OWN m' e s x n xs ∧ ∀ B, blkOf x = some B → blkOf v' ≠ some B := ⟨hx.keepNe h.keep hne, fun B hB hv => by
  obtain ⟨b, hb⟩ := hx.blk hB
  rcases h.fresh B hv with h1 | h1
  · exact hne B hB h1
  · rw [hb] at h1; cases h1⟩
section ops
variable {P : Program} {W : World} {C : Cls W} {o : Oper} {fr : Fr} {m : Mem} {I S : TypeId}
theorem q_lenI (t : IntT P I S) {x : Operand} {v : Value} {n : Nat} {xs : List Value} (h : SL W m 1 v n xs)
    (ho : o.op = .call { callee := .builtin .len, args := #[x], argTypes := #[S] }) (hx : evalF fr x = v) : QOp P W o fr m (.int .i64 n) := q_len t.slice h ho hx
theorem q_ixI (t : IntT P I S) {x y : Operand} {k : IntKind} {v : Value} {n : Nat} {xs : List Value} {i : Int}
    (h : SL W m 1 v n xs) (ho : o.op = .indexAddr S x y) (hx : evalF fr x = v) (hy : evalF fr y = .int k i) (h0 : 0 ≤ i) (hn : i < n) : QOp P W o fr m (ptrAt v i.toNat) := by
  obtain ⟨i3, hi, _, hs, _⟩ := t.info
  have := q_indexAddr (P := P) (W := W) (m := m) t.slice hi hs h ho hx hy h0 hn
  rwa [Nat.mul_one] at this
theorem q_ixN (t : IntT P I S) {x y : Operand} {k : IntKind} {v : Value} {n : Nat} {xs : List Value} {i : Nat}
    (h : SL W m 1 v n xs) (ho : o.op = .indexAddr S x y) (hx : evalF fr x = v) (hy : evalF fr y = .int k (i : Int)) (hn : i < n) : QOp P W o fr m (ptrAt v i) := q_ixI t h ho hx hy (by omega) (by omega)
theorem q_ldI (t : IntT P I S) {x : Operand} {v : Value} {n : Nat} {zs : List Int} {j : Nat}
    (h : SL W m 1 v n (i64s zs)) (ho : o.op = .load I x) (hx : evalF fr x = ptrAt v j) (hj : j < zs.length) : QOp P W o fr m (.int .i64 (zs.getD j 0)) :=
  q_load t.int rfl h ho hx (i64s_at hj)
/-- append of a slice of ints. -/
theorem a_appI (t : IntT P I S) {x y : Operand} {v u : Value} {n k : Nat} {xs ys : List Int} {K : Value → Mem → Prop}
    (hv : OWN m I 1 v n (i64s xs)) (hu : SL W m 1 u k (i64s ys)) (ho : o.op = .call { callee := .builtin .append, args := #[x, y], argTypes := #[S, S] }) (hx : evalF fr x = v) (hy : evalF fr y = u)
    (hb : n + k ≤ 17592186044416) (h : ∀ v' m', OWN m' I 1 v' (n + k) (i64s (xs ++ ys)) → AppTo m v m' v' → K v' m') : AOp P (gen W) o fr m K := by
  obtain ⟨i3, hi, hz, hs, hby⟩ := t.info
  refine a_append t.slice hi hz hs rfl (by decide) hv hu ho hx hy (i64s_one ys) (by rw [hby]; omega) (by unfold maxLen; omega) fun v' m' h1 h2 => h v' m' (by simpa [i64s] using h1) h2
end ops
end Go.Abs
