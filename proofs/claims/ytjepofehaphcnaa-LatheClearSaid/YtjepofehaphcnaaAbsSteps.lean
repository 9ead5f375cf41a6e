import Derived.Test.YtjepofehaphcnaaAbsOps
set_option linter.unusedSectionVars false
set_option linter.unusedSimpArgs false
set_option linter.unusedVariables false
/-! Abs: the operations, one law each. -/
namespace Go.Abs
open Go Go.RowKit
section ops
variable {P : Program} {W : World} {C : Cls W} {o : Oper} {fr : Fr} {m : Mem}

theorem q_of_run {v : Value} (h : ∀ w, Conc W m w → (execOp (evalF fr) o).run P w = .ok (.value v) w) : QOp P W o fr m v := fun w hw => by rw [h w hw]; exact ⟨rfl, rfl⟩
theorem q_move {x : Operand} {v : Value} (ho : o.op = .move x) (hx : evalF fr x = v) : QOp P W o fr m v := q_of_run fun w _ => by simp [execOp, ho, hx]
theorem q_assign {x : Operand} {v : Value} (ho : o.op = .assign x) (hx : evalF fr x = v) : QOp P W o fr m v := q_of_run fun w _ => by simp [execOp, ho, hx]

/-- What a binary operation on two integers of one kind gives. -/
def iop (op : BinOp) (k : IntKind) (a b : Int) : Option Value :=
  match op with
  | .add => some (.int k (k.wrap (a + b)))
  | .sub => some (.int k (k.wrap (a - b)))
  | .mul => some (.int k (k.wrap (a * b)))
  | .lss => some (.bool (decide (a < b)))
  | .leq => some (.bool (decide (a ≤ b)))
  | .gtr => some (.bool (decide (b < a)))
  | .geq => some (.bool (decide (b ≤ a)))
  | .eql => some (.bool (decide (a = b)))
  | .neq => some (.bool (!decide (a = b)))
  | .and => some (.int k (k.wrap ((BitVec.ofInt k.bits a &&& BitVec.ofInt k.bits b).toNat)))
  | .or => some (.int k (k.wrap ((BitVec.ofInt k.bits a ||| BitVec.ofInt k.bits b).toNat)))
  | .xor => some (.int k (k.wrap ((BitVec.ofInt k.bits a ^^^ BitVec.ofInt k.bits b).toNat)))
  | .andNot => some (.int k (k.wrap ((BitVec.ofInt k.bits a &&& ~~~BitVec.ofInt k.bits b).toNat)))
  | _ => none
theorem q_int {op : BinOp} {T yt : TypeId} {x y : Operand} {k : IntKind} {a b : Int} {v : Value} (ho : o.op = .binOp op T x y yt) (hx : evalF fr x = .int k a) (hy : evalF fr y = .int k b)
    (hv : iop op k a b = some v) : QOp P W o fr m v := q_of_run fun w _ => by
  cases op <;> simp only [iop, reduceCtorEq] at hv <;> obtain rfl := Option.some.inj hv <;>
    simp [execOp, ho, hx, hy, eqGuard, binOp, Op.intArith, Op.intCmp, Op.intBits, bne, BEq.beq]
theorem q_quo {T yt : TypeId} {x y : Operand} {k : IntKind} {a b : Int} (ho : o.op = .binOp .quo T x y yt) (hx : evalF fr x = .int k a) (hy : evalF fr y = .int k b)
    (hb : b ≠ 0) : QOp P W o fr m (.int k (k.wrap (a.tdiv b))) := q_of_run fun w _ => by
  simp [execOp, ho, hx, hy, eqGuard, binOp, Op.intDiv, hb]
theorem q_rem {T yt : TypeId} {x y : Operand} {k : IntKind} {a b : Int} (ho : o.op = .binOp .rem T x y yt) (hx : evalF fr x = .int k a) (hy : evalF fr y = .int k b)
    (hb : b ≠ 0) : QOp P W o fr m (.int k (a.tmod b)) := q_of_run fun w _ => by
  simp [execOp, ho, hx, hy, eqGuard, binOp, Op.intDiv, hb]
theorem q_shl {T yt : TypeId} {x y : Operand} {k yk : IntKind} {a b : Int} (ho : o.op = .binOp .shl T x y yt) (hx : evalF fr x = .int k a) (hy : evalF fr y = .int yk b)
    (hb : 0 ≤ b) : QOp P W o fr m (.int k (k.wrap (a * 2 ^ (min b.toNat k.bits)))) := q_of_run fun w _ => by
  simp [execOp, ho, hx, hy, eqGuard, binOp, Op.shift, show ¬ b < 0 by omega]
theorem q_shr {T yt : TypeId} {x y : Operand} {k yk : IntKind} {a b : Int} (ho : o.op = .binOp .shr T x y yt) (hx : evalF fr x = .int k a) (hy : evalF fr y = .int yk b)
    (hb : 0 ≤ b) : QOp P W o fr m (.int k (a.fdiv (2 ^ (min b.toNat k.bits)))) := q_of_run fun w _ => by
  simp [execOp, ho, hx, hy, eqGuard, binOp, Op.shift, show ¬ b < 0 by omega]
/-! in range: no wrap is left -/
theorem q_add {T yt : TypeId} {x y : Operand} {a b : Int} (ho : o.op = .binOp .add T x y yt) (hx : evalF fr x = .int .i64 a) (hy : evalF fr y = .int .i64 b)
    (h : -9223372036854775808 ≤ a + b ∧ a + b ≤ 9223372036854775807) : QOp P W o fr m (.int .i64 (a + b)) := q_int ho hx hy (by simp only [iop]; rw [IntWalk.i64_in _ h])
theorem q_sub {T yt : TypeId} {x y : Operand} {a b : Int} (ho : o.op = .binOp .sub T x y yt) (hx : evalF fr x = .int .i64 a) (hy : evalF fr y = .int .i64 b)
    (h : -9223372036854775808 ≤ a - b ∧ a - b ≤ 9223372036854775807) : QOp P W o fr m (.int .i64 (a - b)) := q_int ho hx hy (by simp only [iop]; rw [IntWalk.i64_in _ h])
theorem q_mul {T yt : TypeId} {x y : Operand} {a b : Int} (ho : o.op = .binOp .mul T x y yt) (hx : evalF fr x = .int .i64 a) (hy : evalF fr y = .int .i64 b)
    (h : -9223372036854775808 ≤ a * b ∧ a * b ≤ 9223372036854775807) : QOp P W o fr m (.int .i64 (a * b)) := q_int ho hx hy (by simp only [iop]; rw [IntWalk.i64_in _ h])
theorem q_quo_in {T yt : TypeId} {x y : Operand} {a b : Int} (ho : o.op = .binOp .quo T x y yt) (hx : evalF fr x = .int .i64 a) (hy : evalF fr y = .int .i64 b)
    (h : 0 ≤ a ∧ a ≤ 9223372036854775807 ∧ 1 ≤ b) : QOp P W o fr m (.int .i64 (a / b)) := by
  have := q_quo (P := P) (W := W) (m := m) ho hx hy (by omega)
  rwa [IntWalk.i64_quo a b h] at this
theorem q_rem_in {T yt : TypeId} {x y : Operand} {k : IntKind} {a b : Int} (ho : o.op = .binOp .rem T x y yt) (hx : evalF fr x = .int k a) (hy : evalF fr y = .int k b)
    (h : 0 ≤ a ∧ 1 ≤ b) : QOp P W o fr m (.int k (a % b)) := by
  have := q_rem (P := P) (W := W) (m := m) ho hx hy (by omega)
  rwa [Int.tmod_eq_emod_of_nonneg h.1] at this
/-! comparisons that are decided -/
theorem q_lss_t {T yt : TypeId} {x y : Operand} {k : IntKind} {a b : Int} (ho : o.op = .binOp .lss T x y yt) (hx : evalF fr x = .int k a) (hy : evalF fr y = .int k b) (h : a < b) : QOp P W o fr m (.bool true) := q_int ho hx hy (by simp [iop, h])
theorem q_lss_f {T yt : TypeId} {x y : Operand} {k : IntKind} {a b : Int} (ho : o.op = .binOp .lss T x y yt) (hx : evalF fr x = .int k a) (hy : evalF fr y = .int k b) (h : ¬ a < b) : QOp P W o fr m (.bool false) := q_int ho hx hy (by simp [iop, h])
theorem q_leq_t {T yt : TypeId} {x y : Operand} {k : IntKind} {a b : Int} (ho : o.op = .binOp .leq T x y yt) (hx : evalF fr x = .int k a) (hy : evalF fr y = .int k b) (h : a ≤ b) : QOp P W o fr m (.bool true) := q_int ho hx hy (by simp [iop, h])
theorem q_leq_f {T yt : TypeId} {x y : Operand} {k : IntKind} {a b : Int} (ho : o.op = .binOp .leq T x y yt) (hx : evalF fr x = .int k a) (hy : evalF fr y = .int k b) (h : ¬ a ≤ b) : QOp P W o fr m (.bool false) := q_int ho hx hy (by simp [iop, h])
theorem q_gtr_t {T yt : TypeId} {x y : Operand} {k : IntKind} {a b : Int} (ho : o.op = .binOp .gtr T x y yt) (hx : evalF fr x = .int k a) (hy : evalF fr y = .int k b) (h : b < a) : QOp P W o fr m (.bool true) := q_int ho hx hy (by simp [iop, h])
theorem q_gtr_f {T yt : TypeId} {x y : Operand} {k : IntKind} {a b : Int} (ho : o.op = .binOp .gtr T x y yt) (hx : evalF fr x = .int k a) (hy : evalF fr y = .int k b) (h : ¬ b < a) : QOp P W o fr m (.bool false) := q_int ho hx hy (by simp [iop, h])
theorem q_geq_t {T yt : TypeId} {x y : Operand} {k : IntKind} {a b : Int} (ho : o.op = .binOp .geq T x y yt) (hx : evalF fr x = .int k a) (hy : evalF fr y = .int k b) (h : b ≤ a) : QOp P W o fr m (.bool true) := q_int ho hx hy (by simp [iop, h])
theorem q_geq_f {T yt : TypeId} {x y : Operand} {k : IntKind} {a b : Int} (ho : o.op = .binOp .geq T x y yt) (hx : evalF fr x = .int k a) (hy : evalF fr y = .int k b) (h : ¬ b ≤ a) : QOp P W o fr m (.bool false) := q_int ho hx hy (by simp [iop, h])
theorem q_eql_t {T yt : TypeId} {x y : Operand} {k : IntKind} {a b : Int} (ho : o.op = .binOp .eql T x y yt) (hx : evalF fr x = .int k a) (hy : evalF fr y = .int k b) (h : a = b) : QOp P W o fr m (.bool true) := q_int ho hx hy (by simp [iop, h])
theorem q_eql_f {T yt : TypeId} {x y : Operand} {k : IntKind} {a b : Int} (ho : o.op = .binOp .eql T x y yt) (hx : evalF fr x = .int k a) (hy : evalF fr y = .int k b) (h : ¬ a = b) : QOp P W o fr m (.bool false) := q_int ho hx hy (by simp [iop, h])
theorem q_neq_t {T yt : TypeId} {x y : Operand} {k : IntKind} {a b : Int} (ho : o.op = .binOp .neq T x y yt) (hx : evalF fr x = .int k a) (hy : evalF fr y = .int k b) (h : ¬ a = b) : QOp P W o fr m (.bool true) := q_int ho hx hy (by simp only [iop, h, decide_false, Bool.not_false])
theorem q_neq_f {T yt : TypeId} {x y : Operand} {k : IntKind} {a b : Int} (ho : o.op = .binOp .neq T x y yt) (hx : evalF fr x = .int k a) (hy : evalF fr y = .int k b) (h : a = b) : QOp P W o fr m (.bool false) := q_int ho hx hy (by simp only [iop, h, decide_true, Bool.not_true])
theorem q_pick_t {c a b : Operand} {v : Value} (ho : o.op = .pick c a b) (hc : evalF fr c = .bool true) (hv : evalF fr a = v) : QOp P W o fr m v := q_of_run fun w _ => by
  simp [execOp, ho, hc, hv, asBool]
theorem q_pick_f {c a b : Operand} {v : Value} (ho : o.op = .pick c a b) (hc : evalF fr c = .bool false) (hv : evalF fr b = v) : QOp P W o fr m v := q_of_run fun w _ => by
  simp [execOp, ho, hc, hv, asBool]
theorem q_not {T : TypeId} {x : Operand} {b : Bool} (ho : o.op = .unOp .not T x) (hx : evalF fr x = .bool b) : QOp P W o fr m (.bool !b) := q_of_run fun w _ => by
  simp [execOp, ho, hx, Op.unary]
theorem q_neg {T : TypeId} {x : Operand} {a : Int} (ho : o.op = .unOp .neg T x) (hx : evalF fr x = .int .i64 a) (h : -9223372036854775807 ≤ a ∧ a ≤ 9223372036854775807) :
    QOp P W o fr m (.int .i64 (-a)) := q_of_run fun w _ => by
  simp [execOp, ho, hx, Op.unary, Op.intArith, IntWalk.i64_in (-a) (by omega)]
theorem run_eqb {T : TypeId} {a b : Bool} {w : World} (hT : P.underlying T = some .bool) : (Op.equal T (.bool a) (.bool b)).run P w = .ok (a == b) w := by
  unfold Op.equal
  have : ∀ d, (Op.equalIn (d + 1) T (.bool a) (.bool b)).run P w = .ok (a == b) w := fun d => by simp [Op.equalIn, run_underlying hT]
  exact this 9999
theorem q_neb {T yt : TypeId} {x y : Operand} {a b : Bool} (hT : P.underlying T = some .bool) (ho : o.op = .binOp .neq T x y yt) (hx : evalF fr x = .bool a) (hy : evalF fr y = .bool b) :
    QOp P W o fr m (.bool (!(a == b))) := q_of_run fun w _ => by
  have hb : binOp .neq T (.bool a) (.bool b) = (do pure (.bool (!(← Op.equal T (.bool a) (.bool b))))) := rfl
  simp [execOp, ho, hx, hy, eqGuard, hb, run_eqb hT]
theorem q_extract {x : Operand} {i : Nat} {vs : Array Value} {v : Value} (ho : o.op = .extract x i) (hx : evalF fr x = .tuple vs) (hv : vs[i]? = some v) : QOp P W o fr m v := q_of_run fun w _ => by
  simp [execOp, ho, hx, Instr.extract, hv]
theorem q_max {x y : Operand} {ts : Array TypeId} {k : IntKind} {a b : Int} (ho : o.op = .call { callee := .builtin .max, args := #[x, y], argTypes := ts }) (hx : evalF fr x = .int k a) (hy : evalF fr y = .int k b) :
    QOp P W o fr m (.int k (max a b)) := q_of_run fun w _ => by
  have : (if b > a then b else a) = max a b := by split <;> omega
  simp [execOp, ho, hx, hy, resolve, invoke, builtin, Builtin.max_, Builtin.max2, this]
theorem q_min {x y : Operand} {ts : Array TypeId} {k : IntKind} {a b : Int} (ho : o.op = .call { callee := .builtin .min, args := #[x, y], argTypes := ts }) (hx : evalF fr x = .int k a) (hy : evalF fr y = .int k b) :
    QOp P W o fr m (.int k (min a b)) := q_of_run fun w _ => by
  have : (if b < a then b else a) = min a b := by split <;> omega
  simp [execOp, ho, hx, hy, resolve, invoke, builtin, Builtin.min_, Builtin.min2, this]

/-! ### Slices -/
@[irreducible] def ptrAt (v : Value) (i : Nat) : Value := match v with | .slice (some a) _ _ => .pointer (some (a.add i)) | _ => undef
theorem SL.value {W : World} {m : Mem} {s : Nat} {v : Value} {n : Nat} {xs : List Value} (h : SL W m s v n xs) : ∃ a cap, v = .slice a n cap ∧ (0 < n → ∃ b, a = some b) ∧ n ≤ maxLen := by
  rcases h.2 with ⟨rfl, a, cap, rfl⟩ | ⟨B, off, cap, rfl, h1, h2, _⟩
  · exact ⟨_, _, rfl, fun h => absurd h (by omega), Nat.zero_le _⟩
  · exact ⟨_, _, rfl, fun _ => ⟨_, rfl⟩, Nat.le_trans h1 h2⟩
theorem q_len {T e : TypeId} {x : Operand} {s : Nat} {v : Value} {n : Nat} {xs : List Value} (hT : P.underlying T = some (.slice e)) (h : SL W m s v n xs)
    (ho : o.op = .call { callee := .builtin .len, args := #[x], argTypes := #[T] }) (hx : evalF fr x = v) : QOp P W o fr m (.int .i64 n) := q_of_run fun w _ => by
  obtain ⟨a, cap, rfl, _⟩ := h.value
  simp [execOp, ho, hx, resolve, invoke, builtin, Builtin.len_, underlying, hT, goInt]
theorem q_indexAddr {T e : TypeId} {x y : Operand} {k : IntKind} {s : Nat} {v : Value} {n : Nat} {xs : List Value} {i : Int} {inf : TypeInfo} (hT : P.underlying T = some (.slice e)) (he : P.info? e = some inf) (hs : inf.size = s)
    (h : SL W m s v n xs) (ho : o.op = .indexAddr T x y) (hx : evalF fr x = v) (hy : evalF fr y = .int k i) (h0 : 0 ≤ i) (hn : i < n) : QOp P W o fr m (ptrAt v (i.toNat * s)) := q_of_run fun w _ => by
  obtain ⟨a, cap, rfl, ha, _⟩ := h.value
  obtain ⟨b, rfl⟩ := ha (by omega)
  simp [execOp, ho, hx, hy, Instr.indexAt, asIntOf, underlying, hT, h0, hn, sizeOf, typeInfo, he, hs, ptrAt]
def flat : TypeDesc → Bool
  | .struct _ | .array _ _ => false
  | _ => true
theorem run_loadVar {T : TypeId} {d : TypeDesc} {a : Addr} {u : Value} {w : World} (hT : P.underlying T = some d) (hd : flat d = true) (hc : w.cell? a = some u) : (loadVar T a).run P w = .ok u w := by
  have hi : (isAgg T).run P w = .ok false w := by
    cases d <;> simp_all [isAgg, underlying, flat]
  simp [loadVar, hi, load, Sem.run, hc]
theorem q_load {T : TypeId} {x : Operand} {d : TypeDesc} {s : Nat} {v : Value} {n : Nat} {xs : List Value} {j : Nat} {u : Value} (hT : P.underlying T = some d) (hd : flat d = true)
    (h : SL W m s v n xs) (ho : o.op = .load T x) (hx : evalF fr x = ptrAt v j) (hu : xs[j]? = some u) : QOp P W o fr m u := q_of_run fun w hw => by
  rcases h.2 with ⟨rfl, _⟩ | ⟨B, off, cap, rfl, _, _, hc⟩
  · have := h.1
    have := (List.getElem?_eq_some_iff.1 hu).1
    omega
  · have hcell := (hc j u hu).cell hw
    have hadd : (⟨B, off, Option.none⟩ : Addr).add j = ⟨B, off + j, Option.none⟩ := by unfold Addr.add; split <;> simp_all
    have hl := run_loadVar (P := P) hT hd hcell
    simp [execOp, ho, hx, ptrAt, Instr.loadAt, Instr.sureAddr, hadd, hl]
/-- A variable of one cell. -/
theorem q_loadAt {T : TypeId} {x : Operand} {d : TypeDesc} {a : Addr} {u : Value} (hT : P.underlying T = some d) (hd : flat d = true)
    (h : cellAt W m a u) (ho : o.op = .load T x) (hx : evalF fr x = .pointer (some a)) : QOp P W o fr m u := q_of_run fun w hw => by
  have hl := run_loadVar (P := P) hT hd (h.cell hw)
  simp [execOp, ho, hx, Instr.loadAt, Instr.sureAddr, hl]

/-! ### Making memory -/
theorem Mem.put_free {m : Mem} {B B' : Nat} {b : Blk} (h : m.free B') (hne : B' ≠ B) : (m.put B b).free B' := ⟨by simp [Mem.put, hne]; exact h.1, h.2⟩
theorem Conc.alloc {w : World} (h : Conc W m w) (cs : Array Value) (e : TypeId) :
    Conc W (m.put w.heap.size ⟨cs.toList, e, cs.size⟩) (w.alloc (.cells cs e)) ∧ Frm m w (m.put w.heap.size ⟨cs.toList, e, cs.size⟩) (w.alloc (.cells cs e)) ∧ W.heap.size ≤ w.heap.size := by
  refine ⟨⟨h.below.alloc h.below.size _, fun B b hb => ?_, fun B o ho => ?_⟩, ⟨by simp, fun B hB hf => ⟨Mem.put_free hf (by omega), Below.heap_alloc _ _ _ hB⟩⟩, h.below.size⟩
  · simp only [Mem.put] at hb
    split at hb
    · rename_i e1
      obtain rfl := Option.some.inj hb
      subst e1
      exact ⟨h.below.size, cs, heap_alloc_new w _, rfl, List.take_of_length_le (by simp)⟩
    · obtain ⟨g1, cur, g2, g3, g4⟩ := h.blk B b hb
      exact ⟨g1, cur, by rw [Below.heap_alloc _ _ _ (h.lt hb)]; exact g2, g3, g4⟩
  · obtain ⟨g1, g2, g3⟩ := h.obj B o ho
    exact ⟨g1, by rw [Below.heap_alloc _ _ _ (h.ltO ho)]; exact g2, g3⟩
end ops
end Go.Abs
