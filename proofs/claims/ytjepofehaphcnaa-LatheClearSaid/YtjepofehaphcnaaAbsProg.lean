import Derived.Test.YtjepofehaphcnaaAbsCell
import Derived.Lib.SmallJoins
import Derived.OpenShut
set_option linter.unusedSectionVars false
set_option linter.unusedSimpArgs false
set_option linter.unusedVariables false
/-! Abs: variables that are structs, field by field; arrays in them; nil checks; struct arguments opened. -/
namespace Go.Abs
open Go Go.RowKit
section ops
variable {P : Program} {W : World} {C : Cls W} {o : Oper} {fr : Fr} {m : Mem} {I S : TypeId}
/-- The address of an element of an array behind a pointer. -/
theorem q_indexArr {T e : TypeId} {len : Nat} {x y : Operand} {k : IntKind} {i : Int} {B j : Nat} (ho : o.op = .indexAddr T x y) (hx : evalF fr x = .pointer (some ⟨B, j, Option.none⟩)) (hy : evalF fr y = .int k i)
    (hT : P.underlying T = some (.array len e)) (hs : (P.info? e).map (·.size) = some 1) (h0 : 0 ≤ i) (hn : i < len) : QOp P W o fr m (.pointer (some ⟨B, j + i.toNat, Option.none⟩)) := q_of_run fun w _ => by
  cases hi : P.info? e with
  | none => rw [hi] at hs; cases hs
  | some inf =>
    rw [hi] at hs
    have hs : inf.size = 1 := by simpa using hs
    simp [execOp, ho, hx, hy, Instr.indexAt, asIntOf, underlying, hT, h0, hn, sizeOf, typeInfo, hi, hs, Instr.sureAddr, addr_add]
theorem q_fieldAddrK {T : TypeId} {x : Operand} {i off k : Nat} {fs : Array Field} {f : Field} {B j : Nat} (ho : o.op = .fieldAddr T x i) (hx : evalF fr x = .pointer (some ⟨B, j, Option.none⟩)) (hT : P.underlying T = some (.struct fs)) (hf : fs[i]? = some f)
    (hs : (P.info? f.type).map (·.size) = some (k + 1)) (hoff : f.offset = off) : QOp P W o fr m (.pointer (some ⟨B, j + off, Option.none⟩)) := by
  cases hi : P.info? f.type with
  | none => rw [hi] at hs; cases hs
  | some inf =>
    rw [hi] at hs
    have hs : inf.size = k + 1 := by simpa using hs
    subst hoff
    exact q_fieldAddr hT hf hi (by simp [hs]) ho hx
/-- One cell of a variable of the call's own; what is asked comes first, so that it tells which one. -/
theorem q_ldC {T T' : TypeId} {x : Operand} {d : TypeDesc} {l : List Ent} (k : Nat) {B j : Nat} {cs : List Value} {v : Value} (H : HP m l) (ho : o.op = .load T x) (hx : evalF fr x = .pointer (some ⟨B, j, Option.none⟩)) (hi : l[k]? = some (.vs T' B cs)) (hj : cs[j]? = some v)
    (hT : P.underlying T = some d) (hd : flat d = true) : QOp P W o fr m v := q_varC k j hT hd H hi hj ho hx
/-- One cell of a variable that is known cell by cell. -/
theorem q_ldW {T : TypeId} {x : Operand} {d : TypeDesc} {B j : Nat} {cs : List Value} {v : Value} (hc : ∀ j u, cs[j]? = some u → cellAt W m ⟨B, j, Option.none⟩ u) (ho : o.op = .load T x) (hx : evalF fr x = .pointer (some ⟨B, j, Option.none⟩)) (hj : cs[j]? = some v)
    (hT : P.underlying T = some d) (hd : flat d = true) : QOp P W o fr m v := q_loadAt hT hd (hc j v hj) ho hx
/-- The whole of a variable of the call's own. -/
theorem q_ldA {T T' : TypeId} {x : Operand} {d : TypeDesc} {l : List Ent} (k : Nat) {B : Nat} {cs : List Value} (H : HP m l) (ho : o.op = .load T x) (hx : evalF fr x = .pointer (some ⟨B, 0, Option.none⟩)) (hi : l[k]? = some (.vs T' B cs))
    (hT : P.underlying T = some d) (hd : flat d = false) (hs : (P.info? T).map (·.size) = some cs.length) : QOp P W o fr m (.agg cs.toArray) := by
  cases hf : P.info? T with
  | none => rw [hf] at hs; cases hs
  | some inf => rw [hf] at hs; exact q_varS k hT hd hf (by simpa using hs) H hi ho hx
/-- The whole of a variable is stored. -/
theorem h_stA {T T' : TypeId} {x y : Operand} {l : List Ent} (k : Nat) {B : Nat} {cs us : List Value} {K : Value → Mem → Prop} (H : HP m l) (ho : o.op = .store T x y) (hx : evalF fr x = .pointer (some ⟨B, 0, Option.none⟩)) (hi : l[k]? = some (.vs T' B cs)) (hy : evalF fr y = .agg us.toArray)
    (hs : (P.info? T).map (·.size) = some us.length) (h1 : us.all (·.oneCell') = true) (hl : us.length = cs.length) (h : ∀ m', HP m' (l.set k (.vs T' B us)) → K undef m') : AOp P (gen W) o fr m K := by
  cases hf : P.info? T with
  | none => rw [hf] at hs; cases hs
  | some inf => rw [hf] at hs; exact h_setVarS k hf (by simpa using hs) H hi ho hx hy h1 hl h
/-- One cell of it is stored. -/
theorem h_stC {T T' : TypeId} {x y : Operand} {l : List Ent} (k : Nat) {B j : Nat} {cs : List Value} {u : Value} {K : Value → Mem → Prop} (H : HP m l) (ho : o.op = .store T x y) (hx : evalF fr x = .pointer (some ⟨B, j, Option.none⟩)) (hi : l[k]? = some (.vs T' B cs)) (hy : evalF fr y = u)
    (hs : (P.info? T).map (·.size) = some 1) (h1 : u.oneCell' = true) (hj : j < cs.length) (h : ∀ m', HP m' (l.set k (.vs T' B (cs.set j u))) → K undef m') : AOp P (gen W) o fr m K := by
  cases hf : P.info? T with
  | none => rw [hf] at hs; cases hs
  | some inf => rw [hf] at hs; exact h_setCell k j hf (by simpa using hs) H hi ho hx hy h1 hj h
theorem cells_world {m : Mem} {w : World} {B : Nat} {cs : List Value} (h : ∀ j u, cs[j]? = some u → cellAt W m ⟨B, j, Option.none⟩ u) (hw : Conc W m w) : ∀ j u, cs[j]? = some u → cellAt w Mem.none ⟨B, j, Option.none⟩ u := fun j u hu => (h j u hu).world hw
theorem HP.cellsS {l : List Ent} (H : HP m l) (i : Nat) {B : Nat} {T : TypeId} {cs : List Value} (hi : l[i]? = some (.vs T B cs)) : ∀ j u, cs[j]? = some u → cellAt W m ⟨B, j, Option.none⟩ u := fun j u hu => H.cellS i j hi hu
end ops
/-! ### A struct of six cells that came in -/
section opened
open Go.ChangeShapes Go.WideShapes Go.ChangeAt Go.Joins Go.Deep Go.WideElems
variable {H : Type} {enc : TypeId × Value → H} {P : Program} {w : World} {base : Nat} {spare : Nat → Bool} {held : Bool}
theorem open_cellInt {t : TypeId} {n : Nat} {c : Value} {y : DataW H × List MemPlace} (ht : P.underlying t = some (.int .i64)) (h : DataW.trod enc P w base spare held n t [c] = some y) : ∃ z : Int, c = .int .i64 z ∧ (Lit.int .i64 z).wf = true := by
  cases n with
  | zero => simp [DataW.trod] at h
  | succ n =>
    cases c <;> simp [DataW.trod, ht] at h
    obtain ⟨⟨rfl, h2⟩, _⟩ := h
    exact ⟨_, rfl, h2⟩
end opened
end Go.Abs
namespace Go.Abs
open Go Go.RowKit
section more
variable {P : Program} {W : World} {C : Cls W} {o : Oper} {fr : Fr} {m : Mem}
theorem q_mulX {T yt : TypeId} {x y : Operand} {a b X : Int} (hX : a * b = X) (ho : o.op = .binOp .mul T x y yt) (hx : evalF fr x = .int .i64 a) (hy : evalF fr y = .int .i64 b) (h : -9223372036854775808 ≤ X ∧ X ≤ 9223372036854775807) : QOp P W o fr m (.int .i64 X) := by
  subst hX; exact q_mul ho hx hy h
theorem q_quoX {T yt : TypeId} {x y : Operand} {a b X : Int} (hX : a.tdiv b = X) (ho : o.op = .binOp .quo T x y yt) (hx : evalF fr x = .int .i64 a) (hy : evalF fr y = .int .i64 b) (hb : 1 ≤ b) (h : -9223372036854775807 ≤ a ∧ a ≤ 9223372036854775807) : QOp P W o fr m (.int .i64 X) := by
  subst hX
  have := q_quo (P := P) (W := W) (m := m) ho hx hy (by omega)
  have hb2 : -9223372036854775808 ≤ a.tdiv b ∧ a.tdiv b ≤ 9223372036854775807 := by
    rcases Int.le_total 0 a with g | g
    · rw [Int.tdiv_eq_ediv_of_nonneg g]
      have h1 := Int.ediv_nonneg g (show 0 ≤ b by omega)
      have h2 := Int.ediv_le_self b g
      omega
    · have e : a.tdiv b = -((-a) / b) := by
        rw [← Int.tdiv_eq_ediv_of_nonneg (by omega), Int.neg_tdiv]; omega
      have h1 := Int.ediv_nonneg (show 0 ≤ -a by omega) (show 0 ≤ b by omega)
      have h2 := Int.ediv_le_self b (show 0 ≤ -a by omega)
      rw [e]; omega
  rwa [IntWalk.i64_in _ hb2] at this
theorem q_remX {T yt : TypeId} {x y : Operand} {a b X : Int} (hX : a.tmod b = X) (ho : o.op = .binOp .rem T x y yt) (hx : evalF fr x = .int .i64 a) (hy : evalF fr y = .int .i64 b) (hb : 1 ≤ b) : QOp P W o fr m (.int .i64 X) := by
  subst hX; exact q_rem ho hx hy (by omega)
theorem mul_bd {a b A B : Int} (ha : -A ≤ a ∧ a ≤ A) (hb : 0 ≤ b ∧ b ≤ B) : -(A * B) ≤ a * b ∧ a * b ≤ A * B := by
  have hA : 0 ≤ A := by omega
  have h1 : a * b ≤ A * b := Int.mul_le_mul_of_nonneg_right ha.2 hb.1
  have h2 : A * b ≤ A * B := Int.mul_le_mul_of_nonneg_left hb.2 hA
  have h3 : -A * b ≤ a * b := Int.mul_le_mul_of_nonneg_right ha.1 hb.1
  rw [Int.neg_mul] at h3
  omega
end more
end Go.Abs
namespace Go.Abs
open Go Go.RowKit
section scope
variable {P : Program} {b : Frame} {a : Act} {k : List Item} {cs : List Frame} {w : World}
theorem stepR_scope {c : Code} : step P (lone (b.atR a (.code (.scope c) :: k)) cs w) = .next (lone (b.atR a (.code c :: .inScope c :: k)) cs w) :=
  step_lone_go (by simp [stepG, stepG.exec, Frame.atR])
theorem stepR_inScope {c : Code} : step P (lone (b.atR a (.inScope c :: k)) cs w) = .next (lone (b.atR a k) cs w) :=
  step_lone_go (by simp [stepG, stepG.exec, Frame.atR])
/-- A piece of code with labels, to none of which it jumps. -/
def noGoto (Q : Post) : Post
  | .goto _, _, _ => False
  | e, fr, m => Q e fr m
theorem pn_scope {Q : Post} {fr : Fr} {m : Mem} (h : Q .normal fr m) : noGoto Q .normal fr m := h
theorem px_scope {Q : Post} {id : Nat} {fr : Fr} {m : Mem} (h : Q (.exit id) fr m) : noGoto Q (.exit id) fr m := h
theorem pr_scope {Q : Post} {fr : Fr} {m : Mem} (h : Q .ret fr m) : noGoto Q .ret fr m := h
theorem awp_scope {W : World} {C : Cls W} {r : Option Nat} {n : Nat} {Q : Post} {fr : Fr} {m : Mem} {c : Code} (h : AWp P C r n c (noGoto Q) fr m) : AWp P C r n (.scope c) Q fr m := by
  intro m0 w0 a w ha b k cs hro hb hr
  have h0 : (lone (b.atR a (.code (.scope c) :: k)) cs w).fenced P (fen r) := fenced_calm hb hr rfl
  obtain ⟨e, a₁, w₁, hq, harr⟩ := h m0 w0 a w ha b (.inScope c :: k) cs hro hb hr
  cases e with
  | normal => exact ⟨.normal, a₁, w₁, hq, .head h0 stepR_scope (StepsIn.trans harr (.one (fenced_calm hb hr rfl) stepR_inScope))⟩
  | exit id =>
    have hx : exitTo id (.inScope c :: k) = exitTo id k := by simp [exitTo]
    exact ⟨.exit id, a₁, w₁, hq, fun k' hk => .head h0 stepR_scope (harr.1 k' (by rw [hx]; exact hk)),
      fun hr' hk => let ⟨k₁, h1, h2⟩ := harr.2 hr' (by rw [hx]; exact hk); ⟨k₁, h1, .head h0 stepR_scope h2⟩⟩
  | goto l => obtain ⟨_, _, _, h3⟩ := hq; exact h3.elim
  | ret => exact ⟨.ret, a₁, w₁, hq, ArrivesIn.of_steps (.one h0 stepR_scope) harr⟩
  | panic ch => exact hq.elim
  | outgrown => exact hq.elim
end scope
end Go.Abs
