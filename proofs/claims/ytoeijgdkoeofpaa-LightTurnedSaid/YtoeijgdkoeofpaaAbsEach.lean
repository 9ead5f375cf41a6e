import Derived.Test.YtoeijgdkoeofpaaAbsArgs
set_option linter.unusedSectionVars false
set_option linter.unusedSimpArgs false
set_option linter.unusedVariables false
/-! Abs: regions whose order is drawn, in which several operations that make memory may come up at once; cuts behind a region. -/
namespace Go.Abs
open Go Go.RowKit
section each
variable {P : Program} {W : World} {C : Cls W} {r : Option Nat} {n : Nat} {Q : Post} {fr : Fr} {m : Mem} {ops : Array Oper} {fuel : Nat} {listed : Array Bool}
/-- Operation i may come next. -/
def StepOk (P : Program) {W : World} (C : Cls W) (r : Option Nat) (n : Nat) (ops : Array Oper) (Q : Post) (fuel : Nat) (listed : Array Bool) (fr : Fr) (m : Mem) (i : Nat) : Prop :=
  ∃ o, ops[i]? = some o ∧ okOper n ops o = true ∧ Region.wanted o (yieldedF ops fr) = true ∧ AOp P C o fr m (fun v m' => (Le m m' ∨ fixedAt ops i = true) ∧ AAny P C r n ops Q fuel (listed.setIfInBounds i true) (putF fr o.dst v) m')
theorem any_each (rs : List Nat) (hr : Region.ready .any ops listed = rs) (hne : rs.isEmpty = false) (h : ∀ i ∈ rs, StepOk P C r n ops Q fuel listed fr m i) : AAny P C r n ops Q (fuel + 1) listed fr m := fun m0 w0 a D ha => by
  refine ⟨fun h0 => (by rw [hr] at h0; subst h0; cases hne), fun j hj w hc => ?_⟩
  rw [hr] at hj
  obtain ⟨o, ho, hok, hw, hA⟩ := h j hj
  unfold wpOpIn
  simp only [ho]
  rw [ha.wanted hok, if_pos hw]
  refine hA.wp hc.c (ha.execOp hok) (okOper_spec hok).1.2 fun v m' w' hc' hf hk => ⟨SM C r m0 w0 D m', ⟨hc', hc.frm.trans hf, hc.mks.frm hf⟩, fun _ _ hw k => hw.still k, ?_, hk.2 m0 w0 _ D (ha.put _ _)⟩
  exact hk.1.imp (fun hl _ hw => hw.forget hl) id
theorem each_nil {S : Nat → Prop} : ∀ i ∈ ([] : List Nat), S i := fun i h => by cases h
theorem each_cons {S : Nat → Prop} {i : Nat} {rs : List Nat} (h : S i) (h' : ∀ j ∈ rs, S j) : ∀ j ∈ i :: rs, S j := fun j hj => by
  rcases List.mem_cons.1 hj with rfl | hj
  · exact h
  · exact h' j hj
/-- One that makes memory. -/
theorem step_le {i : Nat} {o : Oper} {d : Tmp} (ho : ops[i]? = some o) (hok : okOper n ops o = true) (hd : o.dst = some d) (hw : Region.wanted o (yieldedF ops fr) = true) (h : AOp P C o fr m (fun v m' => Le m m' ∧ AAny P C r n ops Q fuel (listed.setIfInBounds i true) (upd fr d v) m')) :
    StepOk P C r n ops Q fuel listed fr m i := ⟨o, ho, hok, hw, h.mono fun v m' hk => ⟨.inl hk.1, by rw [hd]; exact hk.2⟩⟩
/-- One with a fixed place, that gives nothing (a store). -/
theorem step_fix {i : Nat} {o : Oper} (ho : ops[i]? = some o) (hok : okOper n ops o = true) (hd : o.dst = none) (hf : fixedAt ops i = true) (hw : Region.wanted o (yieldedF ops fr) = true) (h : AOp P C o fr m (fun _ m' => AAny P C r n ops Q fuel (listed.setIfInBounds i true) fr m')) :
    StepOk P C r n ops Q fuel listed fr m i := ⟨o, ho, hok, hw, h.mono fun v m' hk => ⟨.inr hf, by rw [hd]; exact hk⟩⟩
/-- Quiet ones first; what is listed then. -/
def ordQ (n : Nat) (ops : Array Oper) : Array Bool → List (Nat × Bool) → Option (Array Bool)
  | listed, [] => some listed
  | listed, (i, true) :: r => if takeB n ops listed i then ordQ n ops (listed.setIfInBounds i true) r else none
  | listed, (i, false) :: r => if Region.ready .any ops listed == [i] && (match ops[i]? with | some o => okOper n ops o | none => false) then ordQ n ops (listed.setIfInBounds i true) r else none
theorem ADr.mix {listed' : Array Bool} {fuel' : Nat} : ∀ (ord : List (Nat × Bool)) (listed : Array Bool) (fr : Fr) (m : Mem), ordQ n ops listed ord = some listed' → ADr P C r n ops (fun _ fr m => AAny P C r n ops Q fuel' listed' fr m) ord fr m → AAny P C r n ops Q (ord.length + fuel') listed fr m
  | [], listed, fr, m, hb, h => by
    simp only [ordQ, Option.some.injEq] at hb
    subst hb
    have h : AAny P C r n ops Q fuel' listed fr m := h
    simpa using h
  | (i, true) :: rs, listed, fr, m, hb, h => by
    obtain ⟨o, ho, h⟩ := h
    simp only [ordQ] at hb
    split at hb
    · rename_i ht
      have e : ((i, true) :: rs).length + fuel' = (rs.length + fuel') + 1 := by simp; omega
      rw [e]
      rcases h with ⟨hw, v, hq, h⟩ | ⟨hw, h⟩
      · exact aany_take i ho ht hw hq (ADr.mix rs _ _ _ hb h)
      · exact aany_no i ho ht hw (ADr.mix rs _ _ _ hb h)
    · cases hb
  | (i, false) :: rs, listed, fr, m, hb, h => by
    obtain ⟨o, ho, hw, h⟩ := h
    simp only [ordQ, ho] at hb
    split at hb
    · rename_i ht
      simp only [Bool.and_eq_true, beq_iff_eq] at ht
      have e : ((i, false) :: rs).length + fuel' = (rs.length + fuel') + 1 := by simp; omega
      rw [e]
      exact aany_step i ho ht.1 ht.2 hw (h.mono fun v m' hk => ⟨hk.1, ADr.mix rs _ _ _ hb hk.2⟩)
    · cases hb
theorem awp_region_mix {id : Nat} (ord : List (Nat × Bool)) (listed' : Array Bool) (fuel' : Nat) (hm : P.follows .mixedOrders = true) (hl : ord.length + fuel' = ops.size) (hb : ordQ n ops (Array.replicate ops.size false) ord = some listed')
    (h : ADr P C r n ops (fun _ fr m => AAny P C r n ops Q fuel' listed' fr m) ord fr m) : AWp P C r n (.region id ops true) Q fr m :=
  awp_region_draw hm (by have g := ADr.mix ord _ fr m hb h; rw [hl] at g; exact g)
/-- What is known behind a piece of code. -/
def cutQ (ts : List Nat) (I : List Value → Mem → Prop) : Post
  | .normal, fr, m => I (ts.map fr) m
  | _, _, _ => False
theorem cut_n {ts : List Nat} {I : List Value → Mem → Prop} (h : I (ts.map fr) m) : cutQ ts I .normal fr m := h
theorem awp_cut {c : Code} (ts : List Nat) (I : List Value → Mem → Prop) (h : AWp P C r n c (cutQ ts I) fr m) (k : ∀ b vs m', I vs m' → Q .normal (upds b ts vs) m') : AWp P C r n c Q fr m := fun m0 w0 a w ha => by
  refine wpIn_mono (h m0 w0 a w ha) fun e a' w' hq => ?_
  cases e with
  | normal =>
    obtain ⟨fr', m', h1, h2⟩ := hq
    have := k fr' (ts.map fr') m' h2
    rw [upds_self] at this
    exact ⟨fr', m', h1, this⟩
  | exit id => obtain ⟨fr', m', h1, h2⟩ := hq; exact h2.elim
  | goto l => obtain ⟨fr', m', h1, h2⟩ := hq; exact h2.elim
  | ret => obtain ⟨fr', m', h1, h2⟩ := hq; exact h2.elim
  | panic c => exact hq.elim
  | outgrown => exact hq.elim
end each
end Go.Abs
namespace Go.Abs
open Go Go.RowKit
/-- A drawn region, cut off: quiet ones first, then whatever order. -/
theorem awp_cut_mix {P : Program} {W : World} {C : Cls W} {r : Option Nat} {n : Nat} {Q : Post} {fr : Fr} {m : Mem} {ops : Array Oper} {id : Nat} (ts : List Nat) (I : List Value → Mem → Prop) (ord : List (Nat × Bool)) (listed' : Array Bool) (fuel' : Nat)
    (hm : P.follows .mixedOrders = true) (hl : ord.length + fuel' = ops.size) (hb : ordQ n ops (Array.replicate ops.size false) ord = some listed')
    (h : ADr P C r n ops (fun _ fr m => AAny P C r n ops (cutQ ts I) fuel' listed' fr m) ord fr m) (k : ∀ b vs m', I vs m' → Q .normal (upds b ts vs) m') : AWp P C r n (.region id ops true) Q fr m :=
  awp_cut ts I (awp_region_mix ord listed' fuel' hm hl hb h) k
end Go.Abs
namespace Go.Abs
open Go Go.RowKit
section minx
variable {P : Program} {W : World} {C : Cls W} {o : Oper} {fr : Fr} {m : Mem}
theorem q_minX {x y : Operand} {ts : Array TypeId} {k : IntKind} {a b X : Int} (hX : min a b = X) (ho : o.op = .call { callee := .builtin .min, args := #[x, y], argTypes := ts }) (hx : evalF fr x = .int k a) (hy : evalF fr y = .int k b) : QOp P W o fr m (.int k X) := by
  subst hX; exact q_min ho hx hy
theorem q_maxX {x y : Operand} {ts : Array TypeId} {k : IntKind} {a b X : Int} (hX : max a b = X) (ho : o.op = .call { callee := .builtin .max, args := #[x, y], argTypes := ts }) (hx : evalF fr x = .int k a) (hy : evalF fr y = .int k b) : QOp P W o fr m (.int k X) := by
  subst hX; exact q_max ho hx hy
end minx
end Go.Abs
