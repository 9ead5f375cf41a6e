import Derived.Test.YtoeijgdkoeofpaaRef06h
set_option linter.unusedSectionVars false
set_option linter.unusedSimpArgs false
set_option linter.unusedVariables false
/-! Layer 6: shadows and pictures, the reference's. -/
namespace Go.R06
open Go Go.Abs Go.RowKit Go.Proofs
set_option maxRecDepth 20000
set_option maxHeartbeats 8000000
attribute [local irreducible] AWp AOps ADr AAny thenQ blockQ retQ asgQ rndQ retM
set_option linter.unusedVariables false
set_option linter.unusedSectionVars false
theorem fSameB : Fun Try.prog 31 := ⟨_, _, Try.func31, rfl, by kernel_rfl⟩
theorem bls_at : ∀ {l : List Bool} {i : Nat}, i < l.length → (bls l)[i]? = some (.bool (l.getD i false))
  | b :: l, 0, _ => rfl
  | b :: l, i + 1, h => by
    have ih := bls_at (l := l) (i := i) (by simpa using h)
    show (Value.bool b :: bls l)[i + 1]? = _
    simpa using ih
theorem uB : Try.prog.underlying 4 = some .bool := Try.underlying4
theorem q_ixB {W : World} {o : Oper} {fr : Fr} {m : Mem} {x y : Operand} {k : IntKind} {v : Value} {n : Nat} {xs : List Value} {i : Nat} (h : SL W m 1 v n xs) (ho : o.op = .indexAddr 32 x y) (hx : evalF fr x = v) (hy : evalF fr y = .int k (i : Int)) (hn : i < n) : QOp Try.prog W o fr m (ptrAt v i) := by
  obtain ⟨ib, hi, _, hs, _⟩ := boInfo
  have := q_indexAddr (P := Try.prog) (W := W) (m := m) uLB hi hs h ho hx hy (by omega) (by omega)
  simpa using this
theorem q_ldB {W : World} {o : Oper} {fr : Fr} {m : Mem} {x : Operand} {v : Value} {n : Nat} {l : List Bool} {j : Nat} (h : SL W m 1 v n (bls l)) (hj : j < l.length) (ho : o.op = .load 4 x) (hx : evalF fr x = ptrAt v j) : QOp Try.prog W o fr m (.bool (l.getD j false)) :=
  q_load uB rfl h ho hx (bls_at hj)
theorem q_neB {W : World} {o : Oper} {fr : Fr} {m : Mem} {x y : Operand} {yt : TypeId} {p q b : Bool} (ho : o.op = .binOp .neq 4 x y yt) (hx : evalF fr x = .bool p) (hy : evalF fr y = .bool q) (hb : (!decide (p = q)) = b) : QOp Try.prog W o fr m (.bool b) := by
  subst hb
  have h := q_neb (P := Try.prog) (W := W) (m := m) uB ho hx hy
  have e : (p == q) = decide (p = q) := by cases p <;> cases q <;> rfl
  rw [e] at h
  exact h
theorem sameB_q (w : World) (va vb : Value) (a b : List Bool) (ha : SL w Mem.none 1 va a.length (bls a)) (hb : SL w Mem.none 1 vb b.length (bls b)) {r : Bool} (hr : decide (a = b) = r) :
    QCalls Try.prog 31 #[va, vb] w (.bool r) := by
  subst hr
  have hma : a.length ≤ 9223372036854775807 := by obtain ⟨_, _, _, _, h⟩ := ha.value; exact h
  have hmb : b.length ≤ 9223372036854775807 := by obtain ⟨_, _, _, _, h⟩ := hb.value; exact h
  refine qcalls_of (acalls_of_body Try.func31 rfl (res1 rfl (by decide)) (Nat.le_of_ble_eq_true rfl) ?_)
  by_cases hl : (a.length : Int) = b.length
  rotate_left 1
  · have : decide (a = b) = false := decide_eq_false (fun e => hl (by rw [e]))
    rw [this]
    repeat (first | with_reducible (first | refine awp_seq ?_ | refine awp_region ?_ | refine awp_region_q (by kernel_rfl) (by kernel_rfl) ?_ | refine adr_nil ?_ | refine adr_end ?_ | refine aops_then ?_ | refine aops_nil ?_ | refine awp_block ?_ | refine awp_label ?_ | refine awp_scope ?_ | refine pn_scope ?_ | refine px_scope ?_ | refine pr_scope ?_ | refine px_then ?_ | refine px_block ?_ | refine px_block_ne rfl ?_ | refine pn_block ?_ | refine pn_then ?_ | refine pn_asg ?_ | refine pn_rnd ?_ | refine px_rnd ?_ | refine awp_exit ?_ | refine awp_skip ?_ | refine awp_ret ?_ | refine pr_then ?_ | refine pr_block ?_ | refine pr_rnd ?_ | refine pr_retM ?_ | refine pn_retM ?_ | refine pr_ret ?_ | refine pn_ret ?_) | refine awp_cond_t rfl rfl ?_ | refine awp_cond_f rfl rfl ?_ | ((first | apply aq (hd := rfl) (hok := rfl) (hw := rfl) | apply adr_q (ho := rfl) (hd := rfl) (hw := rfl)); (first | exact q_len uLB ha rfl rfl | exact q_len uLB hb rfl rfl | exact q_move rfl (by conv => lhs; whnf) | exact q_assign rfl (by conv => lhs; whnf) | exact q_add rfl rfl rfl (by omega) | exact q_sub rfl rfl rfl (by omega) | exact q_neg rfl rfl (by omega) | exact q_rem_in rfl rfl rfl (by omega) | exact q_quo_in rfl rfl rfl (by omega) | exact q_lss_t rfl rfl rfl (by omega) | exact q_lss_f rfl rfl rfl (by omega) | exact q_leq_t rfl rfl rfl (by omega) | exact q_leq_f rfl rfl rfl (by omega) | exact q_gtr_t rfl rfl rfl (by omega) | exact q_gtr_f rfl rfl rfl (by omega) | exact q_geq_t rfl rfl rfl (by omega) | exact q_geq_f rfl rfl rfl (by omega) | exact q_eql_t rfl rfl rfl (by omega) | exact q_eql_f rfl rfl rfl (by omega) | exact q_neq_t rfl rfl rfl (by omega) | exact q_neq_f rfl rfl rfl (by omega) | exact q_int rfl rfl rfl rfl | exact q_not rfl rfl | exact q_pick_t rfl rfl (by conv => lhs; whnf) | exact q_pick_f rfl rfl (by conv => lhs; whnf) | exact q_extract rfl rfl rfl | exact q_max rfl rfl rfl | exact q_min rfl rfl rfl)) | refine ano rfl rfl rfl ?_ | refine adr_no rfl rfl rfl ?_)
    rfl
  have hl2 : a.length = b.length := by omega
  repeat (first | with_reducible (first | refine awp_seq ?_ | refine awp_region ?_ | refine awp_region_q (by kernel_rfl) (by kernel_rfl) ?_ | refine adr_nil ?_ | refine adr_end ?_ | refine aops_then ?_ | refine aops_nil ?_ | refine awp_block ?_ | refine awp_label ?_ | refine awp_scope ?_ | refine pn_scope ?_ | refine px_scope ?_ | refine pr_scope ?_ | refine px_then ?_ | refine px_block ?_ | refine px_block_ne rfl ?_ | refine pn_block ?_ | refine pn_then ?_ | refine pn_asg ?_ | refine pn_rnd ?_ | refine px_rnd ?_ | refine awp_exit ?_ | refine awp_skip ?_ | refine awp_ret ?_ | refine pr_then ?_ | refine pr_block ?_ | refine pr_rnd ?_ | refine pr_retM ?_ | refine pn_retM ?_ | refine pr_ret ?_ | refine pn_ret ?_) | refine awp_cond_t rfl rfl ?_ | refine awp_cond_f rfl rfl ?_ | ((first | apply aq (hd := rfl) (hok := rfl) (hw := rfl) | apply adr_q (ho := rfl) (hd := rfl) (hw := rfl)); (first | exact q_len uLB ha rfl rfl | exact q_len uLB hb rfl rfl | exact q_move rfl (by conv => lhs; whnf) | exact q_assign rfl (by conv => lhs; whnf) | exact q_add rfl rfl rfl (by omega) | exact q_sub rfl rfl rfl (by omega) | exact q_neg rfl rfl (by omega) | exact q_rem_in rfl rfl rfl (by omega) | exact q_quo_in rfl rfl rfl (by omega) | exact q_lss_t rfl rfl rfl (by omega) | exact q_lss_f rfl rfl rfl (by omega) | exact q_leq_t rfl rfl rfl (by omega) | exact q_leq_f rfl rfl rfl (by omega) | exact q_gtr_t rfl rfl rfl (by omega) | exact q_gtr_f rfl rfl rfl (by omega) | exact q_geq_t rfl rfl rfl (by omega) | exact q_geq_f rfl rfl rfl (by omega) | exact q_eql_t rfl rfl rfl (by omega) | exact q_eql_f rfl rfl rfl (by omega) | exact q_neq_t rfl rfl rfl (by omega) | exact q_neq_f rfl rfl rfl (by omega) | exact q_int rfl rfl rfl rfl | exact q_not rfl rfl | exact q_pick_t rfl rfl (by conv => lhs; whnf) | exact q_pick_f rfl rfl (by conv => lhs; whnf) | exact q_extract rfl rfl rfl | exact q_max rfl rfl rfl | exact q_min rfl rfl rfl)) | refine ano rfl rfl rfl ?_ | refine adr_no rfl rfl rfl ?_)
  refine awp_loop [0, 1, 5] (fun vs m => ∃ k : Nat, vs = [va, vb, .int .i64 k] ∧ k ≤ a.length ∧ m = Mem.none ∧ a.take k = b.take k) (fun vs _ => a.length - (intOf (vs.getD 2 undef)).toNat) ⟨0, rfl, Nat.zero_le _, rfl, rfl⟩ ?_
  rintro fr vs m - ⟨k, rfl, hk, rfl, hI⟩
  by_cases hlt : k < a.length
  · have hb2 : k < b.length := by omega
    obtain ⟨p, hp⟩ : ∃ p, a.getD k false = p := ⟨_, rfl⟩
    obtain ⟨q, hq⟩ : ∃ p, b.getD k false = p := ⟨_, rfl⟩
    have e1 := fun (o : Oper) (fr : Fr) (x : Operand) => q_ldB (W := w) (o := o) (fr := fr) (m := Mem.none) (x := x) ha (j := k) (by omega)
    have e2 := fun (o : Oper) (fr : Fr) (x : Operand) => q_ldB (W := w) (o := o) (fr := fr) (m := Mem.none) (x := x) hb (j := k) (by omega)
    rw [hp] at e1
    rw [hq] at e2
    by_cases he : p = q
    · have e : a.take (k + 1) = b.take (k + 1) := by
        rw [List.take_succ_eq_append_getElem hlt, List.take_succ_eq_append_getElem hb2, hI]
        rw [← hp, ← hq] at he
        simp [hlt, hb2] at he
        rw [he]
      have hr : (!decide (p = q)) = false := by rw [decide_eq_true he]; rfl
      repeat (first | with_reducible (first | refine awp_seq ?_ | refine awp_region ?_ | refine awp_region_q (by kernel_rfl) (by kernel_rfl) ?_ | refine adr_nil ?_ | refine adr_end ?_ | refine aops_then ?_ | refine aops_nil ?_ | refine awp_block ?_ | refine awp_label ?_ | refine awp_scope ?_ | refine pn_scope ?_ | refine px_scope ?_ | refine pr_scope ?_ | refine px_then ?_ | refine px_block ?_ | refine px_block_ne rfl ?_ | refine pn_block ?_ | refine pn_then ?_ | refine pn_asg ?_ | refine pn_rnd ?_ | refine px_rnd ?_ | refine awp_exit ?_ | refine awp_skip ?_ | refine awp_ret ?_ | refine pr_then ?_ | refine pr_block ?_ | refine pr_rnd ?_ | refine pr_retM ?_ | refine pn_retM ?_ | refine pr_ret ?_ | refine pn_ret ?_) | refine awp_cond_t rfl rfl ?_ | refine awp_cond_f rfl rfl ?_ | ((first | apply aq (hd := rfl) (hok := rfl) (hw := rfl) | apply adr_q (ho := rfl) (hd := rfl) (hw := rfl)); (first | exact q_len uLB ha rfl rfl | exact q_len uLB hb rfl rfl | exact q_ixB ha rfl rfl rfl (i := k) (by omega) | exact q_ixB hb rfl rfl rfl (i := k) (by omega) | exact e1 _ _ _ rfl rfl | exact e2 _ _ _ rfl rfl | exact q_neB (p := p) (q := q) rfl rfl rfl hr | exact q_move rfl (by conv => lhs; whnf) | exact q_assign rfl (by conv => lhs; whnf) | exact q_add rfl rfl rfl (by omega) | exact q_sub rfl rfl rfl (by omega) | exact q_neg rfl rfl (by omega) | exact q_rem_in rfl rfl rfl (by omega) | exact q_quo_in rfl rfl rfl (by omega) | exact q_lss_t rfl rfl rfl (by omega) | exact q_lss_f rfl rfl rfl (by omega) | exact q_leq_t rfl rfl rfl (by omega) | exact q_leq_f rfl rfl rfl (by omega) | exact q_gtr_t rfl rfl rfl (by omega) | exact q_gtr_f rfl rfl rfl (by omega) | exact q_geq_t rfl rfl rfl (by omega) | exact q_geq_f rfl rfl rfl (by omega) | exact q_eql_t rfl rfl rfl (by omega) | exact q_eql_f rfl rfl rfl (by omega) | exact q_neq_t rfl rfl rfl (by omega) | exact q_neq_f rfl rfl rfl (by omega) | exact q_int rfl rfl rfl rfl | exact q_not rfl rfl | exact q_pick_t rfl rfl (by conv => lhs; whnf) | exact q_pick_f rfl rfl (by conv => lhs; whnf) | exact q_extract rfl rfl rfl | exact q_max rfl rfl rfl | exact q_min rfl rfl rfl)) | refine ano rfl rfl rfl ?_ | refine adr_no rfl rfl rfl ?_)
      exact ⟨⟨k + 1, rfl, by omega, rfl, e⟩, by show a.length - ((k : Int) + 1).toNat < a.length - (k : Int).toNat; omega⟩
    · have hr : (!decide (p = q)) = true := by rw [decide_eq_false he]; rfl
      have : decide (a = b) = false := decide_eq_false (fun e => he (by rw [← hp, ← hq, e]))
      rw [this]
      repeat (first | with_reducible (first | refine awp_seq ?_ | refine awp_region ?_ | refine awp_region_q (by kernel_rfl) (by kernel_rfl) ?_ | refine adr_nil ?_ | refine adr_end ?_ | refine aops_then ?_ | refine aops_nil ?_ | refine awp_block ?_ | refine awp_label ?_ | refine awp_scope ?_ | refine pn_scope ?_ | refine px_scope ?_ | refine pr_scope ?_ | refine px_then ?_ | refine px_block ?_ | refine px_block_ne rfl ?_ | refine pn_block ?_ | refine pn_then ?_ | refine pn_asg ?_ | refine pn_rnd ?_ | refine px_rnd ?_ | refine awp_exit ?_ | refine awp_skip ?_ | refine awp_ret ?_ | refine pr_then ?_ | refine pr_block ?_ | refine pr_rnd ?_ | refine pr_retM ?_ | refine pn_retM ?_ | refine pr_ret ?_ | refine pn_ret ?_) | refine awp_cond_t rfl rfl ?_ | refine awp_cond_f rfl rfl ?_ | ((first | apply aq (hd := rfl) (hok := rfl) (hw := rfl) | apply adr_q (ho := rfl) (hd := rfl) (hw := rfl)); (first | exact q_len uLB ha rfl rfl | exact q_len uLB hb rfl rfl | exact q_ixB ha rfl rfl rfl (i := k) (by omega) | exact q_ixB hb rfl rfl rfl (i := k) (by omega) | exact e1 _ _ _ rfl rfl | exact e2 _ _ _ rfl rfl | exact q_neB (p := p) (q := q) rfl rfl rfl hr | exact q_move rfl (by conv => lhs; whnf) | exact q_assign rfl (by conv => lhs; whnf) | exact q_add rfl rfl rfl (by omega) | exact q_sub rfl rfl rfl (by omega) | exact q_neg rfl rfl (by omega) | exact q_rem_in rfl rfl rfl (by omega) | exact q_quo_in rfl rfl rfl (by omega) | exact q_lss_t rfl rfl rfl (by omega) | exact q_lss_f rfl rfl rfl (by omega) | exact q_leq_t rfl rfl rfl (by omega) | exact q_leq_f rfl rfl rfl (by omega) | exact q_gtr_t rfl rfl rfl (by omega) | exact q_gtr_f rfl rfl rfl (by omega) | exact q_geq_t rfl rfl rfl (by omega) | exact q_geq_f rfl rfl rfl (by omega) | exact q_eql_t rfl rfl rfl (by omega) | exact q_eql_f rfl rfl rfl (by omega) | exact q_neq_t rfl rfl rfl (by omega) | exact q_neq_f rfl rfl rfl (by omega) | exact q_int rfl rfl rfl rfl | exact q_not rfl rfl | exact q_pick_t rfl rfl (by conv => lhs; whnf) | exact q_pick_f rfl rfl (by conv => lhs; whnf) | exact q_extract rfl rfl rfl | exact q_max rfl rfl rfl | exact q_min rfl rfl rfl)) | refine ano rfl rfl rfl ?_ | refine adr_no rfl rfl rfl ?_)
      rfl
  · obtain rfl : k = a.length := by omega
    rw [List.take_length, List.take_of_length_le (by omega)] at hI
    rw [decide_eq_true hI]
    repeat (first | with_reducible (first | refine awp_seq ?_ | refine awp_region ?_ | refine awp_region_q (by kernel_rfl) (by kernel_rfl) ?_ | refine adr_nil ?_ | refine adr_end ?_ | refine aops_then ?_ | refine aops_nil ?_ | refine awp_block ?_ | refine awp_label ?_ | refine awp_scope ?_ | refine pn_scope ?_ | refine px_scope ?_ | refine pr_scope ?_ | refine px_then ?_ | refine px_block ?_ | refine px_block_ne rfl ?_ | refine pn_block ?_ | refine pn_then ?_ | refine pn_asg ?_ | refine pn_rnd ?_ | refine px_rnd ?_ | refine awp_exit ?_ | refine awp_skip ?_ | refine awp_ret ?_ | refine pr_then ?_ | refine pr_block ?_ | refine pr_rnd ?_ | refine pr_retM ?_ | refine pn_retM ?_ | refine pr_ret ?_ | refine pn_ret ?_) | refine awp_cond_t rfl rfl ?_ | refine awp_cond_f rfl rfl ?_ | ((first | apply aq (hd := rfl) (hok := rfl) (hw := rfl) | apply adr_q (ho := rfl) (hd := rfl) (hw := rfl)); (first | exact q_len uLB ha rfl rfl | exact q_len uLB hb rfl rfl | exact q_move rfl (by conv => lhs; whnf) | exact q_assign rfl (by conv => lhs; whnf) | exact q_add rfl rfl rfl (by omega) | exact q_sub rfl rfl rfl (by omega) | exact q_neg rfl rfl (by omega) | exact q_rem_in rfl rfl rfl (by omega) | exact q_quo_in rfl rfl rfl (by omega) | exact q_lss_t rfl rfl rfl (by omega) | exact q_lss_f rfl rfl rfl (by omega) | exact q_leq_t rfl rfl rfl (by omega) | exact q_leq_f rfl rfl rfl (by omega) | exact q_gtr_t rfl rfl rfl (by omega) | exact q_gtr_f rfl rfl rfl (by omega) | exact q_geq_t rfl rfl rfl (by omega) | exact q_geq_f rfl rfl rfl (by omega) | exact q_eql_t rfl rfl rfl (by omega) | exact q_eql_f rfl rfl rfl (by omega) | exact q_neq_t rfl rfl rfl (by omega) | exact q_neq_f rfl rfl rfl (by omega) | exact q_int rfl rfl rfl rfl | exact q_not rfl rfl | exact q_pick_t rfl rfl (by conv => lhs; whnf) | exact q_pick_f rfl rfl (by conv => lhs; whnf) | exact q_extract rfl rfl rfl | exact q_max rfl rfl rfl | exact q_min rfl rfl rfl)) | refine ano rfl rfl rfl ?_ | refine adr_no rfl rfl rfl ?_)
    rfl
end Go.R06
