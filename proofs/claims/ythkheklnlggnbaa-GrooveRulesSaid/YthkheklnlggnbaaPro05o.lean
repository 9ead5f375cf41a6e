import Derived.Test.YthkheklnlggnbaaPro05s
set_option linter.unusedSectionVars false
set_option linter.unusedSimpArgs false
set_option linter.unusedVariables false
/-! Layer 5: the program's functions: Order. -/
namespace Go.R05
open Go Go.Abs Go.RowKit Go.Proofs
set_option maxRecDepth 20000
set_option maxHeartbeats 4000000
attribute [local irreducible] AWp AOps ADr AAny thenQ blockQ retQ asgQ rndQ retM
set_option linter.unusedVariables false
set_option linter.unusedSectionVars false
theorem fIndex : Fun Try.prog 74 := ⟨_, _, Try.func74, rfl, by kernel_rfl⟩
theorem fOrder : Fun Try.prog 30 := ⟨_, _, Try.func30, rfl, by kernel_rfl⟩
/-- The first place of a number; -1 if there is none. -/
def idxOf (x : Int) : List Int → Nat → Int
  | [], _ => -1
  | z :: zs, k => if x = z then (k : Int) else idxOf x zs (k + 1)
theorem idxOf_bd (x : Int) : ∀ (zs : List Int) (k : Nat), idxOf x zs k = -1 ∨ ((k : Int) ≤ idxOf x zs k ∧ idxOf x zs k < k + zs.length)
  | [], k => .inl rfl
  | z :: zs, k => by
    unfold idxOf
    split
    · right; simp; omega
    · rcases idxOf_bd x zs (k + 1) with h | h
      · exact .inl h
      · right; simp at h ⊢; omega
theorem index_q (w : World) (v : Value) (x : Int) (zs : List Int) (hv : SL w Mem.none 1 v zs.length (i64s zs)) {r : Int} (hr : idxOf x zs 0 = r) : QCalls Try.prog 74 #[v, .int .i64 x] w (.int .i64 r) := by
  subst hr
  have hm : zs.length ≤ 9223372036854775807 := by obtain ⟨_, _, _, _, h⟩ := hv.value; exact h
  refine qcalls_of (acalls_of_body Try.func74 rfl (res1 rfl (by decide)) (Nat.le_of_ble_eq_true rfl) ?_)
  repeat (first | with_reducible (first | refine awp_seq ?_ | refine awp_region ?_ | refine awp_region_q (by kernel_rfl) (by kernel_rfl) ?_ | refine adr_nil ?_ | refine adr_end ?_ | refine aops_then ?_ | refine aops_nil ?_ | refine awp_block ?_ | refine awp_label ?_ | refine awp_scope ?_ | refine pn_scope ?_ | refine px_scope ?_ | refine pr_scope ?_ | refine px_then ?_ | refine px_block ?_ | refine px_block_ne rfl ?_ | refine pn_block ?_ | refine pn_then ?_ | refine pn_asg ?_ | refine pn_rnd ?_ | refine px_rnd ?_ | refine awp_exit ?_ | refine awp_skip ?_ | refine awp_ret ?_ | refine pr_then ?_ | refine pr_block ?_ | refine pr_rnd ?_ | refine pr_retM ?_ | refine pn_retM ?_ | refine pr_ret ?_ | refine pn_ret ?_) | refine awp_cond_t rfl rfl ?_ | refine awp_cond_f rfl rfl ?_ | ((first | apply aq (hd := rfl) (hok := rfl) (hw := rfl) | apply adr_q (ho := rfl) (hd := rfl) (hw := rfl)); (first | exact q_lenI iT hv rfl rfl | exact q_move rfl (by conv => lhs; whnf) | exact q_assign rfl (by conv => lhs; whnf) | exact q_add rfl rfl rfl (by omega) | exact q_sub rfl rfl rfl (by omega) | exact q_neg rfl rfl (by omega) | exact q_rem_in rfl rfl rfl (by omega) | exact q_quo_in rfl rfl rfl (by omega) | exact q_lss_t rfl rfl rfl (by omega) | exact q_lss_f rfl rfl rfl (by omega) | exact q_leq_t rfl rfl rfl (by omega) | exact q_leq_f rfl rfl rfl (by omega) | exact q_gtr_t rfl rfl rfl (by omega) | exact q_gtr_f rfl rfl rfl (by omega) | exact q_geq_t rfl rfl rfl (by omega) | exact q_geq_f rfl rfl rfl (by omega) | exact q_eql_t rfl rfl rfl (by omega) | exact q_eql_f rfl rfl rfl (by omega) | exact q_neq_t rfl rfl rfl (by omega) | exact q_neq_f rfl rfl rfl (by omega) | exact q_int rfl rfl rfl rfl | exact q_not rfl rfl | exact q_pick_t rfl rfl (by conv => lhs; whnf) | exact q_pick_f rfl rfl (by conv => lhs; whnf) | exact q_extract rfl rfl rfl | exact q_max rfl rfl rfl | exact q_min rfl rfl rfl)) | refine ano rfl rfl rfl ?_ | refine adr_no rfl rfl rfl ?_)
  refine awp_loop [0, 1, 7, 8] (fun vs m => ∃ k : Nat, vs = [v, .int .i64 x, .int .i64 zs.length, .int .i64 k] ∧ k ≤ zs.length ∧ m = Mem.none ∧ idxOf x zs 0 = idxOf x (zs.drop k) k) (fun vs _ => zs.length - (intOf (vs.getD 3 undef)).toNat) ⟨0, rfl, Nat.zero_le _, rfl, rfl⟩ ?_
  rintro fr vs m - ⟨k, rfl, hk, rfl, hI⟩
  by_cases hlt : k < zs.length
  · have hd : zs.drop k = zs.getD k 0 :: zs.drop (k + 1) := by
      rw [List.drop_eq_getElem_cons hlt]; simp [hlt]
    rw [hd, show idxOf x (zs.getD k 0 :: zs.drop (k + 1)) k = if x = zs.getD k 0 then (k : Int) else idxOf x (zs.drop (k + 1)) (k + 1) from rfl] at hI
    by_cases he : x = zs.getD k 0
    · rw [if_pos he] at hI
      repeat (first | with_reducible (first | refine awp_seq ?_ | refine awp_region ?_ | refine awp_region_q (by kernel_rfl) (by kernel_rfl) ?_ | refine adr_nil ?_ | refine adr_end ?_ | refine aops_then ?_ | refine aops_nil ?_ | refine awp_block ?_ | refine awp_label ?_ | refine awp_scope ?_ | refine pn_scope ?_ | refine px_scope ?_ | refine pr_scope ?_ | refine px_then ?_ | refine px_block ?_ | refine px_block_ne rfl ?_ | refine pn_block ?_ | refine pn_then ?_ | refine pn_asg ?_ | refine pn_rnd ?_ | refine px_rnd ?_ | refine awp_exit ?_ | refine awp_skip ?_ | refine awp_ret ?_ | refine pr_then ?_ | refine pr_block ?_ | refine pr_rnd ?_ | refine pr_retM ?_ | refine pn_retM ?_ | refine pr_ret ?_ | refine pn_ret ?_) | refine awp_cond_t rfl rfl ?_ | refine awp_cond_f rfl rfl ?_ | ((first | apply aq (hd := rfl) (hok := rfl) (hw := rfl) | apply adr_q (ho := rfl) (hd := rfl) (hw := rfl)); (first | exact q_ixN iT hv rfl rfl rfl (i := k) hlt | exact q_ldI iT hv rfl rfl (j := k) hlt | exact q_move rfl (by conv => lhs; whnf) | exact q_assign rfl (by conv => lhs; whnf) | exact q_add rfl rfl rfl (by omega) | exact q_sub rfl rfl rfl (by omega) | exact q_neg rfl rfl (by omega) | exact q_rem_in rfl rfl rfl (by omega) | exact q_quo_in rfl rfl rfl (by omega) | exact q_lss_t rfl rfl rfl (by omega) | exact q_lss_f rfl rfl rfl (by omega) | exact q_leq_t rfl rfl rfl (by omega) | exact q_leq_f rfl rfl rfl (by omega) | exact q_gtr_t rfl rfl rfl (by omega) | exact q_gtr_f rfl rfl rfl (by omega) | exact q_geq_t rfl rfl rfl (by omega) | exact q_geq_f rfl rfl rfl (by omega) | exact q_eql_t rfl rfl rfl (by omega) | exact q_eql_f rfl rfl rfl (by omega) | exact q_neq_t rfl rfl rfl (by omega) | exact q_neq_f rfl rfl rfl (by omega) | exact q_int rfl rfl rfl rfl | exact q_not rfl rfl | exact q_pick_t rfl rfl (by conv => lhs; whnf) | exact q_pick_f rfl rfl (by conv => lhs; whnf) | exact q_extract rfl rfl rfl | exact q_max rfl rfl rfl | exact q_min rfl rfl rfl)) | refine ano rfl rfl rfl ?_ | refine adr_no rfl rfl rfl ?_)
      rw [hI]; rfl
    · rw [if_neg he] at hI
      repeat (first | with_reducible (first | refine awp_seq ?_ | refine awp_region ?_ | refine awp_region_q (by kernel_rfl) (by kernel_rfl) ?_ | refine adr_nil ?_ | refine adr_end ?_ | refine aops_then ?_ | refine aops_nil ?_ | refine awp_block ?_ | refine awp_label ?_ | refine awp_scope ?_ | refine pn_scope ?_ | refine px_scope ?_ | refine pr_scope ?_ | refine px_then ?_ | refine px_block ?_ | refine px_block_ne rfl ?_ | refine pn_block ?_ | refine pn_then ?_ | refine pn_asg ?_ | refine pn_rnd ?_ | refine px_rnd ?_ | refine awp_exit ?_ | refine awp_skip ?_ | refine awp_ret ?_ | refine pr_then ?_ | refine pr_block ?_ | refine pr_rnd ?_ | refine pr_retM ?_ | refine pn_retM ?_ | refine pr_ret ?_ | refine pn_ret ?_) | refine awp_cond_t rfl rfl ?_ | refine awp_cond_f rfl rfl ?_ | ((first | apply aq (hd := rfl) (hok := rfl) (hw := rfl) | apply adr_q (ho := rfl) (hd := rfl) (hw := rfl)); (first | exact q_ixN iT hv rfl rfl rfl (i := k) hlt | exact q_ldI iT hv rfl rfl (j := k) hlt | exact q_move rfl (by conv => lhs; whnf) | exact q_assign rfl (by conv => lhs; whnf) | exact q_add rfl rfl rfl (by omega) | exact q_sub rfl rfl rfl (by omega) | exact q_neg rfl rfl (by omega) | exact q_rem_in rfl rfl rfl (by omega) | exact q_quo_in rfl rfl rfl (by omega) | exact q_lss_t rfl rfl rfl (by omega) | exact q_lss_f rfl rfl rfl (by omega) | exact q_leq_t rfl rfl rfl (by omega) | exact q_leq_f rfl rfl rfl (by omega) | exact q_gtr_t rfl rfl rfl (by omega) | exact q_gtr_f rfl rfl rfl (by omega) | exact q_geq_t rfl rfl rfl (by omega) | exact q_geq_f rfl rfl rfl (by omega) | exact q_eql_t rfl rfl rfl (by omega) | exact q_eql_f rfl rfl rfl (by omega) | exact q_neq_t rfl rfl rfl (by omega) | exact q_neq_f rfl rfl rfl (by omega) | exact q_int rfl rfl rfl rfl | exact q_not rfl rfl | exact q_pick_t rfl rfl (by conv => lhs; whnf) | exact q_pick_f rfl rfl (by conv => lhs; whnf) | exact q_extract rfl rfl rfl | exact q_max rfl rfl rfl | exact q_min rfl rfl rfl)) | refine ano rfl rfl rfl ?_ | refine adr_no rfl rfl rfl ?_)
      exact ⟨⟨k + 1, rfl, by omega, rfl, hI⟩, by show zs.length - ((k : Int) + 1).toNat < zs.length - (k : Int).toNat; omega⟩
  · repeat (first | with_reducible (first | refine awp_seq ?_ | refine awp_region ?_ | refine awp_region_q (by kernel_rfl) (by kernel_rfl) ?_ | refine adr_nil ?_ | refine adr_end ?_ | refine aops_then ?_ | refine aops_nil ?_ | refine awp_block ?_ | refine awp_label ?_ | refine awp_scope ?_ | refine pn_scope ?_ | refine px_scope ?_ | refine pr_scope ?_ | refine px_then ?_ | refine px_block ?_ | refine px_block_ne rfl ?_ | refine pn_block ?_ | refine pn_then ?_ | refine pn_asg ?_ | refine pn_rnd ?_ | refine px_rnd ?_ | refine awp_exit ?_ | refine awp_skip ?_ | refine awp_ret ?_ | refine pr_then ?_ | refine pr_block ?_ | refine pr_rnd ?_ | refine pr_retM ?_ | refine pn_retM ?_ | refine pr_ret ?_ | refine pn_ret ?_) | refine awp_cond_t rfl rfl ?_ | refine awp_cond_f rfl rfl ?_ | ((first | apply aq (hd := rfl) (hok := rfl) (hw := rfl) | apply adr_q (ho := rfl) (hd := rfl) (hw := rfl)); (first | exact q_move rfl (by conv => lhs; whnf) | exact q_assign rfl (by conv => lhs; whnf) | exact q_add rfl rfl rfl (by omega) | exact q_sub rfl rfl rfl (by omega) | exact q_neg rfl rfl (by omega) | exact q_rem_in rfl rfl rfl (by omega) | exact q_quo_in rfl rfl rfl (by omega) | exact q_lss_t rfl rfl rfl (by omega) | exact q_lss_f rfl rfl rfl (by omega) | exact q_leq_t rfl rfl rfl (by omega) | exact q_leq_f rfl rfl rfl (by omega) | exact q_gtr_t rfl rfl rfl (by omega) | exact q_gtr_f rfl rfl rfl (by omega) | exact q_geq_t rfl rfl rfl (by omega) | exact q_geq_f rfl rfl rfl (by omega) | exact q_eql_t rfl rfl rfl (by omega) | exact q_eql_f rfl rfl rfl (by omega) | exact q_neq_t rfl rfl rfl (by omega) | exact q_neq_f rfl rfl rfl (by omega) | exact q_int rfl rfl rfl rfl | exact q_not rfl rfl | exact q_pick_t rfl rfl (by conv => lhs; whnf) | exact q_pick_f rfl rfl (by conv => lhs; whnf) | exact q_extract rfl rfl rfl | exact q_max rfl rfl rfl | exact q_min rfl rfl rfl)) | refine ano rfl rfl rfl ?_ | refine adr_no rfl rfl rfl ?_)
    have : k = zs.length := by omega
    subst this
    rw [hI, List.drop_length]; rfl
/-- A front part of an array, as a slice. -/
theorem q_cutArr {P : Program} {W : World} {o : Oper} {fr : Fr} {m : Mem} {T e : TypeId} {len : Nat} {x y : Operand} {k : IntKind} {B j hi : Nat} (ho : o.op = .slice T x none (some y) none) (hx : evalF fr x = .pointer (some ⟨B, j, Option.none⟩)) (hy : evalF fr y = .int k (hi : Int)) (hT : P.underlying T = some (.array len e)) (hs : (P.info? e).map (·.size) = some 1) (hh : hi ≤ len) :
    QOp P W o fr m (.slice (some ⟨B, j, Option.none⟩) hi len) := q_of_run fun w _ => by
  cases hi' : P.info? e with
  | none => rw [hi'] at hs; cases hs
  | some inf =>
    rw [hi'] at hs
    have hs : inf.size = 1 := by simpa using hs
    by_cases h0 : len = 0
    · subst h0
      obtain rfl : hi = 0 := by omega
      simp [execOp, ho, hx, hy, Instr.sliceAt, underlying, hT, Instr.sliceBounds, Instr.sliceBound, asIntOf, sizeOf, typeInfo, hi', hs, Instr.sureAddr]
    · have h1 : (hi : Int) ≤ len := by omega
      simp [execOp, ho, hx, hy, Instr.sliceAt, underlying, hT, Instr.sliceBounds, Instr.sliceBound, asIntOf, sizeOf, typeInfo, hi', hs, Instr.sureAddr, addr_add, h0, hh, h1]
end Go.R05
