import Derived.Test.YtnpdfcfjefbjgaaRef03e
import Derived.Test.YtnpdfcfjefbjgaaAbsOwns
set_option linter.unusedSectionVars false
set_option linter.unusedSimpArgs false
set_option linter.unusedVariables false
/-! Layer 3: the law's own helpers. -/
namespace Go.R03
open Go Go.Abs Go.RowKit Go.Proofs
set_option maxRecDepth 20000
attribute [local irreducible] AWp AOps ADr AAny thenQ blockQ retQ
set_option linter.unusedVariables false
theorem fGreatR : Fun Try.prog 50 := ⟨_, _, Try.func50, rfl, by kernel_rfl⟩
theorem great1_q (w : World) (v : Value) (n : Nat) (xs : List Value) (hv : SL w Mem.none 1 v n xs) : QCalls Try.prog 50 #[v] w (.bool (decide (120 < (n : Int)))) := by
  refine qcalls_of (acalls_of_body Try.func50 rfl (res1 rfl (by decide)) (Nat.le_of_ble_eq_true rfl) ?_)
  by_cases h : 120 < (n : Int) <;> simp only [h, decide_true, decide_false]
  all_goals (repeat (first | with_reducible (first | refine awp_seq ?_ | refine awp_region ?_ | refine awp_region_q (by kernel_rfl) (by kernel_rfl) ?_ | refine adr_nil ?_ | refine adr_end ?_ | refine aops_then ?_ | refine aops_nil ?_ | refine awp_block ?_ | refine px_then ?_ | refine px_block ?_ | refine px_block_ne rfl ?_ | refine pn_block ?_ | refine pn_then ?_ | refine pn_asg ?_ | refine pn_rnd ?_ | refine px_rnd ?_ | refine awp_exit ?_ | refine awp_skip ?_ | refine awp_ret ?_ | refine pr_then ?_ | refine pr_block ?_ | refine pr_rnd ?_ | refine pr_retM ?_ | refine pn_retM ?_ | refine pr_ret ?_ | refine pn_ret ?_) | refine awp_cond_t rfl rfl ?_ | refine awp_cond_f rfl rfl ?_ | ((first | apply aq (hd := rfl) (hok := rfl) (hw := rfl) | apply adr_q (ho := rfl) (hd := rfl) (hw := rfl)); (first | exact q_lenI iT hv rfl rfl | exact q_move rfl (by conv => lhs; whnf) | exact q_assign rfl (by conv => lhs; whnf) | exact q_add rfl rfl rfl (by omega) | exact q_sub rfl rfl rfl (by omega) | exact q_neg rfl rfl (by omega) | exact q_rem_in rfl rfl rfl (by omega) | exact q_quo_in rfl rfl rfl (by omega) | exact q_lss_t rfl rfl rfl (by omega) | exact q_lss_f rfl rfl rfl (by omega) | exact q_leq_t rfl rfl rfl (by omega) | exact q_leq_f rfl rfl rfl (by omega) | exact q_gtr_t rfl rfl rfl (by omega) | exact q_gtr_f rfl rfl rfl (by omega) | exact q_geq_t rfl rfl rfl (by omega) | exact q_geq_f rfl rfl rfl (by omega) | exact q_eql_t rfl rfl rfl (by omega) | exact q_eql_f rfl rfl rfl (by omega) | exact q_neq_t rfl rfl rfl (by omega) | exact q_neq_f rfl rfl rfl (by omega) | exact q_int rfl rfl rfl rfl | exact q_not rfl rfl | exact q_pick_t rfl rfl (by conv => lhs; whnf) | exact q_pick_f rfl rfl (by conv => lhs; whnf) | exact q_extract rfl rfl rfl | exact q_max rfl rfl rfl | exact q_min rfl rfl rfl)) | refine ano rfl rfl rfl ?_ | refine adr_no rfl rfl rfl ?_))
  all_goals rfl
theorem great1_b (w : World) (v : Value) (n : Nat) (xs : List Value) (hv : SL w Mem.none 1 v n xs) {b : Bool} (hb : decide (120 < (n : Int)) = b) : QCalls Try.prog 50 #[v] w (.bool b) := hb ▸ great1_q w v n xs hv
end Go.R03
