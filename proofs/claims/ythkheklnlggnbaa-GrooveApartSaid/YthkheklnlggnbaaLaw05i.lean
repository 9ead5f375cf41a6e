import Derived.Test.YthkheklnlggnbaaLaw05b
import Derived.Test.YthkheklnlggnbaaRef05b
import Derived.Test.YthkheklnlggnbaaMat05a
set_option linter.unusedSectionVars false
set_option linter.unusedSimpArgs false
set_option linter.unusedVariables false
/-! Layer 5: GrooveApart. -/
namespace Go.R05
open Go Go.Abs Go.RowKit Go.Proofs
set_option maxRecDepth 20000
set_option maxHeartbeats 8000000
attribute [local irreducible] AWp AOps ADr AAny thenQ blockQ retQ asgQ rndQ retM
set_option linter.unusedVariables false
set_option linter.unusedSectionVars false
theorem q_eqS5 {W : World} {o : Oper} {fr : Fr} {m : Mem} {x y : Operand} {yt : TypeId} {p q : Sq} {b : Bool} (ho : o.op = .binOp .eql 32 x y yt) (hx : evalF fr x = sp p) (hy : evalF fr y = sp q) (hb : decide (p = q) = b) : QOp Try.prog W o fr m (.bool b) := by
  refine q_eqlS (ds := [(0, .int .i64), (1, .int .i64)]) Try.underlying32 (by kernel_rfl) (by kernel_rfl) (by kernel_rfl) ho hx hy ?_
  subst hb
  show some ((p.1 == q.1) && ((p.2 == q.2) && true)) = some (decide _)
  congr 1
  rw [Bool.eq_iff_iff]
  simp [Prod.ext_iff]
theorem uB5 : Try.prog.underlying 4 = some .bool := Try.underlying4
theorem one_spC (l : List Sp) : ∀ u ∈ spC l, u.oneCell' = true := fun u hu => by
  simp only [spC, List.mem_flatMap] at hu; obtain ⟨p, _, hu⟩ := hu; simp at hu; rcases hu with rfl | rfl <;> rfl
theorem one_two (x y : Int) : ∀ u ∈ [[Value.int .i64 x, Value.int .i64 y]].flatten, u.oneCell' = true := fun u hu => by
  simp at hu; rcases hu with rfl | rfl <;> rfl
theorem ok_spot {a : List Sp} {s : Sp} (h : okLine a = true) (hs : s ∈ a) : okLine [s] = true := by
  unfold okLine at *
  simp only [Bool.and_eq_true] at *
  refine ⟨rfl, ?_⟩
  have := List.all_eq_true.1 h.2 s hs
  simp [this]
theorem ok_snoc {a b : List Sp} {s : Sp} (h : okLine a = true) (hb : okLine b = true) (hs : s ∈ b) (hl : a.length ≤ 11) : okLine (a ++ [s]) = true := by
  unfold okLine at *
  simp only [Bool.and_eq_true] at *
  refine ⟨?_, ?_⟩
  · have := ws_t h.1
    unfold ws; simp; omega
  · have := List.all_eq_true.1 hb.2 s hs
    rw [List.all_append, h.2]
    simp [this]
theorem apart_law (W : World) (va vb : Value) (a b : List Sp) (n i : Int) (hva : SL W Mem.none 2 va a.length (spC a)) (hvb : SL W Mem.none 2 vb b.length (spC b)) :
    ACalls Try.prog (gen W) 12 #[va, vb, .int .i64 n, .int .i64 i] Mem.none (fun v _ => v = .bool true) := by
  have hma : a.length ≤ 9223372036854775807 := by obtain ⟨_, _, _, _, h⟩ := hva.value; exact h
  have hmb : b.length ≤ 9223372036854775807 := by obtain ⟨_, _, _, _, h⟩ := hvb.value; exact h
  refine acalls_of_body Try.func12 rfl (res1 rfl (by decide)) (Nat.le_of_ble_eq_true rfl) ?_
  obtain ⟨iv, hvi, hvz, hvs, hvb16⟩ := spInfo
  have H := HP.nil Mem.none
  have Dc := fun (W : World) h1 h2 => Distance_c W va vb a b h1 h2
  have Ac := fun (W : World) h1 h2 => Apart_c W va vb a b n h1 h2
  repeat (first | with_reducible (first | refine awp_seq ?_ | refine awp_region ?_ | refine awp_region_q (by kernel_rfl) (by kernel_rfl) ?_ | refine adr_nil ?_ | refine adr_end ?_ | refine aops_then ?_ | refine aops_nil ?_ | refine awp_block ?_ | refine px_then ?_ | refine px_block ?_ | refine px_block_ne rfl ?_ | refine pn_block ?_ | refine pn_then ?_ | refine pn_asg ?_ | refine pn_rnd ?_ | refine px_rnd ?_ | refine awp_exit ?_ | refine awp_skip ?_ | refine awp_ret ?_ | refine pr_then ?_ | refine pr_block ?_ | refine pr_rnd ?_ | refine pr_retM ?_ | refine pn_retM ?_ | refine pr_ret ?_ | refine pn_ret ?_) | refine awp_cond_t rfl rfl ?_ | refine awp_cond_f rfl rfl ?_ | ((first | apply aq (hd := rfl) (hok := rfl) (hw := rfl) | apply adr_q (ho := rfl) (hd := rfl) (hw := rfl)); (first | exact q_move rfl (by conv => lhs; whnf) | exact q_assign rfl (by conv => lhs; whnf) | exact q_add rfl rfl rfl (by omega) | exact q_lss_t rfl rfl rfl (by omega) | exact q_lss_f rfl rfl rfl (by omega) | exact q_gtr_t rfl rfl rfl (by omega) | exact q_gtr_f rfl rfl rfl (by omega) | exact q_geq_t rfl rfl rfl (by omega) | exact q_geq_f rfl rfl rfl (by omega) | exact q_eql_t rfl rfl rfl (by omega) | exact q_eql_f rfl rfl rfl (by omega) | exact q_neq_t rfl rfl rfl (by omega) | exact q_neq_f rfl rfl rfl (by omega) | exact q_int rfl rfl rfl rfl | exact q_not rfl rfl | exact q_pick_t rfl rfl (by conv => lhs; whnf) | exact q_pick_f rfl rfl (by conv => lhs; whnf) | exact q_extract rfl rfl rfl)) | refine ano rfl rfl rfl ?_ | refine adr_no rfl rfl rfl ?_)
  refine aa rfl rfl rfl (h_call fAlive (fun w hw => alive_c w) rfl rfl (fun va ma hR hS => ?_))
  obtain rfl := hR
  have H := H.callOnly hS
  by_cases h1 : (20 : Int) < a.length
  · repeat (first | with_reducible (first | refine awp_seq ?_ | refine awp_region ?_ | refine awp_region_q (by kernel_rfl) (by kernel_rfl) ?_ | refine adr_nil ?_ | refine adr_end ?_ | refine aops_then ?_ | refine aops_nil ?_ | refine awp_block ?_ | refine px_then ?_ | refine px_block ?_ | refine px_block_ne rfl ?_ | refine pn_block ?_ | refine pn_then ?_ | refine pn_asg ?_ | refine pn_rnd ?_ | refine px_rnd ?_ | refine awp_exit ?_ | refine awp_skip ?_ | refine awp_ret ?_ | refine pr_then ?_ | refine pr_block ?_ | refine pr_rnd ?_ | refine pr_retM ?_ | refine pn_retM ?_ | refine pr_ret ?_ | refine pn_ret ?_) | refine awp_cond_t rfl rfl ?_ | refine awp_cond_f rfl rfl ?_ | ((first | apply aq (hd := rfl) (hok := rfl) (hw := rfl) | apply adr_q (ho := rfl) (hd := rfl) (hw := rfl)); (first | exact q_len uLS (hva.le (Le.none _)) rfl rfl | exact q_len uLS (hvb.le (Le.none _)) rfl rfl | exact q_move rfl (by conv => lhs; whnf) | exact q_assign rfl (by conv => lhs; whnf) | exact q_add rfl rfl rfl (by omega) | exact q_lss_t rfl rfl rfl (by omega) | exact q_lss_f rfl rfl rfl (by omega) | exact q_gtr_t rfl rfl rfl (by omega) | exact q_gtr_f rfl rfl rfl (by omega) | exact q_geq_t rfl rfl rfl (by omega) | exact q_geq_f rfl rfl rfl (by omega) | exact q_eql_t rfl rfl rfl (by omega) | exact q_eql_f rfl rfl rfl (by omega) | exact q_neq_t rfl rfl rfl (by omega) | exact q_neq_f rfl rfl rfl (by omega) | exact q_int rfl rfl rfl rfl | exact q_not rfl rfl | exact q_pick_t rfl rfl (by conv => lhs; whnf) | exact q_pick_f rfl rfl (by conv => lhs; whnf) | exact q_extract rfl rfl rfl)) | refine ano rfl rfl rfl ?_ | refine adr_no rfl rfl rfl ?_)
    rfl
  by_cases h2 : (20 : Int) < b.length
  · repeat (first | with_reducible (first | refine awp_seq ?_ | refine awp_region ?_ | refine awp_region_q (by kernel_rfl) (by kernel_rfl) ?_ | refine adr_nil ?_ | refine adr_end ?_ | refine aops_then ?_ | refine aops_nil ?_ | refine awp_block ?_ | refine px_then ?_ | refine px_block ?_ | refine px_block_ne rfl ?_ | refine pn_block ?_ | refine pn_then ?_ | refine pn_asg ?_ | refine pn_rnd ?_ | refine px_rnd ?_ | refine awp_exit ?_ | refine awp_skip ?_ | refine awp_ret ?_ | refine pr_then ?_ | refine pr_block ?_ | refine pr_rnd ?_ | refine pr_retM ?_ | refine pn_retM ?_ | refine pr_ret ?_ | refine pn_ret ?_) | refine awp_cond_t rfl rfl ?_ | refine awp_cond_f rfl rfl ?_ | ((first | apply aq (hd := rfl) (hok := rfl) (hw := rfl) | apply adr_q (ho := rfl) (hd := rfl) (hw := rfl)); (first | exact q_len uLS (hva.le (Le.none _)) rfl rfl | exact q_len uLS (hvb.le (Le.none _)) rfl rfl | exact q_move rfl (by conv => lhs; whnf) | exact q_assign rfl (by conv => lhs; whnf) | exact q_add rfl rfl rfl (by omega) | exact q_lss_t rfl rfl rfl (by omega) | exact q_lss_f rfl rfl rfl (by omega) | exact q_gtr_t rfl rfl rfl (by omega) | exact q_gtr_f rfl rfl rfl (by omega) | exact q_geq_t rfl rfl rfl (by omega) | exact q_geq_f rfl rfl rfl (by omega) | exact q_eql_t rfl rfl rfl (by omega) | exact q_eql_f rfl rfl rfl (by omega) | exact q_neq_t rfl rfl rfl (by omega) | exact q_neq_f rfl rfl rfl (by omega) | exact q_int rfl rfl rfl rfl | exact q_not rfl rfl | exact q_pick_t rfl rfl (by conv => lhs; whnf) | exact q_pick_f rfl rfl (by conv => lhs; whnf) | exact q_extract rfl rfl rfl)) | refine ano rfl rfl rfl ?_ | refine adr_no rfl rfl rfl ?_)
    rfl
  repeat (first | with_reducible (first | refine awp_seq ?_ | refine awp_region ?_ | refine awp_region_q (by kernel_rfl) (by kernel_rfl) ?_ | refine adr_nil ?_ | refine adr_end ?_ | refine aops_then ?_ | refine aops_nil ?_ | refine awp_block ?_ | refine px_then ?_ | refine px_block ?_ | refine px_block_ne rfl ?_ | refine pn_block ?_ | refine pn_then ?_ | refine pn_asg ?_ | refine pn_rnd ?_ | refine px_rnd ?_ | refine awp_exit ?_ | refine awp_skip ?_ | refine awp_ret ?_ | refine pr_then ?_ | refine pr_block ?_ | refine pr_rnd ?_ | refine pr_retM ?_ | refine pn_retM ?_ | refine pr_ret ?_ | refine pn_ret ?_) | refine awp_cond_t rfl rfl ?_ | refine awp_cond_f rfl rfl ?_ | ((first | apply aq (hd := rfl) (hok := rfl) (hw := rfl) | apply adr_q (ho := rfl) (hd := rfl) (hw := rfl)); (first | exact q_len uLS (hva.le (Le.none _)) rfl rfl | exact q_len uLS (hvb.le (Le.none _)) rfl rfl | exact q_move rfl (by conv => lhs; whnf) | exact q_assign rfl (by conv => lhs; whnf) | exact q_add rfl rfl rfl (by omega) | exact q_lss_t rfl rfl rfl (by omega) | exact q_lss_f rfl rfl rfl (by omega) | exact q_gtr_t rfl rfl rfl (by omega) | exact q_gtr_f rfl rfl rfl (by omega) | exact q_geq_t rfl rfl rfl (by omega) | exact q_geq_f rfl rfl rfl (by omega) | exact q_eql_t rfl rfl rfl (by omega) | exact q_eql_f rfl rfl rfl (by omega) | exact q_neq_t rfl rfl rfl (by omega) | exact q_neq_f rfl rfl rfl (by omega) | exact q_int rfl rfl rfl rfl | exact q_not rfl rfl | exact q_pick_t rfl rfl (by conv => lhs; whnf) | exact q_pick_f rfl rfl (by conv => lhs; whnf) | exact q_extract rfl rfl rfl)) | refine ano rfl rfl rfl ?_ | refine adr_no rfl rfl rfl ?_)
  cases hab : bothL a b
  · rw [hab] at Dc Ac
    simp only [Bool.false_and, Bool.false_eq_true, if_false] at Dc Ac
    repeat (first | with_reducible (first | refine awp_seq ?_ | refine awp_region ?_ | refine awp_region_q (by kernel_rfl) (by kernel_rfl) ?_ | refine adr_nil ?_ | refine adr_end ?_ | refine aops_then ?_ | refine aops_nil ?_ | refine awp_block ?_ | refine px_then ?_ | refine px_block ?_ | refine px_block_ne rfl ?_ | refine pn_block ?_ | refine pn_then ?_ | refine pn_asg ?_ | refine pn_rnd ?_ | refine px_rnd ?_ | refine awp_exit ?_ | refine awp_skip ?_ | refine awp_ret ?_ | refine pr_then ?_ | refine pr_block ?_ | refine pr_rnd ?_ | refine pr_retM ?_ | refine pn_retM ?_ | refine pr_ret ?_ | refine pn_ret ?_) | refine awp_cond_t rfl rfl ?_ | refine awp_cond_f rfl rfl ?_ | ((first | apply aq (hd := rfl) (hok := rfl) (hw := rfl) | apply adr_q (ho := rfl) (hd := rfl) (hw := rfl)); (first | exact q_move rfl (by conv => lhs; whnf) | exact q_assign rfl (by conv => lhs; whnf) | exact q_add rfl rfl rfl (by omega) | exact q_lss_t rfl rfl rfl (by omega) | exact q_lss_f rfl rfl rfl (by omega) | exact q_gtr_t rfl rfl rfl (by omega) | exact q_gtr_f rfl rfl rfl (by omega) | exact q_geq_t rfl rfl rfl (by omega) | exact q_geq_f rfl rfl rfl (by omega) | exact q_eql_t rfl rfl rfl (by omega) | exact q_eql_f rfl rfl rfl (by omega) | exact q_neq_t rfl rfl rfl (by omega) | exact q_neq_f rfl rfl rfl (by omega) | exact q_int rfl rfl rfl rfl | exact q_not rfl rfl | exact q_pick_t rfl rfl (by conv => lhs; whnf) | exact q_pick_f rfl rfl (by conv => lhs; whnf) | exact q_extract rfl rfl rfl)) | refine ano rfl rfl rfl ?_ | refine adr_no rfl rfl rfl ?_)
    refine aa rfl rfl rfl (h_call fDistance (fun w hw => Dc w ((hva.le (Le.none _)).world hw) ((hvb.le (Le.none _)).world hw)) rfl rfl (fun va ma hR hS => ?_))
    obtain rfl := hR
    have H := H.callOnly hS
    repeat (first | with_reducible (first | refine awp_seq ?_ | refine awp_region ?_ | refine awp_region_q (by kernel_rfl) (by kernel_rfl) ?_ | refine adr_nil ?_ | refine adr_end ?_ | refine aops_then ?_ | refine aops_nil ?_ | refine awp_block ?_ | refine px_then ?_ | refine px_block ?_ | refine px_block_ne rfl ?_ | refine pn_block ?_ | refine pn_then ?_ | refine pn_asg ?_ | refine pn_rnd ?_ | refine px_rnd ?_ | refine awp_exit ?_ | refine awp_skip ?_ | refine awp_ret ?_ | refine pr_then ?_ | refine pr_block ?_ | refine pr_rnd ?_ | refine pr_retM ?_ | refine pn_retM ?_ | refine pr_ret ?_ | refine pn_ret ?_) | refine awp_cond_t rfl rfl ?_ | refine awp_cond_f rfl rfl ?_ | ((first | apply aq (hd := rfl) (hok := rfl) (hw := rfl) | apply adr_q (ho := rfl) (hd := rfl) (hw := rfl)); (first | exact q_move rfl (by conv => lhs; whnf) | exact q_assign rfl (by conv => lhs; whnf) | exact q_add rfl rfl rfl (by omega) | exact q_lss_t rfl rfl rfl (by omega) | exact q_lss_f rfl rfl rfl (by omega) | exact q_gtr_t rfl rfl rfl (by omega) | exact q_gtr_f rfl rfl rfl (by omega) | exact q_geq_t rfl rfl rfl (by omega) | exact q_geq_f rfl rfl rfl (by omega) | exact q_eql_t rfl rfl rfl (by omega) | exact q_eql_f rfl rfl rfl (by omega) | exact q_neq_t rfl rfl rfl (by omega) | exact q_neq_f rfl rfl rfl (by omega) | exact q_int rfl rfl rfl rfl | exact q_not rfl rfl | exact q_pick_t rfl rfl (by conv => lhs; whnf) | exact q_pick_f rfl rfl (by conv => lhs; whnf) | exact q_extract rfl rfl rfl)) | refine ano rfl rfl rfl ?_ | refine adr_no rfl rfl rfl ?_)
    refine aa rfl rfl rfl (h_A2 tSQ H rfl (fun B10 m7 H _ => ?_))
    repeat (first | with_reducible (first | refine awp_seq ?_ | refine awp_region ?_ | refine awp_region_q (by kernel_rfl) (by kernel_rfl) ?_ | refine adr_nil ?_ | refine adr_end ?_ | refine aops_then ?_ | refine aops_nil ?_ | refine awp_block ?_ | refine px_then ?_ | refine px_block ?_ | refine px_block_ne rfl ?_ | refine pn_block ?_ | refine pn_then ?_ | refine pn_asg ?_ | refine pn_rnd ?_ | refine px_rnd ?_ | refine awp_exit ?_ | refine awp_skip ?_ | refine awp_ret ?_ | refine pr_then ?_ | refine pr_block ?_ | refine pr_rnd ?_ | refine pr_retM ?_ | refine pn_retM ?_ | refine pr_ret ?_ | refine pn_ret ?_) | refine awp_cond_t rfl rfl ?_ | refine awp_cond_f rfl rfl ?_ | ((first | apply aq (hd := rfl) (hok := rfl) (hw := rfl) | apply adr_q (ho := rfl) (hd := rfl) (hw := rfl)); (first | exact q_move rfl (by conv => lhs; whnf) | exact q_assign rfl (by conv => lhs; whnf) | exact q_add rfl rfl rfl (by omega) | exact q_lss_t rfl rfl rfl (by omega) | exact q_lss_f rfl rfl rfl (by omega) | exact q_gtr_t rfl rfl rfl (by omega) | exact q_gtr_f rfl rfl rfl (by omega) | exact q_geq_t rfl rfl rfl (by omega) | exact q_geq_f rfl rfl rfl (by omega) | exact q_eql_t rfl rfl rfl (by omega) | exact q_eql_f rfl rfl rfl (by omega) | exact q_neq_t rfl rfl rfl (by omega) | exact q_neq_f rfl rfl rfl (by omega) | exact q_int rfl rfl rfl rfl | exact q_not rfl rfl | exact q_pick_t rfl rfl (by conv => lhs; whnf) | exact q_pick_f rfl rfl (by conv => lhs; whnf) | exact q_extract rfl rfl rfl)) | refine ano rfl rfl rfl ?_ | refine adr_no rfl rfl rfl ?_)
    refine au rfl rfl rfl (h_S2 tSQ 0 H rfl rfl rfl rfl rfl (fun m8 H => ?_))
    repeat (first | with_reducible (first | refine awp_seq ?_ | refine awp_region ?_ | refine awp_region_q (by kernel_rfl) (by kernel_rfl) ?_ | refine adr_nil ?_ | refine adr_end ?_ | refine aops_then ?_ | refine aops_nil ?_ | refine awp_block ?_ | refine px_then ?_ | refine px_block ?_ | refine px_block_ne rfl ?_ | refine pn_block ?_ | refine pn_then ?_ | refine pn_asg ?_ | refine pn_rnd ?_ | refine px_rnd ?_ | refine awp_exit ?_ | refine awp_skip ?_ | refine awp_ret ?_ | refine pr_then ?_ | refine pr_block ?_ | refine pr_rnd ?_ | refine pr_retM ?_ | refine pn_retM ?_ | refine pr_ret ?_ | refine pn_ret ?_) | refine awp_cond_t rfl rfl ?_ | refine awp_cond_f rfl rfl ?_ | ((first | apply aq (hd := rfl) (hok := rfl) (hw := rfl) | apply adr_q (ho := rfl) (hd := rfl) (hw := rfl)); (first | exact q_move rfl (by conv => lhs; whnf) | exact q_assign rfl (by conv => lhs; whnf) | exact q_add rfl rfl rfl (by omega) | exact q_lss_t rfl rfl rfl (by omega) | exact q_lss_f rfl rfl rfl (by omega) | exact q_gtr_t rfl rfl rfl (by omega) | exact q_gtr_f rfl rfl rfl (by omega) | exact q_geq_t rfl rfl rfl (by omega) | exact q_geq_f rfl rfl rfl (by omega) | exact q_eql_t rfl rfl rfl (by omega) | exact q_eql_f rfl rfl rfl (by omega) | exact q_neq_t rfl rfl rfl (by omega) | exact q_neq_f rfl rfl rfl (by omega) | exact q_int rfl rfl rfl rfl | exact q_not rfl rfl | exact q_pick_t rfl rfl (by conv => lhs; whnf) | exact q_pick_f rfl rfl (by conv => lhs; whnf) | exact q_extract rfl rfl rfl)) | refine ano rfl rfl rfl ?_ | refine adr_no rfl rfl rfl ?_)
    refine aa rfl rfl rfl (h_call fApart (fun w hw => Ac w ((hva.le (Le.none _)).world hw) ((hvb.le (Le.none _)).world hw)) rfl rfl (fun va ma hR hS => ?_))
    obtain rfl := hR
    have H := H.callOnly hS
    repeat (first | with_reducible (first | refine awp_seq ?_ | refine awp_region ?_ | refine awp_region_q (by kernel_rfl) (by kernel_rfl) ?_ | refine adr_nil ?_ | refine adr_end ?_ | refine aops_then ?_ | refine aops_nil ?_ | refine awp_block ?_ | refine px_then ?_ | refine px_block ?_ | refine px_block_ne rfl ?_ | refine pn_block ?_ | refine pn_then ?_ | refine pn_asg ?_ | refine pn_rnd ?_ | refine px_rnd ?_ | refine awp_exit ?_ | refine awp_skip ?_ | refine awp_ret ?_ | refine pr_then ?_ | refine pr_block ?_ | refine pr_rnd ?_ | refine pr_retM ?_ | refine pn_retM ?_ | refine pr_ret ?_ | refine pn_ret ?_) | refine awp_cond_t rfl rfl ?_ | refine awp_cond_f rfl rfl ?_ | ((first | apply aq (hd := rfl) (hok := rfl) (hw := rfl) | apply adr_q (ho := rfl) (hd := rfl) (hw := rfl)); (first | exact q_move rfl (by conv => lhs; whnf) | exact q_assign rfl (by conv => lhs; whnf) | exact q_add rfl rfl rfl (by omega) | exact q_lss_t rfl rfl rfl (by omega) | exact q_lss_f rfl rfl rfl (by omega) | exact q_gtr_t rfl rfl rfl (by omega) | exact q_gtr_f rfl rfl rfl (by omega) | exact q_geq_t rfl rfl rfl (by omega) | exact q_geq_f rfl rfl rfl (by omega) | exact q_eql_t rfl rfl rfl (by omega) | exact q_eql_f rfl rfl rfl (by omega) | exact q_neq_t rfl rfl rfl (by omega) | exact q_neq_f rfl rfl rfl (by omega) | exact q_int rfl rfl rfl rfl | exact q_not rfl rfl | exact q_pick_t rfl rfl (by conv => lhs; whnf) | exact q_pick_f rfl rfl (by conv => lhs; whnf) | exact q_extract rfl rfl rfl)) | refine ano rfl rfl rfl ?_ | refine adr_no rfl rfl rfl ?_)
    rfl
  have hab2 := hab
  unfold bothL at hab2
  simp only [Bool.and_eq_true] at hab2
  obtain ⟨la, lb⟩ := hab2
  rw [hab] at Dc Ac
  simp only [Bool.true_and, if_true] at Dc Ac
  have LA := okLine_ln la
  have LB := okLine_ln lb
  have hsm := low_sml (dst_sml LA LB)
  have hok := dst_ok LA.ne LB.ne
  obtain ⟨E, hE⟩ : ∃ d : Bool × Int, d = (if ws n 0 30000 = true then (apart a b n, 0) else (false, 2)) := ⟨_, rfl⟩
  have eE : (if ws n 0 30000 = true then Value.tuple #[.bool (apart a b n), .int .i64 0] else .tuple #[.bool false, .int .i64 2]) = .tuple #[.bool E.1, .int .i64 E.2] := by rw [hE]; split <;> rfl
  rw [eE] at Ac
  have fE : E.2 = 0 → (0 ≤ n ∧ n ≤ 30000) ∧ E.1 = decide (n * n ≤ (low (dst a b)).1 / (low (dst a b)).2) := fun h0 => by
    rw [hE] at h0 ⊢
    split at h0
    · rename_i h
      rw [if_pos h]
      refine ⟨ws_t h, ?_⟩
      rw [apart_ediv hok (sq_nonneg n)]
      rfl
    · cases h0
  obtain ⟨p, hp⟩ : ∃ p, low (dst a b) = p := ⟨_, rfl⟩
  have hsp : ∀ s ∈ a, bothL [s] b = true ∧ ¬ sqL (low (dst [s] b)) p := fun s hs => by
    refine ⟨by unfold bothL; rw [ok_spot la hs, lb]; rfl, ?_⟩
    have o1 := dst_ok (a := [s]) (by simp) LB.ne
    rw [← hp, sqL_low o1 (low_ok hok).1, sqL_low_r o1 hok]
    exact dst_spot LB.ne hs
  rw [hp] at Dc fE hsm
  have hd : 1 ≤ p.2 ∧ p.2 ≤ 968000000 := hsm.2
  have hc : 0 ≤ p.1 ∧ p.1 ≤ 937024000000000000 := hsm.1
  repeat (first | with_reducible (first | refine awp_seq ?_ | refine awp_region ?_ | refine awp_region_q (by kernel_rfl) (by kernel_rfl) ?_ | refine adr_nil ?_ | refine adr_end ?_ | refine aops_then ?_ | refine aops_nil ?_ | refine awp_block ?_ | refine px_then ?_ | refine px_block ?_ | refine px_block_ne rfl ?_ | refine pn_block ?_ | refine pn_then ?_ | refine pn_asg ?_ | refine pn_rnd ?_ | refine px_rnd ?_ | refine awp_exit ?_ | refine awp_skip ?_ | refine awp_ret ?_ | refine pr_then ?_ | refine pr_block ?_ | refine pr_rnd ?_ | refine pr_retM ?_ | refine pn_retM ?_ | refine pr_ret ?_ | refine pn_ret ?_) | refine awp_cond_t rfl rfl ?_ | refine awp_cond_f rfl rfl ?_ | ((first | apply aq (hd := rfl) (hok := rfl) (hw := rfl) | apply adr_q (ho := rfl) (hd := rfl) (hw := rfl)); (first | exact q_move rfl (by conv => lhs; whnf) | exact q_assign rfl (by conv => lhs; whnf) | exact q_add rfl rfl rfl (by omega) | exact q_lss_t rfl rfl rfl (by omega) | exact q_lss_f rfl rfl rfl (by omega) | exact q_gtr_t rfl rfl rfl (by omega) | exact q_gtr_f rfl rfl rfl (by omega) | exact q_geq_t rfl rfl rfl (by omega) | exact q_geq_f rfl rfl rfl (by omega) | exact q_eql_t rfl rfl rfl (by omega) | exact q_eql_f rfl rfl rfl (by omega) | exact q_neq_t rfl rfl rfl (by omega) | exact q_neq_f rfl rfl rfl (by omega) | exact q_int rfl rfl rfl rfl | exact q_not rfl rfl | exact q_pick_t rfl rfl (by conv => lhs; whnf) | exact q_pick_f rfl rfl (by conv => lhs; whnf) | exact q_extract rfl rfl rfl)) | refine ano rfl rfl rfl ?_ | refine adr_no rfl rfl rfl ?_)
  refine aa rfl rfl rfl (h_call fDistance (fun w hw => Dc w ((hva.le (Le.none _)).world hw) ((hvb.le (Le.none _)).world hw)) rfl rfl (fun va ma hR hS => ?_))
  obtain rfl := hR
  have H := H.callOnly hS
  repeat (first | with_reducible (first | refine awp_seq ?_ | refine awp_region ?_ | refine awp_region_q (by kernel_rfl) (by kernel_rfl) ?_ | refine adr_nil ?_ | refine adr_end ?_ | refine aops_then ?_ | refine aops_nil ?_ | refine awp_block ?_ | refine px_then ?_ | refine px_block ?_ | refine px_block_ne rfl ?_ | refine pn_block ?_ | refine pn_then ?_ | refine pn_asg ?_ | refine pn_rnd ?_ | refine px_rnd ?_ | refine awp_exit ?_ | refine awp_skip ?_ | refine awp_ret ?_ | refine pr_then ?_ | refine pr_block ?_ | refine pr_rnd ?_ | refine pr_retM ?_ | refine pn_retM ?_ | refine pr_ret ?_ | refine pn_ret ?_) | refine awp_cond_t rfl rfl ?_ | refine awp_cond_f rfl rfl ?_ | ((first | apply aq (hd := rfl) (hok := rfl) (hw := rfl) | apply adr_q (ho := rfl) (hd := rfl) (hw := rfl)); (first | exact q_move rfl (by conv => lhs; whnf) | exact q_assign rfl (by conv => lhs; whnf) | exact q_add rfl rfl rfl (by omega) | exact q_lss_t rfl rfl rfl (by omega) | exact q_lss_f rfl rfl rfl (by omega) | exact q_gtr_t rfl rfl rfl (by omega) | exact q_gtr_f rfl rfl rfl (by omega) | exact q_geq_t rfl rfl rfl (by omega) | exact q_geq_f rfl rfl rfl (by omega) | exact q_eql_t rfl rfl rfl (by omega) | exact q_eql_f rfl rfl rfl (by omega) | exact q_neq_t rfl rfl rfl (by omega) | exact q_neq_f rfl rfl rfl (by omega) | exact q_int rfl rfl rfl rfl | exact q_not rfl rfl | exact q_pick_t rfl rfl (by conv => lhs; whnf) | exact q_pick_f rfl rfl (by conv => lhs; whnf) | exact q_extract rfl rfl rfl)) | refine ano rfl rfl rfl ?_ | refine adr_no rfl rfl rfl ?_)
  refine aa rfl rfl rfl (h_A2 tSQ H rfl (fun B10 m7 H _ => ?_))
  repeat (first | with_reducible (first | refine awp_seq ?_ | refine awp_region ?_ | refine awp_region_q (by kernel_rfl) (by kernel_rfl) ?_ | refine adr_nil ?_ | refine adr_end ?_ | refine aops_then ?_ | refine aops_nil ?_ | refine awp_block ?_ | refine px_then ?_ | refine px_block ?_ | refine px_block_ne rfl ?_ | refine pn_block ?_ | refine pn_then ?_ | refine pn_asg ?_ | refine pn_rnd ?_ | refine px_rnd ?_ | refine awp_exit ?_ | refine awp_skip ?_ | refine awp_ret ?_ | refine pr_then ?_ | refine pr_block ?_ | refine pr_rnd ?_ | refine pr_retM ?_ | refine pn_retM ?_ | refine pr_ret ?_ | refine pn_ret ?_) | refine awp_cond_t rfl rfl ?_ | refine awp_cond_f rfl rfl ?_ | ((first | apply aq (hd := rfl) (hok := rfl) (hw := rfl) | apply adr_q (ho := rfl) (hd := rfl) (hw := rfl)); (first | exact q_move rfl (by conv => lhs; whnf) | exact q_assign rfl (by conv => lhs; whnf) | exact q_add rfl rfl rfl (by omega) | exact q_lss_t rfl rfl rfl (by omega) | exact q_lss_f rfl rfl rfl (by omega) | exact q_gtr_t rfl rfl rfl (by omega) | exact q_gtr_f rfl rfl rfl (by omega) | exact q_geq_t rfl rfl rfl (by omega) | exact q_geq_f rfl rfl rfl (by omega) | exact q_eql_t rfl rfl rfl (by omega) | exact q_eql_f rfl rfl rfl (by omega) | exact q_neq_t rfl rfl rfl (by omega) | exact q_neq_f rfl rfl rfl (by omega) | exact q_int rfl rfl rfl rfl | exact q_not rfl rfl | exact q_pick_t rfl rfl (by conv => lhs; whnf) | exact q_pick_f rfl rfl (by conv => lhs; whnf) | exact q_extract rfl rfl rfl)) | refine ano rfl rfl rfl ?_ | refine adr_no rfl rfl rfl ?_)
  refine au rfl rfl rfl (h_S2 tSQ 0 H rfl rfl rfl rfl rfl (fun m8 H => ?_))
  repeat (first | with_reducible (first | refine awp_seq ?_ | refine awp_region ?_ | refine awp_region_q (by kernel_rfl) (by kernel_rfl) ?_ | refine adr_nil ?_ | refine adr_end ?_ | refine aops_then ?_ | refine aops_nil ?_ | refine awp_block ?_ | refine px_then ?_ | refine px_block ?_ | refine px_block_ne rfl ?_ | refine pn_block ?_ | refine pn_then ?_ | refine pn_asg ?_ | refine pn_rnd ?_ | refine px_rnd ?_ | refine awp_exit ?_ | refine awp_skip ?_ | refine awp_ret ?_ | refine pr_then ?_ | refine pr_block ?_ | refine pr_rnd ?_ | refine pr_retM ?_ | refine pn_retM ?_ | refine pr_ret ?_ | refine pn_ret ?_) | refine awp_cond_t rfl rfl ?_ | refine awp_cond_f rfl rfl ?_ | ((first | apply aq (hd := rfl) (hok := rfl) (hw := rfl) | apply adr_q (ho := rfl) (hd := rfl) (hw := rfl)); (first | exact q_move rfl (by conv => lhs; whnf) | exact q_assign rfl (by conv => lhs; whnf) | exact q_add rfl rfl rfl (by omega) | exact q_lss_t rfl rfl rfl (by omega) | exact q_lss_f rfl rfl rfl (by omega) | exact q_gtr_t rfl rfl rfl (by omega) | exact q_gtr_f rfl rfl rfl (by omega) | exact q_geq_t rfl rfl rfl (by omega) | exact q_geq_f rfl rfl rfl (by omega) | exact q_eql_t rfl rfl rfl (by omega) | exact q_eql_f rfl rfl rfl (by omega) | exact q_neq_t rfl rfl rfl (by omega) | exact q_neq_f rfl rfl rfl (by omega) | exact q_int rfl rfl rfl rfl | exact q_not rfl rfl | exact q_pick_t rfl rfl (by conv => lhs; whnf) | exact q_pick_f rfl rfl (by conv => lhs; whnf) | exact q_extract rfl rfl rfl)) | refine ano rfl rfl rfl ?_ | refine adr_no rfl rfl rfl ?_)
  refine aa rfl rfl rfl (h_call fApart (fun w hw => Ac w ((hva.le (Le.none _)).world hw) ((hvb.le (Le.none _)).world hw)) rfl rfl (fun va ma hR hS => ?_))
  obtain rfl := hR
  have H := H.callOnly hS
  obtain ⟨is, f⟩ := E
  simp only at fE
  clear eE hE Ac
  repeat (first | (refine awp_cut (c := Code.region 8 _ _) [0, 1, 3, 9, 10, 69] (fun vs m => vs = [va, vb, .int .i64 i, .bool true, .pointer (some ⟨B10, 0, Option.none⟩), .bool false] ∧ HP m [.vs 32 B10 [.int .i64 p.1, .int .i64 p.2]]) ?_ ?_; rotate_left 1) | with_reducible (first | refine awp_seq ?_ | refine awp_region ?_ | refine awp_region_q (by kernel_rfl) (by kernel_rfl) ?_ | refine adr_nil ?_ | refine adr_end ?_ | refine aops_then ?_ | refine aops_nil ?_ | refine awp_block ?_ | refine px_then ?_ | refine px_block ?_ | refine px_block_ne rfl ?_ | refine pn_block ?_ | refine pn_then ?_ | refine pn_asg ?_ | refine pn_rnd ?_ | refine px_rnd ?_ | refine awp_exit ?_ | refine awp_skip ?_ | refine awp_ret ?_ | refine pr_then ?_ | refine pr_block ?_ | refine pr_rnd ?_ | refine pr_retM ?_ | refine pn_retM ?_ | refine pr_ret ?_ | refine pn_ret ?_) | refine awp_cond_t rfl rfl ?_ | refine awp_cond_f rfl rfl ?_ | ((first | apply aq (hd := rfl) (hok := rfl) (hw := rfl) | apply adr_q (ho := rfl) (hd := rfl) (hw := rfl)); (first | exact q_move rfl (by conv => lhs; whnf) | exact q_assign rfl (by conv => lhs; whnf) | exact q_add rfl rfl rfl (by omega) | exact q_lss_t rfl rfl rfl (by omega) | exact q_lss_f rfl rfl rfl (by omega) | exact q_gtr_t rfl rfl rfl (by omega) | exact q_gtr_f rfl rfl rfl (by omega) | exact q_geq_t rfl rfl rfl (by omega) | exact q_geq_f rfl rfl rfl (by omega) | exact q_eql_t rfl rfl rfl (by omega) | exact q_eql_f rfl rfl rfl (by omega) | exact q_neq_t rfl rfl rfl (by omega) | exact q_neq_f rfl rfl rfl (by omega) | exact q_int rfl rfl rfl rfl | exact q_not rfl rfl | exact q_pick_t rfl rfl (by conv => lhs; whnf) | exact q_pick_f rfl rfl (by conv => lhs; whnf) | exact q_extract rfl rfl rfl)) | refine ano rfl rfl rfl ?_ | refine adr_no rfl rfl rfl ?_)
  rotate_left 1
  · by_cases h0 : f = 0
    · obtain ⟨hn, he⟩ := fE h0
      have hmul := mul_bd (A := 30000) (B := 30000) (a := n) (b := n) (by omega) hn
      obtain ⟨N, hN⟩ : ∃ N, n * n = N := ⟨_, rfl⟩
      rw [hN] at hmul he
      obtain ⟨Q, hQ⟩ : ∃ Q, p.1 / p.2 = Q := ⟨_, rfl⟩
      rw [hQ] at he
      have hQt : p.1.tdiv p.2 = Q := by rw [Int.tdiv_eq_ediv_of_nonneg hc.1]; exact hQ
      have hbe : (!(is == is)) = false := by simp
      by_cases hq : N ≤ Q
      · rw [decide_eq_true hq] at he
        subst he
        repeat (first | with_reducible (first | refine awp_seq ?_ | refine awp_region ?_ | refine awp_region_q (by kernel_rfl) (by kernel_rfl) ?_ | refine adr_nil ?_ | refine adr_end ?_ | refine aops_then ?_ | refine aops_nil ?_ | refine awp_block ?_ | refine px_then ?_ | refine px_block ?_ | refine px_block_ne rfl ?_ | refine pn_block ?_ | refine pn_then ?_ | refine pn_asg ?_ | refine pn_rnd ?_ | refine px_rnd ?_ | refine awp_exit ?_ | refine awp_skip ?_ | refine awp_ret ?_ | refine pr_then ?_ | refine pr_block ?_ | refine pr_rnd ?_ | refine pr_retM ?_ | refine pn_retM ?_ | refine pr_ret ?_ | refine pn_ret ?_) | refine awp_cond_t rfl rfl ?_ | refine awp_cond_f rfl rfl ?_ | ((first | apply aq (hd := rfl) (hok := rfl) (hw := rfl) | apply adr_q (ho := rfl) (hd := rfl) (hw := rfl)); (first | exact q_F2 tSQ rfl rfl (by decide) | exact q_ldC 0 H rfl rfl rfl rfl iT.int rfl | exact q_quoX hQt rfl rfl rfl hd.1 (by omega) | exact q_mulX hN rfl rfl rfl (by omega) | exact q_neb uB5 rfl rfl rfl | exact q_move rfl (by conv => lhs; whnf) | exact q_assign rfl (by conv => lhs; whnf) | exact q_add rfl rfl rfl (by omega) | exact q_lss_t rfl rfl rfl (by omega) | exact q_lss_f rfl rfl rfl (by omega) | exact q_gtr_t rfl rfl rfl (by omega) | exact q_gtr_f rfl rfl rfl (by omega) | exact q_geq_t rfl rfl rfl (by omega) | exact q_geq_f rfl rfl rfl (by omega) | exact q_eql_t rfl rfl rfl (by omega) | exact q_eql_f rfl rfl rfl (by omega) | exact q_neq_t rfl rfl rfl (by omega) | exact q_neq_f rfl rfl rfl (by omega) | exact q_int rfl rfl rfl rfl | exact q_not rfl rfl | exact q_pick_t rfl rfl (by conv => lhs; whnf) | exact q_pick_f rfl rfl (by conv => lhs; whnf) | exact q_extract rfl rfl rfl)) | refine ano rfl rfl rfl ?_ | refine adr_no rfl rfl rfl ?_)
        refine cut_n ?_
        exact ⟨rfl, H⟩
      · rw [decide_eq_false hq] at he
        subst he
        repeat (first | with_reducible (first | refine awp_seq ?_ | refine awp_region ?_ | refine awp_region_q (by kernel_rfl) (by kernel_rfl) ?_ | refine adr_nil ?_ | refine adr_end ?_ | refine aops_then ?_ | refine aops_nil ?_ | refine awp_block ?_ | refine px_then ?_ | refine px_block ?_ | refine px_block_ne rfl ?_ | refine pn_block ?_ | refine pn_then ?_ | refine pn_asg ?_ | refine pn_rnd ?_ | refine px_rnd ?_ | refine awp_exit ?_ | refine awp_skip ?_ | refine awp_ret ?_ | refine pr_then ?_ | refine pr_block ?_ | refine pr_rnd ?_ | refine pr_retM ?_ | refine pn_retM ?_ | refine pr_ret ?_ | refine pn_ret ?_) | refine awp_cond_t rfl rfl ?_ | refine awp_cond_f rfl rfl ?_ | ((first | apply aq (hd := rfl) (hok := rfl) (hw := rfl) | apply adr_q (ho := rfl) (hd := rfl) (hw := rfl)); (first | exact q_F2 tSQ rfl rfl (by decide) | exact q_ldC 0 H rfl rfl rfl rfl iT.int rfl | exact q_quoX hQt rfl rfl rfl hd.1 (by omega) | exact q_mulX hN rfl rfl rfl (by omega) | exact q_neb uB5 rfl rfl rfl | exact q_move rfl (by conv => lhs; whnf) | exact q_assign rfl (by conv => lhs; whnf) | exact q_add rfl rfl rfl (by omega) | exact q_lss_t rfl rfl rfl (by omega) | exact q_lss_f rfl rfl rfl (by omega) | exact q_gtr_t rfl rfl rfl (by omega) | exact q_gtr_f rfl rfl rfl (by omega) | exact q_geq_t rfl rfl rfl (by omega) | exact q_geq_f rfl rfl rfl (by omega) | exact q_eql_t rfl rfl rfl (by omega) | exact q_eql_f rfl rfl rfl (by omega) | exact q_neq_t rfl rfl rfl (by omega) | exact q_neq_f rfl rfl rfl (by omega) | exact q_int rfl rfl rfl rfl | exact q_not rfl rfl | exact q_pick_t rfl rfl (by conv => lhs; whnf) | exact q_pick_f rfl rfl (by conv => lhs; whnf) | exact q_extract rfl rfl rfl)) | refine ano rfl rfl rfl ?_ | refine adr_no rfl rfl rfl ?_)
        refine cut_n ?_
        exact ⟨rfl, H⟩
    · repeat (first | with_reducible (first | refine awp_seq ?_ | refine awp_region ?_ | refine awp_region_q (by kernel_rfl) (by kernel_rfl) ?_ | refine adr_nil ?_ | refine adr_end ?_ | refine aops_then ?_ | refine aops_nil ?_ | refine awp_block ?_ | refine px_then ?_ | refine px_block ?_ | refine px_block_ne rfl ?_ | refine pn_block ?_ | refine pn_then ?_ | refine pn_asg ?_ | refine pn_rnd ?_ | refine px_rnd ?_ | refine awp_exit ?_ | refine awp_skip ?_ | refine awp_ret ?_ | refine pr_then ?_ | refine pr_block ?_ | refine pr_rnd ?_ | refine pr_retM ?_ | refine pn_retM ?_ | refine pr_ret ?_ | refine pn_ret ?_) | refine awp_cond_t rfl rfl ?_ | refine awp_cond_f rfl rfl ?_ | ((first | apply aq (hd := rfl) (hok := rfl) (hw := rfl) | apply adr_q (ho := rfl) (hd := rfl) (hw := rfl)); (first | exact q_F2 tSQ rfl rfl (by decide) | exact q_ldC 0 H rfl rfl rfl rfl iT.int rfl | exact q_move rfl (by conv => lhs; whnf) | exact q_assign rfl (by conv => lhs; whnf) | exact q_add rfl rfl rfl (by omega) | exact q_lss_t rfl rfl rfl (by omega) | exact q_lss_f rfl rfl rfl (by omega) | exact q_gtr_t rfl rfl rfl (by omega) | exact q_gtr_f rfl rfl rfl (by omega) | exact q_geq_t rfl rfl rfl (by omega) | exact q_geq_f rfl rfl rfl (by omega) | exact q_eql_t rfl rfl rfl (by omega) | exact q_eql_f rfl rfl rfl (by omega) | exact q_neq_t rfl rfl rfl (by omega) | exact q_neq_f rfl rfl rfl (by omega) | exact q_int rfl rfl rfl rfl | exact q_not rfl rfl | exact q_pick_t rfl rfl (by conv => lhs; whnf) | exact q_pick_f rfl rfl (by conv => lhs; whnf) | exact q_extract rfl rfl rfl)) | refine ano rfl rfl rfl ?_ | refine adr_no rfl rfl rfl ?_)
      refine cut_n ?_
      exact ⟨rfl, H⟩
  clear H fE
  rintro fr vs m ⟨rfl, H⟩
  refine then_n ?_
  repeat (first | with_reducible (first | refine awp_seq ?_ | refine awp_region ?_ | refine awp_region_q (by kernel_rfl) (by kernel_rfl) ?_ | refine adr_nil ?_ | refine adr_end ?_ | refine aops_then ?_ | refine aops_nil ?_ | refine awp_block ?_ | refine px_then ?_ | refine px_block ?_ | refine px_block_ne rfl ?_ | refine pn_block ?_ | refine pn_then ?_ | refine pn_asg ?_ | refine pn_rnd ?_ | refine px_rnd ?_ | refine awp_exit ?_ | refine awp_skip ?_ | refine awp_ret ?_ | refine pr_then ?_ | refine pr_block ?_ | refine pr_rnd ?_ | refine pr_retM ?_ | refine pn_retM ?_ | refine pr_ret ?_ | refine pn_ret ?_) | refine awp_cond_t rfl rfl ?_ | refine awp_cond_f rfl rfl ?_ | ((first | apply aq (hd := rfl) (hok := rfl) (hw := rfl) | apply adr_q (ho := rfl) (hd := rfl) (hw := rfl)); (first | exact q_len uLS (hva.le (Le.none _)) rfl rfl | exact q_len uLS (hvb.le (Le.none _)) rfl rfl | exact q_move rfl (by conv => lhs; whnf) | exact q_assign rfl (by conv => lhs; whnf) | exact q_add rfl rfl rfl (by omega) | exact q_lss_t rfl rfl rfl (by omega) | exact q_lss_f rfl rfl rfl (by omega) | exact q_gtr_t rfl rfl rfl (by omega) | exact q_gtr_f rfl rfl rfl (by omega) | exact q_geq_t rfl rfl rfl (by omega) | exact q_geq_f rfl rfl rfl (by omega) | exact q_eql_t rfl rfl rfl (by omega) | exact q_eql_f rfl rfl rfl (by omega) | exact q_neq_t rfl rfl rfl (by omega) | exact q_neq_f rfl rfl rfl (by omega) | exact q_int rfl rfl rfl rfl | exact q_not rfl rfl | exact q_pick_t rfl rfl (by conv => lhs; whnf) | exact q_pick_f rfl rfl (by conv => lhs; whnf) | exact q_extract rfl rfl rfl)) | refine ano rfl rfl rfl ?_ | refine adr_no rfl rfl rfl ?_)
  refine awp_loop [0, 1, 3, 9, 10, 70, 71, 72] (fun vs m => ∃ k : Nat, vs = [va, vb, .int .i64 i, .bool true, .pointer (some ⟨B10, 0, Option.none⟩), va, .int .i64 a.length, .int .i64 k] ∧ k ≤ a.length ∧ HP m [.vs 32 B10 [.int .i64 p.1, .int .i64 p.2]]) (fun vs _ => a.length - (intOf (vs.getD 7 undef)).toNat) ⟨0, rfl, Nat.zero_le _, H⟩ ?_
  clear H
  rintro fr vs m - ⟨k, rfl, hk, H⟩
  by_cases hlt : k < a.length
  · obtain ⟨s, hs⟩ : ∃ s, a.getD k (0, 0) = s := ⟨_, rfl⟩
    have hsa : s ∈ a := by rw [← hs]; simp [hlt]
    obtain ⟨g1, g2⟩ := hsp s hsa
    have Ds := fun (W : World) (v : Value) h1 h2 => Distance_c W v vb [s] b h1 h2
    rw [g1] at Ds
    simp only [if_true] at Ds
    have lq : lesOk p := hsm.les
    have lr : lesOk (low (dst [s] b)) := (low_sml (dst_sml (okLine_ln (ok_spot la hsa)) LB)).les
    have Lc := fun (W : World) => lessR_c W (low (dst [s] b)) p lr lq
    rw [decide_eq_false g2] at Lc
    generalize low (dst [s] b) = r at *
    repeat (first | with_reducible (first | refine awp_seq ?_ | refine awp_region ?_ | refine awp_region_q (by kernel_rfl) (by kernel_rfl) ?_ | refine adr_nil ?_ | refine adr_end ?_ | refine aops_then ?_ | refine aops_nil ?_ | refine awp_block ?_ | refine px_then ?_ | refine px_block ?_ | refine px_block_ne rfl ?_ | refine pn_block ?_ | refine pn_then ?_ | refine pn_asg ?_ | refine pn_rnd ?_ | refine px_rnd ?_ | refine awp_exit ?_ | refine awp_skip ?_ | refine awp_ret ?_ | refine pr_then ?_ | refine pr_block ?_ | refine pr_rnd ?_ | refine pr_retM ?_ | refine pn_retM ?_ | refine pr_ret ?_ | refine pn_ret ?_) | refine awp_cond_t rfl rfl ?_ | refine awp_cond_f rfl rfl ?_ | ((first | apply aq (hd := rfl) (hok := rfl) (hw := rfl) | apply adr_q (ho := rfl) (hd := rfl) (hw := rfl)); (first | exact q_X2 tSp uLS (hva.le (Le.none _)) rfl rfl rfl (i := k) hlt | exact (hs ▸ q_E2 tSp (hva.le (Le.none _)) rfl rfl (j := k) hlt) | exact q_move rfl (by conv => lhs; whnf) | exact q_assign rfl (by conv => lhs; whnf) | exact q_add rfl rfl rfl (by omega) | exact q_lss_t rfl rfl rfl (by omega) | exact q_lss_f rfl rfl rfl (by omega) | exact q_gtr_t rfl rfl rfl (by omega) | exact q_gtr_f rfl rfl rfl (by omega) | exact q_geq_t rfl rfl rfl (by omega) | exact q_geq_f rfl rfl rfl (by omega) | exact q_eql_t rfl rfl rfl (by omega) | exact q_eql_f rfl rfl rfl (by omega) | exact q_neq_t rfl rfl rfl (by omega) | exact q_neq_f rfl rfl rfl (by omega) | exact q_int rfl rfl rfl rfl | exact q_not rfl rfl | exact q_pick_t rfl rfl (by conv => lhs; whnf) | exact q_pick_f rfl rfl (by conv => lhs; whnf) | exact q_extract rfl rfl rfl)) | refine ano rfl rfl rfl ?_ | refine adr_no rfl rfl rfl ?_)
    refine aa rfl rfl rfl (h_A2 tSp H rfl (fun B15 m7 H _ => ?_))
    repeat (first | with_reducible (first | refine awp_seq ?_ | refine awp_region ?_ | refine awp_region_q (by kernel_rfl) (by kernel_rfl) ?_ | refine adr_nil ?_ | refine adr_end ?_ | refine aops_then ?_ | refine aops_nil ?_ | refine awp_block ?_ | refine px_then ?_ | refine px_block ?_ | refine px_block_ne rfl ?_ | refine pn_block ?_ | refine pn_then ?_ | refine pn_asg ?_ | refine pn_rnd ?_ | refine px_rnd ?_ | refine awp_exit ?_ | refine awp_skip ?_ | refine awp_ret ?_ | refine pr_then ?_ | refine pr_block ?_ | refine pr_rnd ?_ | refine pr_retM ?_ | refine pn_retM ?_ | refine pr_ret ?_ | refine pn_ret ?_) | refine awp_cond_t rfl rfl ?_ | refine awp_cond_f rfl rfl ?_ | ((first | apply aq (hd := rfl) (hok := rfl) (hw := rfl) | apply adr_q (ho := rfl) (hd := rfl) (hw := rfl)); (first | exact q_move rfl (by conv => lhs; whnf) | exact q_assign rfl (by conv => lhs; whnf) | exact q_add rfl rfl rfl (by omega) | exact q_lss_t rfl rfl rfl (by omega) | exact q_lss_f rfl rfl rfl (by omega) | exact q_gtr_t rfl rfl rfl (by omega) | exact q_gtr_f rfl rfl rfl (by omega) | exact q_geq_t rfl rfl rfl (by omega) | exact q_geq_f rfl rfl rfl (by omega) | exact q_eql_t rfl rfl rfl (by omega) | exact q_eql_f rfl rfl rfl (by omega) | exact q_neq_t rfl rfl rfl (by omega) | exact q_neq_f rfl rfl rfl (by omega) | exact q_int rfl rfl rfl rfl | exact q_not rfl rfl | exact q_pick_t rfl rfl (by conv => lhs; whnf) | exact q_pick_f rfl rfl (by conv => lhs; whnf) | exact q_extract rfl rfl rfl)) | refine ano rfl rfl rfl ?_ | refine adr_no rfl rfl rfl ?_)
    refine au rfl rfl rfl (h_S2 tSp 0 H rfl rfl rfl rfl rfl (fun m8 H => ?_))
    repeat (first | with_reducible (first | refine awp_seq ?_ | refine awp_region ?_ | refine awp_region_q (by kernel_rfl) (by kernel_rfl) ?_ | refine adr_nil ?_ | refine adr_end ?_ | refine aops_then ?_ | refine aops_nil ?_ | refine awp_block ?_ | refine px_then ?_ | refine px_block ?_ | refine px_block_ne rfl ?_ | refine pn_block ?_ | refine pn_then ?_ | refine pn_asg ?_ | refine pn_rnd ?_ | refine px_rnd ?_ | refine awp_exit ?_ | refine awp_skip ?_ | refine awp_ret ?_ | refine pr_then ?_ | refine pr_block ?_ | refine pr_rnd ?_ | refine pr_retM ?_ | refine pn_retM ?_ | refine pr_ret ?_ | refine pn_ret ?_) | refine awp_cond_t rfl rfl ?_ | refine awp_cond_f rfl rfl ?_ | ((first | apply aq (hd := rfl) (hok := rfl) (hw := rfl) | apply adr_q (ho := rfl) (hd := rfl) (hw := rfl)); (first | exact q_L2 tSp 0 H rfl rfl rfl rfl rfl | exact q_move rfl (by conv => lhs; whnf) | exact q_assign rfl (by conv => lhs; whnf) | exact q_add rfl rfl rfl (by omega) | exact q_lss_t rfl rfl rfl (by omega) | exact q_lss_f rfl rfl rfl (by omega) | exact q_gtr_t rfl rfl rfl (by omega) | exact q_gtr_f rfl rfl rfl (by omega) | exact q_geq_t rfl rfl rfl (by omega) | exact q_geq_f rfl rfl rfl (by omega) | exact q_eql_t rfl rfl rfl (by omega) | exact q_eql_f rfl rfl rfl (by omega) | exact q_neq_t rfl rfl rfl (by omega) | exact q_neq_f rfl rfl rfl (by omega) | exact q_int rfl rfl rfl rfl | exact q_not rfl rfl | exact q_pick_t rfl rfl (by conv => lhs; whnf) | exact q_pick_f rfl rfl (by conv => lhs; whnf) | exact q_extract rfl rfl rfl)) | refine ano rfl rfl rfl ?_ | refine adr_no rfl rfl rfl ?_)
    refine aa rfl rfl rfl (h_buildN [[.int .i64 s.1, .int .i64 s.2]] uLS hvi hvz hvs H rfl (by decide) (by decide) rfl rfl (by simp) (fun vp mp H _ => ?_))
    repeat (first | with_reducible (first | refine awp_seq ?_ | refine awp_region ?_ | refine awp_region_q (by kernel_rfl) (by kernel_rfl) ?_ | refine adr_nil ?_ | refine adr_end ?_ | refine aops_then ?_ | refine aops_nil ?_ | refine awp_block ?_ | refine px_then ?_ | refine px_block ?_ | refine px_block_ne rfl ?_ | refine pn_block ?_ | refine pn_then ?_ | refine pn_asg ?_ | refine pn_rnd ?_ | refine px_rnd ?_ | refine awp_exit ?_ | refine awp_skip ?_ | refine awp_ret ?_ | refine pr_then ?_ | refine pr_block ?_ | refine pr_rnd ?_ | refine pr_retM ?_ | refine pn_retM ?_ | refine pr_ret ?_ | refine pn_ret ?_) | refine awp_cond_t rfl rfl ?_ | refine awp_cond_f rfl rfl ?_ | ((first | apply aq (hd := rfl) (hok := rfl) (hw := rfl) | apply adr_q (ho := rfl) (hd := rfl) (hw := rfl)); (first | exact q_move rfl (by conv => lhs; whnf) | exact q_assign rfl (by conv => lhs; whnf) | exact q_add rfl rfl rfl (by omega) | exact q_lss_t rfl rfl rfl (by omega) | exact q_lss_f rfl rfl rfl (by omega) | exact q_gtr_t rfl rfl rfl (by omega) | exact q_gtr_f rfl rfl rfl (by omega) | exact q_geq_t rfl rfl rfl (by omega) | exact q_geq_f rfl rfl rfl (by omega) | exact q_eql_t rfl rfl rfl (by omega) | exact q_eql_f rfl rfl rfl (by omega) | exact q_neq_t rfl rfl rfl (by omega) | exact q_neq_f rfl rfl rfl (by omega) | exact q_int rfl rfl rfl rfl | exact q_not rfl rfl | exact q_pick_t rfl rfl (by conv => lhs; whnf) | exact q_pick_f rfl rfl (by conv => lhs; whnf) | exact q_extract rfl rfl rfl)) | refine ano rfl rfl rfl ?_ | refine adr_no rfl rfl rfl ?_)
    refine aa rfl rfl rfl (h_call fDistance (fun w hw => Ds w vp ((H.sl 0 rfl).sl.world hw) ((hvb.le (Le.none _)).world hw)) rfl rfl (fun va ma hR hS => ?_))
    obtain rfl := hR
    have H := H.callOnly hS
    repeat (first | with_reducible (first | refine awp_seq ?_ | refine awp_region ?_ | refine awp_region_q (by kernel_rfl) (by kernel_rfl) ?_ | refine adr_nil ?_ | refine adr_end ?_ | refine aops_then ?_ | refine aops_nil ?_ | refine awp_block ?_ | refine px_then ?_ | refine px_block ?_ | refine px_block_ne rfl ?_ | refine pn_block ?_ | refine pn_then ?_ | refine pn_asg ?_ | refine pn_rnd ?_ | refine px_rnd ?_ | refine awp_exit ?_ | refine awp_skip ?_ | refine awp_ret ?_ | refine pr_then ?_ | refine pr_block ?_ | refine pr_rnd ?_ | refine pr_retM ?_ | refine pn_retM ?_ | refine pr_ret ?_ | refine pn_ret ?_) | refine awp_cond_t rfl rfl ?_ | refine awp_cond_f rfl rfl ?_ | ((first | apply aq (hd := rfl) (hok := rfl) (hw := rfl) | apply adr_q (ho := rfl) (hd := rfl) (hw := rfl)); (first | exact q_move rfl (by conv => lhs; whnf) | exact q_assign rfl (by conv => lhs; whnf) | exact q_add rfl rfl rfl (by omega) | exact q_lss_t rfl rfl rfl (by omega) | exact q_lss_f rfl rfl rfl (by omega) | exact q_gtr_t rfl rfl rfl (by omega) | exact q_gtr_f rfl rfl rfl (by omega) | exact q_geq_t rfl rfl rfl (by omega) | exact q_geq_f rfl rfl rfl (by omega) | exact q_eql_t rfl rfl rfl (by omega) | exact q_eql_f rfl rfl rfl (by omega) | exact q_neq_t rfl rfl rfl (by omega) | exact q_neq_f rfl rfl rfl (by omega) | exact q_int rfl rfl rfl rfl | exact q_not rfl rfl | exact q_pick_t rfl rfl (by conv => lhs; whnf) | exact q_pick_f rfl rfl (by conv => lhs; whnf) | exact q_extract rfl rfl rfl)) | refine ano rfl rfl rfl ?_ | refine adr_no rfl rfl rfl ?_)
    refine aa rfl rfl rfl (h_A2 tSQ H rfl (fun B16 m9 H _ => ?_))
    repeat (first | with_reducible (first | refine awp_seq ?_ | refine awp_region ?_ | refine awp_region_q (by kernel_rfl) (by kernel_rfl) ?_ | refine adr_nil ?_ | refine adr_end ?_ | refine aops_then ?_ | refine aops_nil ?_ | refine awp_block ?_ | refine px_then ?_ | refine px_block ?_ | refine px_block_ne rfl ?_ | refine pn_block ?_ | refine pn_then ?_ | refine pn_asg ?_ | refine pn_rnd ?_ | refine px_rnd ?_ | refine awp_exit ?_ | refine awp_skip ?_ | refine awp_ret ?_ | refine pr_then ?_ | refine pr_block ?_ | refine pr_rnd ?_ | refine pr_retM ?_ | refine pn_retM ?_ | refine pr_ret ?_ | refine pn_ret ?_) | refine awp_cond_t rfl rfl ?_ | refine awp_cond_f rfl rfl ?_ | ((first | apply aq (hd := rfl) (hok := rfl) (hw := rfl) | apply adr_q (ho := rfl) (hd := rfl) (hw := rfl)); (first | exact q_move rfl (by conv => lhs; whnf) | exact q_assign rfl (by conv => lhs; whnf) | exact q_add rfl rfl rfl (by omega) | exact q_lss_t rfl rfl rfl (by omega) | exact q_lss_f rfl rfl rfl (by omega) | exact q_gtr_t rfl rfl rfl (by omega) | exact q_gtr_f rfl rfl rfl (by omega) | exact q_geq_t rfl rfl rfl (by omega) | exact q_geq_f rfl rfl rfl (by omega) | exact q_eql_t rfl rfl rfl (by omega) | exact q_eql_f rfl rfl rfl (by omega) | exact q_neq_t rfl rfl rfl (by omega) | exact q_neq_f rfl rfl rfl (by omega) | exact q_int rfl rfl rfl rfl | exact q_not rfl rfl | exact q_pick_t rfl rfl (by conv => lhs; whnf) | exact q_pick_f rfl rfl (by conv => lhs; whnf) | exact q_extract rfl rfl rfl)) | refine ano rfl rfl rfl ?_ | refine adr_no rfl rfl rfl ?_)
    refine au rfl rfl rfl (h_S2 tSQ 0 H rfl rfl rfl rfl rfl (fun m10 H => ?_))
    repeat (first | with_reducible (first | refine awp_seq ?_ | refine awp_region ?_ | refine awp_region_q (by kernel_rfl) (by kernel_rfl) ?_ | refine adr_nil ?_ | refine adr_end ?_ | refine aops_then ?_ | refine aops_nil ?_ | refine awp_block ?_ | refine px_then ?_ | refine px_block ?_ | refine px_block_ne rfl ?_ | refine pn_block ?_ | refine pn_then ?_ | refine pn_asg ?_ | refine pn_rnd ?_ | refine px_rnd ?_ | refine awp_exit ?_ | refine awp_skip ?_ | refine awp_ret ?_ | refine pr_then ?_ | refine pr_block ?_ | refine pr_rnd ?_ | refine pr_retM ?_ | refine pn_retM ?_ | refine pr_ret ?_ | refine pn_ret ?_) | refine awp_cond_t rfl rfl ?_ | refine awp_cond_f rfl rfl ?_ | ((first | apply aq (hd := rfl) (hok := rfl) (hw := rfl) | apply adr_q (ho := rfl) (hd := rfl) (hw := rfl)); (first | exact q_L2 tSQ 0 H rfl rfl rfl rfl rfl | exact q_L2 tSQ 3 H rfl rfl rfl rfl rfl | exact q_move rfl (by conv => lhs; whnf) | exact q_assign rfl (by conv => lhs; whnf) | exact q_add rfl rfl rfl (by omega) | exact q_lss_t rfl rfl rfl (by omega) | exact q_lss_f rfl rfl rfl (by omega) | exact q_gtr_t rfl rfl rfl (by omega) | exact q_gtr_f rfl rfl rfl (by omega) | exact q_geq_t rfl rfl rfl (by omega) | exact q_geq_f rfl rfl rfl (by omega) | exact q_eql_t rfl rfl rfl (by omega) | exact q_eql_f rfl rfl rfl (by omega) | exact q_neq_t rfl rfl rfl (by omega) | exact q_neq_f rfl rfl rfl (by omega) | exact q_int rfl rfl rfl rfl | exact q_not rfl rfl | exact q_pick_t rfl rfl (by conv => lhs; whnf) | exact q_pick_f rfl rfl (by conv => lhs; whnf) | exact q_extract rfl rfl rfl)) | refine ano rfl rfl rfl ?_ | refine adr_no rfl rfl rfl ?_)
    refine aa rfl rfl rfl (h_call fLessR (fun w hw => Lc w) rfl rfl (fun va ma hR hS => ?_))
    obtain rfl := hR
    have H := H.callOnly hS
    repeat (first | with_reducible (first | refine awp_seq ?_ | refine awp_region ?_ | refine awp_region_q (by kernel_rfl) (by kernel_rfl) ?_ | refine adr_nil ?_ | refine adr_end ?_ | refine aops_then ?_ | refine aops_nil ?_ | refine awp_block ?_ | refine px_then ?_ | refine px_block ?_ | refine px_block_ne rfl ?_ | refine pn_block ?_ | refine pn_then ?_ | refine pn_asg ?_ | refine pn_rnd ?_ | refine px_rnd ?_ | refine awp_exit ?_ | refine awp_skip ?_ | refine awp_ret ?_ | refine pr_then ?_ | refine pr_block ?_ | refine pr_rnd ?_ | refine pr_retM ?_ | refine pn_retM ?_ | refine pr_ret ?_ | refine pn_ret ?_) | refine awp_cond_t rfl rfl ?_ | refine awp_cond_f rfl rfl ?_ | ((first | apply aq (hd := rfl) (hok := rfl) (hw := rfl) | apply adr_q (ho := rfl) (hd := rfl) (hw := rfl)); (first | exact q_move rfl (by conv => lhs; whnf) | exact q_assign rfl (by conv => lhs; whnf) | exact q_add rfl rfl rfl (by omega) | exact q_lss_t rfl rfl rfl (by omega) | exact q_lss_f rfl rfl rfl (by omega) | exact q_gtr_t rfl rfl rfl (by omega) | exact q_gtr_f rfl rfl rfl (by omega) | exact q_geq_t rfl rfl rfl (by omega) | exact q_geq_f rfl rfl rfl (by omega) | exact q_eql_t rfl rfl rfl (by omega) | exact q_eql_f rfl rfl rfl (by omega) | exact q_neq_t rfl rfl rfl (by omega) | exact q_neq_f rfl rfl rfl (by omega) | exact q_int rfl rfl rfl rfl | exact q_not rfl rfl | exact q_pick_t rfl rfl (by conv => lhs; whnf) | exact q_pick_f rfl rfl (by conv => lhs; whnf) | exact q_extract rfl rfl rfl)) | refine ano rfl rfl rfl ?_ | refine adr_no rfl rfl rfl ?_)
    exact ⟨⟨k + 1, rfl, by omega, H.picks [3] (by decide)⟩, by show a.length - ((k : Int) + 1).toNat < a.length - (k : Int).toNat; omega⟩
  · by_cases c1 : i < 0
    · repeat (first | with_reducible (first | refine awp_seq ?_ | refine awp_region ?_ | refine awp_region_q (by kernel_rfl) (by kernel_rfl) ?_ | refine adr_nil ?_ | refine adr_end ?_ | refine aops_then ?_ | refine aops_nil ?_ | refine awp_block ?_ | refine px_then ?_ | refine px_block ?_ | refine px_block_ne rfl ?_ | refine pn_block ?_ | refine pn_then ?_ | refine pn_asg ?_ | refine pn_rnd ?_ | refine px_rnd ?_ | refine awp_exit ?_ | refine awp_skip ?_ | refine awp_ret ?_ | refine pr_then ?_ | refine pr_block ?_ | refine pr_rnd ?_ | refine pr_retM ?_ | refine pn_retM ?_ | refine pr_ret ?_ | refine pn_ret ?_) | refine awp_cond_t rfl rfl ?_ | refine awp_cond_f rfl rfl ?_ | ((first | apply aq (hd := rfl) (hok := rfl) (hw := rfl) | apply adr_q (ho := rfl) (hd := rfl) (hw := rfl)); (first | exact q_len uLS (hva.le (Le.none _)) rfl rfl | exact q_len uLS (hvb.le (Le.none _)) rfl rfl | exact q_move rfl (by conv => lhs; whnf) | exact q_assign rfl (by conv => lhs; whnf) | exact q_add rfl rfl rfl (by omega) | exact q_lss_t rfl rfl rfl (by omega) | exact q_lss_f rfl rfl rfl (by omega) | exact q_gtr_t rfl rfl rfl (by omega) | exact q_gtr_f rfl rfl rfl (by omega) | exact q_geq_t rfl rfl rfl (by omega) | exact q_geq_f rfl rfl rfl (by omega) | exact q_eql_t rfl rfl rfl (by omega) | exact q_eql_f rfl rfl rfl (by omega) | exact q_neq_t rfl rfl rfl (by omega) | exact q_neq_f rfl rfl rfl (by omega) | exact q_int rfl rfl rfl rfl | exact q_not rfl rfl | exact q_pick_t rfl rfl (by conv => lhs; whnf) | exact q_pick_f rfl rfl (by conv => lhs; whnf) | exact q_extract rfl rfl rfl)) | refine ano rfl rfl rfl ?_ | refine adr_no rfl rfl rfl ?_)
      rfl
    obtain ⟨j, rfl⟩ : ∃ j : Nat, i = j := ⟨i.toNat, by omega⟩
    by_cases c2 : (b.length : Int) ≤ j
    · repeat (first | with_reducible (first | refine awp_seq ?_ | refine awp_region ?_ | refine awp_region_q (by kernel_rfl) (by kernel_rfl) ?_ | refine adr_nil ?_ | refine adr_end ?_ | refine aops_then ?_ | refine aops_nil ?_ | refine awp_block ?_ | refine px_then ?_ | refine px_block ?_ | refine px_block_ne rfl ?_ | refine pn_block ?_ | refine pn_then ?_ | refine pn_asg ?_ | refine pn_rnd ?_ | refine px_rnd ?_ | refine awp_exit ?_ | refine awp_skip ?_ | refine awp_ret ?_ | refine pr_then ?_ | refine pr_block ?_ | refine pr_rnd ?_ | refine pr_retM ?_ | refine pn_retM ?_ | refine pr_ret ?_ | refine pn_ret ?_) | refine awp_cond_t rfl rfl ?_ | refine awp_cond_f rfl rfl ?_ | ((first | apply aq (hd := rfl) (hok := rfl) (hw := rfl) | apply adr_q (ho := rfl) (hd := rfl) (hw := rfl)); (first | exact q_len uLS (hva.le (Le.none _)) rfl rfl | exact q_len uLS (hvb.le (Le.none _)) rfl rfl | exact q_move rfl (by conv => lhs; whnf) | exact q_assign rfl (by conv => lhs; whnf) | exact q_add rfl rfl rfl (by omega) | exact q_lss_t rfl rfl rfl (by omega) | exact q_lss_f rfl rfl rfl (by omega) | exact q_gtr_t rfl rfl rfl (by omega) | exact q_gtr_f rfl rfl rfl (by omega) | exact q_geq_t rfl rfl rfl (by omega) | exact q_geq_f rfl rfl rfl (by omega) | exact q_eql_t rfl rfl rfl (by omega) | exact q_eql_f rfl rfl rfl (by omega) | exact q_neq_t rfl rfl rfl (by omega) | exact q_neq_f rfl rfl rfl (by omega) | exact q_int rfl rfl rfl rfl | exact q_not rfl rfl | exact q_pick_t rfl rfl (by conv => lhs; whnf) | exact q_pick_f rfl rfl (by conv => lhs; whnf) | exact q_extract rfl rfl rfl)) | refine ano rfl rfl rfl ?_ | refine adr_no rfl rfl rfl ?_)
      rfl
    by_cases c3 : 11 < a.length
    · repeat (first | with_reducible (first | refine awp_seq ?_ | refine awp_region ?_ | refine awp_region_q (by kernel_rfl) (by kernel_rfl) ?_ | refine adr_nil ?_ | refine adr_end ?_ | refine aops_then ?_ | refine aops_nil ?_ | refine awp_block ?_ | refine px_then ?_ | refine px_block ?_ | refine px_block_ne rfl ?_ | refine pn_block ?_ | refine pn_then ?_ | refine pn_asg ?_ | refine pn_rnd ?_ | refine px_rnd ?_ | refine awp_exit ?_ | refine awp_skip ?_ | refine awp_ret ?_ | refine pr_then ?_ | refine pr_block ?_ | refine pr_rnd ?_ | refine pr_retM ?_ | refine pn_retM ?_ | refine pr_ret ?_ | refine pn_ret ?_) | refine awp_cond_t rfl rfl ?_ | refine awp_cond_f rfl rfl ?_ | ((first | apply aq (hd := rfl) (hok := rfl) (hw := rfl) | apply adr_q (ho := rfl) (hd := rfl) (hw := rfl)); (first | exact q_len uLS (hva.le (Le.none _)) rfl rfl | exact q_len uLS (hvb.le (Le.none _)) rfl rfl | exact q_move rfl (by conv => lhs; whnf) | exact q_assign rfl (by conv => lhs; whnf) | exact q_add rfl rfl rfl (by omega) | exact q_lss_t rfl rfl rfl (by omega) | exact q_lss_f rfl rfl rfl (by omega) | exact q_gtr_t rfl rfl rfl (by omega) | exact q_gtr_f rfl rfl rfl (by omega) | exact q_geq_t rfl rfl rfl (by omega) | exact q_geq_f rfl rfl rfl (by omega) | exact q_eql_t rfl rfl rfl (by omega) | exact q_eql_f rfl rfl rfl (by omega) | exact q_neq_t rfl rfl rfl (by omega) | exact q_neq_f rfl rfl rfl (by omega) | exact q_int rfl rfl rfl rfl | exact q_not rfl rfl | exact q_pick_t rfl rfl (by conv => lhs; whnf) | exact q_pick_f rfl rfl (by conv => lhs; whnf) | exact q_extract rfl rfl rfl)) | refine ano rfl rfl rfl ?_ | refine adr_no rfl rfl rfl ?_)
      rfl
    obtain ⟨s, hs⟩ : ∃ s, b.getD j (0, 0) = s := ⟨_, rfl⟩
    have hjl : j < b.length := by omega
    have hsb : s ∈ b := by rw [← hs]; simp [hjl]
    have lc := ok_snoc la lb hsb (by omega)
    have hz : low (dst (a ++ [s]) b) = (0, 1) := low_zero (dst_ok (by simp) LB.ne) (dst_share (s := s) (by simp) hsb)
    have Dz := fun (W : World) (v : Value) (h1 : SL W Mem.none 2 v (0 + a.length + 1) (([] ++ spC a) ++ [[Value.int .i64 s.1, Value.int .i64 s.2]].flatten)) h2 => Distance_c W v vb (a ++ [s]) b (by
      have e1 : ([] ++ spC a) ++ [[Value.int .i64 s.1, Value.int .i64 s.2]].flatten = spC (a ++ [s]) := by simp [spC]
      have e2 : 0 + a.length + 1 = (a ++ [s]).length := by simp
      rw [e1, e2] at h1
      exact h1) h2
    rw [show bothL (a ++ [s]) b = true by unfold bothL; rw [lc, lb]; rfl, hz] at Dz
    simp only [if_true] at Dz
    clear c1 hz lc hsp
    repeat (first | refine awp_cut_J [9,18,19] (fun vs m => ∃ B18, vs = [.bool true, .pointer (some ⟨B18, 0, Option.none⟩), .int .i64 0] ∧ HP m [.vs 32 B18 [.int .i64 0, .int .i64 1]]) (fun i => [1, 3, 4, 5, 6, 9, 13].contains i) [] (by kernel_rfl) ?_ ?_ | with_reducible (first | refine awp_seq ?_ | refine awp_region ?_ | refine awp_region_q (by kernel_rfl) (by kernel_rfl) ?_ | refine adr_nil ?_ | refine adr_end ?_ | refine aops_then ?_ | refine aops_nil ?_ | refine awp_block ?_ | refine px_then ?_ | refine px_block ?_ | refine px_block_ne rfl ?_ | refine pn_block ?_ | refine pn_then ?_ | refine pn_asg ?_ | refine pn_rnd ?_ | refine px_rnd ?_ | refine awp_exit ?_ | refine awp_skip ?_ | refine awp_ret ?_ | refine pr_then ?_ | refine pr_block ?_ | refine pr_rnd ?_ | refine pr_retM ?_ | refine pn_retM ?_ | refine pr_ret ?_ | refine pn_ret ?_) | refine awp_cond_t rfl rfl ?_ | refine awp_cond_f rfl rfl ?_ | ((first | apply aq (hd := rfl) (hok := rfl) (hw := rfl) | apply adr_q (ho := rfl) (hd := rfl) (hw := rfl)); (first | exact q_len uLS (hva.le (Le.none _)) rfl rfl | exact q_len uLS (hvb.le (Le.none _)) rfl rfl | exact q_move rfl (by conv => lhs; whnf) | exact q_assign rfl (by conv => lhs; whnf) | exact q_add rfl rfl rfl (by omega) | exact q_lss_t rfl rfl rfl (by omega) | exact q_lss_f rfl rfl rfl (by omega) | exact q_gtr_t rfl rfl rfl (by omega) | exact q_gtr_f rfl rfl rfl (by omega) | exact q_geq_t rfl rfl rfl (by omega) | exact q_geq_f rfl rfl rfl (by omega) | exact q_eql_t rfl rfl rfl (by omega) | exact q_eql_f rfl rfl rfl (by omega) | exact q_neq_t rfl rfl rfl (by omega) | exact q_neq_f rfl rfl rfl (by omega) | exact q_int rfl rfl rfl rfl | exact q_not rfl rfl | exact q_pick_t rfl rfl (by conv => lhs; whnf) | exact q_pick_f rfl rfl (by conv => lhs; whnf) | exact q_extract rfl rfl rfl)) | refine ano rfl rfl rfl ?_ | refine adr_no rfl rfl rfl ?_)
    · (apply aanyJ_free 1 (hH := H.picks [] (by decide)) (ho := rfl) (hb := by kernel_rfl) (hd := rfl) (hw := rfl)); (intro m H; (first | exact q_X2 tSp uLS (hvb.le (Le.none _)) rfl rfl rfl (i := j) hjl | exact (hs ▸ q_E2 tSp (hvb.le (Le.none _)) rfl rfl (j := j) hjl) | exact q_move rfl (by conv => lhs; whnf) | exact q_assign rfl (by conv => lhs; whnf)))
      (apply aanyJ_free 3 (hH := H.picks [] (by decide)) (ho := rfl) (hb := by kernel_rfl) (hd := rfl) (hw := rfl)); (intro m H; (first | exact q_X2 tSp uLS (hvb.le (Le.none _)) rfl rfl rfl (i := j) hjl | exact (hs ▸ q_E2 tSp (hvb.le (Le.none _)) rfl rfl (j := j) hjl) | exact q_move rfl (by conv => lhs; whnf) | exact q_assign rfl (by conv => lhs; whnf)))
      (apply aanyJ_free 4 (hH := H.picks [] (by decide)) (ho := rfl) (hb := by kernel_rfl) (hd := rfl) (hw := rfl)); (intro m H; (first | exact q_X2 tSp uLS (hvb.le (Le.none _)) rfl rfl rfl (i := j) hjl | exact (hs ▸ q_E2 tSp (hvb.le (Le.none _)) rfl rfl (j := j) hjl) | exact q_move rfl (by conv => lhs; whnf) | exact q_assign rfl (by conv => lhs; whnf)))
      (apply aanyJ_free 5 (hH := H.picks [] (by decide)) (ho := rfl) (hb := by kernel_rfl) (hd := rfl) (hw := rfl)); (intro m H; (first | exact q_X2 tSp uLS (hvb.le (Le.none _)) rfl rfl rfl (i := j) hjl | exact (hs ▸ q_E2 tSp (hvb.le (Le.none _)) rfl rfl (j := j) hjl) | exact q_move rfl (by conv => lhs; whnf) | exact q_assign rfl (by conv => lhs; whnf)))
      (apply aanyJ_free 6 (hH := H.picks [] (by decide)) (ho := rfl) (hb := by kernel_rfl) (hd := rfl) (hw := rfl)); (intro m H; (first | exact q_X2 tSp uLS (hvb.le (Le.none _)) rfl rfl rfl (i := j) hjl | exact (hs ▸ q_E2 tSp (hvb.le (Le.none _)) rfl rfl (j := j) hjl) | exact q_move rfl (by conv => lhs; whnf) | exact q_assign rfl (by conv => lhs; whnf)))
      (apply aanyJ_free 9 (hH := H.picks [] (by decide)) (ho := rfl) (hb := by kernel_rfl) (hd := rfl) (hw := rfl)); (intro m H; (first | exact q_X2 tSp uLS (hvb.le (Le.none _)) rfl rfl rfl (i := j) hjl | exact (hs ▸ q_E2 tSp (hvb.le (Le.none _)) rfl rfl (j := j) hjl) | exact q_move rfl (by conv => lhs; whnf) | exact q_assign rfl (by conv => lhs; whnf)))
      refine anyJ_each [0, 7, 14] (by kernel_rfl) rfl (each_cons ?_ (each_cons ?_ (each_cons ?_ (each_nil))))
      · refine stepJ_le rfl (by kernel_rfl) rfl rfl (h_build0 uLS hvi hvs H rfl (fun B0 m0 H hl => ⟨H.picks [] (by decide), hl, ?_⟩))
        refine anyJ_each [2, 7, 14] (by kernel_rfl) rfl (each_cons ?_ (each_cons ?_ (each_cons ?_ (each_nil))))
        · refine stepJ_le rfl (by kernel_rfl) rfl rfl (h_appN uLS hvi hvz rfl hvs (by decide) 0 H rfl (hva.le (Le.none _)) rfl rfl rfl (one_spC a) (by rw [hvb16]; omega) (Nat.le_trans (show _ ≤ 400 by omega) (by decide)) (fun B2 m2 H hl => ⟨H.picks [] (by decide), hl, ?_⟩))
          refine anyJ_each [7, 14] (by kernel_rfl) rfl (each_cons ?_ (each_cons ?_ (each_nil)))
          · refine stepJ_le rfl (by kernel_rfl) rfl rfl (h_buildN [[.int .i64 s.1, .int .i64 s.2]] uLS hvi hvz hvs H rfl (by decide) (by decide) rfl rfl (by simp) (fun B7 m7 H hl => ⟨H.picks [] (by decide), hl, ?_⟩))
            refine anyJ_each [8, 14] (by kernel_rfl) rfl (each_cons ?_ (each_cons ?_ (each_nil)))
            · refine stepJ_le rfl (by kernel_rfl) rfl rfl (h_appN uLS hvi hvz rfl hvs (by decide) 1 H rfl (H.sl 0 rfl).sl rfl rfl rfl (one_two s.1 s.2) (by rw [hvb16]; omega) (Nat.le_trans (show _ ≤ 400 by omega) (by decide)) (fun B8 m8 H hl => ⟨H.picks [] (by decide), hl, ?_⟩))
              refine anyJ_each [10, 14] (by kernel_rfl) rfl (each_cons ?_ (each_cons ?_ (each_nil)))
              · refine stepJ_le rfl (by kernel_rfl) rfl rfl (h_call fDistance (fun w hw => Dz w _ ((H.sl 1 rfl).sl.world hw) ((hvb.le (Le.none _)).world hw)) rfl rfl (fun va ma hR hS => ?_))
                obtain rfl := hR
                have H := H.callOnly hS
                refine ⟨H.picks [] (by decide), Keep.le hS.keep, ?_⟩
                refine aanyJ_take 11 (H.picks [] (by decide)) rfl (by kernel_rfl) rfl rfl rfl (q_move rfl rfl) ?_
                refine aanyJ_take 12 (H.picks [] (by decide)) rfl (by kernel_rfl) rfl rfl rfl (q_extract rfl rfl rfl) ?_
                (apply aanyJ_free 13 (hH := H.picks [] (by decide)) (ho := rfl) (hb := by kernel_rfl) (hd := rfl) (hw := rfl)); (intro m H; exact q_extract rfl rfl rfl)
                refine anyJ_each [14] (by kernel_rfl) rfl (each_cons ?_ (each_nil))
                refine stepJ_le rfl (by kernel_rfl) rfl rfl (h_A2 tSQ H rfl (fun B14 m14 H hl => ⟨H.picks [] (by decide), hl, ?_⟩))
                refine anyJ_each [15] (by kernel_rfl) rfl (each_cons ?_ (each_nil))
                refine stepJ_fix rfl (by kernel_rfl) rfl (by kernel_rfl) rfl (h_S2 tSQ 0 H rfl rfl rfl rfl rfl (fun m15 H => ⟨H.picks [] (by decide), ?_⟩))
                refine aanyJ_take 16 (H.picks [] (by decide)) rfl (by kernel_rfl) rfl rfl rfl (q_assign rfl rfl) ?_
                refine aanyJ_done (by kernel_rfl) ?_
                refine cut_n ?_
                exact ⟨_, rfl, H.picks [0] (by decide)⟩
              · refine stepJ_le rfl (by kernel_rfl) rfl rfl (h_A2 tSQ H rfl (fun B14 m14 H hl => ⟨H.picks [] (by decide), hl, ?_⟩))
                refine anyJ_each [10] (by kernel_rfl) rfl (each_cons ?_ (each_nil))
                refine stepJ_le rfl (by kernel_rfl) rfl rfl (h_call fDistance (fun w hw => Dz w _ ((H.sl 2 rfl).sl.world hw) ((hvb.le (Le.none _)).world hw)) rfl rfl (fun va ma hR hS => ?_))
                obtain rfl := hR
                have H := H.callOnly hS
                refine ⟨H.picks [] (by decide), Keep.le hS.keep, ?_⟩
                refine aanyJ_take 11 (H.picks [] (by decide)) rfl (by kernel_rfl) rfl rfl rfl (q_move rfl rfl) ?_
                refine aanyJ_take 12 (H.picks [] (by decide)) rfl (by kernel_rfl) rfl rfl rfl (q_extract rfl rfl rfl) ?_
                (apply aanyJ_free 13 (hH := H.picks [] (by decide)) (ho := rfl) (hb := by kernel_rfl) (hd := rfl) (hw := rfl)); (intro m H; exact q_extract rfl rfl rfl)
                refine anyJ_each [15] (by kernel_rfl) rfl (each_cons ?_ (each_nil))
                refine stepJ_fix rfl (by kernel_rfl) rfl (by kernel_rfl) rfl (h_S2 tSQ 0 H rfl rfl rfl rfl rfl (fun m15 H => ⟨H.picks [] (by decide), ?_⟩))
                refine aanyJ_take 16 (H.picks [] (by decide)) rfl (by kernel_rfl) rfl rfl rfl (q_assign rfl rfl) ?_
                refine aanyJ_done (by kernel_rfl) ?_
                refine cut_n ?_
                exact ⟨_, rfl, H.picks [0] (by decide)⟩
            · refine stepJ_le rfl (by kernel_rfl) rfl rfl (h_A2 tSQ H rfl (fun B14 m14 H hl => ⟨H.picks [] (by decide), hl, ?_⟩))
              refine anyJ_each [8] (by kernel_rfl) rfl (each_cons ?_ (each_nil))
              refine stepJ_le rfl (by kernel_rfl) rfl rfl (h_appN uLS hvi hvz rfl hvs (by decide) 2 H rfl (H.sl 1 rfl).sl rfl rfl rfl (one_two s.1 s.2) (by rw [hvb16]; omega) (Nat.le_trans (show _ ≤ 400 by omega) (by decide)) (fun B8 m8 H hl => ⟨H.picks [] (by decide), hl, ?_⟩))
              refine anyJ_each [10] (by kernel_rfl) rfl (each_cons ?_ (each_nil))
              refine stepJ_le rfl (by kernel_rfl) rfl rfl (h_call fDistance (fun w hw => Dz w _ ((H.sl 2 rfl).sl.world hw) ((hvb.le (Le.none _)).world hw)) rfl rfl (fun va ma hR hS => ?_))
              obtain rfl := hR
              have H := H.callOnly hS
              refine ⟨H.picks [] (by decide), Keep.le hS.keep, ?_⟩
              refine aanyJ_take 11 (H.picks [] (by decide)) rfl (by kernel_rfl) rfl rfl rfl (q_move rfl rfl) ?_
              refine aanyJ_take 12 (H.picks [] (by decide)) rfl (by kernel_rfl) rfl rfl rfl (q_extract rfl rfl rfl) ?_
              (apply aanyJ_free 13 (hH := H.picks [] (by decide)) (ho := rfl) (hb := by kernel_rfl) (hd := rfl) (hw := rfl)); (intro m H; exact q_extract rfl rfl rfl)
              refine anyJ_each [15] (by kernel_rfl) rfl (each_cons ?_ (each_nil))
              refine stepJ_fix rfl (by kernel_rfl) rfl (by kernel_rfl) rfl (h_S2 tSQ 0 H rfl rfl rfl rfl rfl (fun m15 H => ⟨H.picks [] (by decide), ?_⟩))
              refine aanyJ_take 16 (H.picks [] (by decide)) rfl (by kernel_rfl) rfl rfl rfl (q_assign rfl rfl) ?_
              refine aanyJ_done (by kernel_rfl) ?_
              refine cut_n ?_
              exact ⟨_, rfl, H.picks [0] (by decide)⟩
          · refine stepJ_le rfl (by kernel_rfl) rfl rfl (h_A2 tSQ H rfl (fun B14 m14 H hl => ⟨H.picks [] (by decide), hl, ?_⟩))
            refine anyJ_each [7] (by kernel_rfl) rfl (each_cons ?_ (each_nil))
            refine stepJ_le rfl (by kernel_rfl) rfl rfl (h_buildN [[.int .i64 s.1, .int .i64 s.2]] uLS hvi hvz hvs H rfl (by decide) (by decide) rfl rfl (by simp) (fun B7 m7 H hl => ⟨H.picks [] (by decide), hl, ?_⟩))
            refine anyJ_each [8] (by kernel_rfl) rfl (each_cons ?_ (each_nil))
            refine stepJ_le rfl (by kernel_rfl) rfl rfl (h_appN uLS hvi hvz rfl hvs (by decide) 2 H rfl (H.sl 0 rfl).sl rfl rfl rfl (one_two s.1 s.2) (by rw [hvb16]; omega) (Nat.le_trans (show _ ≤ 400 by omega) (by decide)) (fun B8 m8 H hl => ⟨H.picks [] (by decide), hl, ?_⟩))
            refine anyJ_each [10] (by kernel_rfl) rfl (each_cons ?_ (each_nil))
            refine stepJ_le rfl (by kernel_rfl) rfl rfl (h_call fDistance (fun w hw => Dz w _ ((H.sl 2 rfl).sl.world hw) ((hvb.le (Le.none _)).world hw)) rfl rfl (fun va ma hR hS => ?_))
            obtain rfl := hR
            have H := H.callOnly hS
            refine ⟨H.picks [] (by decide), Keep.le hS.keep, ?_⟩
            refine aanyJ_take 11 (H.picks [] (by decide)) rfl (by kernel_rfl) rfl rfl rfl (q_move rfl rfl) ?_
            refine aanyJ_take 12 (H.picks [] (by decide)) rfl (by kernel_rfl) rfl rfl rfl (q_extract rfl rfl rfl) ?_
            (apply aanyJ_free 13 (hH := H.picks [] (by decide)) (ho := rfl) (hb := by kernel_rfl) (hd := rfl) (hw := rfl)); (intro m H; exact q_extract rfl rfl rfl)
            refine anyJ_each [15] (by kernel_rfl) rfl (each_cons ?_ (each_nil))
            refine stepJ_fix rfl (by kernel_rfl) rfl (by kernel_rfl) rfl (h_S2 tSQ 1 H rfl rfl rfl rfl rfl (fun m15 H => ⟨H.picks [] (by decide), ?_⟩))
            refine aanyJ_take 16 (H.picks [] (by decide)) rfl (by kernel_rfl) rfl rfl rfl (q_assign rfl rfl) ?_
            refine aanyJ_done (by kernel_rfl) ?_
            refine cut_n ?_
            exact ⟨_, rfl, H.picks [1] (by decide)⟩
        · refine stepJ_le rfl (by kernel_rfl) rfl rfl (h_buildN [[.int .i64 s.1, .int .i64 s.2]] uLS hvi hvz hvs H rfl (by decide) (by decide) rfl rfl (by simp) (fun B7 m7 H hl => ⟨H.picks [] (by decide), hl, ?_⟩))
          refine anyJ_each [2, 14] (by kernel_rfl) rfl (each_cons ?_ (each_cons ?_ (each_nil)))
          · refine stepJ_le rfl (by kernel_rfl) rfl rfl (h_appN uLS hvi hvz rfl hvs (by decide) 1 H rfl (hva.le (Le.none _)) rfl rfl rfl (one_spC a) (by rw [hvb16]; omega) (Nat.le_trans (show _ ≤ 400 by omega) (by decide)) (fun B2 m2 H hl => ⟨H.picks [] (by decide), hl, ?_⟩))
            refine anyJ_each [8, 14] (by kernel_rfl) rfl (each_cons ?_ (each_cons ?_ (each_nil)))
            · refine stepJ_le rfl (by kernel_rfl) rfl rfl (h_appN uLS hvi hvz rfl hvs (by decide) 1 H rfl (H.sl 0 rfl).sl rfl rfl rfl (one_two s.1 s.2) (by rw [hvb16]; omega) (Nat.le_trans (show _ ≤ 400 by omega) (by decide)) (fun B8 m8 H hl => ⟨H.picks [] (by decide), hl, ?_⟩))
              refine anyJ_each [10, 14] (by kernel_rfl) rfl (each_cons ?_ (each_cons ?_ (each_nil)))
              · refine stepJ_le rfl (by kernel_rfl) rfl rfl (h_call fDistance (fun w hw => Dz w _ ((H.sl 1 rfl).sl.world hw) ((hvb.le (Le.none _)).world hw)) rfl rfl (fun va ma hR hS => ?_))
                obtain rfl := hR
                have H := H.callOnly hS
                refine ⟨H.picks [] (by decide), Keep.le hS.keep, ?_⟩
                refine aanyJ_take 11 (H.picks [] (by decide)) rfl (by kernel_rfl) rfl rfl rfl (q_move rfl rfl) ?_
                refine aanyJ_take 12 (H.picks [] (by decide)) rfl (by kernel_rfl) rfl rfl rfl (q_extract rfl rfl rfl) ?_
                (apply aanyJ_free 13 (hH := H.picks [] (by decide)) (ho := rfl) (hb := by kernel_rfl) (hd := rfl) (hw := rfl)); (intro m H; exact q_extract rfl rfl rfl)
                refine anyJ_each [14] (by kernel_rfl) rfl (each_cons ?_ (each_nil))
                refine stepJ_le rfl (by kernel_rfl) rfl rfl (h_A2 tSQ H rfl (fun B14 m14 H hl => ⟨H.picks [] (by decide), hl, ?_⟩))
                refine anyJ_each [15] (by kernel_rfl) rfl (each_cons ?_ (each_nil))
                refine stepJ_fix rfl (by kernel_rfl) rfl (by kernel_rfl) rfl (h_S2 tSQ 0 H rfl rfl rfl rfl rfl (fun m15 H => ⟨H.picks [] (by decide), ?_⟩))
                refine aanyJ_take 16 (H.picks [] (by decide)) rfl (by kernel_rfl) rfl rfl rfl (q_assign rfl rfl) ?_
                refine aanyJ_done (by kernel_rfl) ?_
                refine cut_n ?_
                exact ⟨_, rfl, H.picks [0] (by decide)⟩
              · refine stepJ_le rfl (by kernel_rfl) rfl rfl (h_A2 tSQ H rfl (fun B14 m14 H hl => ⟨H.picks [] (by decide), hl, ?_⟩))
                refine anyJ_each [10] (by kernel_rfl) rfl (each_cons ?_ (each_nil))
                refine stepJ_le rfl (by kernel_rfl) rfl rfl (h_call fDistance (fun w hw => Dz w _ ((H.sl 2 rfl).sl.world hw) ((hvb.le (Le.none _)).world hw)) rfl rfl (fun va ma hR hS => ?_))
                obtain rfl := hR
                have H := H.callOnly hS
                refine ⟨H.picks [] (by decide), Keep.le hS.keep, ?_⟩
                refine aanyJ_take 11 (H.picks [] (by decide)) rfl (by kernel_rfl) rfl rfl rfl (q_move rfl rfl) ?_
                refine aanyJ_take 12 (H.picks [] (by decide)) rfl (by kernel_rfl) rfl rfl rfl (q_extract rfl rfl rfl) ?_
                (apply aanyJ_free 13 (hH := H.picks [] (by decide)) (ho := rfl) (hb := by kernel_rfl) (hd := rfl) (hw := rfl)); (intro m H; exact q_extract rfl rfl rfl)
                refine anyJ_each [15] (by kernel_rfl) rfl (each_cons ?_ (each_nil))
                refine stepJ_fix rfl (by kernel_rfl) rfl (by kernel_rfl) rfl (h_S2 tSQ 0 H rfl rfl rfl rfl rfl (fun m15 H => ⟨H.picks [] (by decide), ?_⟩))
                refine aanyJ_take 16 (H.picks [] (by decide)) rfl (by kernel_rfl) rfl rfl rfl (q_assign rfl rfl) ?_
                refine aanyJ_done (by kernel_rfl) ?_
                refine cut_n ?_
                exact ⟨_, rfl, H.picks [0] (by decide)⟩
            · refine stepJ_le rfl (by kernel_rfl) rfl rfl (h_A2 tSQ H rfl (fun B14 m14 H hl => ⟨H.picks [] (by decide), hl, ?_⟩))
              refine anyJ_each [8] (by kernel_rfl) rfl (each_cons ?_ (each_nil))
              refine stepJ_le rfl (by kernel_rfl) rfl rfl (h_appN uLS hvi hvz rfl hvs (by decide) 2 H rfl (H.sl 1 rfl).sl rfl rfl rfl (one_two s.1 s.2) (by rw [hvb16]; omega) (Nat.le_trans (show _ ≤ 400 by omega) (by decide)) (fun B8 m8 H hl => ⟨H.picks [] (by decide), hl, ?_⟩))
              refine anyJ_each [10] (by kernel_rfl) rfl (each_cons ?_ (each_nil))
              refine stepJ_le rfl (by kernel_rfl) rfl rfl (h_call fDistance (fun w hw => Dz w _ ((H.sl 2 rfl).sl.world hw) ((hvb.le (Le.none _)).world hw)) rfl rfl (fun va ma hR hS => ?_))
              obtain rfl := hR
              have H := H.callOnly hS
              refine ⟨H.picks [] (by decide), Keep.le hS.keep, ?_⟩
              refine aanyJ_take 11 (H.picks [] (by decide)) rfl (by kernel_rfl) rfl rfl rfl (q_move rfl rfl) ?_
              refine aanyJ_take 12 (H.picks [] (by decide)) rfl (by kernel_rfl) rfl rfl rfl (q_extract rfl rfl rfl) ?_
              (apply aanyJ_free 13 (hH := H.picks [] (by decide)) (ho := rfl) (hb := by kernel_rfl) (hd := rfl) (hw := rfl)); (intro m H; exact q_extract rfl rfl rfl)
              refine anyJ_each [15] (by kernel_rfl) rfl (each_cons ?_ (each_nil))
              refine stepJ_fix rfl (by kernel_rfl) rfl (by kernel_rfl) rfl (h_S2 tSQ 0 H rfl rfl rfl rfl rfl (fun m15 H => ⟨H.picks [] (by decide), ?_⟩))
              refine aanyJ_take 16 (H.picks [] (by decide)) rfl (by kernel_rfl) rfl rfl rfl (q_assign rfl rfl) ?_
              refine aanyJ_done (by kernel_rfl) ?_
              refine cut_n ?_
              exact ⟨_, rfl, H.picks [0] (by decide)⟩
          · refine stepJ_le rfl (by kernel_rfl) rfl rfl (h_A2 tSQ H rfl (fun B14 m14 H hl => ⟨H.picks [] (by decide), hl, ?_⟩))
            refine anyJ_each [2] (by kernel_rfl) rfl (each_cons ?_ (each_nil))
            refine stepJ_le rfl (by kernel_rfl) rfl rfl (h_appN uLS hvi hvz rfl hvs (by decide) 2 H rfl (hva.le (Le.none _)) rfl rfl rfl (one_spC a) (by rw [hvb16]; omega) (Nat.le_trans (show _ ≤ 400 by omega) (by decide)) (fun B2 m2 H hl => ⟨H.picks [] (by decide), hl, ?_⟩))
            refine anyJ_each [8] (by kernel_rfl) rfl (each_cons ?_ (each_nil))
            refine stepJ_le rfl (by kernel_rfl) rfl rfl (h_appN uLS hvi hvz rfl hvs (by decide) 2 H rfl (H.sl 1 rfl).sl rfl rfl rfl (one_two s.1 s.2) (by rw [hvb16]; omega) (Nat.le_trans (show _ ≤ 400 by omega) (by decide)) (fun B8 m8 H hl => ⟨H.picks [] (by decide), hl, ?_⟩))
            refine anyJ_each [10] (by kernel_rfl) rfl (each_cons ?_ (each_nil))
            refine stepJ_le rfl (by kernel_rfl) rfl rfl (h_call fDistance (fun w hw => Dz w _ ((H.sl 2 rfl).sl.world hw) ((hvb.le (Le.none _)).world hw)) rfl rfl (fun va ma hR hS => ?_))
            obtain rfl := hR
            have H := H.callOnly hS
            refine ⟨H.picks [] (by decide), Keep.le hS.keep, ?_⟩
            refine aanyJ_take 11 (H.picks [] (by decide)) rfl (by kernel_rfl) rfl rfl rfl (q_move rfl rfl) ?_
            refine aanyJ_take 12 (H.picks [] (by decide)) rfl (by kernel_rfl) rfl rfl rfl (q_extract rfl rfl rfl) ?_
            (apply aanyJ_free 13 (hH := H.picks [] (by decide)) (ho := rfl) (hb := by kernel_rfl) (hd := rfl) (hw := rfl)); (intro m H; exact q_extract rfl rfl rfl)
            refine anyJ_each [15] (by kernel_rfl) rfl (each_cons ?_ (each_nil))
            refine stepJ_fix rfl (by kernel_rfl) rfl (by kernel_rfl) rfl (h_S2 tSQ 0 H rfl rfl rfl rfl rfl (fun m15 H => ⟨H.picks [] (by decide), ?_⟩))
            refine aanyJ_take 16 (H.picks [] (by decide)) rfl (by kernel_rfl) rfl rfl rfl (q_assign rfl rfl) ?_
            refine aanyJ_done (by kernel_rfl) ?_
            refine cut_n ?_
            exact ⟨_, rfl, H.picks [0] (by decide)⟩
        · refine stepJ_le rfl (by kernel_rfl) rfl rfl (h_A2 tSQ H rfl (fun B14 m14 H hl => ⟨H.picks [] (by decide), hl, ?_⟩))
          refine anyJ_each [2, 7] (by kernel_rfl) rfl (each_cons ?_ (each_cons ?_ (each_nil)))
          · refine stepJ_le rfl (by kernel_rfl) rfl rfl (h_appN uLS hvi hvz rfl hvs (by decide) 1 H rfl (hva.le (Le.none _)) rfl rfl rfl (one_spC a) (by rw [hvb16]; omega) (Nat.le_trans (show _ ≤ 400 by omega) (by decide)) (fun B2 m2 H hl => ⟨H.picks [] (by decide), hl, ?_⟩))
            refine anyJ_each [7] (by kernel_rfl) rfl (each_cons ?_ (each_nil))
            refine stepJ_le rfl (by kernel_rfl) rfl rfl (h_buildN [[.int .i64 s.1, .int .i64 s.2]] uLS hvi hvz hvs H rfl (by decide) (by decide) rfl rfl (by simp) (fun B7 m7 H hl => ⟨H.picks [] (by decide), hl, ?_⟩))
            refine anyJ_each [8] (by kernel_rfl) rfl (each_cons ?_ (each_nil))
            refine stepJ_le rfl (by kernel_rfl) rfl rfl (h_appN uLS hvi hvz rfl hvs (by decide) 2 H rfl (H.sl 0 rfl).sl rfl rfl rfl (one_two s.1 s.2) (by rw [hvb16]; omega) (Nat.le_trans (show _ ≤ 400 by omega) (by decide)) (fun B8 m8 H hl => ⟨H.picks [] (by decide), hl, ?_⟩))
            refine anyJ_each [10] (by kernel_rfl) rfl (each_cons ?_ (each_nil))
            refine stepJ_le rfl (by kernel_rfl) rfl rfl (h_call fDistance (fun w hw => Dz w _ ((H.sl 2 rfl).sl.world hw) ((hvb.le (Le.none _)).world hw)) rfl rfl (fun va ma hR hS => ?_))
            obtain rfl := hR
            have H := H.callOnly hS
            refine ⟨H.picks [] (by decide), Keep.le hS.keep, ?_⟩
            refine aanyJ_take 11 (H.picks [] (by decide)) rfl (by kernel_rfl) rfl rfl rfl (q_move rfl rfl) ?_
            refine aanyJ_take 12 (H.picks [] (by decide)) rfl (by kernel_rfl) rfl rfl rfl (q_extract rfl rfl rfl) ?_
            (apply aanyJ_free 13 (hH := H.picks [] (by decide)) (ho := rfl) (hb := by kernel_rfl) (hd := rfl) (hw := rfl)); (intro m H; exact q_extract rfl rfl rfl)
            refine anyJ_each [15] (by kernel_rfl) rfl (each_cons ?_ (each_nil))
            refine stepJ_fix rfl (by kernel_rfl) rfl (by kernel_rfl) rfl (h_S2 tSQ 1 H rfl rfl rfl rfl rfl (fun m15 H => ⟨H.picks [] (by decide), ?_⟩))
            refine aanyJ_take 16 (H.picks [] (by decide)) rfl (by kernel_rfl) rfl rfl rfl (q_assign rfl rfl) ?_
            refine aanyJ_done (by kernel_rfl) ?_
            refine cut_n ?_
            exact ⟨_, rfl, H.picks [1] (by decide)⟩
          · refine stepJ_le rfl (by kernel_rfl) rfl rfl (h_buildN [[.int .i64 s.1, .int .i64 s.2]] uLS hvi hvz hvs H rfl (by decide) (by decide) rfl rfl (by simp) (fun B7 m7 H hl => ⟨H.picks [] (by decide), hl, ?_⟩))
            refine anyJ_each [2] (by kernel_rfl) rfl (each_cons ?_ (each_nil))
            refine stepJ_le rfl (by kernel_rfl) rfl rfl (h_appN uLS hvi hvz rfl hvs (by decide) 2 H rfl (hva.le (Le.none _)) rfl rfl rfl (one_spC a) (by rw [hvb16]; omega) (Nat.le_trans (show _ ≤ 400 by omega) (by decide)) (fun B2 m2 H hl => ⟨H.picks [] (by decide), hl, ?_⟩))
            refine anyJ_each [8] (by kernel_rfl) rfl (each_cons ?_ (each_nil))
            refine stepJ_le rfl (by kernel_rfl) rfl rfl (h_appN uLS hvi hvz rfl hvs (by decide) 2 H rfl (H.sl 0 rfl).sl rfl rfl rfl (one_two s.1 s.2) (by rw [hvb16]; omega) (Nat.le_trans (show _ ≤ 400 by omega) (by decide)) (fun B8 m8 H hl => ⟨H.picks [] (by decide), hl, ?_⟩))
            refine anyJ_each [10] (by kernel_rfl) rfl (each_cons ?_ (each_nil))
            refine stepJ_le rfl (by kernel_rfl) rfl rfl (h_call fDistance (fun w hw => Dz w _ ((H.sl 2 rfl).sl.world hw) ((hvb.le (Le.none _)).world hw)) rfl rfl (fun va ma hR hS => ?_))
            obtain rfl := hR
            have H := H.callOnly hS
            refine ⟨H.picks [] (by decide), Keep.le hS.keep, ?_⟩
            refine aanyJ_take 11 (H.picks [] (by decide)) rfl (by kernel_rfl) rfl rfl rfl (q_move rfl rfl) ?_
            refine aanyJ_take 12 (H.picks [] (by decide)) rfl (by kernel_rfl) rfl rfl rfl (q_extract rfl rfl rfl) ?_
            (apply aanyJ_free 13 (hH := H.picks [] (by decide)) (ho := rfl) (hb := by kernel_rfl) (hd := rfl) (hw := rfl)); (intro m H; exact q_extract rfl rfl rfl)
            refine anyJ_each [15] (by kernel_rfl) rfl (each_cons ?_ (each_nil))
            refine stepJ_fix rfl (by kernel_rfl) rfl (by kernel_rfl) rfl (h_S2 tSQ 1 H rfl rfl rfl rfl rfl (fun m15 H => ⟨H.picks [] (by decide), ?_⟩))
            refine aanyJ_take 16 (H.picks [] (by decide)) rfl (by kernel_rfl) rfl rfl rfl (q_assign rfl rfl) ?_
            refine aanyJ_done (by kernel_rfl) ?_
            refine cut_n ?_
            exact ⟨_, rfl, H.picks [1] (by decide)⟩
      · refine stepJ_le rfl (by kernel_rfl) rfl rfl (h_buildN [[.int .i64 s.1, .int .i64 s.2]] uLS hvi hvz hvs H rfl (by decide) (by decide) rfl rfl (by simp) (fun B7 m7 H hl => ⟨H.picks [] (by decide), hl, ?_⟩))
        refine anyJ_each [0, 14] (by kernel_rfl) rfl (each_cons ?_ (each_cons ?_ (each_nil)))
        · refine stepJ_le rfl (by kernel_rfl) rfl rfl (h_build0 uLS hvi hvs H rfl (fun B0 m0 H hl => ⟨H.picks [] (by decide), hl, ?_⟩))
          refine anyJ_each [2, 14] (by kernel_rfl) rfl (each_cons ?_ (each_cons ?_ (each_nil)))
          · refine stepJ_le rfl (by kernel_rfl) rfl rfl (h_appN uLS hvi hvz rfl hvs (by decide) 0 H rfl (hva.le (Le.none _)) rfl rfl rfl (one_spC a) (by rw [hvb16]; omega) (Nat.le_trans (show _ ≤ 400 by omega) (by decide)) (fun B2 m2 H hl => ⟨H.picks [] (by decide), hl, ?_⟩))
            refine anyJ_each [8, 14] (by kernel_rfl) rfl (each_cons ?_ (each_cons ?_ (each_nil)))
            · refine stepJ_le rfl (by kernel_rfl) rfl rfl (h_appN uLS hvi hvz rfl hvs (by decide) 0 H rfl (H.sl 1 rfl).sl rfl rfl rfl (one_two s.1 s.2) (by rw [hvb16]; omega) (Nat.le_trans (show _ ≤ 400 by omega) (by decide)) (fun B8 m8 H hl => ⟨H.picks [] (by decide), hl, ?_⟩))
              refine anyJ_each [10, 14] (by kernel_rfl) rfl (each_cons ?_ (each_cons ?_ (each_nil)))
              · refine stepJ_le rfl (by kernel_rfl) rfl rfl (h_call fDistance (fun w hw => Dz w _ ((H.sl 0 rfl).sl.world hw) ((hvb.le (Le.none _)).world hw)) rfl rfl (fun va ma hR hS => ?_))
                obtain rfl := hR
                have H := H.callOnly hS
                refine ⟨H.picks [] (by decide), Keep.le hS.keep, ?_⟩
                refine aanyJ_take 11 (H.picks [] (by decide)) rfl (by kernel_rfl) rfl rfl rfl (q_move rfl rfl) ?_
                refine aanyJ_take 12 (H.picks [] (by decide)) rfl (by kernel_rfl) rfl rfl rfl (q_extract rfl rfl rfl) ?_
                (apply aanyJ_free 13 (hH := H.picks [] (by decide)) (ho := rfl) (hb := by kernel_rfl) (hd := rfl) (hw := rfl)); (intro m H; exact q_extract rfl rfl rfl)
                refine anyJ_each [14] (by kernel_rfl) rfl (each_cons ?_ (each_nil))
                refine stepJ_le rfl (by kernel_rfl) rfl rfl (h_A2 tSQ H rfl (fun B14 m14 H hl => ⟨H.picks [] (by decide), hl, ?_⟩))
                refine anyJ_each [15] (by kernel_rfl) rfl (each_cons ?_ (each_nil))
                refine stepJ_fix rfl (by kernel_rfl) rfl (by kernel_rfl) rfl (h_S2 tSQ 0 H rfl rfl rfl rfl rfl (fun m15 H => ⟨H.picks [] (by decide), ?_⟩))
                refine aanyJ_take 16 (H.picks [] (by decide)) rfl (by kernel_rfl) rfl rfl rfl (q_assign rfl rfl) ?_
                refine aanyJ_done (by kernel_rfl) ?_
                refine cut_n ?_
                exact ⟨_, rfl, H.picks [0] (by decide)⟩
              · refine stepJ_le rfl (by kernel_rfl) rfl rfl (h_A2 tSQ H rfl (fun B14 m14 H hl => ⟨H.picks [] (by decide), hl, ?_⟩))
                refine anyJ_each [10] (by kernel_rfl) rfl (each_cons ?_ (each_nil))
                refine stepJ_le rfl (by kernel_rfl) rfl rfl (h_call fDistance (fun w hw => Dz w _ ((H.sl 1 rfl).sl.world hw) ((hvb.le (Le.none _)).world hw)) rfl rfl (fun va ma hR hS => ?_))
                obtain rfl := hR
                have H := H.callOnly hS
                refine ⟨H.picks [] (by decide), Keep.le hS.keep, ?_⟩
                refine aanyJ_take 11 (H.picks [] (by decide)) rfl (by kernel_rfl) rfl rfl rfl (q_move rfl rfl) ?_
                refine aanyJ_take 12 (H.picks [] (by decide)) rfl (by kernel_rfl) rfl rfl rfl (q_extract rfl rfl rfl) ?_
                (apply aanyJ_free 13 (hH := H.picks [] (by decide)) (ho := rfl) (hb := by kernel_rfl) (hd := rfl) (hw := rfl)); (intro m H; exact q_extract rfl rfl rfl)
                refine anyJ_each [15] (by kernel_rfl) rfl (each_cons ?_ (each_nil))
                refine stepJ_fix rfl (by kernel_rfl) rfl (by kernel_rfl) rfl (h_S2 tSQ 0 H rfl rfl rfl rfl rfl (fun m15 H => ⟨H.picks [] (by decide), ?_⟩))
                refine aanyJ_take 16 (H.picks [] (by decide)) rfl (by kernel_rfl) rfl rfl rfl (q_assign rfl rfl) ?_
                refine aanyJ_done (by kernel_rfl) ?_
                refine cut_n ?_
                exact ⟨_, rfl, H.picks [0] (by decide)⟩
            · refine stepJ_le rfl (by kernel_rfl) rfl rfl (h_A2 tSQ H rfl (fun B14 m14 H hl => ⟨H.picks [] (by decide), hl, ?_⟩))
              refine anyJ_each [8] (by kernel_rfl) rfl (each_cons ?_ (each_nil))
              refine stepJ_le rfl (by kernel_rfl) rfl rfl (h_appN uLS hvi hvz rfl hvs (by decide) 1 H rfl (H.sl 2 rfl).sl rfl rfl rfl (one_two s.1 s.2) (by rw [hvb16]; omega) (Nat.le_trans (show _ ≤ 400 by omega) (by decide)) (fun B8 m8 H hl => ⟨H.picks [] (by decide), hl, ?_⟩))
              refine anyJ_each [10] (by kernel_rfl) rfl (each_cons ?_ (each_nil))
              refine stepJ_le rfl (by kernel_rfl) rfl rfl (h_call fDistance (fun w hw => Dz w _ ((H.sl 1 rfl).sl.world hw) ((hvb.le (Le.none _)).world hw)) rfl rfl (fun va ma hR hS => ?_))
              obtain rfl := hR
              have H := H.callOnly hS
              refine ⟨H.picks [] (by decide), Keep.le hS.keep, ?_⟩
              refine aanyJ_take 11 (H.picks [] (by decide)) rfl (by kernel_rfl) rfl rfl rfl (q_move rfl rfl) ?_
              refine aanyJ_take 12 (H.picks [] (by decide)) rfl (by kernel_rfl) rfl rfl rfl (q_extract rfl rfl rfl) ?_
              (apply aanyJ_free 13 (hH := H.picks [] (by decide)) (ho := rfl) (hb := by kernel_rfl) (hd := rfl) (hw := rfl)); (intro m H; exact q_extract rfl rfl rfl)
              refine anyJ_each [15] (by kernel_rfl) rfl (each_cons ?_ (each_nil))
              refine stepJ_fix rfl (by kernel_rfl) rfl (by kernel_rfl) rfl (h_S2 tSQ 0 H rfl rfl rfl rfl rfl (fun m15 H => ⟨H.picks [] (by decide), ?_⟩))
              refine aanyJ_take 16 (H.picks [] (by decide)) rfl (by kernel_rfl) rfl rfl rfl (q_assign rfl rfl) ?_
              refine aanyJ_done (by kernel_rfl) ?_
              refine cut_n ?_
              exact ⟨_, rfl, H.picks [0] (by decide)⟩
          · refine stepJ_le rfl (by kernel_rfl) rfl rfl (h_A2 tSQ H rfl (fun B14 m14 H hl => ⟨H.picks [] (by decide), hl, ?_⟩))
            refine anyJ_each [2] (by kernel_rfl) rfl (each_cons ?_ (each_nil))
            refine stepJ_le rfl (by kernel_rfl) rfl rfl (h_appN uLS hvi hvz rfl hvs (by decide) 1 H rfl (hva.le (Le.none _)) rfl rfl rfl (one_spC a) (by rw [hvb16]; omega) (Nat.le_trans (show _ ≤ 400 by omega) (by decide)) (fun B2 m2 H hl => ⟨H.picks [] (by decide), hl, ?_⟩))
            refine anyJ_each [8] (by kernel_rfl) rfl (each_cons ?_ (each_nil))
            refine stepJ_le rfl (by kernel_rfl) rfl rfl (h_appN uLS hvi hvz rfl hvs (by decide) 1 H rfl (H.sl 2 rfl).sl rfl rfl rfl (one_two s.1 s.2) (by rw [hvb16]; omega) (Nat.le_trans (show _ ≤ 400 by omega) (by decide)) (fun B8 m8 H hl => ⟨H.picks [] (by decide), hl, ?_⟩))
            refine anyJ_each [10] (by kernel_rfl) rfl (each_cons ?_ (each_nil))
            refine stepJ_le rfl (by kernel_rfl) rfl rfl (h_call fDistance (fun w hw => Dz w _ ((H.sl 1 rfl).sl.world hw) ((hvb.le (Le.none _)).world hw)) rfl rfl (fun va ma hR hS => ?_))
            obtain rfl := hR
            have H := H.callOnly hS
            refine ⟨H.picks [] (by decide), Keep.le hS.keep, ?_⟩
            refine aanyJ_take 11 (H.picks [] (by decide)) rfl (by kernel_rfl) rfl rfl rfl (q_move rfl rfl) ?_
            refine aanyJ_take 12 (H.picks [] (by decide)) rfl (by kernel_rfl) rfl rfl rfl (q_extract rfl rfl rfl) ?_
            (apply aanyJ_free 13 (hH := H.picks [] (by decide)) (ho := rfl) (hb := by kernel_rfl) (hd := rfl) (hw := rfl)); (intro m H; exact q_extract rfl rfl rfl)
            refine anyJ_each [15] (by kernel_rfl) rfl (each_cons ?_ (each_nil))
            refine stepJ_fix rfl (by kernel_rfl) rfl (by kernel_rfl) rfl (h_S2 tSQ 0 H rfl rfl rfl rfl rfl (fun m15 H => ⟨H.picks [] (by decide), ?_⟩))
            refine aanyJ_take 16 (H.picks [] (by decide)) rfl (by kernel_rfl) rfl rfl rfl (q_assign rfl rfl) ?_
            refine aanyJ_done (by kernel_rfl) ?_
            refine cut_n ?_
            exact ⟨_, rfl, H.picks [0] (by decide)⟩
        · refine stepJ_le rfl (by kernel_rfl) rfl rfl (h_A2 tSQ H rfl (fun B14 m14 H hl => ⟨H.picks [] (by decide), hl, ?_⟩))
          refine anyJ_each [0] (by kernel_rfl) rfl (each_cons ?_ (each_nil))
          refine stepJ_le rfl (by kernel_rfl) rfl rfl (h_build0 uLS hvi hvs H rfl (fun B0 m0 H hl => ⟨H.picks [] (by decide), hl, ?_⟩))
          refine anyJ_each [2] (by kernel_rfl) rfl (each_cons ?_ (each_nil))
          refine stepJ_le rfl (by kernel_rfl) rfl rfl (h_appN uLS hvi hvz rfl hvs (by decide) 0 H rfl (hva.le (Le.none _)) rfl rfl rfl (one_spC a) (by rw [hvb16]; omega) (Nat.le_trans (show _ ≤ 400 by omega) (by decide)) (fun B2 m2 H hl => ⟨H.picks [] (by decide), hl, ?_⟩))
          refine anyJ_each [8] (by kernel_rfl) rfl (each_cons ?_ (each_nil))
          refine stepJ_le rfl (by kernel_rfl) rfl rfl (h_appN uLS hvi hvz rfl hvs (by decide) 0 H rfl (H.sl 2 rfl).sl rfl rfl rfl (one_two s.1 s.2) (by rw [hvb16]; omega) (Nat.le_trans (show _ ≤ 400 by omega) (by decide)) (fun B8 m8 H hl => ⟨H.picks [] (by decide), hl, ?_⟩))
          refine anyJ_each [10] (by kernel_rfl) rfl (each_cons ?_ (each_nil))
          refine stepJ_le rfl (by kernel_rfl) rfl rfl (h_call fDistance (fun w hw => Dz w _ ((H.sl 0 rfl).sl.world hw) ((hvb.le (Le.none _)).world hw)) rfl rfl (fun va ma hR hS => ?_))
          obtain rfl := hR
          have H := H.callOnly hS
          refine ⟨H.picks [] (by decide), Keep.le hS.keep, ?_⟩
          refine aanyJ_take 11 (H.picks [] (by decide)) rfl (by kernel_rfl) rfl rfl rfl (q_move rfl rfl) ?_
          refine aanyJ_take 12 (H.picks [] (by decide)) rfl (by kernel_rfl) rfl rfl rfl (q_extract rfl rfl rfl) ?_
          (apply aanyJ_free 13 (hH := H.picks [] (by decide)) (ho := rfl) (hb := by kernel_rfl) (hd := rfl) (hw := rfl)); (intro m H; exact q_extract rfl rfl rfl)
          refine anyJ_each [15] (by kernel_rfl) rfl (each_cons ?_ (each_nil))
          refine stepJ_fix rfl (by kernel_rfl) rfl (by kernel_rfl) rfl (h_S2 tSQ 1 H rfl rfl rfl rfl rfl (fun m15 H => ⟨H.picks [] (by decide), ?_⟩))
          refine aanyJ_take 16 (H.picks [] (by decide)) rfl (by kernel_rfl) rfl rfl rfl (q_assign rfl rfl) ?_
          refine aanyJ_done (by kernel_rfl) ?_
          refine cut_n ?_
          exact ⟨_, rfl, H.picks [1] (by decide)⟩
      · refine stepJ_le rfl (by kernel_rfl) rfl rfl (h_A2 tSQ H rfl (fun B14 m14 H hl => ⟨H.picks [] (by decide), hl, ?_⟩))
        refine anyJ_each [0, 7] (by kernel_rfl) rfl (each_cons ?_ (each_cons ?_ (each_nil)))
        · refine stepJ_le rfl (by kernel_rfl) rfl rfl (h_build0 uLS hvi hvs H rfl (fun B0 m0 H hl => ⟨H.picks [] (by decide), hl, ?_⟩))
          refine anyJ_each [2, 7] (by kernel_rfl) rfl (each_cons ?_ (each_cons ?_ (each_nil)))
          · refine stepJ_le rfl (by kernel_rfl) rfl rfl (h_appN uLS hvi hvz rfl hvs (by decide) 0 H rfl (hva.le (Le.none _)) rfl rfl rfl (one_spC a) (by rw [hvb16]; omega) (Nat.le_trans (show _ ≤ 400 by omega) (by decide)) (fun B2 m2 H hl => ⟨H.picks [] (by decide), hl, ?_⟩))
            refine anyJ_each [7] (by kernel_rfl) rfl (each_cons ?_ (each_nil))
            refine stepJ_le rfl (by kernel_rfl) rfl rfl (h_buildN [[.int .i64 s.1, .int .i64 s.2]] uLS hvi hvz hvs H rfl (by decide) (by decide) rfl rfl (by simp) (fun B7 m7 H hl => ⟨H.picks [] (by decide), hl, ?_⟩))
            refine anyJ_each [8] (by kernel_rfl) rfl (each_cons ?_ (each_nil))
            refine stepJ_le rfl (by kernel_rfl) rfl rfl (h_appN uLS hvi hvz rfl hvs (by decide) 1 H rfl (H.sl 0 rfl).sl rfl rfl rfl (one_two s.1 s.2) (by rw [hvb16]; omega) (Nat.le_trans (show _ ≤ 400 by omega) (by decide)) (fun B8 m8 H hl => ⟨H.picks [] (by decide), hl, ?_⟩))
            refine anyJ_each [10] (by kernel_rfl) rfl (each_cons ?_ (each_nil))
            refine stepJ_le rfl (by kernel_rfl) rfl rfl (h_call fDistance (fun w hw => Dz w _ ((H.sl 1 rfl).sl.world hw) ((hvb.le (Le.none _)).world hw)) rfl rfl (fun va ma hR hS => ?_))
            obtain rfl := hR
            have H := H.callOnly hS
            refine ⟨H.picks [] (by decide), Keep.le hS.keep, ?_⟩
            refine aanyJ_take 11 (H.picks [] (by decide)) rfl (by kernel_rfl) rfl rfl rfl (q_move rfl rfl) ?_
            refine aanyJ_take 12 (H.picks [] (by decide)) rfl (by kernel_rfl) rfl rfl rfl (q_extract rfl rfl rfl) ?_
            (apply aanyJ_free 13 (hH := H.picks [] (by decide)) (ho := rfl) (hb := by kernel_rfl) (hd := rfl) (hw := rfl)); (intro m H; exact q_extract rfl rfl rfl)
            refine anyJ_each [15] (by kernel_rfl) rfl (each_cons ?_ (each_nil))
            refine stepJ_fix rfl (by kernel_rfl) rfl (by kernel_rfl) rfl (h_S2 tSQ 2 H rfl rfl rfl rfl rfl (fun m15 H => ⟨H.picks [] (by decide), ?_⟩))
            refine aanyJ_take 16 (H.picks [] (by decide)) rfl (by kernel_rfl) rfl rfl rfl (q_assign rfl rfl) ?_
            refine aanyJ_done (by kernel_rfl) ?_
            refine cut_n ?_
            exact ⟨_, rfl, H.picks [2] (by decide)⟩
          · refine stepJ_le rfl (by kernel_rfl) rfl rfl (h_buildN [[.int .i64 s.1, .int .i64 s.2]] uLS hvi hvz hvs H rfl (by decide) (by decide) rfl rfl (by simp) (fun B7 m7 H hl => ⟨H.picks [] (by decide), hl, ?_⟩))
            refine anyJ_each [2] (by kernel_rfl) rfl (each_cons ?_ (each_nil))
            refine stepJ_le rfl (by kernel_rfl) rfl rfl (h_appN uLS hvi hvz rfl hvs (by decide) 1 H rfl (hva.le (Le.none _)) rfl rfl rfl (one_spC a) (by rw [hvb16]; omega) (Nat.le_trans (show _ ≤ 400 by omega) (by decide)) (fun B2 m2 H hl => ⟨H.picks [] (by decide), hl, ?_⟩))
            refine anyJ_each [8] (by kernel_rfl) rfl (each_cons ?_ (each_nil))
            refine stepJ_le rfl (by kernel_rfl) rfl rfl (h_appN uLS hvi hvz rfl hvs (by decide) 1 H rfl (H.sl 0 rfl).sl rfl rfl rfl (one_two s.1 s.2) (by rw [hvb16]; omega) (Nat.le_trans (show _ ≤ 400 by omega) (by decide)) (fun B8 m8 H hl => ⟨H.picks [] (by decide), hl, ?_⟩))
            refine anyJ_each [10] (by kernel_rfl) rfl (each_cons ?_ (each_nil))
            refine stepJ_le rfl (by kernel_rfl) rfl rfl (h_call fDistance (fun w hw => Dz w _ ((H.sl 1 rfl).sl.world hw) ((hvb.le (Le.none _)).world hw)) rfl rfl (fun va ma hR hS => ?_))
            obtain rfl := hR
            have H := H.callOnly hS
            refine ⟨H.picks [] (by decide), Keep.le hS.keep, ?_⟩
            refine aanyJ_take 11 (H.picks [] (by decide)) rfl (by kernel_rfl) rfl rfl rfl (q_move rfl rfl) ?_
            refine aanyJ_take 12 (H.picks [] (by decide)) rfl (by kernel_rfl) rfl rfl rfl (q_extract rfl rfl rfl) ?_
            (apply aanyJ_free 13 (hH := H.picks [] (by decide)) (ho := rfl) (hb := by kernel_rfl) (hd := rfl) (hw := rfl)); (intro m H; exact q_extract rfl rfl rfl)
            refine anyJ_each [15] (by kernel_rfl) rfl (each_cons ?_ (each_nil))
            refine stepJ_fix rfl (by kernel_rfl) rfl (by kernel_rfl) rfl (h_S2 tSQ 2 H rfl rfl rfl rfl rfl (fun m15 H => ⟨H.picks [] (by decide), ?_⟩))
            refine aanyJ_take 16 (H.picks [] (by decide)) rfl (by kernel_rfl) rfl rfl rfl (q_assign rfl rfl) ?_
            refine aanyJ_done (by kernel_rfl) ?_
            refine cut_n ?_
            exact ⟨_, rfl, H.picks [2] (by decide)⟩
        · refine stepJ_le rfl (by kernel_rfl) rfl rfl (h_buildN [[.int .i64 s.1, .int .i64 s.2]] uLS hvi hvz hvs H rfl (by decide) (by decide) rfl rfl (by simp) (fun B7 m7 H hl => ⟨H.picks [] (by decide), hl, ?_⟩))
          refine anyJ_each [0] (by kernel_rfl) rfl (each_cons ?_ (each_nil))
          refine stepJ_le rfl (by kernel_rfl) rfl rfl (h_build0 uLS hvi hvs H rfl (fun B0 m0 H hl => ⟨H.picks [] (by decide), hl, ?_⟩))
          refine anyJ_each [2] (by kernel_rfl) rfl (each_cons ?_ (each_nil))
          refine stepJ_le rfl (by kernel_rfl) rfl rfl (h_appN uLS hvi hvz rfl hvs (by decide) 0 H rfl (hva.le (Le.none _)) rfl rfl rfl (one_spC a) (by rw [hvb16]; omega) (Nat.le_trans (show _ ≤ 400 by omega) (by decide)) (fun B2 m2 H hl => ⟨H.picks [] (by decide), hl, ?_⟩))
          refine anyJ_each [8] (by kernel_rfl) rfl (each_cons ?_ (each_nil))
          refine stepJ_le rfl (by kernel_rfl) rfl rfl (h_appN uLS hvi hvz rfl hvs (by decide) 0 H rfl (H.sl 1 rfl).sl rfl rfl rfl (one_two s.1 s.2) (by rw [hvb16]; omega) (Nat.le_trans (show _ ≤ 400 by omega) (by decide)) (fun B8 m8 H hl => ⟨H.picks [] (by decide), hl, ?_⟩))
          refine anyJ_each [10] (by kernel_rfl) rfl (each_cons ?_ (each_nil))
          refine stepJ_le rfl (by kernel_rfl) rfl rfl (h_call fDistance (fun w hw => Dz w _ ((H.sl 0 rfl).sl.world hw) ((hvb.le (Le.none _)).world hw)) rfl rfl (fun va ma hR hS => ?_))
          obtain rfl := hR
          have H := H.callOnly hS
          refine ⟨H.picks [] (by decide), Keep.le hS.keep, ?_⟩
          refine aanyJ_take 11 (H.picks [] (by decide)) rfl (by kernel_rfl) rfl rfl rfl (q_move rfl rfl) ?_
          refine aanyJ_take 12 (H.picks [] (by decide)) rfl (by kernel_rfl) rfl rfl rfl (q_extract rfl rfl rfl) ?_
          (apply aanyJ_free 13 (hH := H.picks [] (by decide)) (ho := rfl) (hb := by kernel_rfl) (hd := rfl) (hw := rfl)); (intro m H; exact q_extract rfl rfl rfl)
          refine anyJ_each [15] (by kernel_rfl) rfl (each_cons ?_ (each_nil))
          refine stepJ_fix rfl (by kernel_rfl) rfl (by kernel_rfl) rfl (h_S2 tSQ 2 H rfl rfl rfl rfl rfl (fun m15 H => ⟨H.picks [] (by decide), ?_⟩))
          refine aanyJ_take 16 (H.picks [] (by decide)) rfl (by kernel_rfl) rfl rfl rfl (q_assign rfl rfl) ?_
          refine aanyJ_done (by kernel_rfl) ?_
          refine cut_n ?_
          exact ⟨_, rfl, H.picks [2] (by decide)⟩
    clear H
    rintro fr vs m ⟨B18, rfl, H⟩
    refine then_n ?_
    have hde : decide (((0 : Int), (1 : Int)) = ((0 : Int), (1 : Int))) = true := decide_eq_true rfl
    repeat (first | with_reducible (first | refine awp_seq ?_ | refine awp_region ?_ | refine awp_region_q (by kernel_rfl) (by kernel_rfl) ?_ | refine adr_nil ?_ | refine adr_end ?_ | refine aops_then ?_ | refine aops_nil ?_ | refine awp_block ?_ | refine px_then ?_ | refine px_block ?_ | refine px_block_ne rfl ?_ | refine pn_block ?_ | refine pn_then ?_ | refine pn_asg ?_ | refine pn_rnd ?_ | refine px_rnd ?_ | refine awp_exit ?_ | refine awp_skip ?_ | refine awp_ret ?_ | refine pr_then ?_ | refine pr_block ?_ | refine pr_rnd ?_ | refine pr_retM ?_ | refine pn_retM ?_ | refine pr_ret ?_ | refine pn_ret ?_) | refine awp_cond_t rfl rfl ?_ | refine awp_cond_f rfl rfl ?_ | ((first | apply aq (hd := rfl) (hok := rfl) (hw := rfl) | apply adr_q (ho := rfl) (hd := rfl) (hw := rfl)); (first | exact q_L2 tSQ 0 H rfl rfl rfl rfl rfl | exact q_B01 tSQ rfl rfl | exact q_eqS5 (p := (0, 1)) (q := (0, 1)) rfl rfl rfl hde | exact q_move rfl (by conv => lhs; whnf) | exact q_assign rfl (by conv => lhs; whnf) | exact q_add rfl rfl rfl (by omega) | exact q_lss_t rfl rfl rfl (by omega) | exact q_lss_f rfl rfl rfl (by omega) | exact q_gtr_t rfl rfl rfl (by omega) | exact q_gtr_f rfl rfl rfl (by omega) | exact q_geq_t rfl rfl rfl (by omega) | exact q_geq_f rfl rfl rfl (by omega) | exact q_eql_t rfl rfl rfl (by omega) | exact q_eql_f rfl rfl rfl (by omega) | exact q_neq_t rfl rfl rfl (by omega) | exact q_neq_f rfl rfl rfl (by omega) | exact q_int rfl rfl rfl rfl | exact q_not rfl rfl | exact q_pick_t rfl rfl (by conv => lhs; whnf) | exact q_pick_f rfl rfl (by conv => lhs; whnf) | exact q_extract rfl rfl rfl)) | refine ano rfl rfl rfl ?_ | refine adr_no rfl rfl rfl ?_)
    rfl
end Go.R05
