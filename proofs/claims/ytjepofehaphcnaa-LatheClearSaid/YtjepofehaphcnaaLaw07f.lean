import Derived.Test.YtjepofehaphcnaaLaw07e
import Derived.Test.YtjepofehaphcnaaMat07t
set_option linter.unusedSectionVars false
set_option linter.unusedSimpArgs false
set_option linter.unusedVariables false
/-! Layer 7: LatheTone. -/
namespace Go.R07
open Go Go.Abs Go.RowKit Go.Proofs
set_option maxRecDepth 20000
set_option maxHeartbeats 8000000
attribute [local irreducible] AWp AOps ADr AAny thenQ blockQ retQ asgQ rndQ retM
set_option linter.unusedVariables false
set_option linter.unusedSectionVars false

/-- A dot of the ink, row by row. -/
theorem inkN_at {s : Sh} {b : List (List Int)} {k : Nat} (hk : k < s.c.toNat) : ∀ {n r : Nat}, r < n → atB (inkN s b n) (r * s.c.toNat + k) = dotB s b r k
  | 0, r, h => absurd h (Nat.not_lt_zero _)
  | n + 1, r, h => by
    rw [inkN_succ, atB, List.getD_eq_getElem?_getD]
    by_cases hr : r < n
    · have : r * s.c.toNat + k < n * s.c.toNat := by
        have : (r + 1) * s.c.toNat ≤ n * s.c.toNat := Nat.mul_le_mul_right _ hr
        rw [Nat.add_mul, Nat.one_mul] at this
        omega
      rw [List.getElem?_append_left (by rw [inkN_len]; exact this)]
      have ih := inkN_at (s := s) (b := b) hk (n := n) hr
      rw [atB, List.getD_eq_getElem?_getD] at ih
      exact ih
    · obtain rfl : r = n := by omega
      rw [List.getElem?_append_right (by rw [inkN_len]; omega), inkN_len, Nat.add_sub_cancel_left]
      have := inkR_at (s := s) (b := b) (row := (r : Int)) hk
      rw [List.getD_eq_getElem?_getD] at this
      exact this
/-- How many dots of a column are ink. -/
def colN (l : List Bool) (C k n : Nat) : Nat := (List.range n).countP fun r => atB l (r * C + k)
theorem colN_succ (l : List Bool) (C k n : Nat) : colN l C k (n + 1) = colN l C k n + if atB l (n * C + k) = true then 1 else 0 := by
  unfold colN
  rw [List.range_succ, List.countP_append]
  congr 1
  rw [List.countP_cons, List.countP_nil]
  split <;> rfl
theorem colN_le (l : List Bool) (C k n : Nat) : colN l C k n ≤ n := by
  have := List.countP_le_length (p := fun r => atB l (r * C + k)) (l := List.range n)
  rw [List.length_range] at this
  exact this
theorem colN_hit {s : Sh} {b : List (List Int)} {k : Nat} (hk : k < s.c.toNat) (n : Nat) : colN (inkN s b n) s.c.toNat k n = hitN s.w (colX b k) n := by
  unfold colN hitN
  refine List.countP_congr fun r hr => ?_
  rw [inkN_at hk (List.mem_range.1 hr), dot_hit]
theorem tone {s : Sh} {b : List (List Int)} (h : chkB s b = 0) {k : Nat} (hk : k < s.c.toNat) : (colN (inkN s b s.r.toNat) s.c.toNat k s.r.toNat : Int) = (b.length : Int) * s.w := by
  obtain ⟨g, _, hl⟩ := chkB_good h
  rw [colN_hit hk]
  exact band_hit h g hl hk
theorem column_c (W : World) (v : Value) (s : Sh) (l : List Bool) (C n k : Nat) (hC : s.c = (C : Nat)) (hc1 : 1 ≤ C) (hc2 : C ≤ 40) (hn : n ≤ 60) (hl : l.length = n * C) (hk : k < C) (hv : SL W Mem.none 1 v l.length (bls l)) :
    ACalls Try.prog (gen W) 55 #[sv s, v, .int .i64 k] Mem.none (fun r m => r = .int .i64 (colN l C k n : Nat)) := by
  refine acalls_of_body Try.func55 rfl (res1 rfl (by decide)) (Nat.le_of_ble_eq_true rfl) ?_
  have H := HP.nil Mem.none
  have hlb : l.length ≤ 2400 := by rw [hl]; exact Nat.mul_le_mul hn hc2
  repeat (first | with_reducible (first | refine awp_seq ?_ | refine awp_region ?_ | refine awp_region_q (by kernel_rfl) (by kernel_rfl) ?_ | refine adr_nil ?_ | refine adr_end ?_ | refine aops_then ?_ | refine aops_nil ?_ | refine awp_block ?_ | refine awp_label ?_ | refine awp_scope ?_ | refine pn_scope ?_ | refine px_scope ?_ | refine pr_scope ?_ | refine px_then ?_ | refine px_block ?_ | refine px_block_ne rfl ?_ | refine pn_block ?_ | refine pn_then ?_ | refine pn_asg ?_ | refine pn_rnd ?_ | refine px_rnd ?_ | refine awp_exit ?_ | refine awp_skip ?_ | refine awp_ret ?_ | refine pr_then ?_ | refine pr_block ?_ | refine pr_rnd ?_ | refine pr_retM ?_ | refine pn_retM ?_ | refine pr_ret ?_ | refine pn_ret ?_) | refine awp_cond_t rfl rfl ?_ | refine awp_cond_f rfl rfl ?_ | ((first | apply aq (hd := rfl) (hok := rfl) (hw := rfl) | apply adr_q (ho := rfl) (hd := rfl) (hw := rfl)); (first | exact q_move rfl (by conv => lhs; whnf) | exact q_assign rfl (by conv => lhs; whnf) | exact q_add rfl rfl rfl (by omega) | exact q_sub rfl rfl rfl (by omega) | exact q_neg rfl rfl (by omega) | exact q_rem_in rfl rfl rfl (by omega) | exact q_quo_in rfl rfl rfl (by omega) | exact q_lss_t rfl rfl rfl (by omega) | exact q_lss_f rfl rfl rfl (by omega) | exact q_leq_t rfl rfl rfl (by omega) | exact q_leq_f rfl rfl rfl (by omega) | exact q_gtr_t rfl rfl rfl (by omega) | exact q_gtr_f rfl rfl rfl (by omega) | exact q_geq_t rfl rfl rfl (by omega) | exact q_geq_f rfl rfl rfl (by omega) | exact q_eql_t rfl rfl rfl (by omega) | exact q_eql_f rfl rfl rfl (by omega) | exact q_neq_t rfl rfl rfl (by omega) | exact q_neq_f rfl rfl rfl (by omega) | exact q_int rfl rfl rfl rfl | exact q_not rfl rfl | exact q_pick_t rfl rfl (by conv => lhs; whnf) | exact q_pick_f rfl rfl (by conv => lhs; whnf) | exact q_extract rfl rfl rfl | exact q_max rfl rfl rfl | exact q_min rfl rfl rfl)) | refine ano rfl rfl rfl ?_ | refine adr_no rfl rfl rfl ?_)
  refine aa rfl rfl rfl (h_boxS H rfl rfl (fun B3 m3 H _ => ?_))
  repeat (first | with_reducible (first | refine awp_seq ?_ | refine awp_region ?_ | refine awp_region_q (by kernel_rfl) (by kernel_rfl) ?_ | refine adr_nil ?_ | refine adr_end ?_ | refine aops_then ?_ | refine aops_nil ?_ | refine awp_block ?_ | refine awp_label ?_ | refine awp_scope ?_ | refine pn_scope ?_ | refine px_scope ?_ | refine pr_scope ?_ | refine px_then ?_ | refine px_block ?_ | refine px_block_ne rfl ?_ | refine pn_block ?_ | refine pn_then ?_ | refine pn_asg ?_ | refine pn_rnd ?_ | refine px_rnd ?_ | refine awp_exit ?_ | refine awp_skip ?_ | refine awp_ret ?_ | refine pr_then ?_ | refine pr_block ?_ | refine pr_rnd ?_ | refine pr_retM ?_ | refine pn_retM ?_ | refine pr_ret ?_ | refine pn_ret ?_) | refine awp_cond_t rfl rfl ?_ | refine awp_cond_f rfl rfl ?_ | ((first | apply aq (hd := rfl) (hok := rfl) (hw := rfl) | apply adr_q (ho := rfl) (hd := rfl) (hw := rfl)); (first | exact q_move rfl (by conv => lhs; whnf) | exact q_assign rfl (by conv => lhs; whnf) | exact q_add rfl rfl rfl (by omega) | exact q_sub rfl rfl rfl (by omega) | exact q_neg rfl rfl (by omega) | exact q_rem_in rfl rfl rfl (by omega) | exact q_quo_in rfl rfl rfl (by omega) | exact q_lss_t rfl rfl rfl (by omega) | exact q_lss_f rfl rfl rfl (by omega) | exact q_leq_t rfl rfl rfl (by omega) | exact q_leq_f rfl rfl rfl (by omega) | exact q_gtr_t rfl rfl rfl (by omega) | exact q_gtr_f rfl rfl rfl (by omega) | exact q_geq_t rfl rfl rfl (by omega) | exact q_geq_f rfl rfl rfl (by omega) | exact q_eql_t rfl rfl rfl (by omega) | exact q_eql_f rfl rfl rfl (by omega) | exact q_neq_t rfl rfl rfl (by omega) | exact q_neq_f rfl rfl rfl (by omega) | exact q_int rfl rfl rfl rfl | exact q_not rfl rfl | exact q_pick_t rfl rfl (by conv => lhs; whnf) | exact q_pick_f rfl rfl (by conv => lhs; whnf) | exact q_extract rfl rfl rfl | exact q_max rfl rfl rfl | exact q_min rfl rfl rfl)) | refine ano rfl rfl rfl ?_ | refine adr_no rfl rfl rfl ?_)
  refine awp_loop [1, 3, 7, 8] (fun vs m => ∃ r p : Nat, p = r * C + k ∧ vs = [v, .pointer (some ⟨B3, 0, Option.none⟩), .int .i64 (colN l C k r : Nat), .int .i64 p] ∧ r ≤ n ∧ HP m [.vs 29 B3 (sc s)]) (fun vs _ => l.length + 41 - (intOf (vs.getD 3 undef)).toNat) ⟨0, k, by omega, rfl, Nat.zero_le _, H⟩ ?_
  clear H
  rintro fr vs m - ⟨r, p, hp, rfl, hr, H⟩
  have hcn := colN_le l C k r
  by_cases hlt : r < n
  rotate_left 1
  · obtain rfl : r = n := by omega
    have : ¬ p < l.length := by omega
    repeat (first | with_reducible (first | refine awp_seq ?_ | refine awp_region ?_ | refine awp_region_q (by kernel_rfl) (by kernel_rfl) ?_ | refine adr_nil ?_ | refine adr_end ?_ | refine aops_then ?_ | refine aops_nil ?_ | refine awp_block ?_ | refine awp_label ?_ | refine awp_scope ?_ | refine pn_scope ?_ | refine px_scope ?_ | refine pr_scope ?_ | refine px_then ?_ | refine px_block ?_ | refine px_block_ne rfl ?_ | refine pn_block ?_ | refine pn_then ?_ | refine pn_asg ?_ | refine pn_rnd ?_ | refine px_rnd ?_ | refine awp_exit ?_ | refine awp_skip ?_ | refine awp_ret ?_ | refine pr_then ?_ | refine pr_block ?_ | refine pr_rnd ?_ | refine pr_retM ?_ | refine pn_retM ?_ | refine pr_ret ?_ | refine pn_ret ?_) | refine awp_cond_t rfl rfl ?_ | refine awp_cond_f rfl rfl ?_ | ((first | apply aq (hd := rfl) (hok := rfl) (hw := rfl) | apply adr_q (ho := rfl) (hd := rfl) (hw := rfl)); (first | exact q_len uLB (hv.le (Le.none _)) rfl rfl | exact q_move rfl (by conv => lhs; whnf) | exact q_assign rfl (by conv => lhs; whnf) | exact q_add rfl rfl rfl (by omega) | exact q_sub rfl rfl rfl (by omega) | exact q_neg rfl rfl (by omega) | exact q_rem_in rfl rfl rfl (by omega) | exact q_quo_in rfl rfl rfl (by omega) | exact q_lss_t rfl rfl rfl (by omega) | exact q_lss_f rfl rfl rfl (by omega) | exact q_leq_t rfl rfl rfl (by omega) | exact q_leq_f rfl rfl rfl (by omega) | exact q_gtr_t rfl rfl rfl (by omega) | exact q_gtr_f rfl rfl rfl (by omega) | exact q_geq_t rfl rfl rfl (by omega) | exact q_geq_f rfl rfl rfl (by omega) | exact q_eql_t rfl rfl rfl (by omega) | exact q_eql_f rfl rfl rfl (by omega) | exact q_neq_t rfl rfl rfl (by omega) | exact q_neq_f rfl rfl rfl (by omega) | exact q_int rfl rfl rfl rfl | exact q_not rfl rfl | exact q_pick_t rfl rfl (by conv => lhs; whnf) | exact q_pick_f rfl rfl (by conv => lhs; whnf) | exact q_extract rfl rfl rfl | exact q_max rfl rfl rfl | exact q_min rfl rfl rfl)) | refine ano rfl rfl rfl ?_ | refine adr_no rfl rfl rfl ?_)
    rfl
  have hpl : p < l.length := by
    have : (r + 1) * C ≤ n * C := Nat.mul_le_mul_right _ hlt
    rw [Nat.add_mul, Nat.one_mul] at this
    omega
  obtain ⟨p2, hp2⟩ : ∃ x, p + C = x := ⟨_, rfl⟩
  have hp3 : (p : Int) + s.c = (p2 : Nat) := by omega
  have hp4 : p2 = (r + 1) * C + k := by rw [Nat.add_mul, Nat.one_mul]; omega
  have hs := colN_succ l C k r
  rw [← hp] at hs
  obtain ⟨b, hb⟩ : ∃ x, atB l p = x := ⟨_, rfl⟩
  rw [hb] at hs
  have E1 : ∀ (m : Mem) (o : Oper) (fr : Fr) (z : Operand), o.op = .load 4 z → evalF fr z = ptrAt v p → QOp Try.prog W o fr m (.bool b) := fun m o fr z ho hz => by rw [← hb]; exact q_ldB (hv.le (Le.none _)) hpl ho hz
  cases b
  · have hs : colN l C k (r + 1) = colN l C k r := by simpa using hs
    repeat (first | with_reducible (first | refine awp_seq ?_ | refine awp_region ?_ | refine awp_region_q (by kernel_rfl) (by kernel_rfl) ?_ | refine adr_nil ?_ | refine adr_end ?_ | refine aops_then ?_ | refine aops_nil ?_ | refine awp_block ?_ | refine awp_label ?_ | refine awp_scope ?_ | refine pn_scope ?_ | refine px_scope ?_ | refine pr_scope ?_ | refine px_then ?_ | refine px_block ?_ | refine px_block_ne rfl ?_ | refine pn_block ?_ | refine pn_then ?_ | refine pn_asg ?_ | refine pn_rnd ?_ | refine px_rnd ?_ | refine awp_exit ?_ | refine awp_skip ?_ | refine awp_ret ?_ | refine pr_then ?_ | refine pr_block ?_ | refine pr_rnd ?_ | refine pr_retM ?_ | refine pn_retM ?_ | refine pr_ret ?_ | refine pn_ret ?_) | refine awp_cond_t rfl rfl ?_ | refine awp_cond_f rfl rfl ?_ | ((first | apply aq (hd := rfl) (hok := rfl) (hw := rfl) | apply adr_q (ho := rfl) (hd := rfl) (hw := rfl)); (first | exact q_len uLB (hv.le (Le.none _)) rfl rfl | exact q_ixB (hv.le (Le.none _)) rfl rfl rfl (i := p) hpl | exact E1 _ _ _ _ rfl rfl | exact q_SF rfl rfl (by decide) | exact q_ldC 0 H rfl rfl rfl rfl iT.int rfl | exact q_addX hp3 rfl rfl rfl (by omega) | exact q_move rfl (by conv => lhs; whnf) | exact q_assign rfl (by conv => lhs; whnf) | exact q_add rfl rfl rfl (by omega) | exact q_sub rfl rfl rfl (by omega) | exact q_neg rfl rfl (by omega) | exact q_rem_in rfl rfl rfl (by omega) | exact q_quo_in rfl rfl rfl (by omega) | exact q_lss_t rfl rfl rfl (by omega) | exact q_lss_f rfl rfl rfl (by omega) | exact q_leq_t rfl rfl rfl (by omega) | exact q_leq_f rfl rfl rfl (by omega) | exact q_gtr_t rfl rfl rfl (by omega) | exact q_gtr_f rfl rfl rfl (by omega) | exact q_geq_t rfl rfl rfl (by omega) | exact q_geq_f rfl rfl rfl (by omega) | exact q_eql_t rfl rfl rfl (by omega) | exact q_eql_f rfl rfl rfl (by omega) | exact q_neq_t rfl rfl rfl (by omega) | exact q_neq_f rfl rfl rfl (by omega) | exact q_int rfl rfl rfl rfl | exact q_not rfl rfl | exact q_pick_t rfl rfl (by conv => lhs; whnf) | exact q_pick_f rfl rfl (by conv => lhs; whnf) | exact q_extract rfl rfl rfl | exact q_max rfl rfl rfl | exact q_min rfl rfl rfl)) | refine ano rfl rfl rfl ?_ | refine adr_no rfl rfl rfl ?_)
    exact ⟨⟨r + 1, p2, hp4, by rw [hs]; rfl, by omega, H⟩, by show l.length + 41 - (p2 : Int).toNat < l.length + 41 - (p : Int).toNat; omega⟩
  · have hs : colN l C k (r + 1) = colN l C k r + 1 := by simpa using hs
    repeat (first | with_reducible (first | refine awp_seq ?_ | refine awp_region ?_ | refine awp_region_q (by kernel_rfl) (by kernel_rfl) ?_ | refine adr_nil ?_ | refine adr_end ?_ | refine aops_then ?_ | refine aops_nil ?_ | refine awp_block ?_ | refine awp_label ?_ | refine awp_scope ?_ | refine pn_scope ?_ | refine px_scope ?_ | refine pr_scope ?_ | refine px_then ?_ | refine px_block ?_ | refine px_block_ne rfl ?_ | refine pn_block ?_ | refine pn_then ?_ | refine pn_asg ?_ | refine pn_rnd ?_ | refine px_rnd ?_ | refine awp_exit ?_ | refine awp_skip ?_ | refine awp_ret ?_ | refine pr_then ?_ | refine pr_block ?_ | refine pr_rnd ?_ | refine pr_retM ?_ | refine pn_retM ?_ | refine pr_ret ?_ | refine pn_ret ?_) | refine awp_cond_t rfl rfl ?_ | refine awp_cond_f rfl rfl ?_ | ((first | apply aq (hd := rfl) (hok := rfl) (hw := rfl) | apply adr_q (ho := rfl) (hd := rfl) (hw := rfl)); (first | exact q_len uLB (hv.le (Le.none _)) rfl rfl | exact q_ixB (hv.le (Le.none _)) rfl rfl rfl (i := p) hpl | exact E1 _ _ _ _ rfl rfl | exact q_SF rfl rfl (by decide) | exact q_ldC 0 H rfl rfl rfl rfl iT.int rfl | exact q_addX hp3 rfl rfl rfl (by omega) | exact q_move rfl (by conv => lhs; whnf) | exact q_assign rfl (by conv => lhs; whnf) | exact q_add rfl rfl rfl (by omega) | exact q_sub rfl rfl rfl (by omega) | exact q_neg rfl rfl (by omega) | exact q_rem_in rfl rfl rfl (by omega) | exact q_quo_in rfl rfl rfl (by omega) | exact q_lss_t rfl rfl rfl (by omega) | exact q_lss_f rfl rfl rfl (by omega) | exact q_leq_t rfl rfl rfl (by omega) | exact q_leq_f rfl rfl rfl (by omega) | exact q_gtr_t rfl rfl rfl (by omega) | exact q_gtr_f rfl rfl rfl (by omega) | exact q_geq_t rfl rfl rfl (by omega) | exact q_geq_f rfl rfl rfl (by omega) | exact q_eql_t rfl rfl rfl (by omega) | exact q_eql_f rfl rfl rfl (by omega) | exact q_neq_t rfl rfl rfl (by omega) | exact q_neq_f rfl rfl rfl (by omega) | exact q_int rfl rfl rfl rfl | exact q_not rfl rfl | exact q_pick_t rfl rfl (by conv => lhs; whnf) | exact q_pick_f rfl rfl (by conv => lhs; whnf) | exact q_extract rfl rfl rfl | exact q_max rfl rfl rfl | exact q_min rfl rfl rfl)) | refine ano rfl rfl rfl ?_ | refine adr_no rfl rfl rfl ?_)
    exact ⟨⟨r + 1, p2, hp4, by rw [hs]; rfl, by omega, H⟩, by show l.length + 41 - (p2 : Int).toNat < l.length + 41 - (p : Int).toNat; omega⟩
theorem hide_ink {s : Sh} {c : Sn} {M : List (List Bool)} (h : hiE s c M = 0) : chkB s (hiL s c M) = 0 ∧ inkL s (hiL s c M) = inkN s (hiL s c M) s.r.toNat ∧ (hiL s c M).length = lns s c := by
  obtain ⟨hw, hn, hml, hh, hL⟩ := mask_wsh h
  have e : chkB s (hiL s c M) = 0 := by
    unfold chkB
    rw [if_pos (good_okS hw.g), hL, if_pos (draw_band hw)]
  refine ⟨e, by unfold inkL; rw [if_pos e], by rw [hL]; exact drN_len ..⟩
theorem fColumn : Fun Try.prog 55 := ⟨_, _, Try.func55, rfl, by kernel_rfl⟩
end Go.R07
