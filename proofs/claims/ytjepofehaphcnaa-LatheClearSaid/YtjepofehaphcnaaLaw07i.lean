import Derived.Test.YtjepofehaphcnaaLaw07f
import Derived.Test.YtjepofehaphcnaaMat07p
set_option linter.unusedSectionVars false
set_option linter.unusedSimpArgs false
set_option linter.unusedVariables false
/-! Layer 7: printed (for LatheClear). -/
namespace Go.R07
open Go Go.Abs Go.RowKit Go.Proofs
set_option maxRecDepth 20000
set_option maxHeartbeats 8000000
attribute [local irreducible] AWp AOps ADr AAny thenQ blockQ retQ asgQ rndQ retM
set_option linter.unusedVariables false
set_option linter.unusedSectionVars false
theorem dot_inkC {s : Sh} {b : List (List Int)} {r k : Nat} : dotB s b r k = true ↔ inkC (fun i => at0 (rw0 b i) k) b.length s.w r := by
  unfold dotB
  rw [List.any_eq_true]
  constructor
  · rintro ⟨l, hl, h⟩
    obtain ⟨i, hi, e⟩ := List.getElem_of_mem hl
    have h := ws_t h
    have e2 : rw0 b i = l := by rw [rw0, List.getD_eq_getElem?_getD, List.getElem?_eq_getElem hi]; exact e
    refine ⟨i, hi, ?_, ?_⟩
    · show at0 (rw0 b i) k ≤ _
      rw [e2]; omega
    · show _ < at0 (rw0 b i) k + s.w
      rw [e2]; omega
  · rintro ⟨i, hi, h1, h2⟩
    have h1 : at0 (rw0 b i) k ≤ (r : Int) := h1
    have h2 : (r : Int) < at0 (rw0 b i) k + s.w := h2
    refine ⟨rw0 b i, ?_, ws_of (by omega)⟩
    rw [rw0, List.getD_eq_getElem?_getD, List.getElem?_eq_getElem hi]
    exact List.getElem_mem hi
theorem chk_col {s : Sh} {b : List (List Int)} (h : chkB s b = 0) {k : Nat} (hk : k < s.c.toNat) : Col (fun i => at0 (rw0 b i) k) b.length s.w s.k := by
  obtain ⟨g, _, hl⟩ := chkB_good h
  have hcl : ∀ i, i < b.length - 1 → clashI s (rw0 b i) (rw0 b (i + 1)) = -1 := by
    unfold chkB at h
    rw [if_pos (good_okS g)] at h
    by_cases hb : bandB s b = true
    · unfold bandB at hb
      simp only [Bool.and_eq_true, decide_eq_true_eq, List.isEmpty_iff] at hb
      exact cls_empty.1 hb.2.2
    · rw [if_neg hb] at h; omega
  refine ⟨g.w.1, g.k.1, fun i hi => ?_⟩
  have a := (hl i (by omega)).1
  have c := (hl (i + 1) hi).1
  have h1 := clashAt_no (hcl i (by omega)) k (by omega) (by omega)
  have h1 : s.w + s.k ≤ at0 (rw0 b (i + 1)) k - at0 (rw0 b i) k := h1
  show at0 (rw0 b i) k + (s.w + s.k) ≤ at0 (rw0 b (i + 1)) k
  omega
theorem printed_c (W : World) (v : Value) (s : Sh) (b : List (List Int)) (hs : List Value) (hv : ROWS i64s W Mem.none v b hs) (h : chkB s b = 0) :
    ACalls Try.prog (gen W) 54 #[sv s, v] Mem.none (fun r m => r = .bool true) := by
  refine acalls_of_body Try.func54 rfl (res1 rfl (by decide)) (Nat.le_of_ble_eq_true rfl) ?_
  have H := HP.nil Mem.none
  obtain ⟨g, hN, hl⟩ := chkB_good h
  have hx := hv.max
  have g1 := g.c
  have g2 := g.r
  have g3 := g.w
  have g4 := g.k
  obtain ⟨C, hC⟩ : ∃ C, s.c.toNat = C := ⟨_, rfl⟩
  have hC2 : s.c = (C : Nat) := by omega
  obtain ⟨R, hR0⟩ : ∃ R, s.r.toNat = R := ⟨_, rfl⟩
  have hR2 : s.r = (R : Nat) := by omega
  repeat (first | with_reducible (first | refine awp_seq ?_ | refine awp_region ?_ | refine awp_region_q (by kernel_rfl) (by kernel_rfl) ?_ | refine adr_nil ?_ | refine adr_end ?_ | refine aops_then ?_ | refine aops_nil ?_ | refine awp_block ?_ | refine awp_label ?_ | refine awp_scope ?_ | refine pn_scope ?_ | refine px_scope ?_ | refine pr_scope ?_ | refine px_then ?_ | refine px_block ?_ | refine px_block_ne rfl ?_ | refine pn_block ?_ | refine pn_then ?_ | refine pn_asg ?_ | refine pn_rnd ?_ | refine px_rnd ?_ | refine awp_exit ?_ | refine awp_skip ?_ | refine awp_ret ?_ | refine pr_then ?_ | refine pr_block ?_ | refine pr_rnd ?_ | refine pr_retM ?_ | refine pn_retM ?_ | refine pr_ret ?_ | refine pn_ret ?_) | refine awp_cond_t rfl rfl ?_ | refine awp_cond_f rfl rfl ?_ | ((first | apply aq (hd := rfl) (hok := rfl) (hw := rfl) | apply adr_q (ho := rfl) (hd := rfl) (hw := rfl)); (first | exact q_move rfl (by conv => lhs; whnf) | exact q_assign rfl (by conv => lhs; whnf) | exact q_add rfl rfl rfl (by omega) | exact q_sub rfl rfl rfl (by omega) | exact q_neg rfl rfl (by omega) | exact q_rem_in rfl rfl rfl (by omega) | exact q_quo_in rfl rfl rfl (by omega) | exact q_lss_t rfl rfl rfl (by omega) | exact q_lss_f rfl rfl rfl (by omega) | exact q_leq_t rfl rfl rfl (by omega) | exact q_leq_f rfl rfl rfl (by omega) | exact q_gtr_t rfl rfl rfl (by omega) | exact q_gtr_f rfl rfl rfl (by omega) | exact q_geq_t rfl rfl rfl (by omega) | exact q_geq_f rfl rfl rfl (by omega) | exact q_eql_t rfl rfl rfl (by omega) | exact q_eql_f rfl rfl rfl (by omega) | exact q_neq_t rfl rfl rfl (by omega) | exact q_neq_f rfl rfl rfl (by omega) | exact q_int rfl rfl rfl rfl | exact q_not rfl rfl | exact q_pick_t rfl rfl (by conv => lhs; whnf) | exact q_pick_f rfl rfl (by conv => lhs; whnf) | exact q_extract rfl rfl rfl | exact q_max rfl rfl rfl | exact q_min rfl rfl rfl)) | refine ano rfl rfl rfl ?_ | refine adr_no rfl rfl rfl ?_)
  refine aa rfl rfl rfl (h_boxS H rfl rfl (fun B2 m2 H _ => ?_))
  repeat (first | with_reducible (first | refine awp_seq ?_ | refine awp_region ?_ | refine awp_region_q (by kernel_rfl) (by kernel_rfl) ?_ | refine adr_nil ?_ | refine adr_end ?_ | refine aops_then ?_ | refine aops_nil ?_ | refine awp_block ?_ | refine awp_label ?_ | refine awp_scope ?_ | refine pn_scope ?_ | refine px_scope ?_ | refine pr_scope ?_ | refine px_then ?_ | refine px_block ?_ | refine px_block_ne rfl ?_ | refine pn_block ?_ | refine pn_then ?_ | refine pn_asg ?_ | refine pn_rnd ?_ | refine px_rnd ?_ | refine awp_exit ?_ | refine awp_skip ?_ | refine awp_ret ?_ | refine pr_then ?_ | refine pr_block ?_ | refine pr_rnd ?_ | refine pr_retM ?_ | refine pn_retM ?_ | refine pr_ret ?_ | refine pn_ret ?_) | refine awp_cond_t rfl rfl ?_ | refine awp_cond_f rfl rfl ?_ | ((first | apply aq (hd := rfl) (hok := rfl) (hw := rfl) | apply adr_q (ho := rfl) (hd := rfl) (hw := rfl)); (first | exact q_ldA 0 H rfl rfl rfl Try.underlying29 rfl szS | exact q_move rfl (by conv => lhs; whnf) | exact q_assign rfl (by conv => lhs; whnf) | exact q_add rfl rfl rfl (by omega) | exact q_sub rfl rfl rfl (by omega) | exact q_neg rfl rfl (by omega) | exact q_rem_in rfl rfl rfl (by omega) | exact q_quo_in rfl rfl rfl (by omega) | exact q_lss_t rfl rfl rfl (by omega) | exact q_lss_f rfl rfl rfl (by omega) | exact q_leq_t rfl rfl rfl (by omega) | exact q_leq_f rfl rfl rfl (by omega) | exact q_gtr_t rfl rfl rfl (by omega) | exact q_gtr_f rfl rfl rfl (by omega) | exact q_geq_t rfl rfl rfl (by omega) | exact q_geq_f rfl rfl rfl (by omega) | exact q_eql_t rfl rfl rfl (by omega) | exact q_eql_f rfl rfl rfl (by omega) | exact q_neq_t rfl rfl rfl (by omega) | exact q_neq_f rfl rfl rfl (by omega) | exact q_int rfl rfl rfl rfl | exact q_not rfl rfl | exact q_pick_t rfl rfl (by conv => lhs; whnf) | exact q_pick_f rfl rfl (by conv => lhs; whnf) | exact q_extract rfl rfl rfl | exact q_max rfl rfl rfl | exact q_min rfl rfl rfl)) | refine ano rfl rfl rfl ?_ | refine adr_no rfl rfl rfl ?_)
  refine aa rfl rfl rfl (h_call fInk (fun w hw => Ink_c w v s b hs ((hv.le (Le.none _)).world hw)) rfl rfl (fun va ma hR hS => ?_))
  obtain ⟨i1, rfl, hR⟩ := hR
  have H := H.calls hS hR
  rw [h]
  have hXe : inkL s b = inkN s b s.r.toNat := by unfold inkL; rw [if_pos h]
  rw [hXe] at H
  have hlen := inkN_len s b s.r.toNat
  have htone := fun k (hk : k < s.c.toNat) => tone h hk
  have hcol := fun k (hk : k < s.c.toNat) => chk_col h hk
  have hdot := fun k r (hk : k < s.c.toNat) (hr : r < s.r.toNat) => inkN_at (s := s) (b := b) hk hr
  obtain ⟨X, hX⟩ : ∃ X, inkN s b s.r.toNat = X := ⟨_, rfl⟩
  rw [hX] at H hlen
  simp only [hX] at htone hdot
  rw [hC, hR0] at hlen
  simp only [hC, hR0] at htone hcol hdot
  have hmul : s.c * s.r = (X.length : Nat) := by
    rw [hlen, hC2, hR2, Int.mul_comm]; rfl
  have hXb : X.length ≤ 60 * 40 := by rw [hlen]; exact Nat.mul_le_mul (by omega) (by omega)
  obtain ⟨T, hT⟩ : ∃ T, (b.length : Int) * s.w = T := ⟨_, rfl⟩
  have hTb : 0 ≤ T ∧ T ≤ 12 * 8 := by
    have a : s.w = (s.w.toNat : Nat) := by omega
    have c : b.length * s.w.toNat ≤ 12 * 8 := Nat.mul_le_mul (by omega) (by omega)
    rw [← hT, a]; omega
  simp only [hT] at htone
  have H : HP _ [.sl i1 4 1 X.length (bls X), .vs 29 B2 (sc s)] := H
  repeat (first | with_reducible (first | refine awp_seq ?_ | refine awp_region ?_ | refine awp_region_q (by kernel_rfl) (by kernel_rfl) ?_ | refine adr_nil ?_ | refine adr_end ?_ | refine aops_then ?_ | refine aops_nil ?_ | refine awp_block ?_ | refine awp_label ?_ | refine awp_scope ?_ | refine pn_scope ?_ | refine px_scope ?_ | refine pr_scope ?_ | refine px_then ?_ | refine px_block ?_ | refine px_block_ne rfl ?_ | refine pn_block ?_ | refine pn_then ?_ | refine pn_asg ?_ | refine pn_rnd ?_ | refine px_rnd ?_ | refine awp_exit ?_ | refine awp_skip ?_ | refine awp_ret ?_ | refine pr_then ?_ | refine pr_block ?_ | refine pr_rnd ?_ | refine pr_retM ?_ | refine pn_retM ?_ | refine pr_ret ?_ | refine pn_ret ?_) | refine awp_cond_t rfl rfl ?_ | refine awp_cond_f rfl rfl ?_ | ((first | apply aq (hd := rfl) (hok := rfl) (hw := rfl) | apply adr_q (ho := rfl) (hd := rfl) (hw := rfl)); (first | exact q_len uLB (H.sl 0 rfl).sl rfl rfl | exact q_SF rfl rfl (by decide) | exact q_ldC 1 H rfl rfl rfl rfl iT.int rfl | exact q_mulX hmul rfl rfl rfl (by omega) | exact q_move rfl (by conv => lhs; whnf) | exact q_assign rfl (by conv => lhs; whnf) | exact q_add rfl rfl rfl (by omega) | exact q_sub rfl rfl rfl (by omega) | exact q_neg rfl rfl (by omega) | exact q_rem_in rfl rfl rfl (by omega) | exact q_quo_in rfl rfl rfl (by omega) | exact q_lss_t rfl rfl rfl (by omega) | exact q_lss_f rfl rfl rfl (by omega) | exact q_leq_t rfl rfl rfl (by omega) | exact q_leq_f rfl rfl rfl (by omega) | exact q_gtr_t rfl rfl rfl (by omega) | exact q_gtr_f rfl rfl rfl (by omega) | exact q_geq_t rfl rfl rfl (by omega) | exact q_geq_f rfl rfl rfl (by omega) | exact q_eql_t rfl rfl rfl (by omega) | exact q_eql_f rfl rfl rfl (by omega) | exact q_neq_t rfl rfl rfl (by omega) | exact q_neq_f rfl rfl rfl (by omega) | exact q_int rfl rfl rfl rfl | exact q_not rfl rfl | exact q_pick_t rfl rfl (by conv => lhs; whnf) | exact q_pick_f rfl rfl (by conv => lhs; whnf) | exact q_extract rfl rfl rfl | exact q_max rfl rfl rfl | exact q_min rfl rfl rfl)) | refine ano rfl rfl rfl ?_ | refine adr_no rfl rfl rfl ?_)
  refine awp_loop [1, 2, 5, 31, 32] (fun vs m => ∃ k : Nat, vs = [v, .pointer (some ⟨B2, 0, Option.none⟩), i1, .int .i64 s.c, .int .i64 k] ∧ k ≤ C ∧ HP m [.sl i1 4 1 X.length (bls X), .vs 29 B2 (sc s)]) (fun vs _ => C - (intOf (vs.getD 4 undef)).toNat) ⟨0, rfl, Nat.zero_le _, H⟩ ?_
  clear H
  rintro fr vs m - ⟨k, rfl, hk, H⟩
  by_cases hlk : k < C
  rotate_left 1
  · repeat (first | with_reducible (first | refine awp_seq ?_ | refine awp_region ?_ | refine awp_region_q (by kernel_rfl) (by kernel_rfl) ?_ | refine adr_nil ?_ | refine adr_end ?_ | refine aops_then ?_ | refine aops_nil ?_ | refine awp_block ?_ | refine awp_label ?_ | refine awp_scope ?_ | refine pn_scope ?_ | refine px_scope ?_ | refine pr_scope ?_ | refine px_then ?_ | refine px_block ?_ | refine px_block_ne rfl ?_ | refine pn_block ?_ | refine pn_then ?_ | refine pn_asg ?_ | refine pn_rnd ?_ | refine px_rnd ?_ | refine awp_exit ?_ | refine awp_skip ?_ | refine awp_ret ?_ | refine pr_then ?_ | refine pr_block ?_ | refine pr_rnd ?_ | refine pr_retM ?_ | refine pn_retM ?_ | refine pr_ret ?_ | refine pn_ret ?_) | refine awp_cond_t rfl rfl ?_ | refine awp_cond_f rfl rfl ?_ | ((first | apply aq (hd := rfl) (hok := rfl) (hw := rfl) | apply adr_q (ho := rfl) (hd := rfl) (hw := rfl)); (first | exact q_move rfl (by conv => lhs; whnf) | exact q_assign rfl (by conv => lhs; whnf) | exact q_add rfl rfl rfl (by omega) | exact q_sub rfl rfl rfl (by omega) | exact q_neg rfl rfl (by omega) | exact q_rem_in rfl rfl rfl (by omega) | exact q_quo_in rfl rfl rfl (by omega) | exact q_lss_t rfl rfl rfl (by omega) | exact q_lss_f rfl rfl rfl (by omega) | exact q_leq_t rfl rfl rfl (by omega) | exact q_leq_f rfl rfl rfl (by omega) | exact q_gtr_t rfl rfl rfl (by omega) | exact q_gtr_f rfl rfl rfl (by omega) | exact q_geq_t rfl rfl rfl (by omega) | exact q_geq_f rfl rfl rfl (by omega) | exact q_eql_t rfl rfl rfl (by omega) | exact q_eql_f rfl rfl rfl (by omega) | exact q_neq_t rfl rfl rfl (by omega) | exact q_neq_f rfl rfl rfl (by omega) | exact q_int rfl rfl rfl rfl | exact q_not rfl rfl | exact q_pick_t rfl rfl (by conv => lhs; whnf) | exact q_pick_f rfl rfl (by conv => lhs; whnf) | exact q_extract rfl rfl rfl | exact q_max rfl rfl rfl | exact q_min rfl rfl rfl)) | refine ano rfl rfl rfl ?_ | refine adr_no rfl rfl rfl ?_)
    rfl
  have hc := hcol k hlk
  have ht := htone k hlk
  obtain ⟨x, hxx⟩ : ∃ x, (fun i => at0 (rw0 b i) k) = x := ⟨_, rfl⟩
  have hb0 : ∀ i, i < b.length → 0 ≤ x i ∧ x i + s.w ≤ R := fun i hi => by
    have a := (hl i hi).2.1 k (by have := (hl i hi).1; omega)
    rw [← hxx]
    show 0 ≤ at0 (rw0 b i) k ∧ at0 (rw0 b i) k + s.w ≤ R
    omega
  have hink : ∀ r, r < R → (atB X (r * C + k) = true ↔ inkC x b.length s.w r) := fun r hr => by
    rw [hdot k r hlk hr, ← hxx]
    exact dot_inkC
  rw [hxx] at hc
  repeat (first | with_reducible (first | refine awp_seq ?_ | refine awp_region ?_ | refine awp_region_q (by kernel_rfl) (by kernel_rfl) ?_ | refine adr_nil ?_ | refine adr_end ?_ | refine aops_then ?_ | refine aops_nil ?_ | refine awp_block ?_ | refine awp_label ?_ | refine awp_scope ?_ | refine pn_scope ?_ | refine px_scope ?_ | refine pr_scope ?_ | refine px_then ?_ | refine px_block ?_ | refine px_block_ne rfl ?_ | refine pn_block ?_ | refine pn_then ?_ | refine pn_asg ?_ | refine pn_rnd ?_ | refine px_rnd ?_ | refine awp_exit ?_ | refine awp_skip ?_ | refine awp_ret ?_ | refine pr_then ?_ | refine pr_block ?_ | refine pr_rnd ?_ | refine pr_retM ?_ | refine pn_retM ?_ | refine pr_ret ?_ | refine pn_ret ?_) | refine awp_cond_t rfl rfl ?_ | refine awp_cond_f rfl rfl ?_ | ((first | apply aq (hd := rfl) (hok := rfl) (hw := rfl) | apply adr_q (ho := rfl) (hd := rfl) (hw := rfl)); (first | exact q_SF rfl rfl (by decide) | exact q_ldC 1 H rfl rfl rfl rfl iT.int rfl | exact q_move rfl (by conv => lhs; whnf) | exact q_assign rfl (by conv => lhs; whnf) | exact q_add rfl rfl rfl (by omega) | exact q_sub rfl rfl rfl (by omega) | exact q_neg rfl rfl (by omega) | exact q_rem_in rfl rfl rfl (by omega) | exact q_quo_in rfl rfl rfl (by omega) | exact q_lss_t rfl rfl rfl (by omega) | exact q_lss_f rfl rfl rfl (by omega) | exact q_leq_t rfl rfl rfl (by omega) | exact q_leq_f rfl rfl rfl (by omega) | exact q_gtr_t rfl rfl rfl (by omega) | exact q_gtr_f rfl rfl rfl (by omega) | exact q_geq_t rfl rfl rfl (by omega) | exact q_geq_f rfl rfl rfl (by omega) | exact q_eql_t rfl rfl rfl (by omega) | exact q_eql_f rfl rfl rfl (by omega) | exact q_neq_t rfl rfl rfl (by omega) | exact q_neq_f rfl rfl rfl (by omega) | exact q_int rfl rfl rfl rfl | exact q_not rfl rfl | exact q_pick_t rfl rfl (by conv => lhs; whnf) | exact q_pick_f rfl rfl (by conv => lhs; whnf) | exact q_extract rfl rfl rfl | exact q_max rfl rfl rfl | exact q_min rfl rfl rfl)) | refine ano rfl rfl rfl ?_ | refine adr_no rfl rfl rfl ?_)
  refine awp_loop [1, 2, 5, 7, 8, 9, 10, 31, 32, 38, 39] (fun vs m => ∃ (r n : Nat) (pa ru : Int), vs = [v, .pointer (some ⟨B2, 0, Option.none⟩), i1, .int .i64 k, .int .i64 pa, .int .i64 ru, .int .i64 n, .int .i64 s.c, .int .i64 k, .int .i64 s.r, .int .i64 r] ∧ r ≤ R ∧ Pst x b.length s.w s.k r pa ru n ∧ HP m [.sl i1 4 1 X.length (bls X), .vs 29 B2 (sc s)]) (fun vs _ => R - (intOf (vs.getD 10 undef)).toNat) ⟨0, 0, s.k, 0, rfl, Nat.zero_le _, pst_zero hc (fun i hi => (hb0 i hi).1), H⟩ ?_
  clear H
  rintro fr2 vs2 m2' - ⟨r, n, pa, ru, rfl, hr, hp, H⟩
  have h1 := hp.le
  have h2 := hp.rb
  have h3 := hp.pap
  by_cases hlr : r < R
  · obtain ⟨M, hM⟩ : ∃ M : Nat, r * C = M := ⟨_, rfl⟩
    have hM1 : (r : Int) * s.c = (M : Nat) := by rw [hC2, ← hM]; rfl
    obtain ⟨q, hq⟩ : ∃ q : Nat, M + k = q := ⟨_, rfl⟩
    have hq1 : (M : Int) + k = (q : Nat) := by omega
    have hqx : q < X.length := by
      have a : (r + 1) * C ≤ R * C := Nat.mul_le_mul_right _ hlr
      rw [Nat.add_mul, Nat.one_mul, hM] at a
      omega
    have hi := hink r hlr
    rw [hM, hq] at hi
    obtain ⟨rm, hrm⟩ : ∃ z, ru % s.w = z := ⟨_, rfl⟩
    have hrt : ru.tmod s.w = rm := by rw [← hrm]; exact Int.tmod_eq_emod_of_nonneg h2.1
    have sX := (H.sl 0 rfl).sl (W := W)
    obtain ⟨is, his⟩ : ∃ z, atB X q = z := ⟨_, rfl⟩
    have F1 : ∀ (o : Oper) (fr : Fr) (z : Operand), o.op = .load 4 z → evalF fr z = ptrAt i1 q → QOp Try.prog W o fr m2' (.bool is) := fun o fr z ho hz => by rw [← his]; exact q_ldB sX hqx ho hz
    rw [his] at hi
    cases is
    · obtain ⟨a1, a2⟩ := pst_paper hc hp (fun e => by have := hi.2 e; cases this)
      rw [hrm] at a1
      repeat (first | with_reducible (first | refine awp_seq ?_ | refine awp_region ?_ | refine awp_region_q (by kernel_rfl) (by kernel_rfl) ?_ | refine adr_nil ?_ | refine adr_end ?_ | refine aops_then ?_ | refine aops_nil ?_ | refine awp_block ?_ | refine awp_label ?_ | refine awp_scope ?_ | refine pn_scope ?_ | refine px_scope ?_ | refine pr_scope ?_ | refine px_then ?_ | refine px_block ?_ | refine px_block_ne rfl ?_ | refine pn_block ?_ | refine pn_then ?_ | refine pn_asg ?_ | refine pn_rnd ?_ | refine px_rnd ?_ | refine awp_exit ?_ | refine awp_skip ?_ | refine awp_ret ?_ | refine pr_then ?_ | refine pr_block ?_ | refine pr_rnd ?_ | refine pr_retM ?_ | refine pn_retM ?_ | refine pr_ret ?_ | refine pn_ret ?_) | refine awp_cond_t rfl rfl ?_ | refine awp_cond_f rfl rfl ?_ | ((first | apply aq (hd := rfl) (hok := rfl) (hw := rfl) | apply adr_q (ho := rfl) (hd := rfl) (hw := rfl)); (first | exact q_mulX hM1 rfl rfl rfl (by omega) | exact q_addX hq1 rfl rfl rfl (by omega) | exact q_ixB sX rfl rfl rfl (i := q) hqx | exact F1 _ _ _ rfl rfl | exact q_SF rfl rfl (by decide) | exact q_ldC 1 H rfl rfl rfl rfl iT.int rfl | exact q_remX hrt rfl rfl rfl (by omega) | exact q_move rfl (by conv => lhs; whnf) | exact q_assign rfl (by conv => lhs; whnf) | exact q_add rfl rfl rfl (by omega) | exact q_sub rfl rfl rfl (by omega) | exact q_neg rfl rfl (by omega) | exact q_rem_in rfl rfl rfl (by omega) | exact q_quo_in rfl rfl rfl (by omega) | exact q_lss_t rfl rfl rfl (by omega) | exact q_lss_f rfl rfl rfl (by omega) | exact q_leq_t rfl rfl rfl (by omega) | exact q_leq_f rfl rfl rfl (by omega) | exact q_gtr_t rfl rfl rfl (by omega) | exact q_gtr_f rfl rfl rfl (by omega) | exact q_geq_t rfl rfl rfl (by omega) | exact q_geq_f rfl rfl rfl (by omega) | exact q_eql_t rfl rfl rfl (by omega) | exact q_eql_f rfl rfl rfl (by omega) | exact q_neq_t rfl rfl rfl (by omega) | exact q_neq_f rfl rfl rfl (by omega) | exact q_int rfl rfl rfl rfl | exact q_not rfl rfl | exact q_pick_t rfl rfl (by conv => lhs; whnf) | exact q_pick_f rfl rfl (by conv => lhs; whnf) | exact q_extract rfl rfl rfl | exact q_max rfl rfl rfl | exact q_min rfl rfl rfl)) | refine ano rfl rfl rfl ?_ | refine adr_no rfl rfl rfl ?_)
      exact ⟨⟨r + 1, n, pa + 1, 0, rfl, by omega, a2, H⟩, by show R - ((r : Int) + 1).toNat < R - (r : Int).toNat; omega⟩
    · have hin := hi.1 rfl
      by_cases h0 : rm = 0
      · obtain ⟨a1, a2⟩ := pst_new hc hp hin (hrm.trans h0)
        by_cases hn : 0 < n
        · have a3 := a1 hn
          repeat (first | with_reducible (first | refine awp_seq ?_ | refine awp_region ?_ | refine awp_region_q (by kernel_rfl) (by kernel_rfl) ?_ | refine adr_nil ?_ | refine adr_end ?_ | refine aops_then ?_ | refine aops_nil ?_ | refine awp_block ?_ | refine awp_label ?_ | refine awp_scope ?_ | refine pn_scope ?_ | refine px_scope ?_ | refine pr_scope ?_ | refine px_then ?_ | refine px_block ?_ | refine px_block_ne rfl ?_ | refine pn_block ?_ | refine pn_then ?_ | refine pn_asg ?_ | refine pn_rnd ?_ | refine px_rnd ?_ | refine awp_exit ?_ | refine awp_skip ?_ | refine awp_ret ?_ | refine pr_then ?_ | refine pr_block ?_ | refine pr_rnd ?_ | refine pr_retM ?_ | refine pn_retM ?_ | refine pr_ret ?_ | refine pn_ret ?_) | refine awp_cond_t rfl rfl ?_ | refine awp_cond_f rfl rfl ?_ | ((first | apply aq (hd := rfl) (hok := rfl) (hw := rfl) | apply adr_q (ho := rfl) (hd := rfl) (hw := rfl)); (first | exact q_mulX hM1 rfl rfl rfl (by omega) | exact q_addX hq1 rfl rfl rfl (by omega) | exact q_ixB sX rfl rfl rfl (i := q) hqx | exact F1 _ _ _ rfl rfl | exact q_SF rfl rfl (by decide) | exact q_ldC 1 H rfl rfl rfl rfl iT.int rfl | exact q_remX hrt rfl rfl rfl (by omega) | exact q_move rfl (by conv => lhs; whnf) | exact q_assign rfl (by conv => lhs; whnf) | exact q_add rfl rfl rfl (by omega) | exact q_sub rfl rfl rfl (by omega) | exact q_neg rfl rfl (by omega) | exact q_rem_in rfl rfl rfl (by omega) | exact q_quo_in rfl rfl rfl (by omega) | exact q_lss_t rfl rfl rfl (by omega) | exact q_lss_f rfl rfl rfl (by omega) | exact q_leq_t rfl rfl rfl (by omega) | exact q_leq_f rfl rfl rfl (by omega) | exact q_gtr_t rfl rfl rfl (by omega) | exact q_gtr_f rfl rfl rfl (by omega) | exact q_geq_t rfl rfl rfl (by omega) | exact q_geq_f rfl rfl rfl (by omega) | exact q_eql_t rfl rfl rfl (by omega) | exact q_eql_f rfl rfl rfl (by omega) | exact q_neq_t rfl rfl rfl (by omega) | exact q_neq_f rfl rfl rfl (by omega) | exact q_int rfl rfl rfl rfl | exact q_not rfl rfl | exact q_pick_t rfl rfl (by conv => lhs; whnf) | exact q_pick_f rfl rfl (by conv => lhs; whnf) | exact q_extract rfl rfl rfl | exact q_max rfl rfl rfl | exact q_min rfl rfl rfl)) | refine ano rfl rfl rfl ?_ | refine adr_no rfl rfl rfl ?_)
          exact ⟨⟨r + 1, n + 1, 0, ru + 1, rfl, by omega, a2, H⟩, by show R - ((r : Int) + 1).toNat < R - (r : Int).toNat; omega⟩
        · repeat (first | with_reducible (first | refine awp_seq ?_ | refine awp_region ?_ | refine awp_region_q (by kernel_rfl) (by kernel_rfl) ?_ | refine adr_nil ?_ | refine adr_end ?_ | refine aops_then ?_ | refine aops_nil ?_ | refine awp_block ?_ | refine awp_label ?_ | refine awp_scope ?_ | refine pn_scope ?_ | refine px_scope ?_ | refine pr_scope ?_ | refine px_then ?_ | refine px_block ?_ | refine px_block_ne rfl ?_ | refine pn_block ?_ | refine pn_then ?_ | refine pn_asg ?_ | refine pn_rnd ?_ | refine px_rnd ?_ | refine awp_exit ?_ | refine awp_skip ?_ | refine awp_ret ?_ | refine pr_then ?_ | refine pr_block ?_ | refine pr_rnd ?_ | refine pr_retM ?_ | refine pn_retM ?_ | refine pr_ret ?_ | refine pn_ret ?_) | refine awp_cond_t rfl rfl ?_ | refine awp_cond_f rfl rfl ?_ | ((first | apply aq (hd := rfl) (hok := rfl) (hw := rfl) | apply adr_q (ho := rfl) (hd := rfl) (hw := rfl)); (first | exact q_mulX hM1 rfl rfl rfl (by omega) | exact q_addX hq1 rfl rfl rfl (by omega) | exact q_ixB sX rfl rfl rfl (i := q) hqx | exact F1 _ _ _ rfl rfl | exact q_SF rfl rfl (by decide) | exact q_ldC 1 H rfl rfl rfl rfl iT.int rfl | exact q_remX hrt rfl rfl rfl (by omega) | exact q_move rfl (by conv => lhs; whnf) | exact q_assign rfl (by conv => lhs; whnf) | exact q_add rfl rfl rfl (by omega) | exact q_sub rfl rfl rfl (by omega) | exact q_neg rfl rfl (by omega) | exact q_rem_in rfl rfl rfl (by omega) | exact q_quo_in rfl rfl rfl (by omega) | exact q_lss_t rfl rfl rfl (by omega) | exact q_lss_f rfl rfl rfl (by omega) | exact q_leq_t rfl rfl rfl (by omega) | exact q_leq_f rfl rfl rfl (by omega) | exact q_gtr_t rfl rfl rfl (by omega) | exact q_gtr_f rfl rfl rfl (by omega) | exact q_geq_t rfl rfl rfl (by omega) | exact q_geq_f rfl rfl rfl (by omega) | exact q_eql_t rfl rfl rfl (by omega) | exact q_eql_f rfl rfl rfl (by omega) | exact q_neq_t rfl rfl rfl (by omega) | exact q_neq_f rfl rfl rfl (by omega) | exact q_int rfl rfl rfl rfl | exact q_not rfl rfl | exact q_pick_t rfl rfl (by conv => lhs; whnf) | exact q_pick_f rfl rfl (by conv => lhs; whnf) | exact q_extract rfl rfl rfl | exact q_max rfl rfl rfl | exact q_min rfl rfl rfl)) | refine ano rfl rfl rfl ?_ | refine adr_no rfl rfl rfl ?_)
          exact ⟨⟨r + 1, n + 1, 0, ru + 1, rfl, by omega, a2, H⟩, by show R - ((r : Int) + 1).toNat < R - (r : Int).toNat; omega⟩
      · have a2 := pst_run hc hp hin (by rw [hrm]; exact h0)
        repeat (first | with_reducible (first | refine awp_seq ?_ | refine awp_region ?_ | refine awp_region_q (by kernel_rfl) (by kernel_rfl) ?_ | refine adr_nil ?_ | refine adr_end ?_ | refine aops_then ?_ | refine aops_nil ?_ | refine awp_block ?_ | refine awp_label ?_ | refine awp_scope ?_ | refine pn_scope ?_ | refine px_scope ?_ | refine pr_scope ?_ | refine px_then ?_ | refine px_block ?_ | refine px_block_ne rfl ?_ | refine pn_block ?_ | refine pn_then ?_ | refine pn_asg ?_ | refine pn_rnd ?_ | refine px_rnd ?_ | refine awp_exit ?_ | refine awp_skip ?_ | refine awp_ret ?_ | refine pr_then ?_ | refine pr_block ?_ | refine pr_rnd ?_ | refine pr_retM ?_ | refine pn_retM ?_ | refine pr_ret ?_ | refine pn_ret ?_) | refine awp_cond_t rfl rfl ?_ | refine awp_cond_f rfl rfl ?_ | ((first | apply aq (hd := rfl) (hok := rfl) (hw := rfl) | apply adr_q (ho := rfl) (hd := rfl) (hw := rfl)); (first | exact q_mulX hM1 rfl rfl rfl (by omega) | exact q_addX hq1 rfl rfl rfl (by omega) | exact q_ixB sX rfl rfl rfl (i := q) hqx | exact F1 _ _ _ rfl rfl | exact q_SF rfl rfl (by decide) | exact q_ldC 1 H rfl rfl rfl rfl iT.int rfl | exact q_remX hrt rfl rfl rfl (by omega) | exact q_move rfl (by conv => lhs; whnf) | exact q_assign rfl (by conv => lhs; whnf) | exact q_add rfl rfl rfl (by omega) | exact q_sub rfl rfl rfl (by omega) | exact q_neg rfl rfl (by omega) | exact q_rem_in rfl rfl rfl (by omega) | exact q_quo_in rfl rfl rfl (by omega) | exact q_lss_t rfl rfl rfl (by omega) | exact q_lss_f rfl rfl rfl (by omega) | exact q_leq_t rfl rfl rfl (by omega) | exact q_leq_f rfl rfl rfl (by omega) | exact q_gtr_t rfl rfl rfl (by omega) | exact q_gtr_f rfl rfl rfl (by omega) | exact q_geq_t rfl rfl rfl (by omega) | exact q_geq_f rfl rfl rfl (by omega) | exact q_eql_t rfl rfl rfl (by omega) | exact q_eql_f rfl rfl rfl (by omega) | exact q_neq_t rfl rfl rfl (by omega) | exact q_neq_f rfl rfl rfl (by omega) | exact q_int rfl rfl rfl rfl | exact q_not rfl rfl | exact q_pick_t rfl rfl (by conv => lhs; whnf) | exact q_pick_f rfl rfl (by conv => lhs; whnf) | exact q_extract rfl rfl rfl | exact q_max rfl rfl rfl | exact q_min rfl rfl rfl)) | refine ano rfl rfl rfl ?_ | refine adr_no rfl rfl rfl ?_)
        exact ⟨⟨r + 1, n, pa, ru + 1, rfl, by omega, a2, H⟩, by show R - ((r : Int) + 1).toNat < R - (r : Int).toNat; omega⟩
  obtain rfl : r = R := by omega
  have hn : n = b.length := pst_end hc hp (fun i hi => (hb0 i hi).2)
  subst hn
  repeat (first | refine awp_region_ord [(0, true), (1, true), (2, true), (3, true), (4, true), (5, true), (6, true), (7, true), (9, true), (10, true), (11, true), (12, true), (8, false), (13, true), (14, true)] (by kernel_rfl) (Nat.le_of_ble_eq_true rfl) (by kernel_rfl) ?_ | with_reducible (first | refine awp_seq ?_ | refine awp_region ?_ | refine awp_region_q (by kernel_rfl) (by kernel_rfl) ?_ | refine adr_nil ?_ | refine adr_end ?_ | refine aops_then ?_ | refine aops_nil ?_ | refine awp_block ?_ | refine awp_label ?_ | refine awp_scope ?_ | refine pn_scope ?_ | refine px_scope ?_ | refine pr_scope ?_ | refine px_then ?_ | refine px_block ?_ | refine px_block_ne rfl ?_ | refine pn_block ?_ | refine pn_then ?_ | refine pn_asg ?_ | refine pn_rnd ?_ | refine px_rnd ?_ | refine awp_exit ?_ | refine awp_skip ?_ | refine awp_ret ?_ | refine pr_then ?_ | refine pr_block ?_ | refine pr_rnd ?_ | refine pr_retM ?_ | refine pn_retM ?_ | refine pr_ret ?_ | refine pn_ret ?_) | refine awp_cond_t rfl rfl ?_ | refine awp_cond_f rfl rfl ?_ | ((first | apply aq (hd := rfl) (hok := rfl) (hw := rfl) | apply adr_q (ho := rfl) (hd := rfl) (hw := rfl)); (first | exact q_len uBA (hv.o.le (Le.none _)) rfl rfl | exact q_SF rfl rfl (by decide) | exact q_ldC 1 H rfl rfl rfl rfl iT.int rfl | exact q_ldA 1 H rfl rfl rfl Try.underlying29 rfl szS | exact q_mulX hT rfl rfl rfl (by omega) | exact q_move rfl (by conv => lhs; whnf) | exact q_assign rfl (by conv => lhs; whnf) | exact q_add rfl rfl rfl (by omega) | exact q_sub rfl rfl rfl (by omega) | exact q_neg rfl rfl (by omega) | exact q_rem_in rfl rfl rfl (by omega) | exact q_quo_in rfl rfl rfl (by omega) | exact q_lss_t rfl rfl rfl (by omega) | exact q_lss_f rfl rfl rfl (by omega) | exact q_leq_t rfl rfl rfl (by omega) | exact q_leq_f rfl rfl rfl (by omega) | exact q_gtr_t rfl rfl rfl (by omega) | exact q_gtr_f rfl rfl rfl (by omega) | exact q_geq_t rfl rfl rfl (by omega) | exact q_geq_f rfl rfl rfl (by omega) | exact q_eql_t rfl rfl rfl (by omega) | exact q_eql_f rfl rfl rfl (by omega) | exact q_neq_t rfl rfl rfl (by omega) | exact q_neq_f rfl rfl rfl (by omega) | exact q_int rfl rfl rfl rfl | exact q_not rfl rfl | exact q_pick_t rfl rfl (by conv => lhs; whnf) | exact q_pick_f rfl rfl (by conv => lhs; whnf) | exact q_extract rfl rfl rfl | exact q_max rfl rfl rfl | exact q_min rfl rfl rfl)) | refine ano rfl rfl rfl ?_ | refine adr_no rfl rfl rfl ?_)
  refine adr_a rfl rfl rfl (h_call fColumn (fun w hw => column_c w i1 s X C r k hC2 (by omega) (by omega) (by omega) hlen hlk ((H.sl 0 rfl).sl.world hw)) rfl rfl (fun va ma hR hS => ⟨.inl (Keep.le hS.keep), ?_⟩))
  obtain rfl := hR
  have H := H.callOnly hS
  rw [ht]
  repeat (first | with_reducible (first | refine awp_seq ?_ | refine awp_region ?_ | refine awp_region_q (by kernel_rfl) (by kernel_rfl) ?_ | refine adr_nil ?_ | refine adr_end ?_ | refine aops_then ?_ | refine aops_nil ?_ | refine awp_block ?_ | refine awp_label ?_ | refine awp_scope ?_ | refine pn_scope ?_ | refine px_scope ?_ | refine pr_scope ?_ | refine px_then ?_ | refine px_block ?_ | refine px_block_ne rfl ?_ | refine pn_block ?_ | refine pn_then ?_ | refine pn_asg ?_ | refine pn_rnd ?_ | refine px_rnd ?_ | refine awp_exit ?_ | refine awp_skip ?_ | refine awp_ret ?_ | refine pr_then ?_ | refine pr_block ?_ | refine pr_rnd ?_ | refine pr_retM ?_ | refine pn_retM ?_ | refine pr_ret ?_ | refine pn_ret ?_) | refine awp_cond_t rfl rfl ?_ | refine awp_cond_f rfl rfl ?_ | ((first | apply aq (hd := rfl) (hok := rfl) (hw := rfl) | apply adr_q (ho := rfl) (hd := rfl) (hw := rfl)); (first | exact q_move rfl (by conv => lhs; whnf) | exact q_assign rfl (by conv => lhs; whnf) | exact q_add rfl rfl rfl (by omega) | exact q_sub rfl rfl rfl (by omega) | exact q_neg rfl rfl (by omega) | exact q_rem_in rfl rfl rfl (by omega) | exact q_quo_in rfl rfl rfl (by omega) | exact q_lss_t rfl rfl rfl (by omega) | exact q_lss_f rfl rfl rfl (by omega) | exact q_leq_t rfl rfl rfl (by omega) | exact q_leq_f rfl rfl rfl (by omega) | exact q_gtr_t rfl rfl rfl (by omega) | exact q_gtr_f rfl rfl rfl (by omega) | exact q_geq_t rfl rfl rfl (by omega) | exact q_geq_f rfl rfl rfl (by omega) | exact q_eql_t rfl rfl rfl (by omega) | exact q_eql_f rfl rfl rfl (by omega) | exact q_neq_t rfl rfl rfl (by omega) | exact q_neq_f rfl rfl rfl (by omega) | exact q_int rfl rfl rfl rfl | exact q_not rfl rfl | exact q_pick_t rfl rfl (by conv => lhs; whnf) | exact q_pick_f rfl rfl (by conv => lhs; whnf) | exact q_extract rfl rfl rfl | exact q_max rfl rfl rfl | exact q_min rfl rfl rfl)) | refine ano rfl rfl rfl ?_ | refine adr_no rfl rfl rfl ?_)
  exact ⟨⟨k + 1, rfl, by omega, H⟩, by show C - ((k : Int) + 1).toNat < C - (k : Int).toNat; omega⟩
end Go.R07
