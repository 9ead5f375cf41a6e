import Derived.Test.YtgeaklbldhijbaaMat03e
import Derived.Test.YtgeaklbldhijbaaRef03f
set_option linter.unusedSectionVars false
set_option linter.unusedSimpArgs false
set_option linter.unusedVariables false
/-! Layer 3: the reference's count. -/
namespace Go.R03
open Go Go.Abs Go.RowKit Go.Proofs
set_option maxRecDepth 20000
set_option maxHeartbeats 8000000
attribute [local irreducible] AWp AOps ADr AAny thenQ blockQ retQ
set_option linter.unusedVariables false
theorem fCounted : Fun Try.prog 75 := ⟨_, _, Try.func75, rfl, by kernel_rfl⟩
theorem fCountR : Fun Try.prog 36 := ⟨_, _, Try.func36, rfl, by kernel_rfl⟩
theorem two_bit (A k : Nat) : (A / 2 ^ k % 2 = 1 ∧ A.testBit k = true) ∨ (A / 2 ^ k % 2 = 0 ∧ A.testBit k = false) := by
  rw [Nat.testBit_eq_decide_div_mod_eq]
  have : A / 2 ^ k % 2 = 0 ∨ A / 2 ^ k % 2 = 1 := by omega
  rcases this with h | h <;> simp [h]
theorem touN_succ (l b g : List Int) (p : Int) (high k : Nat) : ((List.range (k + 1)).any fun j => high.testBit j && decide (ca g (p + (j - hw b)) - b.getD j 0 = ca l p)) =
    (((List.range k).any fun j => high.testBit j && decide (ca g (p + (j - hw b)) - b.getD j 0 = ca l p)) || (high.testBit k && decide (ca g (p + (k - hw b)) - b.getD k 0 = ca l p))) := by
  rw [List.range_succ, List.any_append]; simp
theorem touched_q (w : World) (vl vb vg : Value) (l b g : List Int) (p : Int) (high : Nat) (hvl : SL w Mem.none 1 vl l.length (i64s l)) (hvb : SL w Mem.none 1 vb b.length (i64s b)) (hvg : SL w Mem.none 1 vg g.length (i64s g))
    (hb : Rub b) (hl : hts l = true) (hg : hts g = true) (hgl : g.length = l.length) (hn : 1 ≤ l.length) (hn2 : l.length ≤ 1000000) (hb7 : b.length ≤ 7) (hp : -1000000 ≤ p ∧ p ≤ 1000000) (hh : high ≤ 1000000) {r : Bool} (hr : touN l b g p high = r) :
    QCalls Try.prog 99 #[vl, vb, vg, .int .i64 p, .int .i64 high] w (.bool r) := by
  have ho := hb.len
  refine qcalls_of (acalls_of_body Try.func99 rfl (res1 rfl (by decide)) (Nat.le_of_ble_eq_true rfl) ?_)
  repeat (first | with_reducible (first | refine awp_seq ?_ | refine awp_region ?_ | refine awp_region_q (by kernel_rfl) (by kernel_rfl) ?_ | refine adr_nil ?_ | refine adr_end ?_ | refine aops_then ?_ | refine aops_nil ?_ | refine awp_block ?_ | refine px_then ?_ | refine px_block ?_ | refine px_block_ne rfl ?_ | refine pn_block ?_ | refine pn_then ?_ | refine pn_asg ?_ | refine pn_rnd ?_ | refine px_rnd ?_ | refine awp_exit ?_ | refine awp_skip ?_ | refine awp_ret ?_ | refine pr_then ?_ | refine pr_block ?_ | refine pr_rnd ?_ | refine pr_retM ?_ | refine pn_retM ?_ | refine pr_ret ?_ | refine pn_ret ?_) | refine awp_cond_t rfl rfl ?_ | refine awp_cond_f rfl rfl ?_ | ((first | apply aq (hd := rfl) (hok := rfl) (hw := rfl) | apply adr_q (ho := rfl) (hd := rfl) (hw := rfl)); (first | exact q_lenI iT hvl rfl rfl | exact q_lenI iT hvb rfl rfl | exact q_move rfl (by conv => lhs; whnf) | exact q_assign rfl (by conv => lhs; whnf) | exact q_add rfl rfl rfl (by omega) | exact q_sub rfl rfl rfl (by omega) | exact q_neg rfl rfl (by omega) | exact q_rem_in rfl rfl rfl (by omega) | exact q_quo_in rfl rfl rfl (by omega) | exact q_lss_t rfl rfl rfl (by omega) | exact q_lss_f rfl rfl rfl (by omega) | exact q_leq_t rfl rfl rfl (by omega) | exact q_leq_f rfl rfl rfl (by omega) | exact q_gtr_t rfl rfl rfl (by omega) | exact q_gtr_f rfl rfl rfl (by omega) | exact q_geq_t rfl rfl rfl (by omega) | exact q_geq_f rfl rfl rfl (by omega) | exact q_eql_t rfl rfl rfl (by omega) | exact q_eql_f rfl rfl rfl (by omega) | exact q_neq_t rfl rfl rfl (by omega) | exact q_neq_f rfl rfl rfl (by omega) | exact q_int rfl rfl rfl rfl | exact q_not rfl rfl | exact q_pick_t rfl rfl (by conv => lhs; whnf) | exact q_pick_f rfl rfl (by conv => lhs; whnf) | exact q_extract rfl rfl rfl | exact q_max rfl rfl rfl | exact q_min rfl rfl rfl)) | refine ano rfl rfl rfl ?_ | refine adr_no rfl rfl rfl ?_)
  refine awp_loop [0, 1, 2, 3, 4, 11, 12, 13] (fun vs m => ∃ (k : Nat) (j : Int), vs = [vl, vb, vg, .int .i64 p, .int .i64 high, .int .i64 l.length, .int .i64 (b.length / 2 : Nat), .int .i64 j] ∧ k ≤ b.length ∧ m = Mem.none ∧ j = -((b.length / 2 : Nat) : Int) + k ∧ ((List.range k).any fun j => high.testBit j && decide (ca g (p + (j - hw b)) - b.getD j 0 = ca l p)) = false)
    (fun vs _ => ((b.length / 2 : Nat) + 1 - intOf (vs.getD 7 undef)).toNat) ⟨0, _, rfl, by omega, rfl, by simp, rfl⟩ ?_
  rintro f vs m - ⟨k, j, rfl, hk, rfl, hj, hno⟩
  by_cases hjw : j ≤ ((b.length / 2 : Nat) : Int)
  · have hmod : 0 ≤ (p + j) % (l.length : Int) ∧ (p + j) % (l.length : Int) < (l.length : Int) := ⟨Int.emod_nonneg _ (by omega), Int.emod_lt_of_pos _ (by omega)⟩
    have hmod2 : 0 ≤ p % (l.length : Int) ∧ p % (l.length : Int) < (l.length : Int) := ⟨Int.emod_nonneg _ (by omega), Int.emod_lt_of_pos _ (by omega)⟩
    have b1 := hts_at hg ((p + j) % (l.length : Int)).toNat
    have b2 := hts_at hb.hts (((b.length / 2 : Nat) : Int) + j).toNat
    have b3 := hts_at hl (p % (l.length : Int)).toNat
    have e1 : (((b.length / 2 : Nat) : Int) + j).toNat = k := by omega
    have e2 : (k : Int) - hw b = j := by unfold hw; omega
    have e3 : ca g (p + j) = g.getD ((p + j) % (l.length : Int)).toNat 0 := by unfold ca; rw [hgl]
    have e4 : ca l p = l.getD (p % (l.length : Int)).toNat 0 := rfl
    have hstep := touN_succ l b g p high k
    rw [hno, Bool.false_or, e2] at hstep
    have hmono : k + 1 ≤ b.length → ((List.range (k + 1)).any fun j => high.testBit j && decide (ca g (p + (j - hw b)) - b.getD j 0 = ca l p)) = true → touN l b g p high = true := fun hle h => by
      unfold touN
      rw [List.any_eq_true] at h ⊢
      obtain ⟨x, hx, hx2⟩ := h
      exact ⟨x, List.mem_range.2 (by have := List.mem_range.1 hx; omega), hx2⟩
    have htb := two_bit high k
    obtain ⟨X, hX⟩ : ∃ X, high / 2 ^ k = X := ⟨_, rfl⟩
    rw [hX] at htb
    rcases htb with ⟨t1, t2⟩ | ⟨t1, t2⟩
    · by_cases hc : g.getD ((p + j) % (l.length : Int)).toNat 0 - b.getD (((b.length / 2 : Nat) : Int) + j).toNat 0 = l.getD (p % (l.length : Int)).toNat 0
      · repeat (first | with_reducible (first | refine awp_seq ?_ | refine awp_region ?_ | refine awp_region_q (by kernel_rfl) (by kernel_rfl) ?_ | refine adr_nil ?_ | refine adr_end ?_ | refine aops_then ?_ | refine aops_nil ?_ | refine awp_block ?_ | refine px_then ?_ | refine px_block ?_ | refine px_block_ne rfl ?_ | refine pn_block ?_ | refine pn_then ?_ | refine pn_asg ?_ | refine pn_rnd ?_ | refine px_rnd ?_ | refine awp_exit ?_ | refine awp_skip ?_ | refine awp_ret ?_ | refine pr_then ?_ | refine pr_block ?_ | refine pr_rnd ?_ | refine pr_retM ?_ | refine pn_retM ?_ | refine pr_ret ?_ | refine pn_ret ?_) | refine awp_cond_t rfl rfl ?_ | refine awp_cond_f rfl rfl ?_ | ((first | apply aq (hd := rfl) (hok := rfl) (hw := rfl) | apply adr_q (ho := rfl) (hd := rfl) (hw := rfl)); (first | exact q_convU Try.underlying3 Try.underlying68 rfl rfl (by omega) | exact q_shrN high k hX rfl rfl rfl rfl (by omega) (by omega) | exact q_call fAround (fun w _ => around_q w _ _ (by omega)) rfl rfl | exact q_ixI iT hvg rfl rfl rfl (by omega) (by omega) | exact q_ldI iT hvg rfl rfl (by omega) | exact q_ixI iT hvb rfl rfl rfl (by omega) (by omega) | exact q_ldI iT hvb rfl rfl (by omega) | exact q_ixI iT hvl rfl rfl rfl (by omega) (by omega) | exact q_ldI iT hvl rfl rfl (by omega) | exact q_move rfl (by conv => lhs; whnf) | exact q_assign rfl (by conv => lhs; whnf) | exact q_add rfl rfl rfl (by omega) | exact q_sub rfl rfl rfl (by omega) | exact q_neg rfl rfl (by omega) | exact q_rem_in rfl rfl rfl (by omega) | exact q_quo_in rfl rfl rfl (by omega) | exact q_lss_t rfl rfl rfl (by omega) | exact q_lss_f rfl rfl rfl (by omega) | exact q_leq_t rfl rfl rfl (by omega) | exact q_leq_f rfl rfl rfl (by omega) | exact q_gtr_t rfl rfl rfl (by omega) | exact q_gtr_f rfl rfl rfl (by omega) | exact q_geq_t rfl rfl rfl (by omega) | exact q_geq_f rfl rfl rfl (by omega) | exact q_eql_t rfl rfl rfl (by omega) | exact q_eql_f rfl rfl rfl (by omega) | exact q_neq_t rfl rfl rfl (by omega) | exact q_neq_f rfl rfl rfl (by omega) | exact q_int rfl rfl rfl rfl | exact q_not rfl rfl | exact q_pick_t rfl rfl (by conv => lhs; whnf) | exact q_pick_f rfl rfl (by conv => lhs; whnf) | exact q_extract rfl rfl rfl | exact q_max rfl rfl rfl | exact q_min rfl rfl rfl)) | refine ano rfl rfl rfl ?_ | refine adr_no rfl rfl rfl ?_)
        rw [← hr, hmono (by omega) (by rw [hstep, t2, e3, e4, ← e1]; simp only [Bool.true_and, decide_eq_true_eq]; exact hc)]; rfl
      · repeat (first | with_reducible (first | refine awp_seq ?_ | refine awp_region ?_ | refine awp_region_q (by kernel_rfl) (by kernel_rfl) ?_ | refine adr_nil ?_ | refine adr_end ?_ | refine aops_then ?_ | refine aops_nil ?_ | refine awp_block ?_ | refine px_then ?_ | refine px_block ?_ | refine px_block_ne rfl ?_ | refine pn_block ?_ | refine pn_then ?_ | refine pn_asg ?_ | refine pn_rnd ?_ | refine px_rnd ?_ | refine awp_exit ?_ | refine awp_skip ?_ | refine awp_ret ?_ | refine pr_then ?_ | refine pr_block ?_ | refine pr_rnd ?_ | refine pr_retM ?_ | refine pn_retM ?_ | refine pr_ret ?_ | refine pn_ret ?_) | refine awp_cond_t rfl rfl ?_ | refine awp_cond_f rfl rfl ?_ | ((first | apply aq (hd := rfl) (hok := rfl) (hw := rfl) | apply adr_q (ho := rfl) (hd := rfl) (hw := rfl)); (first | exact q_convU Try.underlying3 Try.underlying68 rfl rfl (by omega) | exact q_shrN high k hX rfl rfl rfl rfl (by omega) (by omega) | exact q_call fAround (fun w _ => around_q w _ _ (by omega)) rfl rfl | exact q_ixI iT hvg rfl rfl rfl (by omega) (by omega) | exact q_ldI iT hvg rfl rfl (by omega) | exact q_ixI iT hvb rfl rfl rfl (by omega) (by omega) | exact q_ldI iT hvb rfl rfl (by omega) | exact q_ixI iT hvl rfl rfl rfl (by omega) (by omega) | exact q_ldI iT hvl rfl rfl (by omega) | exact q_move rfl (by conv => lhs; whnf) | exact q_assign rfl (by conv => lhs; whnf) | exact q_add rfl rfl rfl (by omega) | exact q_sub rfl rfl rfl (by omega) | exact q_neg rfl rfl (by omega) | exact q_rem_in rfl rfl rfl (by omega) | exact q_quo_in rfl rfl rfl (by omega) | exact q_lss_t rfl rfl rfl (by omega) | exact q_lss_f rfl rfl rfl (by omega) | exact q_leq_t rfl rfl rfl (by omega) | exact q_leq_f rfl rfl rfl (by omega) | exact q_gtr_t rfl rfl rfl (by omega) | exact q_gtr_f rfl rfl rfl (by omega) | exact q_geq_t rfl rfl rfl (by omega) | exact q_geq_f rfl rfl rfl (by omega) | exact q_eql_t rfl rfl rfl (by omega) | exact q_eql_f rfl rfl rfl (by omega) | exact q_neq_t rfl rfl rfl (by omega) | exact q_neq_f rfl rfl rfl (by omega) | exact q_int rfl rfl rfl rfl | exact q_not rfl rfl | exact q_pick_t rfl rfl (by conv => lhs; whnf) | exact q_pick_f rfl rfl (by conv => lhs; whnf) | exact q_extract rfl rfl rfl | exact q_max rfl rfl rfl | exact q_min rfl rfl rfl)) | refine ano rfl rfl rfl ?_ | refine adr_no rfl rfl rfl ?_)
        exact ⟨⟨k + 1, _, rfl, by omega, rfl, by omega, by rw [hstep, t2, e3, e4, ← e1]; simp only [Bool.true_and, decide_eq_false_iff_not]; exact hc⟩, by show (((b.length / 2 : Nat) : Int) + 1 - (j + 1)).toNat < (((b.length / 2 : Nat) : Int) + 1 - j).toNat; omega⟩
    · repeat (first | with_reducible (first | refine awp_seq ?_ | refine awp_region ?_ | refine awp_region_q (by kernel_rfl) (by kernel_rfl) ?_ | refine adr_nil ?_ | refine adr_end ?_ | refine aops_then ?_ | refine aops_nil ?_ | refine awp_block ?_ | refine px_then ?_ | refine px_block ?_ | refine px_block_ne rfl ?_ | refine pn_block ?_ | refine pn_then ?_ | refine pn_asg ?_ | refine pn_rnd ?_ | refine px_rnd ?_ | refine awp_exit ?_ | refine awp_skip ?_ | refine awp_ret ?_ | refine pr_then ?_ | refine pr_block ?_ | refine pr_rnd ?_ | refine pr_retM ?_ | refine pn_retM ?_ | refine pr_ret ?_ | refine pn_ret ?_) | refine awp_cond_t rfl rfl ?_ | refine awp_cond_f rfl rfl ?_ | ((first | apply aq (hd := rfl) (hok := rfl) (hw := rfl) | apply adr_q (ho := rfl) (hd := rfl) (hw := rfl)); (first | exact q_convU Try.underlying3 Try.underlying68 rfl rfl (by omega) | exact q_shrN high k hX rfl rfl rfl rfl (by omega) (by omega) | exact q_call fAround (fun w _ => around_q w _ _ (by omega)) rfl rfl | exact q_ixI iT hvg rfl rfl rfl (by omega) (by omega) | exact q_ldI iT hvg rfl rfl (by omega) | exact q_ixI iT hvb rfl rfl rfl (by omega) (by omega) | exact q_ldI iT hvb rfl rfl (by omega) | exact q_ixI iT hvl rfl rfl rfl (by omega) (by omega) | exact q_ldI iT hvl rfl rfl (by omega) | exact q_move rfl (by conv => lhs; whnf) | exact q_assign rfl (by conv => lhs; whnf) | exact q_add rfl rfl rfl (by omega) | exact q_sub rfl rfl rfl (by omega) | exact q_neg rfl rfl (by omega) | exact q_rem_in rfl rfl rfl (by omega) | exact q_quo_in rfl rfl rfl (by omega) | exact q_lss_t rfl rfl rfl (by omega) | exact q_lss_f rfl rfl rfl (by omega) | exact q_leq_t rfl rfl rfl (by omega) | exact q_leq_f rfl rfl rfl (by omega) | exact q_gtr_t rfl rfl rfl (by omega) | exact q_gtr_f rfl rfl rfl (by omega) | exact q_geq_t rfl rfl rfl (by omega) | exact q_geq_f rfl rfl rfl (by omega) | exact q_eql_t rfl rfl rfl (by omega) | exact q_eql_f rfl rfl rfl (by omega) | exact q_neq_t rfl rfl rfl (by omega) | exact q_neq_f rfl rfl rfl (by omega) | exact q_int rfl rfl rfl rfl | exact q_not rfl rfl | exact q_pick_t rfl rfl (by conv => lhs; whnf) | exact q_pick_f rfl rfl (by conv => lhs; whnf) | exact q_extract rfl rfl rfl | exact q_max rfl rfl rfl | exact q_min rfl rfl rfl)) | refine ano rfl rfl rfl ?_ | refine adr_no rfl rfl rfl ?_)
      exact ⟨⟨k + 1, _, rfl, by omega, rfl, by omega, by rw [hstep, t2]; rfl⟩, by show (((b.length / 2 : Nat) : Int) + 1 - (j + 1)).toNat < (((b.length / 2 : Nat) : Int) + 1 - j).toNat; omega⟩
  · repeat (first | with_reducible (first | refine awp_seq ?_ | refine awp_region ?_ | refine awp_region_q (by kernel_rfl) (by kernel_rfl) ?_ | refine adr_nil ?_ | refine adr_end ?_ | refine aops_then ?_ | refine aops_nil ?_ | refine awp_block ?_ | refine px_then ?_ | refine px_block ?_ | refine px_block_ne rfl ?_ | refine pn_block ?_ | refine pn_then ?_ | refine pn_asg ?_ | refine pn_rnd ?_ | refine px_rnd ?_ | refine awp_exit ?_ | refine awp_skip ?_ | refine awp_ret ?_ | refine pr_then ?_ | refine pr_block ?_ | refine pr_rnd ?_ | refine pr_retM ?_ | refine pn_retM ?_ | refine pr_ret ?_ | refine pn_ret ?_) | refine awp_cond_t rfl rfl ?_ | refine awp_cond_f rfl rfl ?_ | ((first | apply aq (hd := rfl) (hok := rfl) (hw := rfl) | apply adr_q (ho := rfl) (hd := rfl) (hw := rfl)); (first | exact q_move rfl (by conv => lhs; whnf) | exact q_assign rfl (by conv => lhs; whnf) | exact q_add rfl rfl rfl (by omega) | exact q_sub rfl rfl rfl (by omega) | exact q_neg rfl rfl (by omega) | exact q_rem_in rfl rfl rfl (by omega) | exact q_quo_in rfl rfl rfl (by omega) | exact q_lss_t rfl rfl rfl (by omega) | exact q_lss_f rfl rfl rfl (by omega) | exact q_leq_t rfl rfl rfl (by omega) | exact q_leq_f rfl rfl rfl (by omega) | exact q_gtr_t rfl rfl rfl (by omega) | exact q_gtr_f rfl rfl rfl (by omega) | exact q_geq_t rfl rfl rfl (by omega) | exact q_geq_f rfl rfl rfl (by omega) | exact q_eql_t rfl rfl rfl (by omega) | exact q_eql_f rfl rfl rfl (by omega) | exact q_neq_t rfl rfl rfl (by omega) | exact q_neq_f rfl rfl rfl (by omega) | exact q_int rfl rfl rfl rfl | exact q_not rfl rfl | exact q_pick_t rfl rfl (by conv => lhs; whnf) | exact q_pick_f rfl rfl (by conv => lhs; whnf) | exact q_extract rfl rfl rfl | exact q_max rfl rfl rfl | exact q_min rfl rfl rfl)) | refine ano rfl rfl rfl ?_ | refine adr_no rfl rfl rfl ?_)
    have hkb : k = b.length := by omega
    subst hkb
    rw [← hr, show touN l b g p high = false from hno]; rfl
def CNTE (l b : List Int) : Int := if ask l b ≠ 0 then ask l b else if 7 < b.length then 4 else 0
def CNT (l b : List Int) : Int := if CNTE l b ≠ 0 then 0 else ((sols l b % 1000000007 : Nat) : Int)
/-! ### sums over the states -/
def dotN (D : Nat → Nat) : Nat → List Nat → Nat
  | _, [] => 0
  | i, x :: W => x * D i + dotN D (i + 1) W
theorem dotN_set (D : Nat → Nat) : ∀ (W : List Nat) (i t x : Nat), t < W.length → dotN D i (W.set t x) + W.getD t 0 * D (i + t) = dotN D i W + x * D (i + t)
  | [], _, _, _, h => by simp at h
  | y :: W, i, 0, x, _ => by simp [dotN]; omega
  | y :: W, i, t + 1, x, h => by
    have ih := dotN_set D W (i + 1) t x (by simpa using h)
    simp only [List.set_cons_succ, dotN, List.getD_cons_succ]
    rw [show i + (t + 1) = i + 1 + t by omega]
    omega
theorem dotN_zero (D : Nat → Nat) : ∀ (k i : Nat), dotN D i (List.replicate k 0) = 0
  | 0, _ => rfl
  | k + 1, i => by simp [List.replicate_succ, dotN, dotN_zero D k]
theorem dotN_take (D : Nat → Nat) : ∀ (W : List Nat) (i t : Nat), t < W.length → dotN D i (W.take (t + 1)) = dotN D i (W.take t) + W.getD t 0 * D (i + t)
  | [], _, _, h => by simp at h
  | y :: W, i, 0, _ => by simp [dotN]
  | y :: W, i, t + 1, h => by
    have ih := dotN_take D W (i + 1) t (by simpa using h)
    simp only [List.take_succ_cons, dotN, List.getD_cons_succ]
    rw [ih, show i + (t + 1) = i + 1 + t by omega]
    omega
theorem dotN_one (F : Nat) : ∀ (W : List Nat) (i : Nat), i ≤ F → F < i + W.length → dotN (fun s => if s = F then 1 else 0) i W = W.getD (F - i) 0
  | [], _, h1, h2 => by simp at h2; omega
  | y :: W, i, h1, h2 => by
    simp only [dotN]
    by_cases h : i = F
    · subst h
      have : ∀ (W : List Nat) (j : Nat), i < j → dotN (fun s => if s = i then 1 else 0) j W = 0 := by
        intro W
        induction W with
        | nil => intro _ _; rfl
        | cons z W ih => intro j hj; simp only [dotN]; rw [ih (j + 1) (by omega), if_neg (by omega)]; simp
      rw [this W (i + 1) (by omega)]; simp
    · have ih := dotN_one F W (i + 1) (by omega) (by simp at h2; omega)
      rw [ih, if_neg h, show F - i = (F - (i + 1)) + 1 by omega]
      simp
theorem natL_at (W : List Nat) (t : Nat) : (W.map Int.ofNat).getD t 0 = ((W.getD t 0 : Nat) : Int) := by
  by_cases h : t < W.length
  · simp [h]
  · simp [List.getElem?_eq_none (by omega : W.length ≤ t)]
theorem natL_set (W : List Nat) (t x : Nat) : (W.map Int.ofNat).set t (x : Int) = (W.set t x).map Int.ofNat := by rw [List.map_set]; rfl
theorem wgt_wt {g : Int} (h : 0 ≤ g) (b : Bool) : wgt g b = ((wt g b : Nat) : Int) := by unfold wgt wt; cases b <;> simp; omega
end Go.R03
