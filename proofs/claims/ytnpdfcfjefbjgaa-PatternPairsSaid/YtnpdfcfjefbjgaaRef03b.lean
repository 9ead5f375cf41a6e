import Derived.Test.YtnpdfcfjefbjgaaRef03
set_option linter.unusedSectionVars false
set_option linter.unusedSimpArgs false
set_option linter.unusedVariables false
namespace Go.R03
open Go Go.Abs Go.RowKit Go.Proofs
set_option maxRecDepth 20000
attribute [local irreducible] AWp AOps ADr AAny thenQ blockQ retQ
set_option linter.unusedVariables false
theorem fMoved : Fun Try.prog 90 := ⟨_, _, Try.func90, rfl, by kernel_rfl⟩
def ask (f b : List Int) : Int := if chk f ≠ 0 then chk f else chkR b f.length
theorem ask_ok {f b : List Int} (h : ask f b = 0) : 3 ≤ f.length ∧ f.length ≤ 96 ∧ hts f = true ∧ b.length % 2 = 1 ∧ b.length ≤ 31 ∧ b.length ≤ f.length ∧ hts b = true ∧ mid b = 0 := by
  unfold ask at h
  by_cases h1 : chk f = 0
  · rw [if_neg (by omega)] at h
    unfold chk at h1
    unfold chkR at h
    split at h1
    · rename_i h2
      split at h
      · omega
      · rename_i h3
        simp only [not_or, Bool.not_eq_false, Decidable.not_not] at h3
        exact ⟨h2.1, h2.2.1, h2.2.2, by omega, by omega, by omega, h3.2.2.1, h3.2.2.2⟩
    · omega
  · rw [if_pos h1] at h; exact absurd h h1
/-- A list and an error. -/
def RES (e : Int) (xs : List Int) (v : Value) (m : Mem) : Prop := ∃ vl, v = .tuple #[vl, .int .i64 e] ∧ OWN m 3 1 vl (if e = 0 then xs else []).length (i64s (if e = 0 then xs else []))
theorem RES.none {e : Int} (he : e ≠ 0) (xs : List Int) (m : Mem) : RES e xs (.tuple #[.slice Option.none 0 0, .int .i64 e]) m := ⟨_, rfl, by rw [if_neg he]; exact OWN.nil _ _ _⟩
theorem RES.some {xs : List Int} {vl : Value} {m : Mem} {n : Nat} (h : OWN m 3 1 vl n (i64s xs)) : RES 0 xs (.tuple #[vl, .int .i64 0]) m := ⟨_, rfl, by
  have := h.1; simp at this; subst this; exact h⟩
theorem lifted_length (f b : List Int) : (lifted f b).length = f.length := by simp [lifted]
theorem lifted_hts {f b : List Int} (hf : hts f = true) (hb : hts b = true) : hts (lifted f b) = true := by
  unfold hts lifted
  rw [List.all_map, List.all_eq_true]
  intro p _
  have := inn_bd hf hb p (2 * (b.length / 2) + 1)
  exact Bool.and_eq_true_iff.2 ⟨decide_eq_true this.1, decide_eq_true this.2⟩
/-! ### turned and mirrored -/
def movAt (f : List Int) (s : Int) (p : Nat) : Int := f.getD (((p : Int) - s.tmod f.length) % (f.length : Int)).toNat 0
def moved (f : List Int) (s : Int) : List Int := (List.range f.length).map (movAt f s)
theorem moved_c (W : World) (vf : Value) (f : List Int) (s : Int) (hvf : SL W Mem.none 1 vf f.length (i64s f)) (hn : 1 ≤ f.length) (hn2 : f.length ≤ 1000000) :
    ACalls Try.prog (gen W) 90 #[vf, .int .i64 s] Mem.none (fun v m => OWN m 3 1 v f.length (i64s (moved f s))) := by
  refine acalls_of_body Try.func90 rfl (res1 rfl (by decide)) (Nat.le_of_ble_eq_true rfl) ?_
  obtain ⟨t1, t2, _⟩ := tmod_around s f.length (by omega)
  repeat (first | with_reducible (first | refine awp_seq ?_ | refine awp_region ?_ | refine awp_region_q (by kernel_rfl) (by kernel_rfl) ?_ | refine adr_nil ?_ | refine adr_end ?_ | refine aops_then ?_ | refine aops_nil ?_ | refine awp_block ?_ | refine px_then ?_ | refine px_block ?_ | refine px_block_ne rfl ?_ | refine pn_block ?_ | refine pn_then ?_ | refine pn_asg ?_ | refine pn_rnd ?_ | refine px_rnd ?_ | refine awp_exit ?_ | refine awp_skip ?_ | refine awp_ret ?_ | refine pr_then ?_ | refine pr_block ?_ | refine pr_rnd ?_ | refine pr_retM ?_ | refine pn_retM ?_ | refine pr_ret ?_ | refine pn_ret ?_) | refine awp_cond_t rfl rfl ?_ | refine awp_cond_f rfl rfl ?_ | ((first | apply aq (hd := rfl) (hok := rfl) (hw := rfl) | apply adr_q (ho := rfl) (hd := rfl) (hw := rfl)); (first | exact q_lenI iT hvf rfl rfl | exact q_move rfl (by conv => lhs; whnf) | exact q_assign rfl (by conv => lhs; whnf) | exact q_add rfl rfl rfl (by omega) | exact q_sub rfl rfl rfl (by omega) | exact q_neg rfl rfl (by omega) | exact q_rem_in rfl rfl rfl (by omega) | exact q_quo_in rfl rfl rfl (by omega) | exact q_lss_t rfl rfl rfl (by omega) | exact q_lss_f rfl rfl rfl (by omega) | exact q_leq_t rfl rfl rfl (by omega) | exact q_leq_f rfl rfl rfl (by omega) | exact q_gtr_t rfl rfl rfl (by omega) | exact q_gtr_f rfl rfl rfl (by omega) | exact q_geq_t rfl rfl rfl (by omega) | exact q_geq_f rfl rfl rfl (by omega) | exact q_eql_t rfl rfl rfl (by omega) | exact q_eql_f rfl rfl rfl (by omega) | exact q_neq_t rfl rfl rfl (by omega) | exact q_neq_f rfl rfl rfl (by omega) | exact q_int rfl rfl rfl rfl | exact q_not rfl rfl | exact q_pick_t rfl rfl (by conv => lhs; whnf) | exact q_pick_f rfl rfl (by conv => lhs; whnf) | exact q_extract rfl rfl rfl | exact q_max rfl rfl rfl | exact q_min rfl rfl rfl)) | refine ano rfl rfl rfl ?_ | refine adr_no rfl rfl rfl ?_)
  refine awp_loop [0, 1, 5, 6, 7] (fun vs m => ∃ (p : Nat) (vo : Value) (xs : List Int), vs = [vf, .int .i64 s, vo, .int .i64 f.length, .int .i64 p] ∧ p ≤ f.length ∧ OWN m 3 1 vo p (i64s xs) ∧ xs = (List.range p).map (movAt f s))
    (fun vs _ => f.length - (intOf (vs.getD 4 undef)).toNat) ⟨0, _, [], rfl, Nat.zero_le _, OWN.nil _ _ _, rfl⟩ ?_
  rintro fr vs m - ⟨p, vo, xs, rfl, hp, hown, hxs⟩
  have hvf' := hvf.le (Le.none m)
  by_cases hlt : p < f.length
  · have hmod : 0 ≤ ((p : Int) - s.tmod f.length) % (f.length : Int) ∧ ((p : Int) - s.tmod f.length) % (f.length : Int) < (f.length : Int) := ⟨Int.emod_nonneg _ (by omega), Int.emod_lt_of_pos _ (by omega)⟩
    repeat (first | refine aa rfl rfl rfl (a_build1 iT rfl rfl (fun B hB hW => ?_)) | refine aa rfl rfl rfl (a_app1 iT hown hB rfl rfl rfl (by omega) (fun v' m' ho hl => ?_)) | with_reducible (first | refine awp_seq ?_ | refine awp_region ?_ | refine awp_region_q (by kernel_rfl) (by kernel_rfl) ?_ | refine adr_nil ?_ | refine adr_end ?_ | refine aops_then ?_ | refine aops_nil ?_ | refine awp_block ?_ | refine px_then ?_ | refine px_block ?_ | refine px_block_ne rfl ?_ | refine pn_block ?_ | refine pn_then ?_ | refine pn_asg ?_ | refine pn_rnd ?_ | refine px_rnd ?_ | refine awp_exit ?_ | refine awp_skip ?_ | refine awp_ret ?_ | refine pr_then ?_ | refine pr_block ?_ | refine pr_rnd ?_ | refine pr_retM ?_ | refine pn_retM ?_ | refine pr_ret ?_ | refine pn_ret ?_) | refine awp_cond_t rfl rfl ?_ | refine awp_cond_f rfl rfl ?_ | ((first | apply aq (hd := rfl) (hok := rfl) (hw := rfl) | apply adr_q (ho := rfl) (hd := rfl) (hw := rfl)); (first | exact q_rem rfl rfl rfl (by omega) | exact q_call fAround (fun w _ => around_q w _ _ (by omega)) rfl rfl | exact q_ixI iT hvf' rfl rfl rfl (by omega) (by omega) | exact q_ldI iT hvf' rfl rfl (by omega) | exact q_move rfl (by conv => lhs; whnf) | exact q_assign rfl (by conv => lhs; whnf) | exact q_add rfl rfl rfl (by omega) | exact q_sub rfl rfl rfl (by omega) | exact q_neg rfl rfl (by omega) | exact q_rem_in rfl rfl rfl (by omega) | exact q_quo_in rfl rfl rfl (by omega) | exact q_lss_t rfl rfl rfl (by omega) | exact q_lss_f rfl rfl rfl (by omega) | exact q_leq_t rfl rfl rfl (by omega) | exact q_leq_f rfl rfl rfl (by omega) | exact q_gtr_t rfl rfl rfl (by omega) | exact q_gtr_f rfl rfl rfl (by omega) | exact q_geq_t rfl rfl rfl (by omega) | exact q_geq_f rfl rfl rfl (by omega) | exact q_eql_t rfl rfl rfl (by omega) | exact q_eql_f rfl rfl rfl (by omega) | exact q_neq_t rfl rfl rfl (by omega) | exact q_neq_f rfl rfl rfl (by omega) | exact q_int rfl rfl rfl rfl | exact q_not rfl rfl | exact q_pick_t rfl rfl (by conv => lhs; whnf) | exact q_pick_f rfl rfl (by conv => lhs; whnf) | exact q_extract rfl rfl rfl | exact q_max rfl rfl rfl | exact q_min rfl rfl rfl)) | refine ano rfl rfl rfl ?_ | refine adr_no rfl rfl rfl ?_)
    exact ⟨⟨p + 1, _, _, rfl, by omega, ho, by rw [hxs, List.range_succ, List.map_append]; rfl⟩, by show f.length - ((p : Int) + 1).toNat < f.length - (p : Int).toNat; omega⟩
  · repeat (first | with_reducible (first | refine awp_seq ?_ | refine awp_region ?_ | refine awp_region_q (by kernel_rfl) (by kernel_rfl) ?_ | refine adr_nil ?_ | refine adr_end ?_ | refine aops_then ?_ | refine aops_nil ?_ | refine awp_block ?_ | refine px_then ?_ | refine px_block ?_ | refine px_block_ne rfl ?_ | refine pn_block ?_ | refine pn_then ?_ | refine pn_asg ?_ | refine pn_rnd ?_ | refine px_rnd ?_ | refine awp_exit ?_ | refine awp_skip ?_ | refine awp_ret ?_ | refine pr_then ?_ | refine pr_block ?_ | refine pr_rnd ?_ | refine pr_retM ?_ | refine pn_retM ?_ | refine pr_ret ?_ | refine pn_ret ?_) | refine awp_cond_t rfl rfl ?_ | refine awp_cond_f rfl rfl ?_ | ((first | apply aq (hd := rfl) (hok := rfl) (hw := rfl) | apply adr_q (ho := rfl) (hd := rfl) (hw := rfl)); (first | exact q_move rfl (by conv => lhs; whnf) | exact q_assign rfl (by conv => lhs; whnf) | exact q_add rfl rfl rfl (by omega) | exact q_sub rfl rfl rfl (by omega) | exact q_neg rfl rfl (by omega) | exact q_rem_in rfl rfl rfl (by omega) | exact q_quo_in rfl rfl rfl (by omega) | exact q_lss_t rfl rfl rfl (by omega) | exact q_lss_f rfl rfl rfl (by omega) | exact q_leq_t rfl rfl rfl (by omega) | exact q_leq_f rfl rfl rfl (by omega) | exact q_gtr_t rfl rfl rfl (by omega) | exact q_gtr_f rfl rfl rfl (by omega) | exact q_geq_t rfl rfl rfl (by omega) | exact q_geq_f rfl rfl rfl (by omega) | exact q_eql_t rfl rfl rfl (by omega) | exact q_eql_f rfl rfl rfl (by omega) | exact q_neq_t rfl rfl rfl (by omega) | exact q_neq_f rfl rfl rfl (by omega) | exact q_int rfl rfl rfl rfl | exact q_not rfl rfl | exact q_pick_t rfl rfl (by conv => lhs; whnf) | exact q_pick_f rfl rfl (by conv => lhs; whnf) | exact q_extract rfl rfl rfl | exact q_max rfl rfl rfl | exact q_min rfl rfl rfl)) | refine ano rfl rfl rfl ?_ | refine adr_no rfl rfl rfl ?_)
    have : p = f.length := by omega
    subst this
    subst hxs
    exact hown
theorem chk_ok {f : List Int} (h : chk f = 0) : 3 ≤ f.length ∧ f.length ≤ 96 ∧ hts f = true := by
  unfold chk at h
  split at h
  · rename_i g; exact g
  · omega
end Go.R03
