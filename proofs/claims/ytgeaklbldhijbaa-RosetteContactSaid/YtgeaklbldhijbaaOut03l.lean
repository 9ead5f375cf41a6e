import Derived.Test.YtgeaklbldhijbaaOut03b
import Derived.Test.YtgeaklbldhijbaaMat03j
import Derived.Test.YtgeaklbldhijbaaAbsCell
set_option linter.unusedSectionVars false
set_option linter.unusedSimpArgs false
set_option linter.unusedVariables false
/-! Layer 3: RosetteContact. -/
namespace Go.R03
open Go Go.Abs Go.RowKit Go.Proofs
set_option maxRecDepth 20000
set_option maxHeartbeats 8000000
attribute [local irreducible] AWp AOps ADr AAny thenQ blockQ retQ
set_option linter.unusedVariables false
theorem fContactsP : Fun Try.prog 37 := ⟨_, _, Try.func37, rfl, by kernel_rfl⟩
theorem fNeededP : Fun Try.prog 39 := ⟨_, _, Try.func39, rfl, by kernel_rfl⟩
theorem iBT : ∃ i, (Try.prog).info? 4 = some i ∧ i.zero = some (.bool false) ∧ i.size = 1 ∧ i.bytes = 1 := info4 (by kernel_rfl)
/-- What the program's other functions do. -/
structure Ros2 : Prop where
  contacts : ∀ (W : World) (vf vb : Value) (f b : List Int) (p : Int), SL W Mem.none 1 vf f.length (i64s f) → SL W Mem.none 1 vb b.length (i64s b) → ACalls Try.prog (gen W) 37 #[vf, vb, .int .i64 p] Mem.none (RES (if ask f b ≠ 0 then ask f b else if 0 ≤ p ∧ p < f.length then 0 else 2) (touches f b p.toNat))
  needed : LBE 39 ask needed
section con
variable (f b : List Int)
abbrev tX (p k : Nat) : List Int := tch f b (lifted f b) p k
def AL (p q : Nat) : Bool := (List.range p).any fun r => decide ((tX f b r b.length).length = 1) && decide ((q : Int) ∈ tX f b r b.length)
def ALk (p k q : Nat) : Bool := AL f b p q || (decide ((tX f b p b.length).length = 1) && decide ((q : Int) ∈ tX f b p k))
def bl (p k : Nat) : List Value := (List.range f.length).map fun q => Value.bool (ALk f b p k q)
theorem bl_zero (p : Nat) : bl f b p 0 = (List.range f.length).map fun q => Value.bool (AL f b p q) := by
  apply List.map_congr_left
  intro q _
  congr 1
  unfold ALk
  simp [tX, tch]
theorem bl_start : bl f b 0 0 = List.replicate f.length (.bool false) := by
  rw [bl_zero, List.eq_replicate_iff]
  refine ⟨by simp, fun u hu => ?_⟩
  obtain ⟨q, _, rfl⟩ := List.mem_map.1 hu
  simp [AL]
theorem bl_next (p : Nat) : bl f b p b.length = bl f b (p + 1) 0 := by
  rw [bl_zero]
  apply List.map_congr_left
  intro q _
  congr 1
  unfold ALk AL
  rw [List.range_succ, List.any_append]
  simp
variable {f b}
theorem tX_succ (p k : Nat) : tX f b p (k + 1) = if f.getD (stp f b p k).toNat 0 - b.getD k 0 = (lifted f b).getD p 0 then tX f b p k ++ [stp f b p k] else tX f b p k := rfl
theorem bl_same {p k : Nat} (h : tX f b p (k + 1) = tX f b p k ∨ (tX f b p b.length).length ≠ 1) : bl f b p (k + 1) = bl f b p k := by
  apply List.map_congr_left
  intro q _
  congr 1
  unfold ALk
  rcases h with h | h
  · rw [h]
  · rw [decide_eq_false h, Bool.false_and, Bool.false_and]
theorem bl_set {p k q : Nat} (hq : stp f b p k = q) (h : tX f b p (k + 1) = tX f b p k ++ [stp f b p k]) (h1 : (tX f b p b.length).length = 1) : (bl f b p k).set q (.bool true) = bl f b p (k + 1) := by
  apply List.ext_getElem
  · simp [bl]
  · intro i g1 g2
    rw [List.getElem_set]
    simp only [bl, List.getElem_map, List.getElem_range]
    unfold ALk
    rw [decide_eq_true h1, h, hq]
    by_cases e : q = i
    · subst e; simp
    · rw [if_neg e]
      congr 2
      simp
      intro h3
      omega
end con
section con2
variable {f b : List Int} (hn : 1 ≤ f.length) (hbl : b.length ≤ f.length)
include hn hbl
theorem AL_needs (hb : Rub b) (hf : hts f = true) {q : Nat} (hq : q < f.length) : (AL f b f.length q && decide (0 < f.getD q 0)) = needs f b q := by
  have hfq := hts_at hf q
  rw [Bool.eq_iff_iff, Bool.and_eq_true, decide_eq_true_eq]
  unfold needs
  rw [Bool.and_eq_true, decide_eq_true_eq, Bool.not_eq_true']
  have hsames : sames (lifted (dec f q) b) (lifted f b) = false ↔ lifted (dec f q) b ≠ lifted f b := by unfold sames; rw [decide_eq_false_iff_not]
  rw [hsames]
  have hal : AL f b f.length q = true ↔ ∃ p, p < f.length ∧ tch f b (lifted f b) p b.length = [(q : Int)] := by
    unfold AL
    simp only [List.any_eq_true, List.mem_range, Bool.and_eq_true, decide_eq_true_eq]
    constructor
    · rintro ⟨p, hp, h1, h2⟩
      refine ⟨p, hp, ?_⟩
      have h3 := one_get h1
      rw [h3] at h2
      rw [show tX f b p b.length = tch f b (lifted f b) p b.length from rfl] at h2 h3
      have : (q : Int) = (tch f b (lifted f b) p b.length).getD 0 0 := by simpa using h2
      rw [← this] at h3
      exact h3
    · rintro ⟨p, hp, h⟩
      exact ⟨p, hp, by rw [show tX f b p b.length = tch f b (lifted f b) p b.length from rfl, h]; rfl, by rw [show tX f b p b.length = tch f b (lifted f b) p b.length from rfl, h]; simp⟩
  constructor
  · rintro ⟨h1, h2⟩
    exact ⟨by omega, (alone_iff hn hbl hb hq h2).1 (hal.1 h1)⟩
  · rintro ⟨h1, h2⟩
    exact ⟨hal.2 ((alone_iff hn hbl hb hq (by omega)).2 h2), by omega⟩
theorem touches_len (hbo : b.length % 2 = 1) {p : Nat} (hp : p < f.length) : (touches f b p).length = (tX f b p b.length).length := by
  rw [← touches_sort hn hbl hbo hp]; exact List.length_mergeSort _
theorem touches_lt (hbo : b.length % 2 = 1) {p i : Nat} (hp : p < f.length) (h0 : 1 ≤ i) (hi : i < (touches f b p).length) : (touches f b p).getD (i - 1) 0 < (touches f b p).getD i 0 := by
  have hsort : (touches f b p).Pairwise (· < ·) := by
    have h1 := msort_le (tch f b (lifted f b) p b.length)
    have h2 : (msort (tch f b (lifted f b) p b.length)).Nodup := (List.mergeSort_perm _ _).nodup_iff.2 (tch_nodup hn hbl _ (Nat.le_refl _))
    rw [← touches_sort hn hbl hbo hp]
    exact (h1.and h2).imp fun h => by have h1 := h.1; have h2 := h.2; omega
  have := List.pairwise_iff_getElem.1 hsort (i - 1) i (by omega) hi (by omega)
  simpa [hi, show i - 1 < (touches f b p).length by omega] using this
theorem tX_pos (hb : Rub b) {p : Nat} (hp : p < f.length) : 0 < (tX f b p b.length).length := by
  obtain ⟨j, hj, e⟩ := lift_touch (f := f) hn hb p
  rw [ca_stp f rfl, ca_nat (by rw [lifted_length]; exact hp)] at e
  have : stp f b p j ∈ tch f b (lifted f b) p b.length := (tch_mem b.length).2 ⟨j, hj, rfl, e⟩
  exact List.length_pos_of_mem this
theorem stp_le (hb : Rub b) {p k : Nat} (hp : p < f.length) (hk : k < b.length) : f.getD (stp f b p k).toNat 0 - b.getD k 0 ≤ (lifted f b).getD p 0 := by
  have := (lift_le (f := f) hn hb).1 (Int.le_refl (ca (lifted f b) p)) k hk
  rw [ca_stp f rfl, ca_nat (by rw [lifted_length]; exact hp)] at this
  exact this
end con2
/-- How many of the first steps are needed. -/
def ndN (f b : List Int) (q : Nat) : Nat := ((List.range q).filter (needs f b)).length
theorem ndN_succ (f b : List Int) (q : Nat) : ndN f b (q + 1) = if needs f b q then ndN f b q + 1 else ndN f b q := by
  unfold ndN
  rw [List.range_succ, List.filter_append, List.length_append]
  cases h : needs f b q <;> simp [h]
theorem ndN_end (f b : List Int) : ndN f b f.length = (needed f b).length := by simp [ndN, needed]
theorem ndN_at (f b : List Int) {q : Nat} (hq : q < f.length) (h : needs f b q = true) : ndN f b q < (needed f b).length ∧ (needed f b).getD (ndN f b q) 0 = q := by
  have e : (List.range f.length) = List.range q ++ q :: (List.range' (q + 1) (f.length - (q + 1))) := by
    rw [List.range_eq_range', List.range_eq_range', show f.length = q + (f.length - q) by omega, ← List.range'_append_1, Nat.zero_add, show q + (f.length - q) - (q + 1) = f.length - q - 1 by omega]
    congr 1
    rw [show f.length - q = (f.length - q - 1) + 1 by omega, List.range'_succ]
    simp
  have e2 : needed f b = ((List.range q).filter (needs f b)).map Int.ofNat ++ (q : Int) :: ((List.range' (q + 1) (f.length - (q + 1))).filter (needs f b)).map Int.ofNat := by
    unfold needed
    rw [e, List.filter_append, List.map_append, List.filter_cons, h]
    rfl
  rw [e2]
  unfold ndN
  constructor
  · simp
  · simp
theorem contact_law (R : Ros) (R2 : Ros2) (W : World) (vf vb : Value) (f b : List Int) (hvf : SL W Mem.none 1 vf f.length (i64s f)) (hvb : SL W Mem.none 1 vb b.length (i64s b)) :
    ACalls Try.prog (gen W) 17 #[vf, vb] Mem.none (fun v _ => v = .bool true) := by
  refine acalls_of_body Try.func17 rfl (res1 rfl (by decide)) (Nat.le_of_ble_eq_true rfl) ?_
  obtain ⟨iB, hiB, hzB, hsB, hbB⟩ := iBT
  obtain ⟨i3, hi, hz, hs, hby⟩ := tSS
  have H := HP.nil Mem.none
  repeat (first | with_reducible (first | refine awp_seq ?_ | refine awp_region ?_ | refine awp_region_q (by kernel_rfl) (by kernel_rfl) ?_ | refine adr_nil ?_ | refine adr_end ?_ | refine aops_then ?_ | refine aops_nil ?_ | refine awp_block ?_ | refine px_then ?_ | refine px_block ?_ | refine px_block_ne rfl ?_ | refine pn_block ?_ | refine pn_then ?_ | refine pn_asg ?_ | refine pn_rnd ?_ | refine px_rnd ?_ | refine awp_exit ?_ | refine awp_skip ?_ | refine awp_ret ?_ | refine pr_then ?_ | refine pr_block ?_ | refine pr_rnd ?_ | refine pr_retM ?_ | refine pn_retM ?_ | refine pr_ret ?_ | refine pn_ret ?_) | refine awp_cond_t rfl rfl ?_ | refine awp_cond_f rfl rfl ?_ | ((first | apply aq (hd := rfl) (hok := rfl) (hw := rfl) | apply adr_q (ho := rfl) (hd := rfl) (hw := rfl)); (first | exact q_move rfl (by conv => lhs; whnf) | exact q_assign rfl (by conv => lhs; whnf) | exact q_add rfl rfl rfl (by omega) | exact q_sub rfl rfl rfl (by omega) | exact q_neg rfl rfl (by omega) | exact q_rem_in rfl rfl rfl (by omega) | exact q_quo_in rfl rfl rfl (by omega) | exact q_lss_t rfl rfl rfl (by omega) | exact q_lss_f rfl rfl rfl (by omega) | exact q_leq_t rfl rfl rfl (by omega) | exact q_leq_f rfl rfl rfl (by omega) | exact q_gtr_t rfl rfl rfl (by omega) | exact q_gtr_f rfl rfl rfl (by omega) | exact q_geq_t rfl rfl rfl (by omega) | exact q_geq_f rfl rfl rfl (by omega) | exact q_eql_t rfl rfl rfl (by omega) | exact q_eql_f rfl rfl rfl (by omega) | exact q_neq_t rfl rfl rfl (by omega) | exact q_neq_f rfl rfl rfl (by omega) | exact q_int rfl rfl rfl rfl | exact q_not rfl rfl | exact q_pick_t rfl rfl (by conv => lhs; whnf) | exact q_pick_f rfl rfl (by conv => lhs; whnf) | exact q_extract rfl rfl rfl | exact q_max rfl rfl rfl | exact q_min rfl rfl rfl)) | refine ano rfl rfl rfl ?_ | refine adr_no rfl rfl rfl ?_)
  refine aa rfl rfl rfl (h_call fAlive (fun w hw => alive_c R w) rfl rfl (fun va ma hR hS => ?_))
  obtain rfl := hR
  have H := H.callOnly hS
  repeat (first | refine aa rfl rfl rfl (h_buildS Try.underlying57 hi hz hs H rfl (by decide) (cs := #[vf, vb]) (fun z0 => ?_) rfl (fun v0 m0 H hl0 => ?_)) | with_reducible (first | refine awp_seq ?_ | refine awp_region ?_ | refine awp_region_q (by kernel_rfl) (by kernel_rfl) ?_ | refine adr_nil ?_ | refine adr_end ?_ | refine aops_then ?_ | refine aops_nil ?_ | refine awp_block ?_ | refine px_then ?_ | refine px_block ?_ | refine px_block_ne rfl ?_ | refine pn_block ?_ | refine pn_then ?_ | refine pn_asg ?_ | refine pn_rnd ?_ | refine px_rnd ?_ | refine awp_exit ?_ | refine awp_skip ?_ | refine awp_ret ?_ | refine pr_then ?_ | refine pr_block ?_ | refine pr_rnd ?_ | refine pr_retM ?_ | refine pn_retM ?_ | refine pr_ret ?_ | refine pn_ret ?_) | refine awp_cond_t rfl rfl ?_ | refine awp_cond_f rfl rfl ?_ | ((first | apply aq (hd := rfl) (hok := rfl) (hw := rfl) | apply adr_q (ho := rfl) (hd := rfl) (hw := rfl)); (first | exact q_move rfl (by conv => lhs; whnf) | exact q_assign rfl (by conv => lhs; whnf) | exact q_add rfl rfl rfl (by omega) | exact q_sub rfl rfl rfl (by omega) | exact q_neg rfl rfl (by omega) | exact q_rem_in rfl rfl rfl (by omega) | exact q_quo_in rfl rfl rfl (by omega) | exact q_lss_t rfl rfl rfl (by omega) | exact q_lss_f rfl rfl rfl (by omega) | exact q_leq_t rfl rfl rfl (by omega) | exact q_leq_f rfl rfl rfl (by omega) | exact q_gtr_t rfl rfl rfl (by omega) | exact q_gtr_f rfl rfl rfl (by omega) | exact q_geq_t rfl rfl rfl (by omega) | exact q_geq_f rfl rfl rfl (by omega) | exact q_eql_t rfl rfl rfl (by omega) | exact q_eql_f rfl rfl rfl (by omega) | exact q_neq_t rfl rfl rfl (by omega) | exact q_neq_f rfl rfl rfl (by omega) | exact q_int rfl rfl rfl rfl | exact q_not rfl rfl | exact q_pick_t rfl rfl (by conv => lhs; whnf) | exact q_pick_f rfl rfl (by conv => lhs; whnf) | exact q_extract rfl rfl rfl | exact q_max rfl rfl rfl | exact q_min rfl rfl rfl)) | refine ano rfl rfl rfl ?_ | refine adr_no rfl rfl rfl ?_)
  · obtain ⟨a0, c0, rfl, _⟩ := hvf.value
    obtain ⟨a1, c1, rfl, _⟩ := hvb.value
    exact fill_two (u := Value.slice a0 f.length c0) (v := Value.slice a1 b.length c1) rfl rfl (by simp)
  have hm : ∀ i : Nat, i < [vf, vb].length → ∃ xs, SL W m0 1 ([vf, vb].getD i undef) ([f.length, b.length].getD i 0) xs := fun i hi => by
    match i, hi with
    | 0, _ => exact ⟨_, hvf.le (Le.none _)⟩
    | 1, _ => exact ⟨_, hvb.le (Le.none _)⟩
  cases hg : gr [f.length, b.length]
  rotate_left 1
  · repeat (first | with_reducible (first | refine awp_seq ?_ | refine awp_region ?_ | refine awp_region_q (by kernel_rfl) (by kernel_rfl) ?_ | refine adr_nil ?_ | refine adr_end ?_ | refine aops_then ?_ | refine aops_nil ?_ | refine awp_block ?_ | refine px_then ?_ | refine px_block ?_ | refine px_block_ne rfl ?_ | refine pn_block ?_ | refine pn_then ?_ | refine pn_asg ?_ | refine pn_rnd ?_ | refine px_rnd ?_ | refine awp_exit ?_ | refine awp_skip ?_ | refine awp_ret ?_ | refine pr_then ?_ | refine pr_block ?_ | refine pr_rnd ?_ | refine pr_retM ?_ | refine pn_retM ?_ | refine pr_ret ?_ | refine pn_ret ?_) | refine awp_cond_t rfl rfl ?_ | refine awp_cond_f rfl rfl ?_ | ((first | apply aq (hd := rfl) (hok := rfl) (hw := rfl) | apply adr_q (ho := rfl) (hd := rfl) (hw := rfl)); (first | exact q_lenI iT (hvf.le (Le.none _)) rfl rfl | exact q_lenI iT (hvb.le (Le.none _)) rfl rfl | exact q_call fGreat (fun w hw => great_b w v0 [vf, vb] [f.length, b.length] hg ((H.sl 0 rfl).sl.world hw) rfl (fun i hi => (hm i hi).imp fun xs hx => hx.world hw)) rfl rfl | exact q_move rfl (by conv => lhs; whnf) | exact q_assign rfl (by conv => lhs; whnf) | exact q_add rfl rfl rfl (by omega) | exact q_sub rfl rfl rfl (by omega) | exact q_neg rfl rfl (by omega) | exact q_rem_in rfl rfl rfl (by omega) | exact q_quo_in rfl rfl rfl (by omega) | exact q_lss_t rfl rfl rfl (by omega) | exact q_lss_f rfl rfl rfl (by omega) | exact q_leq_t rfl rfl rfl (by omega) | exact q_leq_f rfl rfl rfl (by omega) | exact q_gtr_t rfl rfl rfl (by omega) | exact q_gtr_f rfl rfl rfl (by omega) | exact q_geq_t rfl rfl rfl (by omega) | exact q_geq_f rfl rfl rfl (by omega) | exact q_eql_t rfl rfl rfl (by omega) | exact q_eql_f rfl rfl rfl (by omega) | exact q_neq_t rfl rfl rfl (by omega) | exact q_neq_f rfl rfl rfl (by omega) | exact q_int rfl rfl rfl rfl | exact q_not rfl rfl | exact q_pick_t rfl rfl (by conv => lhs; whnf) | exact q_pick_f rfl rfl (by conv => lhs; whnf) | exact q_extract rfl rfl rfl | exact q_max rfl rfl rfl | exact q_min rfl rfl rfl)) | refine ano rfl rfl rfl ?_ | refine adr_no rfl rfl rfl ?_)
    rfl
  cases h1 : VAL f b
  · repeat (first | with_reducible (first | refine awp_seq ?_ | refine awp_region ?_ | refine awp_region_q (by kernel_rfl) (by kernel_rfl) ?_ | refine adr_nil ?_ | refine adr_end ?_ | refine aops_then ?_ | refine aops_nil ?_ | refine awp_block ?_ | refine px_then ?_ | refine px_block ?_ | refine px_block_ne rfl ?_ | refine pn_block ?_ | refine pn_then ?_ | refine pn_asg ?_ | refine pn_rnd ?_ | refine px_rnd ?_ | refine awp_exit ?_ | refine awp_skip ?_ | refine awp_ret ?_ | refine pr_then ?_ | refine pr_block ?_ | refine pr_rnd ?_ | refine pr_retM ?_ | refine pn_retM ?_ | refine pr_ret ?_ | refine pn_ret ?_) | refine awp_cond_t rfl rfl ?_ | refine awp_cond_f rfl rfl ?_ | ((first | apply aq (hd := rfl) (hok := rfl) (hw := rfl) | apply adr_q (ho := rfl) (hd := rfl) (hw := rfl)); (first | exact q_lenI iT (hvf.le (Le.none _)) rfl rfl | exact q_lenI iT (hvb.le (Le.none _)) rfl rfl | exact q_call fGreat (fun w hw => great_b w v0 [vf, vb] [f.length, b.length] hg ((H.sl 0 rfl).sl.world hw) rfl (fun i hi => (hm i hi).imp fun xs hx => hx.world hw)) rfl rfl | exact q_call fValid (fun w hw => valid_b R w _ _ _ _ h1 ((hvf.le (Le.none _)).world hw) ((hvb.le (Le.none _)).world hw)) rfl rfl | exact q_move rfl (by conv => lhs; whnf) | exact q_assign rfl (by conv => lhs; whnf) | exact q_add rfl rfl rfl (by omega) | exact q_sub rfl rfl rfl (by omega) | exact q_neg rfl rfl (by omega) | exact q_rem_in rfl rfl rfl (by omega) | exact q_quo_in rfl rfl rfl (by omega) | exact q_lss_t rfl rfl rfl (by omega) | exact q_lss_f rfl rfl rfl (by omega) | exact q_leq_t rfl rfl rfl (by omega) | exact q_leq_f rfl rfl rfl (by omega) | exact q_gtr_t rfl rfl rfl (by omega) | exact q_gtr_f rfl rfl rfl (by omega) | exact q_geq_t rfl rfl rfl (by omega) | exact q_geq_f rfl rfl rfl (by omega) | exact q_eql_t rfl rfl rfl (by omega) | exact q_eql_f rfl rfl rfl (by omega) | exact q_neq_t rfl rfl rfl (by omega) | exact q_neq_f rfl rfl rfl (by omega) | exact q_int rfl rfl rfl rfl | exact q_not rfl rfl | exact q_pick_t rfl rfl (by conv => lhs; whnf) | exact q_pick_f rfl rfl (by conv => lhs; whnf) | exact q_extract rfl rfl rfl | exact q_max rfl rfl rfl | exact q_min rfl rfl rfl)) | refine ano rfl rfl rfl ?_ | refine adr_no rfl rfl rfl ?_)
    rfl
  repeat (first | with_reducible (first | refine awp_seq ?_ | refine awp_region ?_ | refine awp_region_q (by kernel_rfl) (by kernel_rfl) ?_ | refine adr_nil ?_ | refine adr_end ?_ | refine aops_then ?_ | refine aops_nil ?_ | refine awp_block ?_ | refine px_then ?_ | refine px_block ?_ | refine px_block_ne rfl ?_ | refine pn_block ?_ | refine pn_then ?_ | refine pn_asg ?_ | refine pn_rnd ?_ | refine px_rnd ?_ | refine awp_exit ?_ | refine awp_skip ?_ | refine awp_ret ?_ | refine pr_then ?_ | refine pr_block ?_ | refine pr_rnd ?_ | refine pr_retM ?_ | refine pn_retM ?_ | refine pr_ret ?_ | refine pn_ret ?_) | refine awp_cond_t rfl rfl ?_ | refine awp_cond_f rfl rfl ?_ | ((first | apply aq (hd := rfl) (hok := rfl) (hw := rfl) | apply adr_q (ho := rfl) (hd := rfl) (hw := rfl)); (first | exact q_lenI iT (hvf.le (Le.none _)) rfl rfl | exact q_lenI iT (hvb.le (Le.none _)) rfl rfl | exact q_call fGreat (fun w hw => great_b w v0 [vf, vb] [f.length, b.length] hg ((H.sl 0 rfl).sl.world hw) rfl (fun i hi => (hm i hi).imp fun xs hx => hx.world hw)) rfl rfl | exact q_call fValid (fun w hw => valid_b R w _ _ _ _ h1 ((hvf.le (Le.none _)).world hw) ((hvb.le (Le.none _)).world hw)) rfl rfl | exact q_move rfl (by conv => lhs; whnf) | exact q_assign rfl (by conv => lhs; whnf) | exact q_add rfl rfl rfl (by omega) | exact q_sub rfl rfl rfl (by omega) | exact q_neg rfl rfl (by omega) | exact q_rem_in rfl rfl rfl (by omega) | exact q_quo_in rfl rfl rfl (by omega) | exact q_lss_t rfl rfl rfl (by omega) | exact q_lss_f rfl rfl rfl (by omega) | exact q_leq_t rfl rfl rfl (by omega) | exact q_leq_f rfl rfl rfl (by omega) | exact q_gtr_t rfl rfl rfl (by omega) | exact q_gtr_f rfl rfl rfl (by omega) | exact q_geq_t rfl rfl rfl (by omega) | exact q_geq_f rfl rfl rfl (by omega) | exact q_eql_t rfl rfl rfl (by omega) | exact q_eql_f rfl rfl rfl (by omega) | exact q_neq_t rfl rfl rfl (by omega) | exact q_neq_f rfl rfl rfl (by omega) | exact q_int rfl rfl rfl rfl | exact q_not rfl rfl | exact q_pick_t rfl rfl (by conv => lhs; whnf) | exact q_pick_f rfl rfl (by conv => lhs; whnf) | exact q_extract rfl rfl rfl | exact q_max rfl rfl rfl | exact q_min rfl rfl rfl)) | refine ano rfl rfl rfl ?_ | refine adr_no rfl rfl rfl ?_)
  obtain ⟨a1, a2, a3, a4, a5, a6, a7, a8⟩ := VAL_ok h1
  have h1' : ask f b = 0 := of_decide_eq_true h1
  have hll := lifted_length f b
  have hho : b.length % 2 = 1 := a3.odd
  have hbl : b.length ≤ f.length := by omega
  have hnn : 1 ≤ f.length := by omega
  have hln : (needed f b).length ≤ f.length := by unfold needed; rw [List.length_map]; exact Nat.le_trans (List.length_filter_le _ _) (by simp)
  repeat (first | with_reducible (first | refine awp_seq ?_ | refine awp_region ?_ | refine awp_region_q (by kernel_rfl) (by kernel_rfl) ?_ | refine adr_nil ?_ | refine adr_end ?_ | refine aops_then ?_ | refine aops_nil ?_ | refine awp_block ?_ | refine px_then ?_ | refine px_block ?_ | refine px_block_ne rfl ?_ | refine pn_block ?_ | refine pn_then ?_ | refine pn_asg ?_ | refine pn_rnd ?_ | refine px_rnd ?_ | refine awp_exit ?_ | refine awp_skip ?_ | refine awp_ret ?_ | refine pr_then ?_ | refine pr_block ?_ | refine pr_rnd ?_ | refine pr_retM ?_ | refine pn_retM ?_ | refine pr_ret ?_ | refine pn_ret ?_) | refine awp_cond_t rfl rfl ?_ | refine awp_cond_f rfl rfl ?_ | ((first | apply aq (hd := rfl) (hok := rfl) (hw := rfl) | apply adr_q (ho := rfl) (hd := rfl) (hw := rfl)); (first | exact q_move rfl (by conv => lhs; whnf) | exact q_assign rfl (by conv => lhs; whnf) | exact q_add rfl rfl rfl (by omega) | exact q_sub rfl rfl rfl (by omega) | exact q_neg rfl rfl (by omega) | exact q_rem_in rfl rfl rfl (by omega) | exact q_quo_in rfl rfl rfl (by omega) | exact q_lss_t rfl rfl rfl (by omega) | exact q_lss_f rfl rfl rfl (by omega) | exact q_leq_t rfl rfl rfl (by omega) | exact q_leq_f rfl rfl rfl (by omega) | exact q_gtr_t rfl rfl rfl (by omega) | exact q_gtr_f rfl rfl rfl (by omega) | exact q_geq_t rfl rfl rfl (by omega) | exact q_geq_f rfl rfl rfl (by omega) | exact q_eql_t rfl rfl rfl (by omega) | exact q_eql_f rfl rfl rfl (by omega) | exact q_neq_t rfl rfl rfl (by omega) | exact q_neq_f rfl rfl rfl (by omega) | exact q_int rfl rfl rfl rfl | exact q_not rfl rfl | exact q_pick_t rfl rfl (by conv => lhs; whnf) | exact q_pick_f rfl rfl (by conv => lhs; whnf) | exact q_extract rfl rfl rfl | exact q_max rfl rfl rfl | exact q_min rfl rfl rfl)) | refine ano rfl rfl rfl ?_ | refine adr_no rfl rfl rfl ?_)
  refine aa rfl rfl rfl (h_call fLiftP (fun w hw => res0 (R.lift w _ _ f b ((hvf.le (Le.none _)).world hw) ((hvb.le (Le.none _)).world hw)) h1' rfl) rfl rfl (fun va ma hR hS => ?_))
  obtain ⟨xx, rfl, hx⟩ := hR
  have H := H.call1 hS hx
  repeat (first | with_reducible (first | refine awp_seq ?_ | refine awp_region ?_ | refine awp_region_q (by kernel_rfl) (by kernel_rfl) ?_ | refine adr_nil ?_ | refine adr_end ?_ | refine aops_then ?_ | refine aops_nil ?_ | refine awp_block ?_ | refine px_then ?_ | refine px_block ?_ | refine px_block_ne rfl ?_ | refine pn_block ?_ | refine pn_then ?_ | refine pn_asg ?_ | refine pn_rnd ?_ | refine px_rnd ?_ | refine awp_exit ?_ | refine awp_skip ?_ | refine awp_ret ?_ | refine pr_then ?_ | refine pr_block ?_ | refine pr_rnd ?_ | refine pr_retM ?_ | refine pn_retM ?_ | refine pr_ret ?_ | refine pn_ret ?_) | refine awp_cond_t rfl rfl ?_ | refine awp_cond_f rfl rfl ?_ | ((first | apply aq (hd := rfl) (hok := rfl) (hw := rfl) | apply adr_q (ho := rfl) (hd := rfl) (hw := rfl)); (first | exact q_move rfl (by conv => lhs; whnf) | exact q_assign rfl (by conv => lhs; whnf) | exact q_add rfl rfl rfl (by omega) | exact q_sub rfl rfl rfl (by omega) | exact q_neg rfl rfl (by omega) | exact q_rem_in rfl rfl rfl (by omega) | exact q_quo_in rfl rfl rfl (by omega) | exact q_lss_t rfl rfl rfl (by omega) | exact q_lss_f rfl rfl rfl (by omega) | exact q_leq_t rfl rfl rfl (by omega) | exact q_leq_f rfl rfl rfl (by omega) | exact q_gtr_t rfl rfl rfl (by omega) | exact q_gtr_f rfl rfl rfl (by omega) | exact q_geq_t rfl rfl rfl (by omega) | exact q_geq_f rfl rfl rfl (by omega) | exact q_eql_t rfl rfl rfl (by omega) | exact q_eql_f rfl rfl rfl (by omega) | exact q_neq_t rfl rfl rfl (by omega) | exact q_neq_f rfl rfl rfl (by omega) | exact q_int rfl rfl rfl rfl | exact q_not rfl rfl | exact q_pick_t rfl rfl (by conv => lhs; whnf) | exact q_pick_f rfl rfl (by conv => lhs; whnf) | exact q_extract rfl rfl rfl | exact q_max rfl rfl rfl | exact q_min rfl rfl rfl)) | refine ano rfl rfl rfl ?_ | refine adr_no rfl rfl rfl ?_)
  refine aa rfl rfl rfl (h_call fNeededP (fun w hw => res0 (R2.needed w _ _ f b ((hvf.le (Le.none _)).world hw) ((hvb.le (Le.none _)).world hw)) h1' rfl) rfl rfl (fun va ma hR hS => ?_))
  obtain ⟨xnd, rfl, hnd⟩ := hR
  have H := H.call1 hS hnd
  repeat (first | with_reducible (first | refine awp_seq ?_ | refine awp_region ?_ | refine awp_region_q (by kernel_rfl) (by kernel_rfl) ?_ | refine adr_nil ?_ | refine adr_end ?_ | refine aops_then ?_ | refine aops_nil ?_ | refine awp_block ?_ | refine px_then ?_ | refine px_block ?_ | refine px_block_ne rfl ?_ | refine pn_block ?_ | refine pn_then ?_ | refine pn_asg ?_ | refine pn_rnd ?_ | refine px_rnd ?_ | refine awp_exit ?_ | refine awp_skip ?_ | refine awp_ret ?_ | refine pr_then ?_ | refine pr_block ?_ | refine pr_rnd ?_ | refine pr_retM ?_ | refine pn_retM ?_ | refine pr_ret ?_ | refine pn_ret ?_) | refine awp_cond_t rfl rfl ?_ | refine awp_cond_f rfl rfl ?_ | ((first | apply aq (hd := rfl) (hok := rfl) (hw := rfl) | apply adr_q (ho := rfl) (hd := rfl) (hw := rfl)); (first | exact q_lenI iT (H.sl 1 rfl).sl rfl rfl | exact q_lenI iT (hvf.le (Le.none _)) rfl rfl | exact q_lenI iT (hvb.le (Le.none _)) rfl rfl | exact q_move rfl (by conv => lhs; whnf) | exact q_assign rfl (by conv => lhs; whnf) | exact q_add rfl rfl rfl (by omega) | exact q_sub rfl rfl rfl (by omega) | exact q_neg rfl rfl (by omega) | exact q_rem_in rfl rfl rfl (by omega) | exact q_quo_in rfl rfl rfl (by omega) | exact q_lss_t rfl rfl rfl (by omega) | exact q_lss_f rfl rfl rfl (by omega) | exact q_leq_t rfl rfl rfl (by omega) | exact q_leq_f rfl rfl rfl (by omega) | exact q_gtr_t rfl rfl rfl (by omega) | exact q_gtr_f rfl rfl rfl (by omega) | exact q_geq_t rfl rfl rfl (by omega) | exact q_geq_f rfl rfl rfl (by omega) | exact q_eql_t rfl rfl rfl (by omega) | exact q_eql_f rfl rfl rfl (by omega) | exact q_neq_t rfl rfl rfl (by omega) | exact q_neq_f rfl rfl rfl (by omega) | exact q_int rfl rfl rfl rfl | exact q_not rfl rfl | exact q_pick_t rfl rfl (by conv => lhs; whnf) | exact q_pick_f rfl rfl (by conv => lhs; whnf) | exact q_extract rfl rfl rfl | exact q_max rfl rfl rfl | exact q_min rfl rfl rfl)) | refine ano rfl rfl rfl ?_ | refine adr_no rfl rfl rfl ?_)
  refine aa rfl rfl rfl (h_makeV Try.underlying56 hiB hzB rfl hsB f.length H rfl rfl rfl rfl (by omega) (by omega) (fun va m3 H _ => ?_))
  rw [← bl_start f b] at H
  have H := H.sub (l' := [.sl va 4 1 f.length (bl f b 0 0), .sl xnd 3 1 (needed f b).length (i64s (needed f b)), .sl xx 3 1 (lifted f b).length (i64s (lifted f b))]) (by simp)
  repeat (first | with_reducible (first | refine awp_seq ?_ | refine awp_region ?_ | refine awp_region_q (by kernel_rfl) (by kernel_rfl) ?_ | refine adr_nil ?_ | refine adr_end ?_ | refine aops_then ?_ | refine aops_nil ?_ | refine awp_block ?_ | refine px_then ?_ | refine px_block ?_ | refine px_block_ne rfl ?_ | refine pn_block ?_ | refine pn_then ?_ | refine pn_asg ?_ | refine pn_rnd ?_ | refine px_rnd ?_ | refine awp_exit ?_ | refine awp_skip ?_ | refine awp_ret ?_ | refine pr_then ?_ | refine pr_block ?_ | refine pr_rnd ?_ | refine pr_retM ?_ | refine pn_retM ?_ | refine pr_ret ?_ | refine pn_ret ?_) | refine awp_cond_t rfl rfl ?_ | refine awp_cond_f rfl rfl ?_ | ((first | apply aq (hd := rfl) (hok := rfl) (hw := rfl) | apply adr_q (ho := rfl) (hd := rfl) (hw := rfl)); (first | exact q_lenI iT (hvf.le (Le.none _)) rfl rfl | exact q_move rfl (by conv => lhs; whnf) | exact q_assign rfl (by conv => lhs; whnf) | exact q_add rfl rfl rfl (by omega) | exact q_sub rfl rfl rfl (by omega) | exact q_neg rfl rfl (by omega) | exact q_rem_in rfl rfl rfl (by omega) | exact q_quo_in rfl rfl rfl (by omega) | exact q_lss_t rfl rfl rfl (by omega) | exact q_lss_f rfl rfl rfl (by omega) | exact q_leq_t rfl rfl rfl (by omega) | exact q_leq_f rfl rfl rfl (by omega) | exact q_gtr_t rfl rfl rfl (by omega) | exact q_gtr_f rfl rfl rfl (by omega) | exact q_geq_t rfl rfl rfl (by omega) | exact q_geq_f rfl rfl rfl (by omega) | exact q_eql_t rfl rfl rfl (by omega) | exact q_eql_f rfl rfl rfl (by omega) | exact q_neq_t rfl rfl rfl (by omega) | exact q_neq_f rfl rfl rfl (by omega) | exact q_int rfl rfl rfl rfl | exact q_not rfl rfl | exact q_pick_t rfl rfl (by conv => lhs; whnf) | exact q_pick_f rfl rfl (by conv => lhs; whnf) | exact q_extract rfl rfl rfl | exact q_max rfl rfl rfl | exact q_min rfl rfl rfl)) | refine ano rfl rfl rfl ?_ | refine adr_no rfl rfl rfl ?_)
  obtain ⟨ww, hww⟩ : ∃ ww, b.length / 2 = ww := ⟨_, rfl⟩
  have hwK : b.length = 2 * ww + 1 := by omega
  refine awp_loop [0, 1, 5, 6, 8, 10, 11, 12, 71, 72] (fun vs m => ∃ p : Nat, vs = [vf, vb, .bool true, xx, xnd, .int .i64 f.length, .int .i64 (b.length / 2 : Nat), va, .int .i64 f.length, .int .i64 p] ∧ p ≤ f.length ∧
      HP m [.sl va 4 1 f.length (bl f b p 0), .sl xnd 3 1 (needed f b).length (i64s (needed f b)), .sl xx 3 1 (lifted f b).length (i64s (lifted f b))])
    (fun vs _ => f.length - (RowKit.intOf (vs.getD 9 undef)).toNat) ⟨0, rfl, Nat.zero_le _, H⟩ ?_
  clear H
  rintro fr vs m - ⟨p, rfl, hp, H⟩
  by_cases hlt : p < f.length
  rotate_left 1
  · -- the needed steps, one by one
    have hpn : p = f.length := by omega
    subst hpn
    rw [bl_zero] at H
    repeat (first | with_reducible (first | refine awp_seq ?_ | refine awp_region ?_ | refine awp_region_q (by kernel_rfl) (by kernel_rfl) ?_ | refine adr_nil ?_ | refine adr_end ?_ | refine aops_then ?_ | refine aops_nil ?_ | refine awp_block ?_ | refine px_then ?_ | refine px_block ?_ | refine px_block_ne rfl ?_ | refine pn_block ?_ | refine pn_then ?_ | refine pn_asg ?_ | refine pn_rnd ?_ | refine px_rnd ?_ | refine awp_exit ?_ | refine awp_skip ?_ | refine awp_ret ?_ | refine pr_then ?_ | refine pr_block ?_ | refine pr_rnd ?_ | refine pr_retM ?_ | refine pn_retM ?_ | refine pr_ret ?_ | refine pn_ret ?_) | refine awp_cond_t rfl rfl ?_ | refine awp_cond_f rfl rfl ?_ | ((first | apply aq (hd := rfl) (hok := rfl) (hw := rfl) | apply adr_q (ho := rfl) (hd := rfl) (hw := rfl)); (first | exact q_lenI iT (hvf.le (Le.none _)) rfl rfl | exact q_move rfl (by conv => lhs; whnf) | exact q_assign rfl (by conv => lhs; whnf) | exact q_add rfl rfl rfl (by omega) | exact q_sub rfl rfl rfl (by omega) | exact q_neg rfl rfl (by omega) | exact q_rem_in rfl rfl rfl (by omega) | exact q_quo_in rfl rfl rfl (by omega) | exact q_lss_t rfl rfl rfl (by omega) | exact q_lss_f rfl rfl rfl (by omega) | exact q_leq_t rfl rfl rfl (by omega) | exact q_leq_f rfl rfl rfl (by omega) | exact q_gtr_t rfl rfl rfl (by omega) | exact q_gtr_f rfl rfl rfl (by omega) | exact q_geq_t rfl rfl rfl (by omega) | exact q_geq_f rfl rfl rfl (by omega) | exact q_eql_t rfl rfl rfl (by omega) | exact q_eql_f rfl rfl rfl (by omega) | exact q_neq_t rfl rfl rfl (by omega) | exact q_neq_f rfl rfl rfl (by omega) | exact q_int rfl rfl rfl rfl | exact q_not rfl rfl | exact q_pick_t rfl rfl (by conv => lhs; whnf) | exact q_pick_f rfl rfl (by conv => lhs; whnf) | exact q_extract rfl rfl rfl | exact q_max rfl rfl rfl | exact q_min rfl rfl rfl)) | refine ano rfl rfl rfl ?_ | refine adr_no rfl rfl rfl ?_)
    refine awp_loop [0, 5, 8, 12, 20, 167, 168] (fun vs m => ∃ q : Nat, vs = [vf, .bool true, xnd, va, .int .i64 (ndN f b q : Nat), .int .i64 f.length, .int .i64 q] ∧ q ≤ f.length ∧
        HP m [.sl va 4 1 f.length ((List.range f.length).map fun q => Value.bool (AL f b f.length q)), .sl xnd 3 1 (needed f b).length (i64s (needed f b)), .sl xx 3 1 (lifted f b).length (i64s (lifted f b))])
      (fun vs _ => f.length - (RowKit.intOf (vs.getD 6 undef)).toNat) ⟨0, rfl, Nat.zero_le _, H⟩ ?_
    clear H
    rintro fr vs m - ⟨q, rfl, hq, H⟩
    have hsn := (H.sl 1 rfl).sl (W := W)
    have hsa := (H.sl 0 rfl).sl (W := W)
    have hvf' := hvf.le (Le.none m)
    have hstep := ndN_succ f b q
    by_cases hlq : q < f.length
    · obtain ⟨A, hA⟩ : ∃ A, AL f b f.length q = A := ⟨_, rfl⟩
      have hneed := AL_needs hnn hbl a3 a4 hlq
      rw [hA] at hneed
      have hu : ((List.range f.length).map fun q => Value.bool (AL f b f.length q))[q]? = some (.bool A) := by simp [hlq, hA]
      cases A
      · rw [Bool.false_and] at hneed
        rw [← hneed, if_neg (by decide)] at hstep
        repeat (first | with_reducible (first | refine awp_seq ?_ | refine awp_region ?_ | refine awp_region_q (by kernel_rfl) (by kernel_rfl) ?_ | refine adr_nil ?_ | refine adr_end ?_ | refine aops_then ?_ | refine aops_nil ?_ | refine awp_block ?_ | refine px_then ?_ | refine px_block ?_ | refine px_block_ne rfl ?_ | refine pn_block ?_ | refine pn_then ?_ | refine pn_asg ?_ | refine pn_rnd ?_ | refine px_rnd ?_ | refine awp_exit ?_ | refine awp_skip ?_ | refine awp_ret ?_ | refine pr_then ?_ | refine pr_block ?_ | refine pr_rnd ?_ | refine pr_retM ?_ | refine pn_retM ?_ | refine pr_ret ?_ | refine pn_ret ?_) | refine awp_cond_t rfl rfl ?_ | refine awp_cond_f rfl rfl ?_ | ((first | apply aq (hd := rfl) (hok := rfl) (hw := rfl) | apply adr_q (ho := rfl) (hd := rfl) (hw := rfl)); (first | exact q_ixV Try.underlying56 hiB hsB hsa rfl rfl rfl hlq | exact q_load Try.underlying4 rfl hsa rfl rfl hu | exact q_ixN iT hvf' rfl rfl rfl hlq | exact q_ldI iT hvf' rfl rfl hlq | exact q_lenI iT hsn rfl rfl | exact q_move rfl (by conv => lhs; whnf) | exact q_assign rfl (by conv => lhs; whnf) | exact q_add rfl rfl rfl (by omega) | exact q_sub rfl rfl rfl (by omega) | exact q_neg rfl rfl (by omega) | exact q_rem_in rfl rfl rfl (by omega) | exact q_quo_in rfl rfl rfl (by omega) | exact q_lss_t rfl rfl rfl (by omega) | exact q_lss_f rfl rfl rfl (by omega) | exact q_leq_t rfl rfl rfl (by omega) | exact q_leq_f rfl rfl rfl (by omega) | exact q_gtr_t rfl rfl rfl (by omega) | exact q_gtr_f rfl rfl rfl (by omega) | exact q_geq_t rfl rfl rfl (by omega) | exact q_geq_f rfl rfl rfl (by omega) | exact q_eql_t rfl rfl rfl (by omega) | exact q_eql_f rfl rfl rfl (by omega) | exact q_neq_t rfl rfl rfl (by omega) | exact q_neq_f rfl rfl rfl (by omega) | exact q_int rfl rfl rfl rfl | exact q_not rfl rfl | exact q_pick_t rfl rfl (by conv => lhs; whnf) | exact q_pick_f rfl rfl (by conv => lhs; whnf) | exact q_extract rfl rfl rfl | exact q_max rfl rfl rfl | exact q_min rfl rfl rfl)) | refine ano rfl rfl rfl ?_ | refine adr_no rfl rfl rfl ?_)
        exact ⟨⟨q + 1, by rw [hstep]; rfl, by omega, H⟩, by show f.length - ((q : Int) + 1).toNat < f.length - (q : Int).toNat; omega⟩
      · rw [Bool.true_and] at hneed
        by_cases hpos : 0 < f.getD q 0
        · rw [decide_eq_true hpos] at hneed
          rw [← hneed, if_pos rfl] at hstep
          obtain ⟨k1, k2⟩ := ndN_at f b hlq hneed.symm
          obtain ⟨k, hk⟩ : ∃ k, ndN f b q = k := ⟨_, rfl⟩
          rw [hk] at hstep k1 k2
          rw [hk]
          have hld : ∀ {o : Oper} {fr : Fr} {x : Operand}, o.op = .load 3 x → evalF fr x = ptrAt xnd k → QOp Try.prog W o fr m (.int .i64 (q : Int)) := fun ho hx' => by
            have := q_ldI iT hsn ho hx' k1
            rwa [k2] at this
          repeat (first | with_reducible (first | refine awp_seq ?_ | refine awp_region ?_ | refine awp_region_q (by kernel_rfl) (by kernel_rfl) ?_ | refine adr_nil ?_ | refine adr_end ?_ | refine aops_then ?_ | refine aops_nil ?_ | refine awp_block ?_ | refine px_then ?_ | refine px_block ?_ | refine px_block_ne rfl ?_ | refine pn_block ?_ | refine pn_then ?_ | refine pn_asg ?_ | refine pn_rnd ?_ | refine px_rnd ?_ | refine awp_exit ?_ | refine awp_skip ?_ | refine awp_ret ?_ | refine pr_then ?_ | refine pr_block ?_ | refine pr_rnd ?_ | refine pr_retM ?_ | refine pn_retM ?_ | refine pr_ret ?_ | refine pn_ret ?_) | refine awp_cond_t rfl rfl ?_ | refine awp_cond_f rfl rfl ?_ | ((first | apply aq (hd := rfl) (hok := rfl) (hw := rfl) | apply adr_q (ho := rfl) (hd := rfl) (hw := rfl)); (first | exact q_ixV Try.underlying56 hiB hsB hsa rfl rfl rfl hlq | exact q_load Try.underlying4 rfl hsa rfl rfl hu | exact q_ixN iT hvf' rfl rfl rfl hlq | exact q_ldI iT hvf' rfl rfl hlq | exact q_lenI iT hsn rfl rfl | exact q_ixN iT hsn rfl rfl rfl k1 | exact hld rfl rfl | exact q_move rfl (by conv => lhs; whnf) | exact q_assign rfl (by conv => lhs; whnf) | exact q_add rfl rfl rfl (by omega) | exact q_sub rfl rfl rfl (by omega) | exact q_neg rfl rfl (by omega) | exact q_rem_in rfl rfl rfl (by omega) | exact q_quo_in rfl rfl rfl (by omega) | exact q_lss_t rfl rfl rfl (by omega) | exact q_lss_f rfl rfl rfl (by omega) | exact q_leq_t rfl rfl rfl (by omega) | exact q_leq_f rfl rfl rfl (by omega) | exact q_gtr_t rfl rfl rfl (by omega) | exact q_gtr_f rfl rfl rfl (by omega) | exact q_geq_t rfl rfl rfl (by omega) | exact q_geq_f rfl rfl rfl (by omega) | exact q_eql_t rfl rfl rfl (by omega) | exact q_eql_f rfl rfl rfl (by omega) | exact q_neq_t rfl rfl rfl (by omega) | exact q_neq_f rfl rfl rfl (by omega) | exact q_int rfl rfl rfl rfl | exact q_not rfl rfl | exact q_pick_t rfl rfl (by conv => lhs; whnf) | exact q_pick_f rfl rfl (by conv => lhs; whnf) | exact q_extract rfl rfl rfl | exact q_max rfl rfl rfl | exact q_min rfl rfl rfl)) | refine ano rfl rfl rfl ?_ | refine adr_no rfl rfl rfl ?_)
          exact ⟨⟨q + 1, by rw [hstep]; rfl, by omega, H⟩, by show f.length - ((q : Int) + 1).toNat < f.length - (q : Int).toNat; omega⟩
        · rw [decide_eq_false hpos] at hneed
          rw [← hneed, if_neg (by decide)] at hstep
          repeat (first | with_reducible (first | refine awp_seq ?_ | refine awp_region ?_ | refine awp_region_q (by kernel_rfl) (by kernel_rfl) ?_ | refine adr_nil ?_ | refine adr_end ?_ | refine aops_then ?_ | refine aops_nil ?_ | refine awp_block ?_ | refine px_then ?_ | refine px_block ?_ | refine px_block_ne rfl ?_ | refine pn_block ?_ | refine pn_then ?_ | refine pn_asg ?_ | refine pn_rnd ?_ | refine px_rnd ?_ | refine awp_exit ?_ | refine awp_skip ?_ | refine awp_ret ?_ | refine pr_then ?_ | refine pr_block ?_ | refine pr_rnd ?_ | refine pr_retM ?_ | refine pn_retM ?_ | refine pr_ret ?_ | refine pn_ret ?_) | refine awp_cond_t rfl rfl ?_ | refine awp_cond_f rfl rfl ?_ | ((first | apply aq (hd := rfl) (hok := rfl) (hw := rfl) | apply adr_q (ho := rfl) (hd := rfl) (hw := rfl)); (first | exact q_ixV Try.underlying56 hiB hsB hsa rfl rfl rfl hlq | exact q_load Try.underlying4 rfl hsa rfl rfl hu | exact q_ixN iT hvf' rfl rfl rfl hlq | exact q_ldI iT hvf' rfl rfl hlq | exact q_lenI iT hsn rfl rfl | exact q_move rfl (by conv => lhs; whnf) | exact q_assign rfl (by conv => lhs; whnf) | exact q_add rfl rfl rfl (by omega) | exact q_sub rfl rfl rfl (by omega) | exact q_neg rfl rfl (by omega) | exact q_rem_in rfl rfl rfl (by omega) | exact q_quo_in rfl rfl rfl (by omega) | exact q_lss_t rfl rfl rfl (by omega) | exact q_lss_f rfl rfl rfl (by omega) | exact q_leq_t rfl rfl rfl (by omega) | exact q_leq_f rfl rfl rfl (by omega) | exact q_gtr_t rfl rfl rfl (by omega) | exact q_gtr_f rfl rfl rfl (by omega) | exact q_geq_t rfl rfl rfl (by omega) | exact q_geq_f rfl rfl rfl (by omega) | exact q_eql_t rfl rfl rfl (by omega) | exact q_eql_f rfl rfl rfl (by omega) | exact q_neq_t rfl rfl rfl (by omega) | exact q_neq_f rfl rfl rfl (by omega) | exact q_int rfl rfl rfl rfl | exact q_not rfl rfl | exact q_pick_t rfl rfl (by conv => lhs; whnf) | exact q_pick_f rfl rfl (by conv => lhs; whnf) | exact q_extract rfl rfl rfl | exact q_max rfl rfl rfl | exact q_min rfl rfl rfl)) | refine ano rfl rfl rfl ?_ | refine adr_no rfl rfl rfl ?_)
          exact ⟨⟨q + 1, by rw [hstep]; rfl, by omega, H⟩, by show f.length - ((q : Int) + 1).toNat < f.length - (q : Int).toNat; omega⟩
    · have hqn : q = f.length := by omega
      subst hqn
      rw [ndN_end]
      repeat (first | with_reducible (first | refine awp_seq ?_ | refine awp_region ?_ | refine awp_region_q (by kernel_rfl) (by kernel_rfl) ?_ | refine adr_nil ?_ | refine adr_end ?_ | refine aops_then ?_ | refine aops_nil ?_ | refine awp_block ?_ | refine px_then ?_ | refine px_block ?_ | refine px_block_ne rfl ?_ | refine pn_block ?_ | refine pn_then ?_ | refine pn_asg ?_ | refine pn_rnd ?_ | refine px_rnd ?_ | refine awp_exit ?_ | refine awp_skip ?_ | refine awp_ret ?_ | refine pr_then ?_ | refine pr_block ?_ | refine pr_rnd ?_ | refine pr_retM ?_ | refine pn_retM ?_ | refine pr_ret ?_ | refine pn_ret ?_) | refine awp_cond_t rfl rfl ?_ | refine awp_cond_f rfl rfl ?_ | ((first | apply aq (hd := rfl) (hok := rfl) (hw := rfl) | apply adr_q (ho := rfl) (hd := rfl) (hw := rfl)); (first | exact q_lenI iT hsn rfl rfl | exact q_move rfl (by conv => lhs; whnf) | exact q_assign rfl (by conv => lhs; whnf) | exact q_add rfl rfl rfl (by omega) | exact q_sub rfl rfl rfl (by omega) | exact q_neg rfl rfl (by omega) | exact q_rem_in rfl rfl rfl (by omega) | exact q_quo_in rfl rfl rfl (by omega) | exact q_lss_t rfl rfl rfl (by omega) | exact q_lss_f rfl rfl rfl (by omega) | exact q_leq_t rfl rfl rfl (by omega) | exact q_leq_f rfl rfl rfl (by omega) | exact q_gtr_t rfl rfl rfl (by omega) | exact q_gtr_f rfl rfl rfl (by omega) | exact q_geq_t rfl rfl rfl (by omega) | exact q_geq_f rfl rfl rfl (by omega) | exact q_eql_t rfl rfl rfl (by omega) | exact q_eql_f rfl rfl rfl (by omega) | exact q_neq_t rfl rfl rfl (by omega) | exact q_neq_f rfl rfl rfl (by omega) | exact q_int rfl rfl rfl rfl | exact q_not rfl rfl | exact q_pick_t rfl rfl (by conv => lhs; whnf) | exact q_pick_f rfl rfl (by conv => lhs; whnf) | exact q_extract rfl rfl rfl | exact q_max rfl rfl rfl | exact q_min rfl rfl rfl)) | refine ano rfl rfl rfl ?_ | refine adr_no rfl rfl rfl ?_)
      rfl
  · have hpe : (if ask f b ≠ 0 then ask f b else if 0 ≤ (p : Int) ∧ (p : Int) < f.length then 0 else 2) = 0 := by rw [if_neg (by omega), if_pos ⟨by omega, by omega⟩]
    repeat (first | with_reducible (first | refine awp_seq ?_ | refine awp_region ?_ | refine awp_region_q (by kernel_rfl) (by kernel_rfl) ?_ | refine adr_nil ?_ | refine adr_end ?_ | refine aops_then ?_ | refine aops_nil ?_ | refine awp_block ?_ | refine px_then ?_ | refine px_block ?_ | refine px_block_ne rfl ?_ | refine pn_block ?_ | refine pn_then ?_ | refine pn_asg ?_ | refine pn_rnd ?_ | refine px_rnd ?_ | refine awp_exit ?_ | refine awp_skip ?_ | refine awp_ret ?_ | refine pr_then ?_ | refine pr_block ?_ | refine pr_rnd ?_ | refine pr_retM ?_ | refine pn_retM ?_ | refine pr_ret ?_ | refine pn_ret ?_) | refine awp_cond_t rfl rfl ?_ | refine awp_cond_f rfl rfl ?_ | ((first | apply aq (hd := rfl) (hok := rfl) (hw := rfl) | apply adr_q (ho := rfl) (hd := rfl) (hw := rfl)); (first | exact q_move rfl (by conv => lhs; whnf) | exact q_assign rfl (by conv => lhs; whnf) | exact q_add rfl rfl rfl (by omega) | exact q_sub rfl rfl rfl (by omega) | exact q_neg rfl rfl (by omega) | exact q_rem_in rfl rfl rfl (by omega) | exact q_quo_in rfl rfl rfl (by omega) | exact q_lss_t rfl rfl rfl (by omega) | exact q_lss_f rfl rfl rfl (by omega) | exact q_leq_t rfl rfl rfl (by omega) | exact q_leq_f rfl rfl rfl (by omega) | exact q_gtr_t rfl rfl rfl (by omega) | exact q_gtr_f rfl rfl rfl (by omega) | exact q_geq_t rfl rfl rfl (by omega) | exact q_geq_f rfl rfl rfl (by omega) | exact q_eql_t rfl rfl rfl (by omega) | exact q_eql_f rfl rfl rfl (by omega) | exact q_neq_t rfl rfl rfl (by omega) | exact q_neq_f rfl rfl rfl (by omega) | exact q_int rfl rfl rfl rfl | exact q_not rfl rfl | exact q_pick_t rfl rfl (by conv => lhs; whnf) | exact q_pick_f rfl rfl (by conv => lhs; whnf) | exact q_extract rfl rfl rfl | exact q_max rfl rfl rfl | exact q_min rfl rfl rfl)) | refine ano rfl rfl rfl ?_ | refine adr_no rfl rfl rfl ?_)
    refine aa rfl rfl rfl (h_call fContactsP (fun w hw => res0 (R2.contacts w _ _ f b p ((hvf.le (Le.none _)).world hw) ((hvb.le (Le.none _)).world hw)) hpe rfl) rfl rfl (fun va ma hR hS => ?_))
    obtain ⟨xt, rfl, ht⟩ := hR
    have H := H.call1 hS ht
    rw [Int.toNat_natCast] at H
    have hTl := touches_len hnn hbl hho hlt
    have hTp := tX_pos hnn hbl a3 hlt
    have hNb : (touches f b p).length ≤ 1000 := by
      rw [hTl]
      have : (tX f b p b.length).length ≤ b.length := tch_len f b (lifted f b) p b.length
      omega
    obtain ⟨N, hN⟩ : ∃ N, (touches f b p).length = N := ⟨_, rfl⟩
    have hst := (H.sl 0 rfl).sl (W := W)
    repeat (first | with_reducible (first | refine awp_seq ?_ | refine awp_region ?_ | refine awp_region_q (by kernel_rfl) (by kernel_rfl) ?_ | refine adr_nil ?_ | refine adr_end ?_ | refine aops_then ?_ | refine aops_nil ?_ | refine awp_block ?_ | refine px_then ?_ | refine px_block ?_ | refine px_block_ne rfl ?_ | refine pn_block ?_ | refine pn_then ?_ | refine pn_asg ?_ | refine pn_rnd ?_ | refine px_rnd ?_ | refine awp_exit ?_ | refine awp_skip ?_ | refine awp_ret ?_ | refine pr_then ?_ | refine pr_block ?_ | refine pr_rnd ?_ | refine pr_retM ?_ | refine pn_retM ?_ | refine pr_ret ?_ | refine pn_ret ?_) | refine awp_cond_t rfl rfl ?_ | refine awp_cond_f rfl rfl ?_ | ((first | apply aq (hd := rfl) (hok := rfl) (hw := rfl) | apply adr_q (ho := rfl) (hd := rfl) (hw := rfl)); (first | exact q_lenI iT hst rfl rfl | exact q_move rfl (by conv => lhs; whnf) | exact q_assign rfl (by conv => lhs; whnf) | exact q_add rfl rfl rfl (by omega) | exact q_sub rfl rfl rfl (by omega) | exact q_neg rfl rfl (by omega) | exact q_rem_in rfl rfl rfl (by omega) | exact q_quo_in rfl rfl rfl (by omega) | exact q_lss_t rfl rfl rfl (by omega) | exact q_lss_f rfl rfl rfl (by omega) | exact q_leq_t rfl rfl rfl (by omega) | exact q_leq_f rfl rfl rfl (by omega) | exact q_gtr_t rfl rfl rfl (by omega) | exact q_gtr_f rfl rfl rfl (by omega) | exact q_geq_t rfl rfl rfl (by omega) | exact q_geq_f rfl rfl rfl (by omega) | exact q_eql_t rfl rfl rfl (by omega) | exact q_eql_f rfl rfl rfl (by omega) | exact q_neq_t rfl rfl rfl (by omega) | exact q_neq_f rfl rfl rfl (by omega) | exact q_int rfl rfl rfl rfl | exact q_not rfl rfl | exact q_pick_t rfl rfl (by conv => lhs; whnf) | exact q_pick_f rfl rfl (by conv => lhs; whnf) | exact q_extract rfl rfl rfl | exact q_max rfl rfl rfl | exact q_min rfl rfl rfl)) | refine ano rfl rfl rfl ?_ | refine adr_no rfl rfl rfl ?_)
    refine awp_loop [0, 1, 5, 6, 8, 10, 11, 12, 13, 14, 16, 17, 71, 72] (fun vs m => ∃ k : Nat, vs = [vf, vb, .bool true, xx, xnd, .int .i64 f.length, .int .i64 (b.length / 2 : Nat), va, .int .i64 p, xt, .int .i64 ((tX f b p k).length : Nat), .int .i64 (-((b.length / 2 : Nat) : Int) + k), .int .i64 f.length, .int .i64 p] ∧ k ≤ b.length ∧
        HP m [.sl xt 3 1 (touches f b p).length (i64s (touches f b p)), .sl va 4 1 f.length (bl f b p k), .sl xnd 3 1 (needed f b).length (i64s (needed f b)), .sl xx 3 1 (lifted f b).length (i64s (lifted f b))])
      (fun vs _ => (((b.length / 2 : Nat) : Int) + 1 - RowKit.intOf (vs.getD 11 undef)).toNat) ⟨0, by rw [show -((b.length / 2 : Nat) : Int) + ((0 : Nat) : Int) = -((b.length / 2 : Nat) : Int) by omega]; rfl, Nat.zero_le _, H⟩ ?_
    clear H hst
    rintro fr vs m - ⟨k, rfl, hk, H⟩
    have hst := (H.sl 0 rfl).sl (W := W)
    have hsx := (H.sl 3 rfl).sl (W := W)
    have hsa := (H.sl 1 rfl).sl (W := W)
    have hvf' := hvf.le (Le.none m)
    have hvb' := hvb.le (Le.none m)
    have hkl : (tX f b p k).length ≤ k := tch_len f b (lifted f b) p k
    by_cases hkK : k < b.length
    · have hsb := emod_bd ((p : Int) + ((k : Int) - (b.length / 2 : Nat))) hnn
      obtain ⟨q, hq⟩ : ∃ q : Nat, stp f b p k = q := ⟨(stp f b p k).toNat, by have : 0 ≤ stp f b p k := hsb.1; omega⟩
      have hqn : q < f.length := by have : stp f b p k < f.length := hsb.2; omega
      obtain ⟨t1, t2, t3⟩ := tmod_around ((p : Int) + (-((b.length / 2 : Nat) : Int) + k)) f.length (by omega)
      have hqe : ((p : Int) + (-((b.length / 2 : Nat) : Int) + k)) % (f.length : Int) = q := by rw [← hq]; unfold stp; congr 1; omega
      rw [hqe] at t3
      obtain ⟨u, hu⟩ : ∃ u, ((p : Int) + (-((b.length / 2 : Nat) : Int) + k)).tmod f.length = u := ⟨_, rfl⟩
      rw [hu] at t1 t2 t3
      have hr1 : ∀ {o : Oper} {fr : Fr} {T yt : TypeId} {x y : Operand}, o.op = .binOp .rem T x y yt → evalF fr x = .int .i64 ((p : Int) + (-((b.length / 2 : Nat) : Int) + k)) → evalF fr y = .int .i64 f.length → QOp Try.prog W o fr m (.int .i64 u) := fun ho h1 h2 => by
        rw [← hu]; exact q_rem ho h1 h2 (by omega)
      have hr2 : ∀ {o : Oper} {fr : Fr} {T yt : TypeId} {x y : Operand}, o.op = .binOp .rem T x y yt → evalF fr x = .int .i64 (u + f.length) → evalF fr y = .int .i64 f.length → QOp Try.prog W o fr m (.int .i64 (q : Int)) := fun ho h1 h2 => by
        rw [← t3]; exact q_rem ho h1 h2 (by omega)
      have hm1 := stp_le hnn hbl a3 hlt hkK
      rw [hq, Int.toNat_natCast] at hm1
      have hf1 := hts_at a4 q
      have hb1 := hts_at a3.hts k
      have hl1 := hts_at (lifted_hts (b := b) a4 a3.hts) p
      have hjk : ((b.length / 2 : Nat) : Int) + (-((b.length / 2 : Nat) : Int) + k) = (k : Int) := by omega
      have hadd : ∀ {o : Oper} {fr : Fr} {T yt : TypeId} {x y : Operand}, o.op = .binOp .add T x y yt → evalF fr x = .int .i64 (b.length / 2 : Nat) → evalF fr y = .int .i64 (-((b.length / 2 : Nat) : Int) + k) → QOp Try.prog W o fr m (.int .i64 (k : Int)) := fun ho h1 h2 => by
        have := q_add (P := Try.prog) (W := W) (m := m) ho h1 h2 (by omega)
        rwa [hjk] at this
      have hsucc := tX_succ (f := f) (b := b) p k
      rw [hq, Int.toNat_natCast] at hsucc
      by_cases hc : f.getD q 0 - b.getD k 0 = (lifted f b).getD p 0
      · rw [if_pos hc] at hsucc
        have hsl : (tX f b p (k + 1)).length = (tX f b p k).length + 1 := by rw [hsucc]; simp
        by_cases hN1 : (touches f b p).length = 1
        · have hset := bl_set (f := f) (b := b) hq (by rw [hsucc, hq]) (by omega)
          repeat (first | refine au rfl rfl rfl (h_setV (u := Value.bool true) hiB hsB 1 H rfl rfl rfl rfl rfl hqn (fun m6 H => ?_)) | with_reducible (first | refine awp_seq ?_ | refine awp_region ?_ | refine awp_region_q (by kernel_rfl) (by kernel_rfl) ?_ | refine adr_nil ?_ | refine adr_end ?_ | refine aops_then ?_ | refine aops_nil ?_ | refine awp_block ?_ | refine px_then ?_ | refine px_block ?_ | refine px_block_ne rfl ?_ | refine pn_block ?_ | refine pn_then ?_ | refine pn_asg ?_ | refine pn_rnd ?_ | refine px_rnd ?_ | refine awp_exit ?_ | refine awp_skip ?_ | refine awp_ret ?_ | refine pr_then ?_ | refine pr_block ?_ | refine pr_rnd ?_ | refine pr_retM ?_ | refine pn_retM ?_ | refine pr_ret ?_ | refine pn_ret ?_) | refine awp_cond_t rfl rfl ?_ | refine awp_cond_f rfl rfl ?_ | ((first | apply aq (hd := rfl) (hok := rfl) (hw := rfl) | apply adr_q (ho := rfl) (hd := rfl) (hw := rfl)); (first | exact hr1 rfl rfl rfl | exact hr2 rfl rfl rfl | exact hadd rfl rfl rfl | exact q_ixN iT hvf' rfl rfl rfl hqn | exact q_ldI iT hvf' rfl rfl hqn | exact q_ixN iT hvb' rfl rfl rfl hkK | exact q_ldI iT hvb' rfl rfl hkK | exact q_ixN iT hsx rfl rfl rfl (by omega) | exact q_ldI iT hsx rfl rfl (by omega) | exact q_lenI iT hst rfl rfl | exact q_ixV Try.underlying56 hiB hsB hsa rfl rfl rfl hqn | exact q_move rfl (by conv => lhs; whnf) | exact q_assign rfl (by conv => lhs; whnf) | exact q_add rfl rfl rfl (by omega) | exact q_sub rfl rfl rfl (by omega) | exact q_neg rfl rfl (by omega) | exact q_rem_in rfl rfl rfl (by omega) | exact q_quo_in rfl rfl rfl (by omega) | exact q_lss_t rfl rfl rfl (by omega) | exact q_lss_f rfl rfl rfl (by omega) | exact q_leq_t rfl rfl rfl (by omega) | exact q_leq_f rfl rfl rfl (by omega) | exact q_gtr_t rfl rfl rfl (by omega) | exact q_gtr_f rfl rfl rfl (by omega) | exact q_geq_t rfl rfl rfl (by omega) | exact q_geq_f rfl rfl rfl (by omega) | exact q_eql_t rfl rfl rfl (by omega) | exact q_eql_f rfl rfl rfl (by omega) | exact q_neq_t rfl rfl rfl (by omega) | exact q_neq_f rfl rfl rfl (by omega) | exact q_int rfl rfl rfl rfl | exact q_not rfl rfl | exact q_pick_t rfl rfl (by conv => lhs; whnf) | exact q_pick_f rfl rfl (by conv => lhs; whnf) | exact q_extract rfl rfl rfl | exact q_max rfl rfl rfl | exact q_min rfl rfl rfl)) | refine ano rfl rfl rfl ?_ | refine adr_no rfl rfl rfl ?_)
          change HP m6 [.sl xt 3 1 (touches f b p).length (i64s (touches f b p)), .sl va 4 1 f.length ((bl f b p k).set q (.bool true)), .sl xnd 3 1 (needed f b).length (i64s (needed f b)), .sl xx 3 1 (lifted f b).length (i64s (lifted f b))] at H
          rw [hset] at H
          exact ⟨⟨k + 1, by rw [hsl, show -((b.length / 2 : Nat) : Int) + ((k + 1 : Nat) : Int) = -((b.length / 2 : Nat) : Int) + k + 1 by omega]; rfl, by omega, H⟩, by show (((b.length / 2 : Nat) : Int) + 1 - (-((b.length / 2 : Nat) : Int) + k + 1)).toNat < (((b.length / 2 : Nat) : Int) + 1 - (-((b.length / 2 : Nat) : Int) + k)).toNat; omega⟩
        · have hsame := bl_same (f := f) (b := b) (p := p) (k := k) (.inr (by omega))
          rw [← hsame] at H
          repeat (first | with_reducible (first | refine awp_seq ?_ | refine awp_region ?_ | refine awp_region_q (by kernel_rfl) (by kernel_rfl) ?_ | refine adr_nil ?_ | refine adr_end ?_ | refine aops_then ?_ | refine aops_nil ?_ | refine awp_block ?_ | refine px_then ?_ | refine px_block ?_ | refine px_block_ne rfl ?_ | refine pn_block ?_ | refine pn_then ?_ | refine pn_asg ?_ | refine pn_rnd ?_ | refine px_rnd ?_ | refine awp_exit ?_ | refine awp_skip ?_ | refine awp_ret ?_ | refine pr_then ?_ | refine pr_block ?_ | refine pr_rnd ?_ | refine pr_retM ?_ | refine pn_retM ?_ | refine pr_ret ?_ | refine pn_ret ?_) | refine awp_cond_t rfl rfl ?_ | refine awp_cond_f rfl rfl ?_ | ((first | apply aq (hd := rfl) (hok := rfl) (hw := rfl) | apply adr_q (ho := rfl) (hd := rfl) (hw := rfl)); (first | exact hr1 rfl rfl rfl | exact hr2 rfl rfl rfl | exact hadd rfl rfl rfl | exact q_ixN iT hvf' rfl rfl rfl hqn | exact q_ldI iT hvf' rfl rfl hqn | exact q_ixN iT hvb' rfl rfl rfl hkK | exact q_ldI iT hvb' rfl rfl hkK | exact q_ixN iT hsx rfl rfl rfl (by omega) | exact q_ldI iT hsx rfl rfl (by omega) | exact q_lenI iT hst rfl rfl | exact q_move rfl (by conv => lhs; whnf) | exact q_assign rfl (by conv => lhs; whnf) | exact q_add rfl rfl rfl (by omega) | exact q_sub rfl rfl rfl (by omega) | exact q_neg rfl rfl (by omega) | exact q_rem_in rfl rfl rfl (by omega) | exact q_quo_in rfl rfl rfl (by omega) | exact q_lss_t rfl rfl rfl (by omega) | exact q_lss_f rfl rfl rfl (by omega) | exact q_leq_t rfl rfl rfl (by omega) | exact q_leq_f rfl rfl rfl (by omega) | exact q_gtr_t rfl rfl rfl (by omega) | exact q_gtr_f rfl rfl rfl (by omega) | exact q_geq_t rfl rfl rfl (by omega) | exact q_geq_f rfl rfl rfl (by omega) | exact q_eql_t rfl rfl rfl (by omega) | exact q_eql_f rfl rfl rfl (by omega) | exact q_neq_t rfl rfl rfl (by omega) | exact q_neq_f rfl rfl rfl (by omega) | exact q_int rfl rfl rfl rfl | exact q_not rfl rfl | exact q_pick_t rfl rfl (by conv => lhs; whnf) | exact q_pick_f rfl rfl (by conv => lhs; whnf) | exact q_extract rfl rfl rfl | exact q_max rfl rfl rfl | exact q_min rfl rfl rfl)) | refine ano rfl rfl rfl ?_ | refine adr_no rfl rfl rfl ?_)
          exact ⟨⟨k + 1, by rw [hsl, show -((b.length / 2 : Nat) : Int) + ((k + 1 : Nat) : Int) = -((b.length / 2 : Nat) : Int) + k + 1 by omega]; rfl, by omega, H⟩, by show (((b.length / 2 : Nat) : Int) + 1 - (-((b.length / 2 : Nat) : Int) + k + 1)).toNat < (((b.length / 2 : Nat) : Int) + 1 - (-((b.length / 2 : Nat) : Int) + k)).toNat; omega⟩
      · rw [if_neg hc] at hsucc
        have hsame := bl_same (f := f) (b := b) (p := p) (k := k) (.inl hsucc)
        rw [← hsame] at H
        repeat (first | with_reducible (first | refine awp_seq ?_ | refine awp_region ?_ | refine awp_region_q (by kernel_rfl) (by kernel_rfl) ?_ | refine adr_nil ?_ | refine adr_end ?_ | refine aops_then ?_ | refine aops_nil ?_ | refine awp_block ?_ | refine px_then ?_ | refine px_block ?_ | refine px_block_ne rfl ?_ | refine pn_block ?_ | refine pn_then ?_ | refine pn_asg ?_ | refine pn_rnd ?_ | refine px_rnd ?_ | refine awp_exit ?_ | refine awp_skip ?_ | refine awp_ret ?_ | refine pr_then ?_ | refine pr_block ?_ | refine pr_rnd ?_ | refine pr_retM ?_ | refine pn_retM ?_ | refine pr_ret ?_ | refine pn_ret ?_) | refine awp_cond_t rfl rfl ?_ | refine awp_cond_f rfl rfl ?_ | ((first | apply aq (hd := rfl) (hok := rfl) (hw := rfl) | apply adr_q (ho := rfl) (hd := rfl) (hw := rfl)); (first | exact hr1 rfl rfl rfl | exact hr2 rfl rfl rfl | exact hadd rfl rfl rfl | exact q_ixN iT hvf' rfl rfl rfl hqn | exact q_ldI iT hvf' rfl rfl hqn | exact q_ixN iT hvb' rfl rfl rfl hkK | exact q_ldI iT hvb' rfl rfl hkK | exact q_ixN iT hsx rfl rfl rfl (by omega) | exact q_ldI iT hsx rfl rfl (by omega) | exact q_lenI iT hst rfl rfl | exact q_move rfl (by conv => lhs; whnf) | exact q_assign rfl (by conv => lhs; whnf) | exact q_add rfl rfl rfl (by omega) | exact q_sub rfl rfl rfl (by omega) | exact q_neg rfl rfl (by omega) | exact q_rem_in rfl rfl rfl (by omega) | exact q_quo_in rfl rfl rfl (by omega) | exact q_lss_t rfl rfl rfl (by omega) | exact q_lss_f rfl rfl rfl (by omega) | exact q_leq_t rfl rfl rfl (by omega) | exact q_leq_f rfl rfl rfl (by omega) | exact q_gtr_t rfl rfl rfl (by omega) | exact q_gtr_f rfl rfl rfl (by omega) | exact q_geq_t rfl rfl rfl (by omega) | exact q_geq_f rfl rfl rfl (by omega) | exact q_eql_t rfl rfl rfl (by omega) | exact q_eql_f rfl rfl rfl (by omega) | exact q_neq_t rfl rfl rfl (by omega) | exact q_neq_f rfl rfl rfl (by omega) | exact q_int rfl rfl rfl rfl | exact q_not rfl rfl | exact q_pick_t rfl rfl (by conv => lhs; whnf) | exact q_pick_f rfl rfl (by conv => lhs; whnf) | exact q_extract rfl rfl rfl | exact q_max rfl rfl rfl | exact q_min rfl rfl rfl)) | refine ano rfl rfl rfl ?_ | refine adr_no rfl rfl rfl ?_)
        exact ⟨⟨k + 1, by rw [hsucc, show -((b.length / 2 : Nat) : Int) + ((k + 1 : Nat) : Int) = -((b.length / 2 : Nat) : Int) + k + 1 by omega]; rfl, by omega, H⟩, by show (((b.length / 2 : Nat) : Int) + 1 - (-((b.length / 2 : Nat) : Int) + k + 1)).toNat < (((b.length / 2 : Nat) : Int) + 1 - (-((b.length / 2 : Nat) : Int) + k)).toNat; omega⟩
    · have hkb : k = b.length := by omega
      subst hkb
      rw [bl_next] at H
      repeat (first | with_reducible (first | refine awp_seq ?_ | refine awp_region ?_ | refine awp_region_q (by kernel_rfl) (by kernel_rfl) ?_ | refine adr_nil ?_ | refine adr_end ?_ | refine aops_then ?_ | refine aops_nil ?_ | refine awp_block ?_ | refine px_then ?_ | refine px_block ?_ | refine px_block_ne rfl ?_ | refine pn_block ?_ | refine pn_then ?_ | refine pn_asg ?_ | refine pn_rnd ?_ | refine px_rnd ?_ | refine awp_exit ?_ | refine awp_skip ?_ | refine awp_ret ?_ | refine pr_then ?_ | refine pr_block ?_ | refine pr_rnd ?_ | refine pr_retM ?_ | refine pn_retM ?_ | refine pr_ret ?_ | refine pn_ret ?_) | refine awp_cond_t rfl rfl ?_ | refine awp_cond_f rfl rfl ?_ | ((first | apply aq (hd := rfl) (hok := rfl) (hw := rfl) | apply adr_q (ho := rfl) (hd := rfl) (hw := rfl)); (first | exact q_lenI iT hst rfl rfl | exact q_move rfl (by conv => lhs; whnf) | exact q_assign rfl (by conv => lhs; whnf) | exact q_add rfl rfl rfl (by omega) | exact q_sub rfl rfl rfl (by omega) | exact q_neg rfl rfl (by omega) | exact q_rem_in rfl rfl rfl (by omega) | exact q_quo_in rfl rfl rfl (by omega) | exact q_lss_t rfl rfl rfl (by omega) | exact q_lss_f rfl rfl rfl (by omega) | exact q_leq_t rfl rfl rfl (by omega) | exact q_leq_f rfl rfl rfl (by omega) | exact q_gtr_t rfl rfl rfl (by omega) | exact q_gtr_f rfl rfl rfl (by omega) | exact q_geq_t rfl rfl rfl (by omega) | exact q_geq_f rfl rfl rfl (by omega) | exact q_eql_t rfl rfl rfl (by omega) | exact q_eql_f rfl rfl rfl (by omega) | exact q_neq_t rfl rfl rfl (by omega) | exact q_neq_f rfl rfl rfl (by omega) | exact q_int rfl rfl rfl rfl | exact q_not rfl rfl | exact q_pick_t rfl rfl (by conv => lhs; whnf) | exact q_pick_f rfl rfl (by conv => lhs; whnf) | exact q_extract rfl rfl rfl | exact q_max rfl rfl rfl | exact q_min rfl rfl rfl)) | refine ano rfl rfl rfl ?_ | refine adr_no rfl rfl rfl ?_)
      refine awp_loop [0, 1, 5, 6, 8, 10, 11, 12, 14, 19, 71, 72] (fun vs m => ∃ i : Nat, vs = [vf, vb, .bool true, xx, xnd, .int .i64 f.length, .int .i64 (b.length / 2 : Nat), va, xt, .int .i64 i, .int .i64 f.length, .int .i64 p] ∧ 1 ≤ i ∧ i ≤ (touches f b p).length ∧
          HP m [.sl xt 3 1 (touches f b p).length (i64s (touches f b p)), .sl va 4 1 f.length (bl f b (p + 1) 0), .sl xnd 3 1 (needed f b).length (i64s (needed f b)), .sl xx 3 1 (lifted f b).length (i64s (lifted f b))])
        (fun vs _ => (touches f b p).length - (RowKit.intOf (vs.getD 9 undef)).toNat) ⟨1, rfl, Nat.le_refl _, by omega, H⟩ ?_
      clear H hst hsx hsa hvf' hvb'
      rintro fr vs m - ⟨i, rfl, hi1, hi, H⟩
      have hst := (H.sl 0 rfl).sl (W := W)
      by_cases hit : i < (touches f b p).length
      · have hlt2 := touches_lt hnn hbl hho hlt hi1 hit
        obtain ⟨i0, rfl⟩ : ∃ i0, i = i0 + 1 := ⟨i - 1, by omega⟩
        rw [Nat.add_sub_cancel] at hlt2
        have hsub : ∀ {o : Oper} {fr : Fr} {T yt : TypeId} {x y : Operand}, o.op = .binOp .sub T x y yt → evalF fr x = .int .i64 ((i0 + 1 : Nat) : Int) → evalF fr y = .int .i64 1 → QOp Try.prog W o fr m (.int .i64 (i0 : Int)) := fun ho h1 h2 => by
          have := q_sub (P := Try.prog) (W := W) (m := m) ho h1 h2 (by omega)
          rwa [show ((i0 + 1 : Nat) : Int) - 1 = i0 by omega] at this
        repeat (first | with_reducible (first | refine awp_seq ?_ | refine awp_region ?_ | refine awp_region_q (by kernel_rfl) (by kernel_rfl) ?_ | refine adr_nil ?_ | refine adr_end ?_ | refine aops_then ?_ | refine aops_nil ?_ | refine awp_block ?_ | refine px_then ?_ | refine px_block ?_ | refine px_block_ne rfl ?_ | refine pn_block ?_ | refine pn_then ?_ | refine pn_asg ?_ | refine pn_rnd ?_ | refine px_rnd ?_ | refine awp_exit ?_ | refine awp_skip ?_ | refine awp_ret ?_ | refine pr_then ?_ | refine pr_block ?_ | refine pr_rnd ?_ | refine pr_retM ?_ | refine pn_retM ?_ | refine pr_ret ?_ | refine pn_ret ?_) | refine awp_cond_t rfl rfl ?_ | refine awp_cond_f rfl rfl ?_ | ((first | apply aq (hd := rfl) (hok := rfl) (hw := rfl) | apply adr_q (ho := rfl) (hd := rfl) (hw := rfl)); (first | exact q_lenI iT hst rfl rfl | exact hsub rfl rfl rfl | exact q_ixN iT hst rfl rfl rfl hit | exact q_ixN iT hst rfl rfl rfl (i := i0) (by omega) | exact q_ldI iT hst rfl rfl hit | exact q_ldI iT hst rfl rfl (j := i0) (by omega) | exact q_move rfl (by conv => lhs; whnf) | exact q_assign rfl (by conv => lhs; whnf) | exact q_add rfl rfl rfl (by omega) | exact q_sub rfl rfl rfl (by omega) | exact q_neg rfl rfl (by omega) | exact q_rem_in rfl rfl rfl (by omega) | exact q_quo_in rfl rfl rfl (by omega) | exact q_lss_t rfl rfl rfl (by omega) | exact q_lss_f rfl rfl rfl (by omega) | exact q_leq_t rfl rfl rfl (by omega) | exact q_leq_f rfl rfl rfl (by omega) | exact q_gtr_t rfl rfl rfl (by omega) | exact q_gtr_f rfl rfl rfl (by omega) | exact q_geq_t rfl rfl rfl (by omega) | exact q_geq_f rfl rfl rfl (by omega) | exact q_eql_t rfl rfl rfl (by omega) | exact q_eql_f rfl rfl rfl (by omega) | exact q_neq_t rfl rfl rfl (by omega) | exact q_neq_f rfl rfl rfl (by omega) | exact q_int rfl rfl rfl rfl | exact q_not rfl rfl | exact q_pick_t rfl rfl (by conv => lhs; whnf) | exact q_pick_f rfl rfl (by conv => lhs; whnf) | exact q_extract rfl rfl rfl | exact q_max rfl rfl rfl | exact q_min rfl rfl rfl)) | refine ano rfl rfl rfl ?_ | refine adr_no rfl rfl rfl ?_)
        exact ⟨⟨i0 + 1 + 1, rfl, by omega, by omega, H⟩, by show (touches f b p).length - (((i0 + 1 : Nat) : Int) + 1).toNat < (touches f b p).length - ((i0 + 1 : Nat) : Int).toNat; omega⟩
      · have hie : i = (touches f b p).length := by omega
        repeat (first | with_reducible (first | refine awp_seq ?_ | refine awp_region ?_ | refine awp_region_q (by kernel_rfl) (by kernel_rfl) ?_ | refine adr_nil ?_ | refine adr_end ?_ | refine aops_then ?_ | refine aops_nil ?_ | refine awp_block ?_ | refine px_then ?_ | refine px_block ?_ | refine px_block_ne rfl ?_ | refine pn_block ?_ | refine pn_then ?_ | refine pn_asg ?_ | refine pn_rnd ?_ | refine px_rnd ?_ | refine awp_exit ?_ | refine awp_skip ?_ | refine awp_ret ?_ | refine pr_then ?_ | refine pr_block ?_ | refine pr_rnd ?_ | refine pr_retM ?_ | refine pn_retM ?_ | refine pr_ret ?_ | refine pn_ret ?_) | refine awp_cond_t rfl rfl ?_ | refine awp_cond_f rfl rfl ?_ | ((first | apply aq (hd := rfl) (hok := rfl) (hw := rfl) | apply adr_q (ho := rfl) (hd := rfl) (hw := rfl)); (first | exact q_lenI iT hst rfl rfl | exact q_move rfl (by conv => lhs; whnf) | exact q_assign rfl (by conv => lhs; whnf) | exact q_add rfl rfl rfl (by omega) | exact q_sub rfl rfl rfl (by omega) | exact q_neg rfl rfl (by omega) | exact q_rem_in rfl rfl rfl (by omega) | exact q_quo_in rfl rfl rfl (by omega) | exact q_lss_t rfl rfl rfl (by omega) | exact q_lss_f rfl rfl rfl (by omega) | exact q_leq_t rfl rfl rfl (by omega) | exact q_leq_f rfl rfl rfl (by omega) | exact q_gtr_t rfl rfl rfl (by omega) | exact q_gtr_f rfl rfl rfl (by omega) | exact q_geq_t rfl rfl rfl (by omega) | exact q_geq_f rfl rfl rfl (by omega) | exact q_eql_t rfl rfl rfl (by omega) | exact q_eql_f rfl rfl rfl (by omega) | exact q_neq_t rfl rfl rfl (by omega) | exact q_neq_f rfl rfl rfl (by omega) | exact q_int rfl rfl rfl rfl | exact q_not rfl rfl | exact q_pick_t rfl rfl (by conv => lhs; whnf) | exact q_pick_f rfl rfl (by conv => lhs; whnf) | exact q_extract rfl rfl rfl | exact q_max rfl rfl rfl | exact q_min rfl rfl rfl)) | refine ano rfl rfl rfl ?_ | refine adr_no rfl rfl rfl ?_)
        exact ⟨⟨p + 1, rfl, by omega, H.drop 0⟩, by show f.length - ((p : Int) + 1).toNat < f.length - (p : Int).toNat; omega⟩
end Go.R03
