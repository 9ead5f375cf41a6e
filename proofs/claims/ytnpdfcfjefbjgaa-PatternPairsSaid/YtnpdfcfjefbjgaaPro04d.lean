import Derived.Test.YtnpdfcfjefbjgaaPro04c
set_option linter.unusedSectionVars false
set_option linter.unusedSimpArgs false
set_option linter.unusedVariables false
/-! Layer 4: motifs, and after how many cuts a family closes. -/
namespace Go.R04
open Go Go.Abs Go.RowKit Go.Proofs Go.R03
set_option maxRecDepth 20000
set_option maxHeartbeats 4000000
attribute [local irreducible] AWp AOps ADr AAny thenQ blockQ retQ asgQ rndQ
set_option linter.unusedVariables false
set_option linter.unusedSectionVars false
theorem fDivisor : Fun Try.prog 97 := ⟨_, _, Try.func97, rfl, by kernel_rfl⟩
theorem fMotifF : Fun Try.prog 67 := ⟨_, _, Try.func67, rfl, by kernel_rfl⟩
theorem fClosesF : Fun Try.prog 65 := ⟨_, _, Try.func65, rfl, by kernel_rfl⟩
theorem fChangesF : Fun Try.prog 69 := ⟨_, _, Try.func69, rfl, by kernel_rfl⟩
theorem least_ex (p : Nat → Bool) : ∀ n : Nat, 1 ≤ n → p n = true → ∃ s, 1 ≤ s ∧ s ≤ n ∧ p s = true ∧ ∀ t, 1 ≤ t → t < s → p t = false
  | 0, h, _ => by omega
  | n + 1, _, hp => by
    by_cases hn : ∃ k, 1 ≤ k ∧ k ≤ n ∧ p k = true
    · obtain ⟨k, h1, h2, h3⟩ := hn
      obtain ⟨s, g1, g2, g3, g4⟩ := least_ex p k h1 h3
      exact ⟨s, g1, by omega, g3, g4⟩
    · refine ⟨n + 1, by omega, Nat.le_refl _, hp, fun t h1 h2 => ?_⟩
      cases g : p t
      · rfl
      · exact absurd ⟨t, h1, by omega, g⟩ hn
  termination_by n => n
  decreasing_by omega
theorem isPer_ex {L : List Int} (h : 1 ≤ L.length) : ∃ s, IsPer L s := by
  obtain ⟨s, h1, h2, h3, h4⟩ := least_ex (fun s => sames (moved L s) L) L.length h (decide_eq_true (moved_n L))
  exact ⟨s, h1, h2, of_decide_eq_true h3, fun t g1 g2 => of_decide_eq_false (h4 t g1 g2)⟩
theorem isPer_eq {L : List Int} {s t : Nat} (h : IsPer L s) (g : IsPer L t) : s = t := by
  rcases Nat.lt_trichotomy s t with e | e | e
  · exact absurd h.2.2.1 (g.2.2.2 s h.1 e)
  · exact e
  · exact absurd g.2.2.1 (h.2.2.2 t g.1 e)
theorem isMotif_ex {S : List Int} (q : Nat) (h : 1 ≤ S.length) : ∃ m, IsMotif S q m := by
  obtain ⟨s, h1, h2, h3, h4⟩ := least_ex (again S q) S.length h (again_all q)
  exact ⟨s, h1, h2, fun _ => h3, h4⟩
/-! ### the period divides the number of steps -/
theorem movAt_add {L : List Int} (h : 1 ≤ L.length) (a b : Int) : moved (moved L a) b = moved L (a + b) := by
  have hl := moved_length L a
  apply List.ext_getElem
  · simp [moved]
  · intro i h1 h2
    have hi : i < L.length := by simpa [moved] using h2
    have hn : (0 : Int) < L.length := by omega
    have b1 := Int.emod_nonneg ((i : Int) - b.tmod L.length) (show (L.length : Int) ≠ 0 by omega)
    have b2 := Int.emod_lt_of_pos ((i : Int) - b.tmod L.length) hn
    have e1 : ∀ s : Int, s.tmod L.length % (L.length : Int) = s % (L.length : Int) := fun s => by
      have := Int.mul_tdiv_add_tmod s L.length
      rw [show s.tmod L.length = s - L.length * s.tdiv L.length by omega, Int.sub_mul_emod_self_left]
    simp only [moved, List.getElem_map, List.getElem_range, movAt, List.length_map, List.length_range]
    obtain ⟨t, ht⟩ : ∃ t : Nat, ((i : Int) - b.tmod L.length) % (L.length : Int) = t := ⟨(((i : Int) - b.tmod L.length) % (L.length : Int)).toNat, by omega⟩
    rw [ht]
    simp only [Int.toNat_natCast]
    have htl : t < L.length := by omega
    simp only [List.getD_eq_getElem?_getD, List.getElem?_map, List.getElem?_range htl, Option.map_some, Option.getD_some]
    have key : ((t : Int) - a.tmod L.length) % (L.length : Int) = ((i : Int) - (a + b).tmod L.length) % (L.length : Int) := by
      rw [← ht]
      apply emod_of_dvd
      have d1 := dvd_of_emod (e1 a)
      have d2 := dvd_of_emod (e1 b)
      have d3 := dvd_of_emod (e1 (a + b))
      have d4 : (L.length : Int) ∣ ((i : Int) - b.tmod L.length) % (L.length : Int) - ((i : Int) - b.tmod L.length) := dvd_of_emod (Int.emod_emod _ _)
      have := Int.dvd_add (Int.dvd_sub (Int.dvd_sub d4 d1) d2) d3
      rw [show ((i : Int) - b.tmod L.length) % (L.length : Int) - a.tmod L.length - ((i : Int) - (a + b).tmod L.length) = ((i : Int) - b.tmod L.length) % (L.length : Int) - ((i : Int) - b.tmod L.length) - (a.tmod L.length - a) - (b.tmod L.length - b) + ((a + b).tmod L.length - (a + b)) by omega]
      exact this
    unfold movAt
    rw [key, List.getD_eq_getElem?_getD]
theorem moved_zero {L : List Int} : moved L 0 = L := by
  refine Eq.trans (List.map_congr_left fun p hp => ?_) (map_self L)
  have hp := List.mem_range.1 hp
  unfold movAt
  rw [Int.zero_tmod, Int.sub_zero, Int.emod_eq_of_lt (by omega) (by omega)]
  rfl
theorem moved_mul {L : List Int} (h : 1 ≤ L.length) {s : Nat} (hs : moved L s = L) : ∀ k : Nat, moved L ((k * s : Nat) : Int) = L
  | 0 => by simpa using moved_zero (L := L)
  | k + 1 => by
    have ih := moved_mul h hs k
    have := movAt_add h ((k * s : Nat) : Int) (s : Int)
    rw [ih, hs] at this
    rw [Nat.add_mul, Nat.one_mul, Int.natCast_add]
    exact this.symm
/-- Turned by what is a multiple of the period, and by nothing else, it stays. -/
theorem per_dvd {L : List Int} {q : Nat} (h : IsPer L q) (h1 : 1 ≤ L.length) {s : Nat} (hs : moved L s = L) : q ∣ s := by
  have hq := h.1
  have e := Nat.div_add_mod s q
  have hm : moved L ((s % q : Nat) : Int) = L := by
    have := movAt_add h1 (((s / q) * q : Nat) : Int) ((s % q : Nat) : Int)
    rw [moved_mul h1 h.2.2.1 (s / q)] at this
    rw [this, ← Int.natCast_add, Nat.mul_comm (s / q) q, e, hs]
  rcases Nat.eq_zero_or_pos (s % q) with g | g
  · exact Nat.dvd_of_mod_eq_zero g
  · exact absurd hm (h.2.2.2 (s % q) g (Nat.mod_lt _ (by omega)))
theorem per_len {L : List Int} {q : Nat} (h : IsPer L q) (h1 : 1 ≤ L.length) : q ∣ L.length := per_dvd h h1 (moved_n L)
/-! ### the program -/
theorem divisor_q (w : World) (a b : Nat) (ha : a ≤ 1000000000) (hb : b ≤ 1000000000) {g : Nat} (hg : Nat.gcd a b = g) : QCalls Try.prog 97 #[.int .i64 a, .int .i64 b] w (.int .i64 g) := by
  subst hg
  refine qcalls_of (acalls_of_body Try.func97 rfl (res1 rfl (by decide)) (Nat.le_of_ble_eq_true rfl) ?_)
  repeat (first | with_reducible (first | refine awp_seq ?_ | refine awp_region ?_ | refine awp_region_q (by kernel_rfl) (by kernel_rfl) ?_ | refine adr_nil ?_ | refine adr_end ?_ | refine aops_then ?_ | refine aops_nil ?_ | refine awp_block ?_ | refine awp_label ?_ | refine awp_scope ?_ | refine pn_scope ?_ | refine px_scope ?_ | refine pr_scope ?_ | refine px_then ?_ | refine px_block ?_ | refine px_block_ne rfl ?_ | refine pn_block ?_ | refine pn_then ?_ | refine pn_asg ?_ | refine pn_rnd ?_ | refine px_rnd ?_ | refine awp_exit ?_ | refine awp_skip ?_ | refine awp_ret ?_ | refine pr_then ?_ | refine pr_block ?_ | refine pr_rnd ?_ | refine pr_retM ?_ | refine pn_retM ?_ | refine pr_ret ?_ | refine pn_ret ?_) | refine awp_cond_t rfl rfl ?_ | refine awp_cond_f rfl rfl ?_ | ((first | apply aq (hd := rfl) (hok := rfl) (hw := rfl) | apply adr_q (ho := rfl) (hd := rfl) (hw := rfl)); (first | exact q_move rfl (by conv => lhs; whnf) | exact q_assign rfl (by conv => lhs; whnf) | exact q_add rfl rfl rfl (by omega) | exact q_sub rfl rfl rfl (by omega) | exact q_neg rfl rfl (by omega) | exact q_rem_in rfl rfl rfl (by omega) | exact q_quo_in rfl rfl rfl (by omega) | exact q_lss_t rfl rfl rfl (by omega) | exact q_lss_f rfl rfl rfl (by omega) | exact q_leq_t rfl rfl rfl (by omega) | exact q_leq_f rfl rfl rfl (by omega) | exact q_gtr_t rfl rfl rfl (by omega) | exact q_gtr_f rfl rfl rfl (by omega) | exact q_geq_t rfl rfl rfl (by omega) | exact q_geq_f rfl rfl rfl (by omega) | exact q_eql_t rfl rfl rfl (by omega) | exact q_eql_f rfl rfl rfl (by omega) | exact q_neq_t rfl rfl rfl (by omega) | exact q_neq_f rfl rfl rfl (by omega) | exact q_int rfl rfl rfl rfl | exact q_not rfl rfl | exact q_pick_t rfl rfl (by conv => lhs; whnf) | exact q_pick_f rfl rfl (by conv => lhs; whnf) | exact q_extract rfl rfl rfl | exact q_max rfl rfl rfl | exact q_min rfl rfl rfl)) | refine ano rfl rfl rfl ?_ | refine adr_no rfl rfl rfl ?_)
  refine awp_loop [0, 1] (fun vs m => ∃ x y : Nat, vs = [.int .i64 x, .int .i64 y] ∧ x ≤ 1000000000 ∧ y ≤ 1000000000 ∧ Nat.gcd x y = Nat.gcd a b ∧ m = Mem.none) (fun vs _ => (intOf (vs.getD 1 undef)).toNat) ⟨a, b, rfl, ha, hb, rfl, rfl⟩ ?_
  rintro fr vs m - ⟨x, y, rfl, hx, hy, hg, rfl⟩
  by_cases h0 : y = 0
  · subst h0
    repeat (first | with_reducible (first | refine awp_seq ?_ | refine awp_region ?_ | refine awp_region_q (by kernel_rfl) (by kernel_rfl) ?_ | refine adr_nil ?_ | refine adr_end ?_ | refine aops_then ?_ | refine aops_nil ?_ | refine awp_block ?_ | refine awp_label ?_ | refine awp_scope ?_ | refine pn_scope ?_ | refine px_scope ?_ | refine pr_scope ?_ | refine px_then ?_ | refine px_block ?_ | refine px_block_ne rfl ?_ | refine pn_block ?_ | refine pn_then ?_ | refine pn_asg ?_ | refine pn_rnd ?_ | refine px_rnd ?_ | refine awp_exit ?_ | refine awp_skip ?_ | refine awp_ret ?_ | refine pr_then ?_ | refine pr_block ?_ | refine pr_rnd ?_ | refine pr_retM ?_ | refine pn_retM ?_ | refine pr_ret ?_ | refine pn_ret ?_) | refine awp_cond_t rfl rfl ?_ | refine awp_cond_f rfl rfl ?_ | ((first | apply aq (hd := rfl) (hok := rfl) (hw := rfl) | apply adr_q (ho := rfl) (hd := rfl) (hw := rfl)); (first | exact q_move rfl (by conv => lhs; whnf) | exact q_assign rfl (by conv => lhs; whnf) | exact q_add rfl rfl rfl (by omega) | exact q_sub rfl rfl rfl (by omega) | exact q_neg rfl rfl (by omega) | exact q_rem_in rfl rfl rfl (by omega) | exact q_quo_in rfl rfl rfl (by omega) | exact q_lss_t rfl rfl rfl (by omega) | exact q_lss_f rfl rfl rfl (by omega) | exact q_leq_t rfl rfl rfl (by omega) | exact q_leq_f rfl rfl rfl (by omega) | exact q_gtr_t rfl rfl rfl (by omega) | exact q_gtr_f rfl rfl rfl (by omega) | exact q_geq_t rfl rfl rfl (by omega) | exact q_geq_f rfl rfl rfl (by omega) | exact q_eql_t rfl rfl rfl (by omega) | exact q_eql_f rfl rfl rfl (by omega) | exact q_neq_t rfl rfl rfl (by omega) | exact q_neq_f rfl rfl rfl (by omega) | exact q_int rfl rfl rfl rfl | exact q_not rfl rfl | exact q_pick_t rfl rfl (by conv => lhs; whnf) | exact q_pick_f rfl rfl (by conv => lhs; whnf) | exact q_extract rfl rfl rfl | exact q_max rfl rfl rfl | exact q_min rfl rfl rfl)) | refine ano rfl rfl rfl ?_ | refine adr_no rfl rfl rfl ?_)
    rw [Nat.gcd_zero_right] at hg
    show Value.int .i64 _ = Value.int .i64 _
    rw [hg]
  · have hr : (x : Int) % (y : Int) = ((x % y : Nat) : Int) := (Int.natCast_emod x y).symm
    have hlt := Nat.mod_lt x (show y > 0 by omega)
    have hr2 : (x : Int).tmod (y : Int) = ((x % y : Nat) : Int) := by rw [Int.tmod_eq_emod_of_nonneg (by omega)]; exact hr
    clear hr
    repeat (first | with_reducible (first | refine awp_seq ?_ | refine awp_region ?_ | refine awp_region_q (by kernel_rfl) (by kernel_rfl) ?_ | refine adr_nil ?_ | refine adr_end ?_ | refine aops_then ?_ | refine aops_nil ?_ | refine awp_block ?_ | refine awp_label ?_ | refine awp_scope ?_ | refine pn_scope ?_ | refine px_scope ?_ | refine pr_scope ?_ | refine px_then ?_ | refine px_block ?_ | refine px_block_ne rfl ?_ | refine pn_block ?_ | refine pn_then ?_ | refine pn_asg ?_ | refine pn_rnd ?_ | refine px_rnd ?_ | refine awp_exit ?_ | refine awp_skip ?_ | refine awp_ret ?_ | refine pr_then ?_ | refine pr_block ?_ | refine pr_rnd ?_ | refine pr_retM ?_ | refine pn_retM ?_ | refine pr_ret ?_ | refine pn_ret ?_) | refine awp_cond_t rfl rfl ?_ | refine awp_cond_f rfl rfl ?_ | ((first | apply aq (hd := rfl) (hok := rfl) (hw := rfl) | apply adr_q (ho := rfl) (hd := rfl) (hw := rfl)); (first | exact q_remX hr2 rfl rfl rfl (by omega) | exact q_move rfl (by conv => lhs; whnf) | exact q_assign rfl (by conv => lhs; whnf) | exact q_add rfl rfl rfl (by omega) | exact q_sub rfl rfl rfl (by omega) | exact q_neg rfl rfl (by omega) | exact q_rem_in rfl rfl rfl (by omega) | exact q_quo_in rfl rfl rfl (by omega) | exact q_lss_t rfl rfl rfl (by omega) | exact q_lss_f rfl rfl rfl (by omega) | exact q_leq_t rfl rfl rfl (by omega) | exact q_leq_f rfl rfl rfl (by omega) | exact q_gtr_t rfl rfl rfl (by omega) | exact q_gtr_f rfl rfl rfl (by omega) | exact q_geq_t rfl rfl rfl (by omega) | exact q_geq_f rfl rfl rfl (by omega) | exact q_eql_t rfl rfl rfl (by omega) | exact q_eql_f rfl rfl rfl (by omega) | exact q_neq_t rfl rfl rfl (by omega) | exact q_neq_f rfl rfl rfl (by omega) | exact q_int rfl rfl rfl rfl | exact q_not rfl rfl | exact q_pick_t rfl rfl (by conv => lhs; whnf) | exact q_pick_f rfl rfl (by conv => lhs; whnf) | exact q_extract rfl rfl rfl | exact q_max rfl rfl rfl | exact q_min rfl rfl rfl)) | refine ano rfl rfl rfl ?_ | refine adr_no rfl rfl rfl ?_)
    refine ⟨⟨y, x % y, rfl, hy, by omega, by rw [Nat.gcd_comm y, ← hg]; exact (Nat.gcd_comm x y ▸ (Nat.gcd_rec y x).symm), rfl⟩, by show ((x % y : Nat) : Int).toNat < (y : Int).toNat; omega⟩
theorem fam_turn (L S : List Int) (per : Nat) (th : Int) (ok : OKF L S per th) (j k : Int) : (phase L.length S k - phase L.length S j) % (per : Int) = (Phi S k - Phi S j) % (per : Int) :=
  turn_eq (per_len ok.per (by have := ok.n; omega)) S j k
theorem motif_q (w : World) (v : Value) (L S : List Int) (per : Nat) (th : Int) (hf : FAM w Mem.none v L S per th) (ok : OKF L S per th) {mo : Nat} (hmo : IsMotif S per mo) :
    QCalls Try.prog 67 #[v] w (.tuple #[.int .i64 mo, .int .i64 (turnOf S per mo)]) := by
  have htq := fun w' hw' j k hj hk r hr => turn_q w' v L S per th (hf.at (W := w) (m := Mem.none) (w := w') hw') ok j k hj hk (r := r) hr
  have hlen := ok.len
  obtain ⟨B, vl, rfl, hc, hl⟩ := hf
  refine qcalls_of (acalls_of_body Try.func67 rfl (res2 rfl (by decide) (by decide)) (Nat.le_of_ble_eq_true rfl) ?_)
  have h0 : ∀ c : Nat, (phase L.length S c - phase L.length S 0) % (per : Int) = turnOf S per c := fun c => by
    rw [fam_turn L S per th ok, Phi_zero, Int.sub_zero]; rfl
  repeat (first | with_reducible (first | refine awp_seq ?_ | refine awp_region ?_ | refine awp_region_q (by kernel_rfl) (by kernel_rfl) ?_ | refine adr_nil ?_ | refine adr_end ?_ | refine aops_then ?_ | refine aops_nil ?_ | refine awp_block ?_ | refine awp_label ?_ | refine awp_scope ?_ | refine pn_scope ?_ | refine px_scope ?_ | refine pr_scope ?_ | refine px_then ?_ | refine px_block ?_ | refine px_block_ne rfl ?_ | refine pn_block ?_ | refine pn_then ?_ | refine pn_asg ?_ | refine pn_rnd ?_ | refine px_rnd ?_ | refine awp_exit ?_ | refine awp_skip ?_ | refine awp_ret ?_ | refine pr_then ?_ | refine pr_block ?_ | refine pr_rnd ?_ | refine pr_retM ?_ | refine pn_retM ?_ | refine pr_ret ?_ | refine pn_ret ?_) | refine awp_cond_t rfl rfl ?_ | refine awp_cond_f rfl rfl ?_ | ((first | apply aq (hd := rfl) (hok := rfl) (hw := rfl) | apply adr_q (ho := rfl) (hd := rfl) (hw := rfl)); (first | exact q_move rfl (by conv => lhs; whnf) | exact q_assign rfl (by conv => lhs; whnf) | exact q_add rfl rfl rfl (by omega) | exact q_sub rfl rfl rfl (by omega) | exact q_neg rfl rfl (by omega) | exact q_rem_in rfl rfl rfl (by omega) | exact q_quo_in rfl rfl rfl (by omega) | exact q_lss_t rfl rfl rfl (by omega) | exact q_lss_f rfl rfl rfl (by omega) | exact q_leq_t rfl rfl rfl (by omega) | exact q_leq_f rfl rfl rfl (by omega) | exact q_gtr_t rfl rfl rfl (by omega) | exact q_gtr_f rfl rfl rfl (by omega) | exact q_geq_t rfl rfl rfl (by omega) | exact q_geq_f rfl rfl rfl (by omega) | exact q_eql_t rfl rfl rfl (by omega) | exact q_eql_f rfl rfl rfl (by omega) | exact q_neq_t rfl rfl rfl (by omega) | exact q_neq_f rfl rfl rfl (by omega) | exact q_int rfl rfl rfl rfl | exact q_not rfl rfl | exact q_pick_t rfl rfl (by conv => lhs; whnf) | exact q_pick_f rfl rfl (by conv => lhs; whnf) | exact q_extract rfl rfl rfl | exact q_max rfl rfl rfl | exact q_min rfl rfl rfl)) | refine ano rfl rfl rfl ?_ | refine adr_no rfl rfl rfl ?_)
  refine awp_loop [0, 2] (fun vs m => ∃ c : Nat, vs = [.pointer (some ⟨B, 0, Option.none⟩), .int .i64 c] ∧ 1 ≤ c ∧ c ≤ S.length ∧ m = Mem.none ∧ ∀ t : Nat, 1 ≤ t → t < c → again S per t = false)
    (fun vs _ => S.length - (intOf (vs.getD 1 undef)).toNat) ⟨1, rfl, Nat.le_refl _, hlen.1, rfl, fun t h1 h2 => by omega⟩ ?_
  rintro b vs m - ⟨c, rfl, hc1, hc2, rfl, hno⟩
  by_cases hlt : c < S.length
  · repeat (first | with_reducible (first | refine awp_seq ?_ | refine awp_region ?_ | refine awp_region_q (by kernel_rfl) (by kernel_rfl) ?_ | refine adr_nil ?_ | refine adr_end ?_ | refine aops_then ?_ | refine aops_nil ?_ | refine awp_block ?_ | refine awp_label ?_ | refine awp_scope ?_ | refine pn_scope ?_ | refine px_scope ?_ | refine pr_scope ?_ | refine px_then ?_ | refine px_block ?_ | refine px_block_ne rfl ?_ | refine pn_block ?_ | refine pn_then ?_ | refine pn_asg ?_ | refine pn_rnd ?_ | refine px_rnd ?_ | refine awp_exit ?_ | refine awp_skip ?_ | refine awp_ret ?_ | refine pr_then ?_ | refine pr_block ?_ | refine pr_rnd ?_ | refine pr_retM ?_ | refine pn_retM ?_ | refine pr_ret ?_ | refine pn_ret ?_) | refine awp_cond_t rfl rfl ?_ | refine awp_cond_f rfl rfl ?_ | ((first | apply aq (hd := rfl) (hok := rfl) (hw := rfl) | apply adr_q (ho := rfl) (hd := rfl) (hw := rfl)); (first | exact q_nilCheck rfl rfl | exact q_FF rfl rfl (by decide) | exact q_ldW hc rfl rfl rfl iT.int rfl | exact q_ldW hc rfl rfl rfl iT.slice rfl | exact q_call fTurnF (fun w' hw' => htq w' hw' 0 c (by omega) (by omega) _ (h0 c)) rfl rfl | exact q_move rfl (by conv => lhs; whnf) | exact q_assign rfl (by conv => lhs; whnf) | exact q_add rfl rfl rfl (by omega) | exact q_sub rfl rfl rfl (by omega) | exact q_neg rfl rfl (by omega) | exact q_rem_in rfl rfl rfl (by omega) | exact q_quo_in rfl rfl rfl (by omega) | exact q_lss_t rfl rfl rfl (by omega) | exact q_lss_f rfl rfl rfl (by omega) | exact q_leq_t rfl rfl rfl (by omega) | exact q_leq_f rfl rfl rfl (by omega) | exact q_gtr_t rfl rfl rfl (by omega) | exact q_gtr_f rfl rfl rfl (by omega) | exact q_geq_t rfl rfl rfl (by omega) | exact q_geq_f rfl rfl rfl (by omega) | exact q_eql_t rfl rfl rfl (by omega) | exact q_eql_f rfl rfl rfl (by omega) | exact q_neq_t rfl rfl rfl (by omega) | exact q_neq_f rfl rfl rfl (by omega) | exact q_int rfl rfl rfl rfl | exact q_not rfl rfl | exact q_pick_t rfl rfl (by conv => lhs; whnf) | exact q_pick_f rfl rfl (by conv => lhs; whnf) | exact q_extract rfl rfl rfl | exact q_max rfl rfl rfl | exact q_min rfl rfl rfl)) | refine ano rfl rfl rfl ?_ | refine adr_no rfl rfl rfl ?_)
    refine awp_loop [0, 2, 3, 19, 20] (fun vs m => ∃ k : Nat, vs = [.pointer (some ⟨B, 0, Option.none⟩), .int .i64 c, .int .i64 (turnOf S per c), .int .i64 S.length, .int .i64 k] ∧ k ≤ S.length ∧ m = Mem.none ∧ ∀ j : Nat, j < k → (Phi S ((j : Int) + c) - Phi S j) % (per : Int) = turnOf S per c)
      (fun vs _ => S.length - (intOf (vs.getD 4 undef)).toNat) ⟨0, rfl, Nat.zero_le _, rfl, fun j h => by omega⟩ ?_
    rintro b vs m - ⟨k, rfl, hk, rfl, hall⟩
    by_cases hk2 : k < S.length
    · obtain ⟨D, hD⟩ : ∃ D, (Phi S ((k : Int) + c) - Phi S k) % (per : Int) = D := ⟨_, rfl⟩
      have hT := fam_turn L S per th ok k ((k : Int) + c)
      rw [hD] at hT
      by_cases hE : D = turnOf S per c
      · repeat (first | with_reducible (first | refine awp_seq ?_ | refine awp_region ?_ | refine awp_region_q (by kernel_rfl) (by kernel_rfl) ?_ | refine adr_nil ?_ | refine adr_end ?_ | refine aops_then ?_ | refine aops_nil ?_ | refine awp_block ?_ | refine awp_label ?_ | refine awp_scope ?_ | refine pn_scope ?_ | refine px_scope ?_ | refine pr_scope ?_ | refine px_then ?_ | refine px_block ?_ | refine px_block_ne rfl ?_ | refine pn_block ?_ | refine pn_then ?_ | refine pn_asg ?_ | refine pn_rnd ?_ | refine px_rnd ?_ | refine awp_exit ?_ | refine awp_skip ?_ | refine awp_ret ?_ | refine pr_then ?_ | refine pr_block ?_ | refine pr_rnd ?_ | refine pr_retM ?_ | refine pn_retM ?_ | refine pr_ret ?_ | refine pn_ret ?_) | refine awp_cond_t rfl rfl ?_ | refine awp_cond_f rfl rfl ?_ | ((first | apply aq (hd := rfl) (hok := rfl) (hw := rfl) | apply adr_q (ho := rfl) (hd := rfl) (hw := rfl)); (first | exact q_call fTurnF (fun w' hw' => htq w' hw' k ((k : Int) + c) (by omega) (by omega) _ hT) rfl rfl | exact q_move rfl (by conv => lhs; whnf) | exact q_assign rfl (by conv => lhs; whnf) | exact q_add rfl rfl rfl (by omega) | exact q_sub rfl rfl rfl (by omega) | exact q_neg rfl rfl (by omega) | exact q_rem_in rfl rfl rfl (by omega) | exact q_quo_in rfl rfl rfl (by omega) | exact q_lss_t rfl rfl rfl (by omega) | exact q_lss_f rfl rfl rfl (by omega) | exact q_leq_t rfl rfl rfl (by omega) | exact q_leq_f rfl rfl rfl (by omega) | exact q_gtr_t rfl rfl rfl (by omega) | exact q_gtr_f rfl rfl rfl (by omega) | exact q_geq_t rfl rfl rfl (by omega) | exact q_geq_f rfl rfl rfl (by omega) | exact q_eql_t rfl rfl rfl (by omega) | exact q_eql_f rfl rfl rfl (by omega) | exact q_neq_t rfl rfl rfl (by omega) | exact q_neq_f rfl rfl rfl (by omega) | exact q_int rfl rfl rfl rfl | exact q_not rfl rfl | exact q_pick_t rfl rfl (by conv => lhs; whnf) | exact q_pick_f rfl rfl (by conv => lhs; whnf) | exact q_extract rfl rfl rfl | exact q_max rfl rfl rfl | exact q_min rfl rfl rfl)) | refine ano rfl rfl rfl ?_ | refine adr_no rfl rfl rfl ?_)
        exact ⟨⟨k + 1, rfl, by omega, rfl, fun j hj => by
          rcases Nat.lt_or_ge j k with g | g
          · exact hall j g
          · obtain rfl : j = k := by omega
            rw [hD, hE]⟩, by show S.length - ((k : Int) + 1).toNat < S.length - (k : Int).toNat; omega⟩
      · repeat (first | with_reducible (first | refine awp_seq ?_ | refine awp_region ?_ | refine awp_region_q (by kernel_rfl) (by kernel_rfl) ?_ | refine adr_nil ?_ | refine adr_end ?_ | refine aops_then ?_ | refine aops_nil ?_ | refine awp_block ?_ | refine awp_label ?_ | refine awp_scope ?_ | refine pn_scope ?_ | refine px_scope ?_ | refine pr_scope ?_ | refine px_then ?_ | refine px_block ?_ | refine px_block_ne rfl ?_ | refine pn_block ?_ | refine pn_then ?_ | refine pn_asg ?_ | refine pn_rnd ?_ | refine px_rnd ?_ | refine awp_exit ?_ | refine awp_skip ?_ | refine awp_ret ?_ | refine pr_then ?_ | refine pr_block ?_ | refine pr_rnd ?_ | refine pr_retM ?_ | refine pn_retM ?_ | refine pr_ret ?_ | refine pn_ret ?_) | refine awp_cond_t rfl rfl ?_ | refine awp_cond_f rfl rfl ?_ | ((first | apply aq (hd := rfl) (hok := rfl) (hw := rfl) | apply adr_q (ho := rfl) (hd := rfl) (hw := rfl)); (first | exact q_call fTurnF (fun w' hw' => htq w' hw' k ((k : Int) + c) (by omega) (by omega) _ hT) rfl rfl | exact q_move rfl (by conv => lhs; whnf) | exact q_assign rfl (by conv => lhs; whnf) | exact q_add rfl rfl rfl (by omega) | exact q_sub rfl rfl rfl (by omega) | exact q_neg rfl rfl (by omega) | exact q_rem_in rfl rfl rfl (by omega) | exact q_quo_in rfl rfl rfl (by omega) | exact q_lss_t rfl rfl rfl (by omega) | exact q_lss_f rfl rfl rfl (by omega) | exact q_leq_t rfl rfl rfl (by omega) | exact q_leq_f rfl rfl rfl (by omega) | exact q_gtr_t rfl rfl rfl (by omega) | exact q_gtr_f rfl rfl rfl (by omega) | exact q_geq_t rfl rfl rfl (by omega) | exact q_geq_f rfl rfl rfl (by omega) | exact q_eql_t rfl rfl rfl (by omega) | exact q_eql_f rfl rfl rfl (by omega) | exact q_neq_t rfl rfl rfl (by omega) | exact q_neq_f rfl rfl rfl (by omega) | exact q_int rfl rfl rfl rfl | exact q_not rfl rfl | exact q_pick_t rfl rfl (by conv => lhs; whnf) | exact q_pick_f rfl rfl (by conv => lhs; whnf) | exact q_extract rfl rfl rfl | exact q_max rfl rfl rfl | exact q_min rfl rfl rfl)) | refine ano rfl rfl rfl ?_ | refine adr_no rfl rfl rfl ?_)
        have hag : again S per c = false := by
          rw [← alike_iff hlen.1]
          cases g : alike S per c
          · rfl
          · have := List.all_eq_true.1 g k (List.mem_range.2 hk2)
            have := of_decide_eq_true this
            rw [hD] at this
            exact absurd this hE
        exact ⟨⟨c + 1, rfl, by omega, by omega, rfl, fun t h1 h2 => by
          rcases Nat.lt_or_ge t c with g | g
          · exact hno t h1 g
          · obtain rfl : t = c := by omega
            exact hag⟩, by show S.length - ((c : Int) + 1).toNat < S.length - (c : Int).toNat; omega⟩
    · repeat (first | with_reducible (first | refine awp_seq ?_ | refine awp_region ?_ | refine awp_region_q (by kernel_rfl) (by kernel_rfl) ?_ | refine adr_nil ?_ | refine adr_end ?_ | refine aops_then ?_ | refine aops_nil ?_ | refine awp_block ?_ | refine awp_label ?_ | refine awp_scope ?_ | refine pn_scope ?_ | refine px_scope ?_ | refine pr_scope ?_ | refine px_then ?_ | refine px_block ?_ | refine px_block_ne rfl ?_ | refine pn_block ?_ | refine pn_then ?_ | refine pn_asg ?_ | refine pn_rnd ?_ | refine px_rnd ?_ | refine awp_exit ?_ | refine awp_skip ?_ | refine awp_ret ?_ | refine pr_then ?_ | refine pr_block ?_ | refine pr_rnd ?_ | refine pr_retM ?_ | refine pn_retM ?_ | refine pr_ret ?_ | refine pn_ret ?_) | refine awp_cond_t rfl rfl ?_ | refine awp_cond_f rfl rfl ?_ | ((first | apply aq (hd := rfl) (hok := rfl) (hw := rfl) | apply adr_q (ho := rfl) (hd := rfl) (hw := rfl)); (first | exact q_move rfl (by conv => lhs; whnf) | exact q_assign rfl (by conv => lhs; whnf) | exact q_add rfl rfl rfl (by omega) | exact q_sub rfl rfl rfl (by omega) | exact q_neg rfl rfl (by omega) | exact q_rem_in rfl rfl rfl (by omega) | exact q_quo_in rfl rfl rfl (by omega) | exact q_lss_t rfl rfl rfl (by omega) | exact q_lss_f rfl rfl rfl (by omega) | exact q_leq_t rfl rfl rfl (by omega) | exact q_leq_f rfl rfl rfl (by omega) | exact q_gtr_t rfl rfl rfl (by omega) | exact q_gtr_f rfl rfl rfl (by omega) | exact q_geq_t rfl rfl rfl (by omega) | exact q_geq_f rfl rfl rfl (by omega) | exact q_eql_t rfl rfl rfl (by omega) | exact q_eql_f rfl rfl rfl (by omega) | exact q_neq_t rfl rfl rfl (by omega) | exact q_neq_f rfl rfl rfl (by omega) | exact q_int rfl rfl rfl rfl | exact q_not rfl rfl | exact q_pick_t rfl rfl (by conv => lhs; whnf) | exact q_pick_f rfl rfl (by conv => lhs; whnf) | exact q_extract rfl rfl rfl | exact q_max rfl rfl rfl | exact q_min rfl rfl rfl)) | refine ano rfl rfl rfl ?_ | refine adr_no rfl rfl rfl ?_)
      obtain rfl : k = S.length := by omega
      have hag : again S per c = true := by
        rw [← alike_iff hlen.1]
        refine List.all_eq_true.2 fun j hj => decide_eq_true ?_
        exact hall j (List.mem_range.1 hj)
      obtain rfl : mo = c := hmo.eq ⟨hc1, hc2, fun _ => hag, hno⟩
      rfl
  · obtain rfl : c = S.length := by omega
    obtain rfl : mo = S.length := hmo.eq ⟨hc1, hc2, fun g => absurd g hlt, hno⟩
    repeat (first | with_reducible (first | refine awp_seq ?_ | refine awp_region ?_ | refine awp_region_q (by kernel_rfl) (by kernel_rfl) ?_ | refine adr_nil ?_ | refine adr_end ?_ | refine aops_then ?_ | refine aops_nil ?_ | refine awp_block ?_ | refine awp_label ?_ | refine awp_scope ?_ | refine pn_scope ?_ | refine px_scope ?_ | refine pr_scope ?_ | refine px_then ?_ | refine px_block ?_ | refine px_block_ne rfl ?_ | refine pn_block ?_ | refine pn_then ?_ | refine pn_asg ?_ | refine pn_rnd ?_ | refine px_rnd ?_ | refine awp_exit ?_ | refine awp_skip ?_ | refine awp_ret ?_ | refine pr_then ?_ | refine pr_block ?_ | refine pr_rnd ?_ | refine pr_retM ?_ | refine pn_retM ?_ | refine pr_ret ?_ | refine pn_ret ?_) | refine awp_cond_t rfl rfl ?_ | refine awp_cond_f rfl rfl ?_ | ((first | apply aq (hd := rfl) (hok := rfl) (hw := rfl) | apply adr_q (ho := rfl) (hd := rfl) (hw := rfl)); (first | exact q_nilCheck rfl rfl | exact q_FF rfl rfl (by decide) | exact q_ldW hc rfl rfl rfl iT.int rfl | exact q_ldW hc rfl rfl rfl iT.slice rfl | exact q_call fTurnF (fun w' hw' => htq w' hw' 0 S.length (by omega) (by omega) _ (h0 S.length)) rfl rfl | exact q_move rfl (by conv => lhs; whnf) | exact q_assign rfl (by conv => lhs; whnf) | exact q_add rfl rfl rfl (by omega) | exact q_sub rfl rfl rfl (by omega) | exact q_neg rfl rfl (by omega) | exact q_rem_in rfl rfl rfl (by omega) | exact q_quo_in rfl rfl rfl (by omega) | exact q_lss_t rfl rfl rfl (by omega) | exact q_lss_f rfl rfl rfl (by omega) | exact q_leq_t rfl rfl rfl (by omega) | exact q_leq_f rfl rfl rfl (by omega) | exact q_gtr_t rfl rfl rfl (by omega) | exact q_gtr_f rfl rfl rfl (by omega) | exact q_geq_t rfl rfl rfl (by omega) | exact q_geq_f rfl rfl rfl (by omega) | exact q_eql_t rfl rfl rfl (by omega) | exact q_eql_f rfl rfl rfl (by omega) | exact q_neq_t rfl rfl rfl (by omega) | exact q_neq_f rfl rfl rfl (by omega) | exact q_int rfl rfl rfl rfl | exact q_not rfl rfl | exact q_pick_t rfl rfl (by conv => lhs; whnf) | exact q_pick_f rfl rfl (by conv => lhs; whnf) | exact q_extract rfl rfl rfl | exact q_max rfl rfl rfl | exact q_min rfl rfl rfl)) | refine ano rfl rfl rfl ?_ | refine adr_no rfl rfl rfl ?_)
    rfl
/-- After how many cuts it closes. -/
def clo (S : List Int) (per mo : Nat) : Nat := mo * (per / Nat.gcd per (turnOf S per mo).toNat)
theorem closes_q (w : World) (v : Value) (L S : List Int) (per : Nat) (th : Int) (hf : FAM w Mem.none v L S per th) (ok : OKF L S per th) {mo : Nat} (hmo : IsMotif S per mo) :
    QCalls Try.prog 65 #[v] w (.int .i64 (clo S per mo)) := by
  have hmq := fun w' hw' => motif_q w' v L S per th (hf.at (W := w) (m := Mem.none) (w := w') hw') ok hmo
  have hlen := ok.len
  have hn := ok.n
  have hp1 := ok.per.1
  have hp2 := ok.per.2.1
  have hm1 := hmo.1
  have hm2 := hmo.2.1
  obtain ⟨B, vl, rfl, hc, hl⟩ := hf
  refine qcalls_of (acalls_of_body Try.func65 rfl (res1 rfl (by decide)) (Nat.le_of_ble_eq_true rfl) ?_)
  have htb := turnOf_bd S hp1 mo
  obtain ⟨t, ht⟩ : ∃ t : Nat, turnOf S per mo = t := ⟨(turnOf S per mo).toNat, by omega⟩
  unfold clo
  rw [ht] at htb hmq ⊢
  rw [Int.toNat_natCast]
  obtain ⟨g, hg⟩ : ∃ g, Nat.gcd per t = g := ⟨_, rfl⟩
  have hg1 : 1 ≤ g := by rw [← hg]; exact Nat.gcd_pos_of_pos_left _ hp1
  have hgd : g ∣ per := by rw [← hg]; exact Nat.gcd_dvd_left _ _
  rw [hg]
  obtain ⟨X, hX⟩ : ∃ X : Int, (mo : Int) * (per : Int) = X := ⟨_, rfl⟩
  have hXb := mul_bd (a := mo) (b := per) (A := 12) (B := 96) (by omega) (by omega)
  have hX0 : 0 ≤ X := by rw [← hX, ← Int.natCast_mul]; omega
  rw [hX] at hXb
  have hQ : X.tdiv (g : Int) = ((mo * (per / g) : Nat) : Int) := by
    rw [Int.tdiv_eq_ediv_of_nonneg hX0, ← hX, ← Int.natCast_mul, ← Int.natCast_ediv, Nat.mul_div_assoc _ hgd]
  repeat (first | with_reducible (first | refine awp_seq ?_ | refine awp_region ?_ | refine awp_region_q (by kernel_rfl) (by kernel_rfl) ?_ | refine adr_nil ?_ | refine adr_end ?_ | refine aops_then ?_ | refine aops_nil ?_ | refine awp_block ?_ | refine awp_label ?_ | refine awp_scope ?_ | refine pn_scope ?_ | refine px_scope ?_ | refine pr_scope ?_ | refine px_then ?_ | refine px_block ?_ | refine px_block_ne rfl ?_ | refine pn_block ?_ | refine pn_then ?_ | refine pn_asg ?_ | refine pn_rnd ?_ | refine px_rnd ?_ | refine awp_exit ?_ | refine awp_skip ?_ | refine awp_ret ?_ | refine pr_then ?_ | refine pr_block ?_ | refine pr_rnd ?_ | refine pr_retM ?_ | refine pn_retM ?_ | refine pr_ret ?_ | refine pn_ret ?_) | refine awp_cond_t rfl rfl ?_ | refine awp_cond_f rfl rfl ?_ | ((first | apply aq (hd := rfl) (hok := rfl) (hw := rfl) | apply adr_q (ho := rfl) (hd := rfl) (hw := rfl)); (first | exact q_nilCheck rfl rfl | exact q_FF rfl rfl (by decide) | exact q_ldW hc rfl rfl rfl iT.int rfl | exact q_ldW hc rfl rfl rfl iT.slice rfl | exact q_call fMotifF (fun w' hw' => hmq w' hw') rfl rfl | exact q_mulX hX rfl rfl rfl (by omega) | exact q_call fDivisor (fun w' _ => divisor_q w' per t (by omega) (by omega) hg) rfl rfl | exact q_quoX hQ rfl rfl rfl (by omega) (by omega) | exact q_move rfl (by conv => lhs; whnf) | exact q_assign rfl (by conv => lhs; whnf) | exact q_add rfl rfl rfl (by omega) | exact q_sub rfl rfl rfl (by omega) | exact q_neg rfl rfl (by omega) | exact q_rem_in rfl rfl rfl (by omega) | exact q_quo_in rfl rfl rfl (by omega) | exact q_lss_t rfl rfl rfl (by omega) | exact q_lss_f rfl rfl rfl (by omega) | exact q_leq_t rfl rfl rfl (by omega) | exact q_leq_f rfl rfl rfl (by omega) | exact q_gtr_t rfl rfl rfl (by omega) | exact q_gtr_f rfl rfl rfl (by omega) | exact q_geq_t rfl rfl rfl (by omega) | exact q_geq_f rfl rfl rfl (by omega) | exact q_eql_t rfl rfl rfl (by omega) | exact q_eql_f rfl rfl rfl (by omega) | exact q_neq_t rfl rfl rfl (by omega) | exact q_neq_f rfl rfl rfl (by omega) | exact q_int rfl rfl rfl rfl | exact q_not rfl rfl | exact q_pick_t rfl rfl (by conv => lhs; whnf) | exact q_pick_f rfl rfl (by conv => lhs; whnf) | exact q_extract rfl rfl rfl | exact q_max rfl rfl rfl | exact q_min rfl rfl rfl)) | refine ano rfl rfl rfl ?_ | refine adr_no rfl rfl rfl ?_)
  rfl
/-- How many of the motif's shifts change the shape. -/
def chg (S : List Int) (per k : Nat) : Nat := ((List.range k).filter fun j => !decide (S.getD j 0 % (per : Int) = 0)).length
theorem chg_le (S : List Int) (per k : Nat) : chg S per k ≤ k := by
  unfold chg
  exact Nat.le_trans (List.length_filter_le _ _) (by simp)
theorem chg_succ (S : List Int) (per k : Nat) : chg S per (k + 1) = chg S per k + if S.getD k 0 % (per : Int) = 0 then 0 else 1 := by
  unfold chg
  rw [List.range_succ, List.filter_append, List.length_append]
  congr 1
  by_cases h : S.getD k 0 % (per : Int) = 0
  · rw [if_pos h]; simp at h; simp [h]
  · rw [if_neg h]; simp at h; simp [h]
theorem changes_q (w : World) (v : Value) (L S : List Int) (per : Nat) (th : Int) (hf : FAM w Mem.none v L S per th) (ok : OKF L S per th) {mo : Nat} (hmo : IsMotif S per mo) :
    QCalls Try.prog 69 #[v] w (.int .i64 (chg S per mo)) := by
  have hmq := fun w' hw' => motif_q w' v L S per th (hf.at (W := w) (m := Mem.none) (w := w') hw') ok hmo
  have htq := fun w' hw' j k hj hk r hr => turn_q w' v L S per th (hf.at (W := w) (m := Mem.none) (w := w') hw') ok j k hj hk (r := r) hr
  have hlen := ok.len
  have hm2 := hmo.2.1
  refine qcalls_of (acalls_of_body Try.func69 rfl (res1 rfl (by decide)) (Nat.le_of_ble_eq_true rfl) ?_)
  repeat (first | with_reducible (first | refine awp_seq ?_ | refine awp_region ?_ | refine awp_region_q (by kernel_rfl) (by kernel_rfl) ?_ | refine adr_nil ?_ | refine adr_end ?_ | refine aops_then ?_ | refine aops_nil ?_ | refine awp_block ?_ | refine awp_label ?_ | refine awp_scope ?_ | refine pn_scope ?_ | refine px_scope ?_ | refine pr_scope ?_ | refine px_then ?_ | refine px_block ?_ | refine px_block_ne rfl ?_ | refine pn_block ?_ | refine pn_then ?_ | refine pn_asg ?_ | refine pn_rnd ?_ | refine px_rnd ?_ | refine awp_exit ?_ | refine awp_skip ?_ | refine awp_ret ?_ | refine pr_then ?_ | refine pr_block ?_ | refine pr_rnd ?_ | refine pr_retM ?_ | refine pn_retM ?_ | refine pr_ret ?_ | refine pn_ret ?_) | refine awp_cond_t rfl rfl ?_ | refine awp_cond_f rfl rfl ?_ | ((first | apply aq (hd := rfl) (hok := rfl) (hw := rfl) | apply adr_q (ho := rfl) (hd := rfl) (hw := rfl)); (first | exact q_call fMotifF (fun w' hw' => hmq w' hw') rfl rfl | exact q_move rfl (by conv => lhs; whnf) | exact q_assign rfl (by conv => lhs; whnf) | exact q_add rfl rfl rfl (by omega) | exact q_sub rfl rfl rfl (by omega) | exact q_neg rfl rfl (by omega) | exact q_rem_in rfl rfl rfl (by omega) | exact q_quo_in rfl rfl rfl (by omega) | exact q_lss_t rfl rfl rfl (by omega) | exact q_lss_f rfl rfl rfl (by omega) | exact q_leq_t rfl rfl rfl (by omega) | exact q_leq_f rfl rfl rfl (by omega) | exact q_gtr_t rfl rfl rfl (by omega) | exact q_gtr_f rfl rfl rfl (by omega) | exact q_geq_t rfl rfl rfl (by omega) | exact q_geq_f rfl rfl rfl (by omega) | exact q_eql_t rfl rfl rfl (by omega) | exact q_eql_f rfl rfl rfl (by omega) | exact q_neq_t rfl rfl rfl (by omega) | exact q_neq_f rfl rfl rfl (by omega) | exact q_int rfl rfl rfl rfl | exact q_not rfl rfl | exact q_pick_t rfl rfl (by conv => lhs; whnf) | exact q_pick_f rfl rfl (by conv => lhs; whnf) | exact q_extract rfl rfl rfl | exact q_max rfl rfl rfl | exact q_min rfl rfl rfl)) | refine ano rfl rfl rfl ?_ | refine adr_no rfl rfl rfl ?_)
  refine awp_loop [0, 5, 12, 13] (fun vs m => ∃ k : Nat, vs = [v, .int .i64 (chg S per k), .int .i64 mo, .int .i64 k] ∧ k ≤ mo ∧ m = Mem.none)
    (fun vs _ => mo - (intOf (vs.getD 3 undef)).toNat) ⟨0, rfl, Nat.zero_le _, rfl⟩ ?_
  rintro b vs m - ⟨k, rfl, hk, rfl⟩
  have hcl := chg_le S per k
  by_cases hlt : k < mo
  · have hcs := chg_succ S per k
    obtain ⟨D, hD⟩ : ∃ D, S.getD k 0 % (per : Int) = D := ⟨_, rfl⟩
    have hT := fam_turn L S per th ok k ((k : Int) + 1)
    have hP := step_mod hlen.1 k
    rw [Nat.mod_eq_of_lt (show k < S.length by omega)] at hP
    rw [hP, show Phi S k + S.getD k 0 - Phi S k = S.getD k 0 by omega, hD] at hT
    rw [hD] at hcs
    by_cases h0 : D = 0
    · rw [if_pos h0] at hcs
      repeat (first | with_reducible (first | refine awp_seq ?_ | refine awp_region ?_ | refine awp_region_q (by kernel_rfl) (by kernel_rfl) ?_ | refine adr_nil ?_ | refine adr_end ?_ | refine aops_then ?_ | refine aops_nil ?_ | refine awp_block ?_ | refine awp_label ?_ | refine awp_scope ?_ | refine pn_scope ?_ | refine px_scope ?_ | refine pr_scope ?_ | refine px_then ?_ | refine px_block ?_ | refine px_block_ne rfl ?_ | refine pn_block ?_ | refine pn_then ?_ | refine pn_asg ?_ | refine pn_rnd ?_ | refine px_rnd ?_ | refine awp_exit ?_ | refine awp_skip ?_ | refine awp_ret ?_ | refine pr_then ?_ | refine pr_block ?_ | refine pr_rnd ?_ | refine pr_retM ?_ | refine pn_retM ?_ | refine pr_ret ?_ | refine pn_ret ?_) | refine awp_cond_t rfl rfl ?_ | refine awp_cond_f rfl rfl ?_ | ((first | apply aq (hd := rfl) (hok := rfl) (hw := rfl) | apply adr_q (ho := rfl) (hd := rfl) (hw := rfl)); (first | exact q_call fTurnF (fun w' hw' => htq w' hw' k ((k : Int) + 1) (by omega) (by omega) _ hT) rfl rfl | exact q_move rfl (by conv => lhs; whnf) | exact q_assign rfl (by conv => lhs; whnf) | exact q_add rfl rfl rfl (by omega) | exact q_sub rfl rfl rfl (by omega) | exact q_neg rfl rfl (by omega) | exact q_rem_in rfl rfl rfl (by omega) | exact q_quo_in rfl rfl rfl (by omega) | exact q_lss_t rfl rfl rfl (by omega) | exact q_lss_f rfl rfl rfl (by omega) | exact q_leq_t rfl rfl rfl (by omega) | exact q_leq_f rfl rfl rfl (by omega) | exact q_gtr_t rfl rfl rfl (by omega) | exact q_gtr_f rfl rfl rfl (by omega) | exact q_geq_t rfl rfl rfl (by omega) | exact q_geq_f rfl rfl rfl (by omega) | exact q_eql_t rfl rfl rfl (by omega) | exact q_eql_f rfl rfl rfl (by omega) | exact q_neq_t rfl rfl rfl (by omega) | exact q_neq_f rfl rfl rfl (by omega) | exact q_int rfl rfl rfl rfl | exact q_not rfl rfl | exact q_pick_t rfl rfl (by conv => lhs; whnf) | exact q_pick_f rfl rfl (by conv => lhs; whnf) | exact q_extract rfl rfl rfl | exact q_max rfl rfl rfl | exact q_min rfl rfl rfl)) | refine ano rfl rfl rfl ?_ | refine adr_no rfl rfl rfl ?_)
      exact ⟨⟨k + 1, by rw [hcs]; rfl, by omega, rfl⟩, by show mo - ((k : Int) + 1).toNat < mo - (k : Int).toNat; omega⟩
    · rw [if_neg h0] at hcs
      repeat (first | with_reducible (first | refine awp_seq ?_ | refine awp_region ?_ | refine awp_region_q (by kernel_rfl) (by kernel_rfl) ?_ | refine adr_nil ?_ | refine adr_end ?_ | refine aops_then ?_ | refine aops_nil ?_ | refine awp_block ?_ | refine awp_label ?_ | refine awp_scope ?_ | refine pn_scope ?_ | refine px_scope ?_ | refine pr_scope ?_ | refine px_then ?_ | refine px_block ?_ | refine px_block_ne rfl ?_ | refine pn_block ?_ | refine pn_then ?_ | refine pn_asg ?_ | refine pn_rnd ?_ | refine px_rnd ?_ | refine awp_exit ?_ | refine awp_skip ?_ | refine awp_ret ?_ | refine pr_then ?_ | refine pr_block ?_ | refine pr_rnd ?_ | refine pr_retM ?_ | refine pn_retM ?_ | refine pr_ret ?_ | refine pn_ret ?_) | refine awp_cond_t rfl rfl ?_ | refine awp_cond_f rfl rfl ?_ | ((first | apply aq (hd := rfl) (hok := rfl) (hw := rfl) | apply adr_q (ho := rfl) (hd := rfl) (hw := rfl)); (first | exact q_call fTurnF (fun w' hw' => htq w' hw' k ((k : Int) + 1) (by omega) (by omega) _ hT) rfl rfl | exact q_move rfl (by conv => lhs; whnf) | exact q_assign rfl (by conv => lhs; whnf) | exact q_add rfl rfl rfl (by omega) | exact q_sub rfl rfl rfl (by omega) | exact q_neg rfl rfl (by omega) | exact q_rem_in rfl rfl rfl (by omega) | exact q_quo_in rfl rfl rfl (by omega) | exact q_lss_t rfl rfl rfl (by omega) | exact q_lss_f rfl rfl rfl (by omega) | exact q_leq_t rfl rfl rfl (by omega) | exact q_leq_f rfl rfl rfl (by omega) | exact q_gtr_t rfl rfl rfl (by omega) | exact q_gtr_f rfl rfl rfl (by omega) | exact q_geq_t rfl rfl rfl (by omega) | exact q_geq_f rfl rfl rfl (by omega) | exact q_eql_t rfl rfl rfl (by omega) | exact q_eql_f rfl rfl rfl (by omega) | exact q_neq_t rfl rfl rfl (by omega) | exact q_neq_f rfl rfl rfl (by omega) | exact q_int rfl rfl rfl rfl | exact q_not rfl rfl | exact q_pick_t rfl rfl (by conv => lhs; whnf) | exact q_pick_f rfl rfl (by conv => lhs; whnf) | exact q_extract rfl rfl rfl | exact q_max rfl rfl rfl | exact q_min rfl rfl rfl)) | refine ano rfl rfl rfl ?_ | refine adr_no rfl rfl rfl ?_)
      exact ⟨⟨k + 1, by rw [hcs]; rfl, by omega, rfl⟩, by show mo - ((k : Int) + 1).toNat < mo - (k : Int).toNat; omega⟩
  · repeat (first | with_reducible (first | refine awp_seq ?_ | refine awp_region ?_ | refine awp_region_q (by kernel_rfl) (by kernel_rfl) ?_ | refine adr_nil ?_ | refine adr_end ?_ | refine aops_then ?_ | refine aops_nil ?_ | refine awp_block ?_ | refine awp_label ?_ | refine awp_scope ?_ | refine pn_scope ?_ | refine px_scope ?_ | refine pr_scope ?_ | refine px_then ?_ | refine px_block ?_ | refine px_block_ne rfl ?_ | refine pn_block ?_ | refine pn_then ?_ | refine pn_asg ?_ | refine pn_rnd ?_ | refine px_rnd ?_ | refine awp_exit ?_ | refine awp_skip ?_ | refine awp_ret ?_ | refine pr_then ?_ | refine pr_block ?_ | refine pr_rnd ?_ | refine pr_retM ?_ | refine pn_retM ?_ | refine pr_ret ?_ | refine pn_ret ?_) | refine awp_cond_t rfl rfl ?_ | refine awp_cond_f rfl rfl ?_ | ((first | apply aq (hd := rfl) (hok := rfl) (hw := rfl) | apply adr_q (ho := rfl) (hd := rfl) (hw := rfl)); (first | exact q_move rfl (by conv => lhs; whnf) | exact q_assign rfl (by conv => lhs; whnf) | exact q_add rfl rfl rfl (by omega) | exact q_sub rfl rfl rfl (by omega) | exact q_neg rfl rfl (by omega) | exact q_rem_in rfl rfl rfl (by omega) | exact q_quo_in rfl rfl rfl (by omega) | exact q_lss_t rfl rfl rfl (by omega) | exact q_lss_f rfl rfl rfl (by omega) | exact q_leq_t rfl rfl rfl (by omega) | exact q_leq_f rfl rfl rfl (by omega) | exact q_gtr_t rfl rfl rfl (by omega) | exact q_gtr_f rfl rfl rfl (by omega) | exact q_geq_t rfl rfl rfl (by omega) | exact q_geq_f rfl rfl rfl (by omega) | exact q_eql_t rfl rfl rfl (by omega) | exact q_eql_f rfl rfl rfl (by omega) | exact q_neq_t rfl rfl rfl (by omega) | exact q_neq_f rfl rfl rfl (by omega) | exact q_int rfl rfl rfl rfl | exact q_not rfl rfl | exact q_pick_t rfl rfl (by conv => lhs; whnf) | exact q_pick_f rfl rfl (by conv => lhs; whnf) | exact q_extract rfl rfl rfl | exact q_max rfl rfl rfl | exact q_min rfl rfl rfl)) | refine ano rfl rfl rfl ?_ | refine adr_no rfl rfl rfl ?_)
    obtain rfl : k = mo := by omega
    rfl
end Go.R04
