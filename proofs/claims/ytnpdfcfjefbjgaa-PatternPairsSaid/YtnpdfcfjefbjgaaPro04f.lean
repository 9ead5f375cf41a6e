import Derived.Test.YtnpdfcfjefbjgaaRef04e
set_option linter.unusedSectionVars false
set_option linter.unusedSimpArgs false
set_option linter.unusedVariables false
/-! Layer 4: two programs together. -/
namespace Go.R04
open Go Go.Abs Go.RowKit Go.Proofs Go.R03
set_option maxRecDepth 20000
set_option maxHeartbeats 4000000
attribute [local irreducible] AWp AOps ADr AAny thenQ blockQ retQ asgQ rndQ
set_option linter.unusedVariables false
set_option linter.unusedSectionVars false
theorem fMultiple : Fun Try.prog 73 := ⟨_, _, Try.func73, rfl, by kernel_rfl⟩
theorem fBeats : Fun Try.prog 74 := ⟨_, _, Try.func74, rfl, by kernel_rfl⟩
theorem fMoireP : Fun Try.prog 35 := ⟨_, _, Try.func35, rfl, by kernel_rfl⟩
theorem fMoire4 : Fun Try.prog 36 := ⟨_, _, Try.func36, rfl, by kernel_rfl⟩
theorem fGcd2 : Fun Try.prog 48 := ⟨_, _, Try.func48, rfl, by kernel_rfl⟩
def lcmN (a b : Nat) : Nat := a / Nat.gcd a b * b
theorem lcmN_le {a b : Nat} (h : 1 ≤ a) : lcmN a b ≤ a * b := Nat.mul_le_mul_right _ (Nat.div_le_self _ _)
theorem lcmN_pos {a b : Nat} (ha : 1 ≤ a) (hb : 1 ≤ b) : 1 ≤ lcmN a b := by
  have h1 : 0 < Nat.gcd a b := Nat.gcd_pos_of_pos_left _ ha
  have h2 := Nat.div_pos (Nat.le_of_dvd ha (Nat.gcd_dvd_left a b)) h1
  exact Nat.mul_pos h2 hb
theorem lcmN_dvd (a b : Nat) : lcmN a b ∣ a * b := by
  obtain ⟨x, hx⟩ := Nat.gcd_dvd_left a b
  refine ⟨Nat.gcd a b, ?_⟩
  unfold lcmN
  rw [Nat.mul_right_comm, Nat.div_mul_cancel (Nat.gcd_dvd_left a b)]
theorem lcmN_left (a b : Nat) : ∃ k, lcmN a b = a * k := by
  refine ⟨b / Nat.gcd a b, ?_⟩
  unfold lcmN
  rw [← Nat.mul_div_assoc _ (Nat.gcd_dvd_right a b), Nat.div_mul_right_comm (Nat.gcd_dvd_left a b)]
theorem lcmN_right (a b : Nat) : ∃ k, lcmN a b = b * k := ⟨a / Nat.gcd a b, Nat.mul_comm _ _⟩
/-- The difference of the phases of two programs' cuts. -/
def DD (S U : List Int) (g : Nat) (j : Nat) : Nat := ((Phi S j - Phi U j) % (g : Int)).toNat
theorem DD_int (S U : List Int) {g : Nat} (hg : 1 ≤ g) (j : Nat) : (Phi S j - Phi U j) % (g : Int) = (DD S U g j : Nat) := by
  have := Int.emod_nonneg (Phi S j - Phi U j) (show (g : Int) ≠ 0 by omega)
  unfold DD; omega
theorem DD_lt (S U : List Int) {g : Nat} (hg : 1 ≤ g) (j : Nat) : DD S U g j < g := by
  have := Int.emod_lt_of_pos (Phi S j - Phi U j) (show 0 < (g : Int) by omega)
  have := DD_int S U hg j
  omega
theorem DD_period {S U : List Int} (hS : 1 ≤ S.length) (hU : 1 ≤ U.length) (g j : Nat) : DD S U g (j + lcmN S.length U.length * g) = DD S U g j := by
  obtain ⟨a, ha⟩ := lcmN_left S.length U.length
  obtain ⟨b, hb⟩ := lcmN_right S.length U.length
  unfold DD
  congr 1
  apply emod_of_dvd
  have e1 : Phi S ((j + lcmN S.length U.length * g : Nat) : Int) = Phi S j + (a * g : Nat) * S.sum := by
    rw [← Phi_add_mul hS, ha, Nat.mul_assoc, Int.natCast_add, Int.natCast_mul]
  have e2 : Phi U ((j + lcmN S.length U.length * g : Nat) : Int) = Phi U j + (b * g : Nat) * U.sum := by
    rw [← Phi_add_mul hU, hb, Nat.mul_assoc, Int.natCast_add, Int.natCast_mul]
  rw [e1, e2]
  refine ⟨a * S.sum - b * U.sum, ?_⟩
  rw [Int.mul_sub, Int.natCast_mul, Int.natCast_mul, Int.mul_comm (a : Int) g, Int.mul_comm (b : Int) g, Int.mul_assoc, Int.mul_assoc]
  omega
def beat (S U : List Int) (p q : Nat) : Nat := cnt (DD S U (Nat.gcd p q)) (Nat.gcd p q) (lcmN S.length U.length * Nat.gcd p q)
/-- What Moire gives. -/
def moi (E1 E2 : Int) (n1 n2 : Nat) (x y : Int) : Value := if E1 ≠ 0 then .tuple #[.int .i64 0, .int .i64 0, .int .i64 E1] else if E2 ≠ 0 then .tuple #[.int .i64 0, .int .i64 0, .int .i64 E2]
  else if n1 ≠ n2 then .tuple #[.int .i64 0, .int .i64 0, .int .i64 2] else .tuple #[.int .i64 x, .int .i64 y, .int .i64 0]
theorem multiple_q (w : World) (a b : Nat) (ha : 1 ≤ a ∧ a ≤ 1000000) (hb : 1 ≤ b ∧ b ≤ 1000000) : QCalls Try.prog 73 #[.int .i64 a, .int .i64 b] w (.int .i64 (lcmN a b)) := by
  refine qcalls_of (acalls_of_body Try.func73 rfl (res1 rfl (by decide)) (Nat.le_of_ble_eq_true rfl) ?_)
  obtain ⟨g, hg⟩ : ∃ g, Nat.gcd a b = g := ⟨_, rfl⟩
  have hg1 : 1 ≤ g := by rw [← hg]; exact Nat.gcd_pos_of_pos_left _ ha.1
  obtain ⟨k, hk⟩ : ∃ k, a / g = k := ⟨_, rfl⟩
  have hkb : k ≤ 1000000 := by rw [← hk]; exact Nat.le_trans (Nat.div_le_self _ _) ha.2
  have hk1 : (a : Int).tdiv (g : Int) = (k : Int) := by rw [Int.tdiv_eq_ediv_of_nonneg (by omega), ← Int.natCast_ediv, hk]
  obtain ⟨X, hX⟩ : ∃ X : Int, (k : Int) * (b : Int) = X := ⟨_, rfl⟩
  have hXb := mul_bd (a := k) (b := b) (A := 1000000) (B := 1000000) (by omega) (by omega)
  rw [hX] at hXb
  repeat (first | with_reducible (first | refine awp_seq ?_ | refine awp_region ?_ | refine awp_region_q (by kernel_rfl) (by kernel_rfl) ?_ | refine adr_nil ?_ | refine adr_end ?_ | refine aops_then ?_ | refine aops_nil ?_ | refine awp_block ?_ | refine awp_label ?_ | refine awp_scope ?_ | refine pn_scope ?_ | refine px_scope ?_ | refine pr_scope ?_ | refine px_then ?_ | refine px_block ?_ | refine px_block_ne rfl ?_ | refine pn_block ?_ | refine pn_then ?_ | refine pn_asg ?_ | refine pn_rnd ?_ | refine px_rnd ?_ | refine awp_exit ?_ | refine awp_skip ?_ | refine awp_ret ?_ | refine pr_then ?_ | refine pr_block ?_ | refine pr_rnd ?_ | refine pr_retM ?_ | refine pn_retM ?_ | refine pr_ret ?_ | refine pn_ret ?_) | refine awp_cond_t rfl rfl ?_ | refine awp_cond_f rfl rfl ?_ | ((first | apply aq (hd := rfl) (hok := rfl) (hw := rfl) | apply adr_q (ho := rfl) (hd := rfl) (hw := rfl)); (first | exact q_call fDivisor (fun w' _ => divisor_q w' a b (by omega) (by omega) hg) rfl rfl | exact q_quoX hk1 rfl rfl rfl (by omega) (by omega) | exact q_mulX hX rfl rfl rfl (by omega) | exact q_move rfl (by conv => lhs; whnf) | exact q_assign rfl (by conv => lhs; whnf) | exact q_add rfl rfl rfl (by omega) | exact q_sub rfl rfl rfl (by omega) | exact q_neg rfl rfl (by omega) | exact q_rem_in rfl rfl rfl (by omega) | exact q_quo_in rfl rfl rfl (by omega) | exact q_lss_t rfl rfl rfl (by omega) | exact q_lss_f rfl rfl rfl (by omega) | exact q_leq_t rfl rfl rfl (by omega) | exact q_leq_f rfl rfl rfl (by omega) | exact q_gtr_t rfl rfl rfl (by omega) | exact q_gtr_f rfl rfl rfl (by omega) | exact q_geq_t rfl rfl rfl (by omega) | exact q_geq_f rfl rfl rfl (by omega) | exact q_eql_t rfl rfl rfl (by omega) | exact q_eql_f rfl rfl rfl (by omega) | exact q_neq_t rfl rfl rfl (by omega) | exact q_neq_f rfl rfl rfl (by omega) | exact q_int rfl rfl rfl rfl | exact q_not rfl rfl | exact q_pick_t rfl rfl (by conv => lhs; whnf) | exact q_pick_f rfl rfl (by conv => lhs; whnf) | exact q_extract rfl rfl rfl | exact q_max rfl rfl rfl | exact q_min rfl rfl rfl)) | refine ano rfl rfl rfl ?_ | refine adr_no rfl rfl rfl ?_)
  show Value.int .i64 _ = Value.int .i64 _
  rw [← hX, ← Int.natCast_mul]; unfold lcmN; rw [hg, hk]
theorem gcd2_q (w : World) (a b : Nat) (ha : a ≤ 1000000000) (hb : b ≤ 1000000000) {g : Nat} (hg : Nat.gcd a b = g) : QCalls Try.prog 48 #[.int .i64 a, .int .i64 b] w (.int .i64 g) := by
  subst hg
  refine qcalls_of (acalls_of_body Try.func48 rfl (res1 rfl (by decide)) (Nat.le_of_ble_eq_true rfl) ?_)
  repeat (first | with_reducible (first | refine awp_seq ?_ | refine awp_region ?_ | refine awp_region_q (by kernel_rfl) (by kernel_rfl) ?_ | refine adr_nil ?_ | refine adr_end ?_ | refine aops_then ?_ | refine aops_nil ?_ | refine awp_block ?_ | refine awp_label ?_ | refine awp_scope ?_ | refine pn_scope ?_ | refine px_scope ?_ | refine pr_scope ?_ | refine px_then ?_ | refine px_block ?_ | refine px_block_ne rfl ?_ | refine pn_block ?_ | refine pn_then ?_ | refine pn_asg ?_ | refine pn_rnd ?_ | refine px_rnd ?_ | refine awp_exit ?_ | refine awp_skip ?_ | refine awp_ret ?_ | refine pr_then ?_ | refine pr_block ?_ | refine pr_rnd ?_ | refine pr_retM ?_ | refine pn_retM ?_ | refine pr_ret ?_ | refine pn_ret ?_) | refine awp_cond_t rfl rfl ?_ | refine awp_cond_f rfl rfl ?_ | ((first | apply aq (hd := rfl) (hok := rfl) (hw := rfl) | apply adr_q (ho := rfl) (hd := rfl) (hw := rfl)); (first | exact q_move rfl (by conv => lhs; whnf) | exact q_assign rfl (by conv => lhs; whnf) | exact q_add rfl rfl rfl (by omega) | exact q_sub rfl rfl rfl (by omega) | exact q_neg rfl rfl (by omega) | exact q_rem_in rfl rfl rfl (by omega) | exact q_quo_in rfl rfl rfl (by omega) | exact q_lss_t rfl rfl rfl (by omega) | exact q_lss_f rfl rfl rfl (by omega) | exact q_leq_t rfl rfl rfl (by omega) | exact q_leq_f rfl rfl rfl (by omega) | exact q_gtr_t rfl rfl rfl (by omega) | exact q_gtr_f rfl rfl rfl (by omega) | exact q_geq_t rfl rfl rfl (by omega) | exact q_geq_f rfl rfl rfl (by omega) | exact q_eql_t rfl rfl rfl (by omega) | exact q_eql_f rfl rfl rfl (by omega) | exact q_neq_t rfl rfl rfl (by omega) | exact q_neq_f rfl rfl rfl (by omega) | exact q_int rfl rfl rfl rfl | exact q_not rfl rfl | exact q_pick_t rfl rfl (by conv => lhs; whnf) | exact q_pick_f rfl rfl (by conv => lhs; whnf) | exact q_extract rfl rfl rfl | exact q_max rfl rfl rfl | exact q_min rfl rfl rfl)) | refine ano rfl rfl rfl ?_ | refine adr_no rfl rfl rfl ?_)
  refine awp_loop [0, 1] (fun vs m => ∃ x y : Nat, vs = [.int .i64 x, .int .i64 y] ∧ x ≤ 1000000000 ∧ y ≤ 1000000000 ∧ Nat.gcd x y = Nat.gcd a b ∧ m = Mem.none) (fun vs _ => (intOf (vs.getD 1 undef)).toNat) ⟨a, b, rfl, ha, hb, rfl, rfl⟩ ?_
  rintro fr vs m - ⟨x, y, rfl, hx, hy, hg, rfl⟩
  by_cases h0 : y = 0
  · subst h0
    repeat (first | with_reducible (first | refine awp_seq ?_ | refine awp_region ?_ | refine awp_region_q (by kernel_rfl) (by kernel_rfl) ?_ | refine adr_nil ?_ | refine adr_end ?_ | refine aops_then ?_ | refine aops_nil ?_ | refine awp_block ?_ | refine awp_label ?_ | refine awp_scope ?_ | refine pn_scope ?_ | refine px_scope ?_ | refine pr_scope ?_ | refine px_then ?_ | refine px_block ?_ | refine px_block_ne rfl ?_ | refine pn_block ?_ | refine pn_then ?_ | refine pn_asg ?_ | refine pn_rnd ?_ | refine px_rnd ?_ | refine awp_exit ?_ | refine awp_skip ?_ | refine awp_ret ?_ | refine pr_then ?_ | refine pr_block ?_ | refine pr_rnd ?_ | refine pr_retM ?_ | refine pn_retM ?_ | refine pr_ret ?_ | refine pn_ret ?_) | refine awp_cond_t rfl rfl ?_ | refine awp_cond_f rfl rfl ?_ | ((first | apply aq (hd := rfl) (hok := rfl) (hw := rfl) | apply adr_q (ho := rfl) (hd := rfl) (hw := rfl)); (first | exact q_move rfl (by conv => lhs; whnf) | exact q_assign rfl (by conv => lhs; whnf) | exact q_add rfl rfl rfl (by omega) | exact q_sub rfl rfl rfl (by omega) | exact q_neg rfl rfl (by omega) | exact q_rem_in rfl rfl rfl (by omega) | exact q_quo_in rfl rfl rfl (by omega) | exact q_lss_t rfl rfl rfl (by omega) | exact q_lss_f rfl rfl rfl (by omega) | exact q_leq_t rfl rfl rfl (by omega) | exact q_leq_f rfl rfl rfl (by omega) | exact q_gtr_t rfl rfl rfl (by omega) | exact q_gtr_f rfl rfl rfl (by omega) | exact q_geq_t rfl rfl rfl (by omega) | exact q_geq_f rfl rfl rfl (by omega) | exact q_eql_t rfl rfl rfl (by omega) | exact q_eql_f rfl rfl rfl (by omega) | exact q_neq_t rfl rfl rfl (by omega) | exact q_neq_f rfl rfl rfl (by omega) | exact q_int rfl rfl rfl rfl | exact q_not rfl rfl | exact q_pick_t rfl rfl (by conv => lhs; whnf) | exact q_pick_f rfl rfl (by conv => lhs; whnf) | exact q_extract rfl rfl rfl | exact q_max rfl rfl rfl | exact q_min rfl rfl rfl)) | refine ano rfl rfl rfl ?_ | refine adr_no rfl rfl rfl ?_)
    rw [Nat.gcd_zero_right] at hg
    show Value.int .i64 _ = Value.int .i64 _
    rw [hg]
  · have hr : (x : Int) % (y : Int) = ((x % y : Nat) : Int) := (Int.natCast_emod x y).symm
    have hlt := Nat.mod_lt x (show y > 0 by omega)
    have hr2 : (x : Int).tmod (y : Int) = ((x % y : Nat) : Int) := by rw [Int.tmod_eq_emod_of_nonneg (by omega)]; exact hr
    clear hr
    repeat (first | with_reducible (first | refine awp_seq ?_ | refine awp_region ?_ | refine awp_region_q (by kernel_rfl) (by kernel_rfl) ?_ | refine adr_nil ?_ | refine adr_end ?_ | refine aops_then ?_ | refine aops_nil ?_ | refine awp_block ?_ | refine awp_label ?_ | refine awp_scope ?_ | refine pn_scope ?_ | refine px_scope ?_ | refine pr_scope ?_ | refine px_then ?_ | refine px_block ?_ | refine px_block_ne rfl ?_ | refine pn_block ?_ | refine pn_then ?_ | refine pn_asg ?_ | refine pn_rnd ?_ | refine px_rnd ?_ | refine awp_exit ?_ | refine awp_skip ?_ | refine awp_ret ?_ | refine pr_then ?_ | refine pr_block ?_ | refine pr_rnd ?_ | refine pr_retM ?_ | refine pn_retM ?_ | refine pr_ret ?_ | refine pn_ret ?_) | refine awp_cond_t rfl rfl ?_ | refine awp_cond_f rfl rfl ?_ | ((first | apply aq (hd := rfl) (hok := rfl) (hw := rfl) | apply adr_q (ho := rfl) (hd := rfl) (hw := rfl)); (first | exact q_remX hr2 rfl rfl rfl (by omega) | exact q_move rfl (by conv => lhs; whnf) | exact q_assign rfl (by conv => lhs; whnf) | exact q_add rfl rfl rfl (by omega) | exact q_sub rfl rfl rfl (by omega) | exact q_neg rfl rfl (by omega) | exact q_rem_in rfl rfl rfl (by omega) | exact q_quo_in rfl rfl rfl (by omega) | exact q_lss_t rfl rfl rfl (by omega) | exact q_lss_f rfl rfl rfl (by omega) | exact q_leq_t rfl rfl rfl (by omega) | exact q_leq_f rfl rfl rfl (by omega) | exact q_gtr_t rfl rfl rfl (by omega) | exact q_gtr_f rfl rfl rfl (by omega) | exact q_geq_t rfl rfl rfl (by omega) | exact q_geq_f rfl rfl rfl (by omega) | exact q_eql_t rfl rfl rfl (by omega) | exact q_eql_f rfl rfl rfl (by omega) | exact q_neq_t rfl rfl rfl (by omega) | exact q_neq_f rfl rfl rfl (by omega) | exact q_int rfl rfl rfl rfl | exact q_not rfl rfl | exact q_pick_t rfl rfl (by conv => lhs; whnf) | exact q_pick_f rfl rfl (by conv => lhs; whnf) | exact q_extract rfl rfl rfl | exact q_max rfl rfl rfl | exact q_min rfl rfl rfl)) | refine ano rfl rfl rfl ?_ | refine adr_no rfl rfl rfl ?_)
    refine ⟨⟨y, x % y, rfl, hy, by omega, by rw [Nat.gcd_comm y, ← hg]; exact (Nat.gcd_comm x y ▸ (Nat.gcd_rec y x).symm), rfl⟩, by show ((x % y : Nat) : Int).toNat < (y : Int).toNat; omega⟩
/-! ### tables of what was seen -/
def tabL (D : Nat → Nat) (n k : Nat) : List Value := (List.range n).map fun d => .bool (hit D k d)
theorem tabL_len (D : Nat → Nat) (n k : Nat) : (tabL D n k).length = n := by simp [tabL]
theorem tabL_at (D : Nat → Nat) {n : Nat} (k : Nat) {d : Nat} (h : d < n) : (tabL D n k)[d]? = some (.bool (hit D k d)) := by simp [tabL, h]
theorem tabL_zero (D : Nat → Nat) (n : Nat) : tabL D n 0 = List.replicate n (.bool false) := by
  unfold tabL
  rw [List.eq_replicate_iff]
  refine ⟨by simp, fun b hb => ?_⟩
  obtain ⟨q, _, rfl⟩ := List.mem_map.1 hb
  rfl
theorem tabL_hit {D : Nat → Nat} {n k : Nat} (h : hit D k (D k) = true) : tabL D n (k + 1) = tabL D n k := by
  apply List.map_congr_left
  intro d _
  rw [hit_succ]
  by_cases e : d = D k
  · subst e; rw [h]; rfl
  · simp [e]
theorem tabL_set (D : Nat → Nat) {n k : Nat} : (tabL D n k).set (D k) (.bool true) = tabL D n (k + 1) := by
  apply List.ext_getElem
  · simp [tabL]
  · intro i h1 h2
    rw [List.getElem_set]
    simp only [tabL, List.getElem_map, List.getElem_range]
    rw [hit_succ]
    by_cases e : D k = i
    · subst e; simp
    · rw [if_neg e]; simp [Ne.symm e]
theorem tBA : ∃ i, Try.prog.info? 118 = some i ∧ i.zero = some (.agg (List.replicate 96 (Value.bool false)).toArray) ∧ i.size = 96 ∧ i.bytes = 96 := info4 (by kernel_rfl)
theorem szB : (Try.prog.info? 4).map (·.size) = some 1 := by kernel_rfl
theorem beats_c (W : World) (v u : Value) (L M S U : List Int) (p q : Nat) (th tk : Int) (hf : FAM W Mem.none v L S p th) (hg : FAM W Mem.none u M U q tk) (ok : OKF L S p th) (ok2 : OKF M U q tk) (hlen : L.length = M.length) :
    ACalls Try.prog (gen W) 74 #[v, u] Mem.none (fun v _ => v = .int .i64 (beat S U p q)) := by
  have hph := fun (m : Mem) (w : World) (hw : Conc W m w) j hj => phase_q w v L S p th (hf.at hw) ok j hj
  have hph2 := fun (m : Mem) (w : World) (hw : Conc W m w) j hj => phase_q w u M U q tk (hg.at hw) ok2 j hj
  obtain ⟨iA, hAi, hAz, hAs, _⟩ := tBA
  obtain ⟨B1, vl, rfl, hc, hl⟩ := hf
  obtain ⟨B2, vl2, rfl, hc2, hl2⟩ := hg
  refine acalls_of_body Try.func74 rfl (res1 rfl (by decide)) (Nat.le_of_ble_eq_true rfl) ?_
  have H := HP.nil Mem.none
  have hn := ok.n
  have l1 := ok.len
  have l2 := ok2.len
  have p1 := ok.per.1
  have p2 := ok.per.2.1
  have q1 := ok2.per.1
  have q2 := ok2.per.2.1
  have pd := per_len ok.per (by omega)
  have qd := per_len ok2.per (by omega)
  unfold beat
  obtain ⟨g, hg⟩ : ∃ g, Nat.gcd p q = g := ⟨_, rfl⟩
  have g1 : 1 ≤ g := by rw [← hg]; exact Nat.gcd_pos_of_pos_left _ p1
  have gp : g ∣ p := by rw [← hg]; exact Nat.gcd_dvd_left _ _
  have gq : g ∣ q := by rw [← hg]; exact Nat.gcd_dvd_right _ _
  have g96 : g ≤ 96 := Nat.le_trans (Nat.le_of_dvd p1 gp) (by omega)
  rw [hg]
  have hD : ∀ j : Nat, (phase L.length S j - phase M.length U j) % (g : Int) = (DD S U g j : Nat) := fun j => by
    rw [← DD_int S U g1 j, Int.sub_emod, phase_mod (Nat.dvd_trans gp pd), phase_mod (Nat.dvd_trans gq qd), ← Int.sub_emod]
  obtain ⟨N, hN⟩ : ∃ N, lcmN S.length U.length = N := ⟨_, rfl⟩
  have hN1 := lcmN_le (a := S.length) (b := U.length) l1.1
  have hNb : N ≤ 144 := by
    rw [hN] at hN1
    exact Nat.le_trans hN1 (Nat.mul_le_mul l1.2 l2.2)
  rw [hN]
  obtain ⟨X, hX⟩ : ∃ X, N * g = X := ⟨_, rfl⟩
  have hXb : X ≤ 20000 := by rw [← hX]; exact Nat.le_trans (Nat.mul_le_mul hNb g96) (by decide)
  have hX2 : (N : Int) * (g : Int) = (X : Int) := by rw [← Int.natCast_mul, hX]
  rw [hX]
  have hmul : ∀ w : World, QCalls Try.prog 73 #[.int .i64 S.length, .int .i64 U.length] w (.int .i64 N) := fun w => by rw [← hN]; exact multiple_q w _ _ (by omega) (by omega)
  repeat (first | with_reducible (first | refine awp_seq ?_ | refine awp_region ?_ | refine awp_region_q (by kernel_rfl) (by kernel_rfl) ?_ | refine adr_nil ?_ | refine adr_end ?_ | refine aops_then ?_ | refine aops_nil ?_ | refine awp_block ?_ | refine awp_label ?_ | refine awp_scope ?_ | refine pn_scope ?_ | refine px_scope ?_ | refine pr_scope ?_ | refine px_then ?_ | refine px_block ?_ | refine px_block_ne rfl ?_ | refine pn_block ?_ | refine pn_then ?_ | refine pn_asg ?_ | refine pn_rnd ?_ | refine px_rnd ?_ | refine awp_exit ?_ | refine awp_skip ?_ | refine awp_ret ?_ | refine pr_then ?_ | refine pr_block ?_ | refine pr_rnd ?_ | refine pr_retM ?_ | refine pn_retM ?_ | refine pr_ret ?_ | refine pn_ret ?_) | refine awp_cond_t rfl rfl ?_ | refine awp_cond_f rfl rfl ?_ | ((first | apply aq (hd := rfl) (hok := rfl) (hw := rfl) | apply adr_q (ho := rfl) (hd := rfl) (hw := rfl)); (first | exact q_nilCheck rfl rfl | exact q_FF rfl rfl (by decide) | exact q_ldW hc rfl rfl rfl iT.int rfl | exact q_ldW hc2 rfl rfl rfl iT.int rfl | exact q_call fDivisor (fun w' _ => divisor_q w' p q (by omega) (by omega) hg) rfl rfl | exact q_call fMultiple (fun w' _ => hmul w') rfl rfl | exact q_mulX hX2 rfl rfl rfl (by omega) | exact q_move rfl (by conv => lhs; whnf) | exact q_assign rfl (by conv => lhs; whnf) | exact q_add rfl rfl rfl (by omega) | exact q_sub rfl rfl rfl (by omega) | exact q_neg rfl rfl (by omega) | exact q_rem_in rfl rfl rfl (by omega) | exact q_quo_in rfl rfl rfl (by omega) | exact q_lss_t rfl rfl rfl (by omega) | exact q_lss_f rfl rfl rfl (by omega) | exact q_leq_t rfl rfl rfl (by omega) | exact q_leq_f rfl rfl rfl (by omega) | exact q_gtr_t rfl rfl rfl (by omega) | exact q_gtr_f rfl rfl rfl (by omega) | exact q_geq_t rfl rfl rfl (by omega) | exact q_geq_f rfl rfl rfl (by omega) | exact q_eql_t rfl rfl rfl (by omega) | exact q_eql_f rfl rfl rfl (by omega) | exact q_neq_t rfl rfl rfl (by omega) | exact q_neq_f rfl rfl rfl (by omega) | exact q_int rfl rfl rfl rfl | exact q_not rfl rfl | exact q_pick_t rfl rfl (by conv => lhs; whnf) | exact q_pick_f rfl rfl (by conv => lhs; whnf) | exact q_extract rfl rfl rfl | exact q_max rfl rfl rfl | exact q_min rfl rfl rfl)) | refine ano rfl rfl rfl ?_ | refine adr_no rfl rfl rfl ?_)
  refine aa rfl rfl rfl (h_allocS hAi hAz H rfl (fun BT m1 H _ => ?_))
  repeat (first | with_reducible (first | refine awp_seq ?_ | refine awp_region ?_ | refine awp_region_q (by kernel_rfl) (by kernel_rfl) ?_ | refine adr_nil ?_ | refine adr_end ?_ | refine aops_then ?_ | refine aops_nil ?_ | refine awp_block ?_ | refine awp_label ?_ | refine awp_scope ?_ | refine pn_scope ?_ | refine px_scope ?_ | refine pr_scope ?_ | refine px_then ?_ | refine px_block ?_ | refine px_block_ne rfl ?_ | refine pn_block ?_ | refine pn_then ?_ | refine pn_asg ?_ | refine pn_rnd ?_ | refine px_rnd ?_ | refine awp_exit ?_ | refine awp_skip ?_ | refine awp_ret ?_ | refine pr_then ?_ | refine pr_block ?_ | refine pr_rnd ?_ | refine pr_retM ?_ | refine pn_retM ?_ | refine pr_ret ?_ | refine pn_ret ?_) | refine awp_cond_t rfl rfl ?_ | refine awp_cond_f rfl rfl ?_ | ((first | apply aq (hd := rfl) (hok := rfl) (hw := rfl) | apply adr_q (ho := rfl) (hd := rfl) (hw := rfl)); (first | exact q_move rfl (by conv => lhs; whnf) | exact q_assign rfl (by conv => lhs; whnf) | exact q_add rfl rfl rfl (by omega) | exact q_sub rfl rfl rfl (by omega) | exact q_neg rfl rfl (by omega) | exact q_rem_in rfl rfl rfl (by omega) | exact q_quo_in rfl rfl rfl (by omega) | exact q_lss_t rfl rfl rfl (by omega) | exact q_lss_f rfl rfl rfl (by omega) | exact q_leq_t rfl rfl rfl (by omega) | exact q_leq_f rfl rfl rfl (by omega) | exact q_gtr_t rfl rfl rfl (by omega) | exact q_gtr_f rfl rfl rfl (by omega) | exact q_geq_t rfl rfl rfl (by omega) | exact q_geq_f rfl rfl rfl (by omega) | exact q_eql_t rfl rfl rfl (by omega) | exact q_eql_f rfl rfl rfl (by omega) | exact q_neq_t rfl rfl rfl (by omega) | exact q_neq_f rfl rfl rfl (by omega) | exact q_int rfl rfl rfl rfl | exact q_not rfl rfl | exact q_pick_t rfl rfl (by conv => lhs; whnf) | exact q_pick_f rfl rfl (by conv => lhs; whnf) | exact q_extract rfl rfl rfl | exact q_max rfl rfl rfl | exact q_min rfl rfl rfl)) | refine ano rfl rfl rfl ?_ | refine adr_no rfl rfl rfl ?_)
  have H0 : HP m1 [.vs 118 BT (tabL (DD S U g) 96 0)] := by rw [tabL_zero]; exact H
  refine awp_loop [0, 1, 5, 7, 8, 31, 32] (fun vs m => ∃ k : Nat, vs = [.pointer (some ⟨B1, 0, Option.none⟩), .pointer (some ⟨B2, 0, Option.none⟩), .int .i64 g, .pointer (some ⟨BT, 0, Option.none⟩), .int .i64 (cnt (DD S U g) g k), .int .i64 X, .int .i64 k] ∧ k ≤ X ∧ HP m [.vs 118 BT (tabL (DD S U g) 96 k)])
    (fun vs _ => X - (intOf (vs.getD 6 undef)).toNat) ⟨0, by rw [cnt_zero]; rfl, Nat.zero_le _, H0⟩ ?_
  clear H H0
  rintro b vs m - ⟨k, rfl, hk, H⟩
  by_cases hlt : k < X
  · have hdk := hD k
    have hdl := DD_lt S U g1 k
    have hcl := cnt_le (DD S U g) g k
    have pb1 := phase_bd (n := L.length) (by omega) S k
    have pb2 := phase_bd (n := M.length) (by omega) U k
    obtain ⟨d, hd⟩ : ∃ d, DD S U g k = d := ⟨_, rfl⟩
    have hat := tabL_at (DD S U g) (n := 96) k (d := d) (by omega)
    have hat2 : (tabL (DD S U g) 96 k)[0 + (d : Int).toNat]? = some (.bool (hit (DD S U g) k d)) := by
      rw [Nat.zero_add, Int.toNat_natCast]; exact hat
    rw [hd] at hdk hdl
    have hp1 : ∀ w, Conc W m w → QCalls Try.prog 54 #[.pointer (some ⟨B1, 0, Option.none⟩), .int .i64 (k : Int)] w (.int .i64 (phase L.length S k)) := fun w hw => hph m w hw k (by omega)
    have hp2 : ∀ w, Conc W m w → QCalls Try.prog 54 #[.pointer (some ⟨B2, 0, Option.none⟩), .int .i64 (k : Int)] w (.int .i64 (phase M.length U k)) := fun w hw => hph2 m w hw k (by omega)
    cases hh : hit (DD S U g) k d
    · rw [hh] at hat2
      have hcn := cnt_new (D := DD S U g) (g := g) (k := k) (by rw [hd]; exact hh) (by omega)
      repeat (first | with_reducible (first | refine awp_seq ?_ | refine awp_region ?_ | refine awp_region_q (by kernel_rfl) (by kernel_rfl) ?_ | refine adr_nil ?_ | refine adr_end ?_ | refine aops_then ?_ | refine aops_nil ?_ | refine awp_block ?_ | refine awp_label ?_ | refine awp_scope ?_ | refine pn_scope ?_ | refine px_scope ?_ | refine pr_scope ?_ | refine px_then ?_ | refine px_block ?_ | refine px_block_ne rfl ?_ | refine pn_block ?_ | refine pn_then ?_ | refine pn_asg ?_ | refine pn_rnd ?_ | refine px_rnd ?_ | refine awp_exit ?_ | refine awp_skip ?_ | refine awp_ret ?_ | refine pr_then ?_ | refine pr_block ?_ | refine pr_rnd ?_ | refine pr_retM ?_ | refine pn_retM ?_ | refine pr_ret ?_ | refine pn_ret ?_) | refine awp_cond_t rfl rfl ?_ | refine awp_cond_f rfl rfl ?_ | ((first | apply aq (hd := rfl) (hok := rfl) (hw := rfl) | apply adr_q (ho := rfl) (hd := rfl) (hw := rfl)); (first | exact q_call fPhaseF (fun w hw => hp1 w hw) rfl rfl | exact q_call fPhaseF (fun w hw => hp2 w hw) rfl rfl | exact q_call fMod (fun w _ => modulo_q w _ _ hdk (by omega)) rfl rfl | exact q_indexArr rfl rfl rfl Try.underlying118 szB (by omega) (by omega) | exact q_ldC 0 H rfl rfl rfl hat2 Try.underlying4 rfl | exact q_move rfl (by conv => lhs; whnf) | exact q_assign rfl (by conv => lhs; whnf) | exact q_add rfl rfl rfl (by omega) | exact q_sub rfl rfl rfl (by omega) | exact q_neg rfl rfl (by omega) | exact q_rem_in rfl rfl rfl (by omega) | exact q_quo_in rfl rfl rfl (by omega) | exact q_lss_t rfl rfl rfl (by omega) | exact q_lss_f rfl rfl rfl (by omega) | exact q_leq_t rfl rfl rfl (by omega) | exact q_leq_f rfl rfl rfl (by omega) | exact q_gtr_t rfl rfl rfl (by omega) | exact q_gtr_f rfl rfl rfl (by omega) | exact q_geq_t rfl rfl rfl (by omega) | exact q_geq_f rfl rfl rfl (by omega) | exact q_eql_t rfl rfl rfl (by omega) | exact q_eql_f rfl rfl rfl (by omega) | exact q_neq_t rfl rfl rfl (by omega) | exact q_neq_f rfl rfl rfl (by omega) | exact q_int rfl rfl rfl rfl | exact q_not rfl rfl | exact q_pick_t rfl rfl (by conv => lhs; whnf) | exact q_pick_f rfl rfl (by conv => lhs; whnf) | exact q_extract rfl rfl rfl | exact q_max rfl rfl rfl | exact q_min rfl rfl rfl)) | refine ano rfl rfl rfl ?_ | refine adr_no rfl rfl rfl ?_)
      refine au rfl rfl rfl (h_stC (u := .bool true) 0 H rfl rfl rfl rfl szB rfl (by rw [tabL_len]; omega) (fun m2 H => ?_))
      have e : (tabL (DD S U g) 96 k).set (0 + (d : Int).toNat) (.bool true) = tabL (DD S U g) 96 (k + 1) := by
        rw [Nat.zero_add, Int.toNat_natCast, ← hd, tabL_set]
      have H : HP m2 [.vs 118 BT ((tabL (DD S U g) 96 k).set (0 + (d : Int).toNat) (.bool true))] := H
      rw [e] at H
      repeat (first | with_reducible (first | refine awp_seq ?_ | refine awp_region ?_ | refine awp_region_q (by kernel_rfl) (by kernel_rfl) ?_ | refine adr_nil ?_ | refine adr_end ?_ | refine aops_then ?_ | refine aops_nil ?_ | refine awp_block ?_ | refine awp_label ?_ | refine awp_scope ?_ | refine pn_scope ?_ | refine px_scope ?_ | refine pr_scope ?_ | refine px_then ?_ | refine px_block ?_ | refine px_block_ne rfl ?_ | refine pn_block ?_ | refine pn_then ?_ | refine pn_asg ?_ | refine pn_rnd ?_ | refine px_rnd ?_ | refine awp_exit ?_ | refine awp_skip ?_ | refine awp_ret ?_ | refine pr_then ?_ | refine pr_block ?_ | refine pr_rnd ?_ | refine pr_retM ?_ | refine pn_retM ?_ | refine pr_ret ?_ | refine pn_ret ?_) | refine awp_cond_t rfl rfl ?_ | refine awp_cond_f rfl rfl ?_ | ((first | apply aq (hd := rfl) (hok := rfl) (hw := rfl) | apply adr_q (ho := rfl) (hd := rfl) (hw := rfl)); (first | exact q_move rfl (by conv => lhs; whnf) | exact q_assign rfl (by conv => lhs; whnf) | exact q_add rfl rfl rfl (by omega) | exact q_sub rfl rfl rfl (by omega) | exact q_neg rfl rfl (by omega) | exact q_rem_in rfl rfl rfl (by omega) | exact q_quo_in rfl rfl rfl (by omega) | exact q_lss_t rfl rfl rfl (by omega) | exact q_lss_f rfl rfl rfl (by omega) | exact q_leq_t rfl rfl rfl (by omega) | exact q_leq_f rfl rfl rfl (by omega) | exact q_gtr_t rfl rfl rfl (by omega) | exact q_gtr_f rfl rfl rfl (by omega) | exact q_geq_t rfl rfl rfl (by omega) | exact q_geq_f rfl rfl rfl (by omega) | exact q_eql_t rfl rfl rfl (by omega) | exact q_eql_f rfl rfl rfl (by omega) | exact q_neq_t rfl rfl rfl (by omega) | exact q_neq_f rfl rfl rfl (by omega) | exact q_int rfl rfl rfl rfl | exact q_not rfl rfl | exact q_pick_t rfl rfl (by conv => lhs; whnf) | exact q_pick_f rfl rfl (by conv => lhs; whnf) | exact q_extract rfl rfl rfl | exact q_max rfl rfl rfl | exact q_min rfl rfl rfl)) | refine ano rfl rfl rfl ?_ | refine adr_no rfl rfl rfl ?_)
      exact ⟨⟨k + 1, by rw [hcn]; rfl, by omega, H⟩, by show X - ((k : Int) + 1).toNat < X - (k : Int).toNat; omega⟩
    · rw [hh] at hat2
      have hce := cnt_hit (D := DD S U g) (g := g) (k := k) (by rw [hd]; exact hh)
      have hte := tabL_hit (D := DD S U g) (n := 96) (k := k) (by rw [hd]; exact hh)
      repeat (first | with_reducible (first | refine awp_seq ?_ | refine awp_region ?_ | refine awp_region_q (by kernel_rfl) (by kernel_rfl) ?_ | refine adr_nil ?_ | refine adr_end ?_ | refine aops_then ?_ | refine aops_nil ?_ | refine awp_block ?_ | refine awp_label ?_ | refine awp_scope ?_ | refine pn_scope ?_ | refine px_scope ?_ | refine pr_scope ?_ | refine px_then ?_ | refine px_block ?_ | refine px_block_ne rfl ?_ | refine pn_block ?_ | refine pn_then ?_ | refine pn_asg ?_ | refine pn_rnd ?_ | refine px_rnd ?_ | refine awp_exit ?_ | refine awp_skip ?_ | refine awp_ret ?_ | refine pr_then ?_ | refine pr_block ?_ | refine pr_rnd ?_ | refine pr_retM ?_ | refine pn_retM ?_ | refine pr_ret ?_ | refine pn_ret ?_) | refine awp_cond_t rfl rfl ?_ | refine awp_cond_f rfl rfl ?_ | ((first | apply aq (hd := rfl) (hok := rfl) (hw := rfl) | apply adr_q (ho := rfl) (hd := rfl) (hw := rfl)); (first | exact q_call fPhaseF (fun w hw => hp1 w hw) rfl rfl | exact q_call fPhaseF (fun w hw => hp2 w hw) rfl rfl | exact q_call fMod (fun w _ => modulo_q w _ _ hdk (by omega)) rfl rfl | exact q_indexArr rfl rfl rfl Try.underlying118 szB (by omega) (by omega) | exact q_ldC 0 H rfl rfl rfl hat2 Try.underlying4 rfl | exact q_move rfl (by conv => lhs; whnf) | exact q_assign rfl (by conv => lhs; whnf) | exact q_add rfl rfl rfl (by omega) | exact q_sub rfl rfl rfl (by omega) | exact q_neg rfl rfl (by omega) | exact q_rem_in rfl rfl rfl (by omega) | exact q_quo_in rfl rfl rfl (by omega) | exact q_lss_t rfl rfl rfl (by omega) | exact q_lss_f rfl rfl rfl (by omega) | exact q_leq_t rfl rfl rfl (by omega) | exact q_leq_f rfl rfl rfl (by omega) | exact q_gtr_t rfl rfl rfl (by omega) | exact q_gtr_f rfl rfl rfl (by omega) | exact q_geq_t rfl rfl rfl (by omega) | exact q_geq_f rfl rfl rfl (by omega) | exact q_eql_t rfl rfl rfl (by omega) | exact q_eql_f rfl rfl rfl (by omega) | exact q_neq_t rfl rfl rfl (by omega) | exact q_neq_f rfl rfl rfl (by omega) | exact q_int rfl rfl rfl rfl | exact q_not rfl rfl | exact q_pick_t rfl rfl (by conv => lhs; whnf) | exact q_pick_f rfl rfl (by conv => lhs; whnf) | exact q_extract rfl rfl rfl | exact q_max rfl rfl rfl | exact q_min rfl rfl rfl)) | refine ano rfl rfl rfl ?_ | refine adr_no rfl rfl rfl ?_)
      exact ⟨⟨k + 1, by rw [hce]; rfl, by omega, by rw [hte]; exact H⟩, by show X - ((k : Int) + 1).toNat < X - (k : Int).toNat; omega⟩
  · repeat (first | with_reducible (first | refine awp_seq ?_ | refine awp_region ?_ | refine awp_region_q (by kernel_rfl) (by kernel_rfl) ?_ | refine adr_nil ?_ | refine adr_end ?_ | refine aops_then ?_ | refine aops_nil ?_ | refine awp_block ?_ | refine awp_label ?_ | refine awp_scope ?_ | refine pn_scope ?_ | refine px_scope ?_ | refine pr_scope ?_ | refine px_then ?_ | refine px_block ?_ | refine px_block_ne rfl ?_ | refine pn_block ?_ | refine pn_then ?_ | refine pn_asg ?_ | refine pn_rnd ?_ | refine px_rnd ?_ | refine awp_exit ?_ | refine awp_skip ?_ | refine awp_ret ?_ | refine pr_then ?_ | refine pr_block ?_ | refine pr_rnd ?_ | refine pr_retM ?_ | refine pn_retM ?_ | refine pr_ret ?_ | refine pn_ret ?_) | refine awp_cond_t rfl rfl ?_ | refine awp_cond_f rfl rfl ?_ | ((first | apply aq (hd := rfl) (hok := rfl) (hw := rfl) | apply adr_q (ho := rfl) (hd := rfl) (hw := rfl)); (first | exact q_move rfl (by conv => lhs; whnf) | exact q_assign rfl (by conv => lhs; whnf) | exact q_add rfl rfl rfl (by omega) | exact q_sub rfl rfl rfl (by omega) | exact q_neg rfl rfl (by omega) | exact q_rem_in rfl rfl rfl (by omega) | exact q_quo_in rfl rfl rfl (by omega) | exact q_lss_t rfl rfl rfl (by omega) | exact q_lss_f rfl rfl rfl (by omega) | exact q_leq_t rfl rfl rfl (by omega) | exact q_leq_f rfl rfl rfl (by omega) | exact q_gtr_t rfl rfl rfl (by omega) | exact q_gtr_f rfl rfl rfl (by omega) | exact q_geq_t rfl rfl rfl (by omega) | exact q_geq_f rfl rfl rfl (by omega) | exact q_eql_t rfl rfl rfl (by omega) | exact q_eql_f rfl rfl rfl (by omega) | exact q_neq_t rfl rfl rfl (by omega) | exact q_neq_f rfl rfl rfl (by omega) | exact q_int rfl rfl rfl rfl | exact q_not rfl rfl | exact q_pick_t rfl rfl (by conv => lhs; whnf) | exact q_pick_f rfl rfl (by conv => lhs; whnf) | exact q_extract rfl rfl rfl | exact q_max rfl rfl rfl | exact q_min rfl rfl rfl)) | refine ano rfl rfl rfl ?_ | refine adr_no rfl rfl rfl ?_)
    obtain rfl : k = X := by omega
    rfl
end Go.R04
