import Derived.Test.YtoeijgdkoeofpaaRef06t
import Derived.Test.YtoeijgdkoeofpaaMat06c
set_option linter.unusedSectionVars false
set_option linter.unusedSimpArgs false
set_option linter.unusedVariables false
/-! Layer 6: a surface that is turned or mirrored: the laws' own 'around'. -/
namespace Go.R06
open Go Go.Abs Go.RowKit Go.Proofs
set_option maxRecDepth 20000
set_option maxHeartbeats 8000000
attribute [local irreducible] AWp AOps ADr AAny thenQ blockQ retQ asgQ rndQ retM
set_option linter.unusedVariables false
set_option linter.unusedSectionVars false
theorem fAround : Fun Try.prog 58 := ⟨_, _, Try.func58, rfl, by kernel_rfl⟩
/-- Where the point (x, y) comes. -/
def dst (s : Su) (mir : Bool) (x y : Nat) : Nat := if mir then y * s.w.toNat + (s.w - 1 - x).toNat else x * s.h.toNat + (s.h - 1 - y).toNat
theorem turS_at {s : Su} (g : GoodS s) (mir : Bool) {x y : Nat} (hx : (x : Int) < s.w) (hy : (y : Int) < s.h) : dst s mir x y < s.hs.length ∧ (turS s mir).hs.getD (dst s mir x y) 0 = s.hs.getD (y * s.w.toNat + x) 0 := by
  have hw := g.w
  have hh := g.h
  have hn := g.n
  obtain ⟨w, hw'⟩ : ∃ n : Nat, s.w = n := ⟨s.w.toNat, by omega⟩
  obtain ⟨h, hh'⟩ : ∃ n : Nat, s.h = n := ⟨s.h.toNat, by omega⟩
  have tw : s.w.toNat = w := by omega
  have th : s.h.toNat = h := by omega
  have hlen : s.hs.length = w * h := by rw [hw', hh'] at hn; exact_mod_cast hn
  have hprod : (s.w * s.h).toNat = w * h := by rw [hw', hh', ← Int.natCast_mul, Int.toNat_natCast]
  have bnd : ∀ a b c d : Nat, a < c → b < d → b * c + a < c * d := fun a b c d h1 h2 => by
    have : (b + 1) * c ≤ d * c := Nat.mul_le_mul_right _ (by omega)
    rw [Nat.add_mul, Nat.one_mul, Nat.mul_comm d c] at this
    omega
  have hg0 : ∀ a b : Nat, hg s (a : Int) (b : Int) = s.hs.getD (b * w + a) 0 := fun a b => by
    unfold hg; rw [hw', ← Int.natCast_mul, ← Int.natCast_add, Int.toNat_natCast]
  cases mir
  · have e : dst s false x y = x * h + (h - 1 - y) := by
      show x * s.h.toNat + (s.h - 1 - y).toNat = _
      rw [th]; omega
    have hc := at_cell (w := h) (x := h - 1 - y) (y := x) (by omega)
    have hb : x * h + (h - 1 - y) < w * h := by rw [Nat.mul_comm w h]; exact bnd _ _ _ _ (by omega) (by omega)
    rw [e, hlen]
    refine ⟨hb, ?_⟩
    show (List.map _ (List.range (s.w * s.h).toNat)).getD _ 0 = _
    rw [hprod, List.getD_eq_getElem?_getD, List.getElem?_map, List.getElem?_range hb]
    show hg s (((x * h + (h - 1 - y)) / s.h.toNat : Nat) : Int) (s.h - 1 - ((x * h + (h - 1 - y)) % s.h.toNat : Nat)) = _
    rw [th, hc.1, hc.2, hh', show (h : Int) - 1 - ((h - 1 - y : Nat) : Int) = ((y : Nat) : Int) by omega, hg0, tw]
  · have e : dst s true x y = y * w + (w - 1 - x) := by
      show y * s.w.toNat + (s.w - 1 - x).toNat = _
      rw [tw]; omega
    have hc := at_cell (w := w) (x := w - 1 - x) (y := y) (by omega)
    have hb : y * w + (w - 1 - x) < w * h := bnd _ _ _ _ (by omega) (by omega)
    rw [e, hlen]
    refine ⟨hb, ?_⟩
    show (List.map _ (List.range (s.w * s.h).toNat)).getD _ 0 = _
    rw [hprod, List.getD_eq_getElem?_getD, List.getElem?_map, List.getElem?_range hb]
    show hg s (s.w - 1 - ((y * w + (w - 1 - x)) % s.w.toNat : Nat)) (((y * w + (w - 1 - x)) / s.w.toNat : Nat) : Int) = _
    rw [tw, hc.1, hc.2, hw', show (w : Int) - 1 - ((w - 1 - x : Nat) : Int) = ((x : Nat) : Int) by omega, hg0]
theorem turS_len {s : Su} (g : GoodS s) (mir : Bool) : (turS s mir).hs.length = s.hs.length := by
  have h1 := (turS_good g mir).n
  have h2 := g.n
  cases mir
  · have h1 : ((turS s false).hs.length : Int) = s.h * s.w := h1
    rw [Int.mul_comm] at h1; omega
  · have h1 : ((turS s true).hs.length : Int) = s.w * s.h := h1
    omega
/-- The heights when n points have come. -/
def stL (s : Su) (mir : Bool) : Nat → List Int
  | 0 => List.replicate s.hs.length 0
  | n + 1 => (stL s mir n).set (dst s mir (n % s.w.toNat) (n / s.w.toNat)) (s.hs.getD n 0)
theorem stL_len (s : Su) (mir : Bool) : ∀ n, (stL s mir n).length = s.hs.length
  | 0 => List.length_replicate ..
  | n + 1 => by rw [stL, List.length_set, stL_len s mir n]
theorem src_bd {s : Su} (g : GoodS s) {n : Nat} (h : n < s.hs.length) : ((n % s.w.toNat : Nat) : Int) < s.w ∧ ((n / s.w.toNat : Nat) : Int) < s.h ∧ n / s.w.toNat * s.w.toNat + n % s.w.toNat = n := by
  have hw := g.w
  have hh := g.h
  have hn := g.n
  obtain ⟨w, hw'⟩ : ∃ n : Nat, s.w = n := ⟨s.w.toNat, by omega⟩
  obtain ⟨k, hh'⟩ : ∃ n : Nat, s.h = n := ⟨s.h.toNat, by omega⟩
  have tw : s.w.toNat = w := by omega
  have hlen : s.hs.length = w * k := by rw [hw', hh'] at hn; exact_mod_cast hn
  have m := Nat.mod_lt n (show w > 0 by omega)
  have d : n / w < k := Nat.div_lt_of_lt_mul (by omega)
  have e := Nat.div_add_mod n w
  rw [Nat.mul_comm] at e
  rw [tw, hw', hh']
  exact ⟨by omega, by omega, e⟩
theorem stL_at {s : Su} (g : GoodS s) (mir : Bool) : ∀ n, n ≤ s.hs.length → ∀ m, m < n → (stL s mir n).getD (dst s mir (m % s.w.toNat) (m / s.w.toNat)) 0 = (turS s mir).hs.getD (dst s mir (m % s.w.toNat) (m / s.w.toNat)) 0
  | 0, _, m, hm => by omega
  | n + 1, hn, m, hm => by
    obtain ⟨b1, b2, b3⟩ := src_bd g (n := n) (by omega)
    have ht := turS_at g mir b1 b2
    rw [b3] at ht
    have hl := stL_len s mir n
    show ((stL s mir n).set _ _).getD _ 0 = _
    by_cases e : dst s mir (m % s.w.toNat) (m / s.w.toNat) = dst s mir (n % s.w.toNat) (n / s.w.toNat)
    · rw [e, ht.2, List.getD_eq_getElem?_getD, List.getElem?_set_self (by rw [hl]; exact ht.1)]; rfl
    · have hm' : m < n := by
        rcases Nat.lt_or_ge m n with h | h
        · exact h
        · exact absurd (by rw [show m = n by omega]) e
      rw [List.getD_eq_getElem?_getD, List.getElem?_set_ne (fun h => e h.symm), ← List.getD_eq_getElem?_getD]
      exact stL_at g mir n (by omega) m hm'
theorem stL_all {s : Su} (g : GoodS s) (mir : Bool) : stL s mir s.hs.length = (turS s mir).hs := by
  have hlT := turS_len g mir
  have hw := g.w
  have hh := g.h
  have hn := g.n
  refine List.ext_getElem (by rw [stL_len, hlT]) fun j h1 h2 => ?_
  have hj : j < s.hs.length := by rw [stL_len] at h1; exact h1
  have key : ∃ m, m < s.hs.length ∧ dst s mir (m % s.w.toNat) (m / s.w.toNat) = j := by
    obtain ⟨w, hw'⟩ : ∃ n : Nat, s.w = n := ⟨s.w.toNat, by omega⟩
    obtain ⟨k, hh'⟩ : ∃ n : Nat, s.h = n := ⟨s.h.toNat, by omega⟩
    have tw : s.w.toNat = w := by omega
    have th : s.h.toNat = k := by omega
    have hlen : s.hs.length = w * k := by rw [hw', hh'] at hn; exact_mod_cast hn
    have bnd : ∀ a b : Nat, a < w → b < k → b * w + a < w * k := fun a b h1 h2 => by
      have : (b + 1) * w ≤ k * w := Nat.mul_le_mul_right _ (by omega)
      rw [Nat.add_mul, Nat.one_mul, Nat.mul_comm k w] at this
      omega
    cases mir
    · have hm := Nat.mod_lt j (show k > 0 by omega)
      have hd : j / k < w := Nat.div_lt_of_lt_mul (by rw [Nat.mul_comm k w]; omega)
      have e := Nat.div_add_mod j k
      rw [Nat.mul_comm] at e
      have hc := at_cell (w := w) (x := j / k) (y := k - 1 - j % k) hd
      refine ⟨(k - 1 - j % k) * w + j / k, by rw [hlen]; exact bnd _ _ hd (by omega), ?_⟩
      rw [tw, hc.1, hc.2]
      show (j / k) * s.h.toNat + (s.h - 1 - ((k - 1 - j % k : Nat) : Int)).toNat = j
      rw [th]
      generalize j / k * k = z at *
      omega
    · have hm := Nat.mod_lt j (show w > 0 by omega)
      have hd : j / w < k := Nat.div_lt_of_lt_mul (by omega)
      have e := Nat.div_add_mod j w
      rw [Nat.mul_comm] at e
      have hc := at_cell (w := w) (x := w - 1 - j % w) (y := j / w) (by omega)
      refine ⟨j / w * w + (w - 1 - j % w), by rw [hlen]; exact bnd _ _ (by omega) hd, ?_⟩
      rw [tw, hc.1, hc.2]
      show j / w * s.w.toNat + (s.w - 1 - ((w - 1 - j % w : Nat) : Int)).toNat = j
      rw [tw]
      generalize j / w * w = z at *
      omega
  obtain ⟨m, hm, hd⟩ := key
  have := stL_at g mir _ (Nat.le_refl _) m hm
  rw [hd, List.getD_eq_getElem?_getD, List.getElem?_eq_getElem h1, List.getD_eq_getElem?_getD, List.getElem?_eq_getElem h2] at this
  exact this
/-- make of ints, whose slice is written out. -/
theorem h_makeF {P : Program} {W : World} {o : Oper} {fr : Fr} {m : Mem} {I S : TypeId} (t : IntT P I S) {l : List Ent} {x y : Operand} {kl kc : IntKind} {n : Int} (k : Nat) {K : Value → Mem → Prop} (H : HP m l) (ho : o.op = .makeSlice S x y) (hx : evalF fr x = .int kl n) (hy : evalF fr y = .int kc n) (hn : n = k) (hk : k ≤ 1000000)
    (h : ∀ (p : Option Addr × Nat) m', HP m' (.i I (.slice p.1 k p.2) (List.replicate k 0) :: l) → Le m m' → K (.slice p.1 k p.2) m') : AOp P (gen W) o fr m K :=
  h_makeI t k H ho hx hy hn hk fun v' m' H hl => by
    obtain ⟨a, c, e, _⟩ := ((H.sl 0 rfl).sl (W := W)).value
    have e : v' = .slice a k c := by rw [e]; simp
    subst e
    exact h (a, c) m' H hl
theorem around_c (W : World) (v : Value) (s : Su) (g : GoodS s) (mir : Bool) (hv : SL W Mem.none 1 v s.hs.length (i64s s.hs)) :
    ACalls Try.prog (gen W) 58 #[suv s.w s.h s.p v, .bool mir] Mem.none (fun r m => ∃ u, r = suv (turS s mir).w (turS s mir).h (turS s mir).p u ∧ HP m [.i 3 u (turS s mir).hs]) := by
  obtain ⟨i, hi, hz, hs, _⟩ := suInfo
  refine acalls_of_bodyM Try.func58 rfl (resMS rfl (by decide) Try.underlying37 rfl hi) (Nat.le_of_ble_eq_true rfl) ?_
  have H := HP.nil Mem.none
  have hw1 := g.w
  have hh1 := g.h
  have hn := g.n
  have hlb := (mulb (A := 24) (B := 24) (a := s.w) (b := s.h) (by omega) (by omega)).2
  rw [← hn] at hlb
  obtain ⟨av, cv, rfl, _, _⟩ := hv.value
  obtain ⟨w, hw'⟩ : ∃ n : Nat, s.w = n := ⟨s.w.toNat, by omega⟩
  obtain ⟨k, hh'⟩ : ∃ n : Nat, s.h = n := ⟨s.h.toNat, by omega⟩
  have tw : s.w.toNat = w := by omega
  have th : s.h.toNat = k := by omega
  have hlen : s.hs.length = k * w := by rw [hw', hh', Int.mul_comm] at hn; exact_mod_cast hn
  repeat (first | with_reducible (first | refine awp_seq ?_ | refine awp_region ?_ | refine awp_region_q (by kernel_rfl) (by kernel_rfl) ?_ | refine adr_nil ?_ | refine adr_end ?_ | refine aops_then ?_ | refine aops_nil ?_ | refine awp_block ?_ | refine awp_label ?_ | refine awp_scope ?_ | refine pn_scope ?_ | refine px_scope ?_ | refine pr_scope ?_ | refine px_then ?_ | refine px_block ?_ | refine px_block_ne rfl ?_ | refine pn_block ?_ | refine pn_then ?_ | refine pn_asg ?_ | refine pn_rnd ?_ | refine px_rnd ?_ | refine awp_exit ?_ | refine awp_skip ?_ | refine awp_ret ?_ | refine pr_then ?_ | refine pr_block ?_ | refine pr_rnd ?_ | refine pr_retM ?_ | refine pn_retM ?_ | refine pr_ret ?_ | refine pn_ret ?_) | refine awp_cond_t rfl rfl ?_ | refine awp_cond_f rfl rfl ?_ | ((first | apply aq (hd := rfl) (hok := rfl) (hw := rfl) | apply adr_q (ho := rfl) (hd := rfl) (hw := rfl)); (first | exact q_move rfl (by conv => lhs; whnf) | exact q_assign rfl (by conv => lhs; whnf) | exact q_add rfl rfl rfl (by omega) | exact q_sub rfl rfl rfl (by omega) | exact q_neg rfl rfl (by omega) | exact q_rem_in rfl rfl rfl (by omega) | exact q_quo_in rfl rfl rfl (by omega) | exact q_lss_t rfl rfl rfl (by omega) | exact q_lss_f rfl rfl rfl (by omega) | exact q_leq_t rfl rfl rfl (by omega) | exact q_leq_f rfl rfl rfl (by omega) | exact q_gtr_t rfl rfl rfl (by omega) | exact q_gtr_f rfl rfl rfl (by omega) | exact q_geq_t rfl rfl rfl (by omega) | exact q_geq_f rfl rfl rfl (by omega) | exact q_eql_t rfl rfl rfl (by omega) | exact q_eql_f rfl rfl rfl (by omega) | exact q_neq_t rfl rfl rfl (by omega) | exact q_neq_f rfl rfl rfl (by omega) | exact q_int rfl rfl rfl rfl | exact q_not rfl rfl | exact q_pick_t rfl rfl (by conv => lhs; whnf) | exact q_pick_f rfl rfl (by conv => lhs; whnf) | exact q_extract rfl rfl rfl | exact q_max rfl rfl rfl | exact q_min rfl rfl rfl)) | refine ano rfl rfl rfl ?_ | refine adr_no rfl rfl rfl ?_)
  refine aa rfl rfl rfl (h_boxS H rfl rfl (fun B2 m2 H _ => ?_))
  repeat (first | with_reducible (first | refine awp_seq ?_ | refine awp_region ?_ | refine awp_region_q (by kernel_rfl) (by kernel_rfl) ?_ | refine adr_nil ?_ | refine adr_end ?_ | refine aops_then ?_ | refine aops_nil ?_ | refine awp_block ?_ | refine awp_label ?_ | refine awp_scope ?_ | refine pn_scope ?_ | refine px_scope ?_ | refine pr_scope ?_ | refine px_then ?_ | refine px_block ?_ | refine px_block_ne rfl ?_ | refine pn_block ?_ | refine pn_then ?_ | refine pn_asg ?_ | refine pn_rnd ?_ | refine px_rnd ?_ | refine awp_exit ?_ | refine awp_skip ?_ | refine awp_ret ?_ | refine pr_then ?_ | refine pr_block ?_ | refine pr_rnd ?_ | refine pr_retM ?_ | refine pn_retM ?_ | refine pr_ret ?_ | refine pn_ret ?_) | refine awp_cond_t rfl rfl ?_ | refine awp_cond_f rfl rfl ?_ | ((first | apply aq (hd := rfl) (hok := rfl) (hw := rfl) | apply adr_q (ho := rfl) (hd := rfl) (hw := rfl)); (first | exact q_move rfl (by conv => lhs; whnf) | exact q_assign rfl (by conv => lhs; whnf) | exact q_add rfl rfl rfl (by omega) | exact q_sub rfl rfl rfl (by omega) | exact q_neg rfl rfl (by omega) | exact q_rem_in rfl rfl rfl (by omega) | exact q_quo_in rfl rfl rfl (by omega) | exact q_lss_t rfl rfl rfl (by omega) | exact q_lss_f rfl rfl rfl (by omega) | exact q_leq_t rfl rfl rfl (by omega) | exact q_leq_f rfl rfl rfl (by omega) | exact q_gtr_t rfl rfl rfl (by omega) | exact q_gtr_f rfl rfl rfl (by omega) | exact q_geq_t rfl rfl rfl (by omega) | exact q_geq_f rfl rfl rfl (by omega) | exact q_eql_t rfl rfl rfl (by omega) | exact q_eql_f rfl rfl rfl (by omega) | exact q_neq_t rfl rfl rfl (by omega) | exact q_neq_f rfl rfl rfl (by omega) | exact q_int rfl rfl rfl rfl | exact q_not rfl rfl | exact q_pick_t rfl rfl (by conv => lhs; whnf) | exact q_pick_f rfl rfl (by conv => lhs; whnf) | exact q_extract rfl rfl rfl | exact q_max rfl rfl rfl | exact q_min rfl rfl rfl)) | refine ano rfl rfl rfl ?_ | refine adr_no rfl rfl rfl ?_)
  refine aa rfl rfl rfl (h_allocS hi hz H rfl (fun B4 m4 H _ => ?_))
  repeat (first | refine awp_cut_mix [1,2,4,5] (fun vs m => ∃ (p : Option Addr × Nat) (B5 : Nat), vs = [.bool mir, .pointer (some ⟨B2, 0, Option.none⟩), .pointer (some ⟨B4, 0, Option.none⟩), .pointer (some ⟨B5, 0, Option.none⟩)] ∧ HP m [.vs 37 B5 (suc s.h s.w s.p (.slice p.1 s.hs.length p.2)), .i 3 (.slice p.1 s.hs.length p.2) (List.replicate s.hs.length 0), .vs 37 B4 (suc 0 0 0 (.slice Option.none 0 0)), .vs 37 B2 (suc s.w s.h s.p (.slice av s.hs.length cv))]) [(0, true), (1, true), (2, true), (3, true), (4, true), (5, true), (6, true), (7, true), (8, true)] #[true, true, true, true, true, true, true, true, true, false, false, false, false] 4 (by kernel_rfl) rfl (by kernel_rfl) ?_ ?_ | with_reducible (first | refine awp_seq ?_ | refine awp_region ?_ | refine awp_region_q (by kernel_rfl) (by kernel_rfl) ?_ | refine adr_nil ?_ | refine adr_end ?_ | refine aops_then ?_ | refine aops_nil ?_ | refine awp_block ?_ | refine awp_label ?_ | refine awp_scope ?_ | refine pn_scope ?_ | refine px_scope ?_ | refine pr_scope ?_ | refine px_then ?_ | refine px_block ?_ | refine px_block_ne rfl ?_ | refine pn_block ?_ | refine pn_then ?_ | refine pn_asg ?_ | refine pn_rnd ?_ | refine px_rnd ?_ | refine awp_exit ?_ | refine awp_skip ?_ | refine awp_ret ?_ | refine pr_then ?_ | refine pr_block ?_ | refine pr_rnd ?_ | refine pr_retM ?_ | refine pn_retM ?_ | refine pr_ret ?_ | refine pn_ret ?_) | refine awp_cond_t rfl rfl ?_ | refine awp_cond_f rfl rfl ?_ | ((first | apply aq (hd := rfl) (hok := rfl) (hw := rfl) | apply adr_q (ho := rfl) (hd := rfl) (hw := rfl)); (first | exact q_SF rfl rfl (by decide) | exact q_ldC 1 H rfl rfl rfl rfl iT.int rfl | exact q_ldC 1 H rfl rfl rfl rfl iT.slice rfl | exact q_lenI iT (hv.le (Le.none _)) rfl rfl | exact q_move rfl (by conv => lhs; whnf) | exact q_assign rfl (by conv => lhs; whnf) | exact q_add rfl rfl rfl (by omega) | exact q_sub rfl rfl rfl (by omega) | exact q_neg rfl rfl (by omega) | exact q_rem_in rfl rfl rfl (by omega) | exact q_quo_in rfl rfl rfl (by omega) | exact q_lss_t rfl rfl rfl (by omega) | exact q_lss_f rfl rfl rfl (by omega) | exact q_leq_t rfl rfl rfl (by omega) | exact q_leq_f rfl rfl rfl (by omega) | exact q_gtr_t rfl rfl rfl (by omega) | exact q_gtr_f rfl rfl rfl (by omega) | exact q_geq_t rfl rfl rfl (by omega) | exact q_geq_f rfl rfl rfl (by omega) | exact q_eql_t rfl rfl rfl (by omega) | exact q_eql_f rfl rfl rfl (by omega) | exact q_neq_t rfl rfl rfl (by omega) | exact q_neq_f rfl rfl rfl (by omega) | exact q_int rfl rfl rfl rfl | exact q_not rfl rfl | exact q_pick_t rfl rfl (by conv => lhs; whnf) | exact q_pick_f rfl rfl (by conv => lhs; whnf) | exact q_extract rfl rfl rfl | exact q_max rfl rfl rfl | exact q_min rfl rfl rfl)) | refine ano rfl rfl rfl ?_ | refine adr_no rfl rfl rfl ?_)
  · refine any_each [9, 11] (by kernel_rfl) rfl (each_cons ?_ (each_cons ?_ (each_nil)))
    · refine step_le rfl (by kernel_rfl) rfl rfl (h_makeF iT s.hs.length H rfl rfl rfl rfl (by omega) (fun B9 m9 H hl => ⟨hl, ?_⟩))
      refine aany_take 10 rfl (by kernel_rfl) rfl (q_bSu rfl rfl rfl rfl rfl) ?_
      refine any_each [11] (by kernel_rfl) rfl (each_cons ?_ (each_nil))
      refine step_le rfl (by kernel_rfl) rfl rfl (h_allocS hi hz H rfl (fun B11 m11 H hl => ⟨hl, ?_⟩))
      refine any_each [12] (by kernel_rfl) rfl (each_cons ?_ (each_nil))
      refine step_fix rfl (by kernel_rfl) rfl (by kernel_rfl) rfl (h_stA (us := suc s.h s.w s.p (.slice B9.1 s.hs.length B9.2)) 0 H rfl rfl rfl rfl szU rfl rfl (fun m12 H => ?_))
      refine aany_done (by kernel_rfl) ?_
      refine cut_n ?_
      exact ⟨B9, B11, rfl, H.picks [0, 1, 2, 3] (by decide)⟩
    · refine step_le rfl (by kernel_rfl) rfl rfl (h_allocS hi hz H rfl (fun B11 m11 H hl => ⟨hl, ?_⟩))
      refine any_each [9] (by kernel_rfl) rfl (each_cons ?_ (each_nil))
      refine step_le rfl (by kernel_rfl) rfl rfl (h_makeF iT s.hs.length H rfl rfl rfl rfl (by omega) (fun B9 m9 H hl => ⟨hl, ?_⟩))
      refine aany_take 10 rfl (by kernel_rfl) rfl (q_bSu rfl rfl rfl rfl rfl) ?_
      refine any_each [12] (by kernel_rfl) rfl (each_cons ?_ (each_nil))
      refine step_fix rfl (by kernel_rfl) rfl (by kernel_rfl) rfl (h_stA (us := suc s.h s.w s.p (.slice B9.1 s.hs.length B9.2)) 1 H rfl rfl rfl rfl szU rfl rfl (fun m12 H => ?_))
      refine aany_done (by kernel_rfl) ?_
      refine cut_n ?_
      exact ⟨B9, B11, rfl, H.picks [1, 0, 2, 3] (by decide)⟩
  rintro fr vs m ⟨p, B5, rfl, H⟩
  have hmir : (∃ H' : HP m [.vs 37 B5 (suc s.h s.w s.p (.slice p.1 s.hs.length p.2)), .i 3 (.slice p.1 s.hs.length p.2) (List.replicate s.hs.length 0), .vs 37 B4 (suc 0 0 0 (.slice Option.none 0 0)), .vs 37 B2 (suc s.w s.h s.p (.slice av s.hs.length cv))], True) := ⟨H, trivial⟩
  clear hmir
  cases mir
  · repeat (first | with_reducible (first | refine awp_seq ?_ | refine awp_region ?_ | refine awp_region_q (by kernel_rfl) (by kernel_rfl) ?_ | refine adr_nil ?_ | refine adr_end ?_ | refine aops_then ?_ | refine aops_nil ?_ | refine awp_block ?_ | refine awp_label ?_ | refine awp_scope ?_ | refine pn_scope ?_ | refine px_scope ?_ | refine pr_scope ?_ | refine px_then ?_ | refine px_block ?_ | refine px_block_ne rfl ?_ | refine pn_block ?_ | refine pn_then ?_ | refine pn_asg ?_ | refine pn_rnd ?_ | refine px_rnd ?_ | refine awp_exit ?_ | refine awp_skip ?_ | refine awp_ret ?_ | refine pr_then ?_ | refine pr_block ?_ | refine pr_rnd ?_ | refine pr_retM ?_ | refine pn_retM ?_ | refine pr_ret ?_ | refine pn_ret ?_) | refine awp_cond_t rfl rfl ?_ | refine awp_cond_f rfl rfl ?_ | ((first | apply aq (hd := rfl) (hok := rfl) (hw := rfl) | apply adr_q (ho := rfl) (hd := rfl) (hw := rfl)); (first | exact q_SF rfl rfl (by decide) | exact q_ldC 3 H rfl rfl rfl rfl iT.int rfl | exact q_move rfl (by conv => lhs; whnf) | exact q_assign rfl (by conv => lhs; whnf) | exact q_add rfl rfl rfl (by omega) | exact q_sub rfl rfl rfl (by omega) | exact q_neg rfl rfl (by omega) | exact q_rem_in rfl rfl rfl (by omega) | exact q_quo_in rfl rfl rfl (by omega) | exact q_lss_t rfl rfl rfl (by omega) | exact q_lss_f rfl rfl rfl (by omega) | exact q_leq_t rfl rfl rfl (by omega) | exact q_leq_f rfl rfl rfl (by omega) | exact q_gtr_t rfl rfl rfl (by omega) | exact q_gtr_f rfl rfl rfl (by omega) | exact q_geq_t rfl rfl rfl (by omega) | exact q_geq_f rfl rfl rfl (by omega) | exact q_eql_t rfl rfl rfl (by omega) | exact q_eql_f rfl rfl rfl (by omega) | exact q_neq_t rfl rfl rfl (by omega) | exact q_neq_f rfl rfl rfl (by omega) | exact q_int rfl rfl rfl rfl | exact q_not rfl rfl | exact q_pick_t rfl rfl (by conv => lhs; whnf) | exact q_pick_f rfl rfl (by conv => lhs; whnf) | exact q_extract rfl rfl rfl | exact q_max rfl rfl rfl | exact q_min rfl rfl rfl)) | refine ano rfl rfl rfl ?_ | refine adr_no rfl rfl rfl ?_)
    refine awp_loop [1, 2, 4, 5, 29, 30] (fun vs m => ∃ y : Nat, vs = [.bool false, .pointer (some ⟨B2, 0, Option.none⟩), .pointer (some ⟨B4, 0, Option.none⟩), .pointer (some ⟨B5, 0, Option.none⟩), .int .i64 s.h, .int .i64 y] ∧ y ≤ k ∧ HP m [.vs 37 B5 (suc s.h s.w s.p (.slice p.1 s.hs.length p.2)), .i 3 (.slice p.1 s.hs.length p.2) (stL s false (y * w)), .vs 37 B4 (suc 0 0 0 (.slice Option.none 0 0)), .vs 37 B2 (suc s.w s.h s.p (.slice av s.hs.length cv))])
      (fun vs _ => k - (intOf (vs.getD 5 undef)).toNat) ⟨0, rfl, Nat.zero_le _, by rw [Nat.zero_mul]; exact H⟩ ?_
    clear H
    rintro fr2 vs2 m2 - ⟨y, rfl, hy, H⟩
    by_cases hlt : y < k
    · repeat (first | with_reducible (first | refine awp_seq ?_ | refine awp_region ?_ | refine awp_region_q (by kernel_rfl) (by kernel_rfl) ?_ | refine adr_nil ?_ | refine adr_end ?_ | refine aops_then ?_ | refine aops_nil ?_ | refine awp_block ?_ | refine awp_label ?_ | refine awp_scope ?_ | refine pn_scope ?_ | refine px_scope ?_ | refine pr_scope ?_ | refine px_then ?_ | refine px_block ?_ | refine px_block_ne rfl ?_ | refine pn_block ?_ | refine pn_then ?_ | refine pn_asg ?_ | refine pn_rnd ?_ | refine px_rnd ?_ | refine awp_exit ?_ | refine awp_skip ?_ | refine awp_ret ?_ | refine pr_then ?_ | refine pr_block ?_ | refine pr_rnd ?_ | refine pr_retM ?_ | refine pn_retM ?_ | refine pr_ret ?_ | refine pn_ret ?_) | refine awp_cond_t rfl rfl ?_ | refine awp_cond_f rfl rfl ?_ | ((first | apply aq (hd := rfl) (hok := rfl) (hw := rfl) | apply adr_q (ho := rfl) (hd := rfl) (hw := rfl)); (first | exact q_SF rfl rfl (by decide) | exact q_ldC 3 H rfl rfl rfl rfl iT.int rfl | exact q_move rfl (by conv => lhs; whnf) | exact q_assign rfl (by conv => lhs; whnf) | exact q_add rfl rfl rfl (by omega) | exact q_sub rfl rfl rfl (by omega) | exact q_neg rfl rfl (by omega) | exact q_rem_in rfl rfl rfl (by omega) | exact q_quo_in rfl rfl rfl (by omega) | exact q_lss_t rfl rfl rfl (by omega) | exact q_lss_f rfl rfl rfl (by omega) | exact q_leq_t rfl rfl rfl (by omega) | exact q_leq_f rfl rfl rfl (by omega) | exact q_gtr_t rfl rfl rfl (by omega) | exact q_gtr_f rfl rfl rfl (by omega) | exact q_geq_t rfl rfl rfl (by omega) | exact q_geq_f rfl rfl rfl (by omega) | exact q_eql_t rfl rfl rfl (by omega) | exact q_eql_f rfl rfl rfl (by omega) | exact q_neq_t rfl rfl rfl (by omega) | exact q_neq_f rfl rfl rfl (by omega) | exact q_int rfl rfl rfl rfl | exact q_not rfl rfl | exact q_pick_t rfl rfl (by conv => lhs; whnf) | exact q_pick_f rfl rfl (by conv => lhs; whnf) | exact q_extract rfl rfl rfl | exact q_max rfl rfl rfl | exact q_min rfl rfl rfl)) | refine ano rfl rfl rfl ?_ | refine adr_no rfl rfl rfl ?_)
      refine awp_loop [1, 2, 4, 5, 6, 29, 30, 34, 35] (fun vs m => ∃ x : Nat, vs = [.bool false, .pointer (some ⟨B2, 0, Option.none⟩), .pointer (some ⟨B4, 0, Option.none⟩), .pointer (some ⟨B5, 0, Option.none⟩), .int .i64 y, .int .i64 s.h, .int .i64 y, .int .i64 s.w, .int .i64 x] ∧ x ≤ w ∧ HP m [.vs 37 B5 (suc s.h s.w s.p (.slice p.1 s.hs.length p.2)), .i 3 (.slice p.1 s.hs.length p.2) (stL s false (y * w + x)), .vs 37 B4 (suc 0 0 0 (.slice Option.none 0 0)), .vs 37 B2 (suc s.w s.h s.p (.slice av s.hs.length cv))])
        (fun vs _ => w - (intOf (vs.getD 8 undef)).toNat) ⟨0, rfl, Nat.zero_le _, H⟩ ?_
      clear H
      rintro fr3 vs3 m3 - ⟨x, rfl, hx, H⟩
      by_cases hlx : x < w
      · have hc := at_cell (w := w) (x := x) (y := y) hlx
        have hN : y * w + x < s.hs.length := by
          rw [hlen]
          have : (y + 1) * w ≤ k * w := Nat.mul_le_mul_right _ (by omega)
          rw [Nat.add_mul, Nat.one_mul] at this
          omega
        have hd := (turS_at g false (x := x) (y := y) (by omega) (by omega)).1
        have hsl := stL_len s false (y * w + x)
        have hst : stL s false (y * w + x + 1) = (stL s false (y * w + x)).set (dst s false x y) (s.hs.getD (y * w + x) 0) := by
          show (stL s false (y * w + x)).set (dst s false ((y * w + x) % s.w.toNat) ((y * w + x) / s.w.toNat)) _ = _
          rw [tw, hc.1, hc.2]
        obtain ⟨Z1, e1⟩ : ∃ z, (x : Int) * s.h = z := ⟨_, rfl⟩
        obtain ⟨Z2, e2⟩ : ∃ z, (y : Int) * s.w = z := ⟨_, rfl⟩
        have f2 : Z2 = ((y * w : Nat) : Int) := by rw [← e2, hw', Int.natCast_mul]
        have f1 : Z1 = ((x * k : Nat) : Int) := by rw [← e1, hh', Int.natCast_mul]
        have hdn : dst s false x y = x * k + (s.h - 1 - y).toNat := by
          show x * s.h.toNat + (s.h - 1 - y).toNat = _
          rw [th]
        have i2 : (Z2 + x).toNat = y * w + x := by omega
        have hix : 0 ≤ s.h - 1 - y := by omega
        have i1 : (Z1 + (s.h - 1 - y)).toNat = dst s false x y := by rw [hdn]; omega
        have hl1 : dst s false x y < (stL s false (y * w + x)).length := by rw [hsl]; exact hd
        have hT := (H.sl 1 rfl).sl (W := W)
        rw [hsl] at hT
        repeat (first | refine awp_region_ord (ordFrom 19 0 ++ [(19, false)]) (by kernel_rfl) (Nat.le_of_ble_eq_true rfl) (by kernel_rfl) ?_ | with_reducible (first | refine awp_seq ?_ | refine awp_region ?_ | refine awp_region_q (by kernel_rfl) (by kernel_rfl) ?_ | refine adr_nil ?_ | refine adr_end ?_ | refine aops_then ?_ | refine aops_nil ?_ | refine awp_block ?_ | refine awp_label ?_ | refine awp_scope ?_ | refine pn_scope ?_ | refine px_scope ?_ | refine pr_scope ?_ | refine px_then ?_ | refine px_block ?_ | refine px_block_ne rfl ?_ | refine pn_block ?_ | refine pn_then ?_ | refine pn_asg ?_ | refine pn_rnd ?_ | refine px_rnd ?_ | refine awp_exit ?_ | refine awp_skip ?_ | refine awp_ret ?_ | refine pr_then ?_ | refine pr_block ?_ | refine pr_rnd ?_ | refine pr_retM ?_ | refine pn_retM ?_ | refine pr_ret ?_ | refine pn_ret ?_) | refine awp_cond_t rfl rfl ?_ | refine awp_cond_f rfl rfl ?_ | ((first | apply aq (hd := rfl) (hok := rfl) (hw := rfl) | apply adr_q (ho := rfl) (hd := rfl) (hw := rfl)); (first | exact q_SF rfl rfl (by decide) | exact q_ldC 3 H rfl rfl rfl rfl iT.int rfl | exact q_ldC 3 H rfl rfl rfl rfl iT.slice rfl | exact q_ldC 0 H rfl rfl rfl rfl iT.int rfl | exact q_ldC 0 H rfl rfl rfl rfl iT.slice rfl | exact q_mulX e1 rfl rfl rfl (by omega) | exact q_mulX e2 rfl rfl rfl (by omega) | exact q_ixI iT (hv.le (Le.none _)) rfl rfl rfl (by omega) (by omega) | exact q_ldI iT (hv.le (Le.none _)) rfl rfl (by omega) | exact q_ixI iT hT rfl rfl rfl (by omega) (by omega) | exact q_move rfl (by conv => lhs; whnf) | exact q_assign rfl (by conv => lhs; whnf) | exact q_add rfl rfl rfl (by omega) | exact q_sub rfl rfl rfl (by omega) | exact q_neg rfl rfl (by omega) | exact q_rem_in rfl rfl rfl (by omega) | exact q_quo_in rfl rfl rfl (by omega) | exact q_lss_t rfl rfl rfl (by omega) | exact q_lss_f rfl rfl rfl (by omega) | exact q_leq_t rfl rfl rfl (by omega) | exact q_leq_f rfl rfl rfl (by omega) | exact q_gtr_t rfl rfl rfl (by omega) | exact q_gtr_f rfl rfl rfl (by omega) | exact q_geq_t rfl rfl rfl (by omega) | exact q_geq_f rfl rfl rfl (by omega) | exact q_eql_t rfl rfl rfl (by omega) | exact q_eql_f rfl rfl rfl (by omega) | exact q_neq_t rfl rfl rfl (by omega) | exact q_neq_f rfl rfl rfl (by omega) | exact q_int rfl rfl rfl rfl | exact q_not rfl rfl | exact q_pick_t rfl rfl (by conv => lhs; whnf) | exact q_pick_f rfl rfl (by conv => lhs; whnf) | exact q_extract rfl rfl rfl | exact q_max rfl rfl rfl | exact q_min rfl rfl rfl)) | refine ano rfl rfl rfl ?_ | refine adr_no rfl rfl rfl ?_)
        clear hT
        refine adr_u rfl rfl (by kernel_rfl) rfl (h_setI iT 1 H rfl rfl rfl rfl (by rw [i1]; exact hl1) (fun m4 H => ?_))
        rw [i1, i2] at H
        have H : HP m4 [.vs 37 B5 (suc s.h s.w s.p (.slice p.1 s.hs.length p.2)), .sl (.slice p.1 s.hs.length p.2) 3 1 (stL s false (y * w + x)).length (i64s ((stL s false (y * w + x)).set (dst s false x y) (s.hs.getD (y * w + x) 0))), .vs 37 B4 (suc 0 0 0 (.slice Option.none 0 0)), .vs 37 B2 (suc s.w s.h s.p (.slice av s.hs.length cv))] := H
        rw [← hst, hsl] at H
        have el : (stL s false (y * w + x + 1)).length = s.hs.length := stL_len ..
        have H : HP m4 [.vs 37 B5 (suc s.h s.w s.p (.slice p.1 s.hs.length p.2)), .i 3 (.slice p.1 s.hs.length p.2) (stL s false (y * w + x + 1)), .vs 37 B4 (suc 0 0 0 (.slice Option.none 0 0)), .vs 37 B2 (suc s.w s.h s.p (.slice av s.hs.length cv))] := by
          show HP m4 [_, .sl _ 3 1 (stL s false (y * w + x + 1)).length (i64s (stL s false (y * w + x + 1))), _, _]
          rw [el]; exact H
        repeat (first | with_reducible (first | refine awp_seq ?_ | refine awp_region ?_ | refine awp_region_q (by kernel_rfl) (by kernel_rfl) ?_ | refine adr_nil ?_ | refine adr_end ?_ | refine aops_then ?_ | refine aops_nil ?_ | refine awp_block ?_ | refine awp_label ?_ | refine awp_scope ?_ | refine pn_scope ?_ | refine px_scope ?_ | refine pr_scope ?_ | refine px_then ?_ | refine px_block ?_ | refine px_block_ne rfl ?_ | refine pn_block ?_ | refine pn_then ?_ | refine pn_asg ?_ | refine pn_rnd ?_ | refine px_rnd ?_ | refine awp_exit ?_ | refine awp_skip ?_ | refine awp_ret ?_ | refine pr_then ?_ | refine pr_block ?_ | refine pr_rnd ?_ | refine pr_retM ?_ | refine pn_retM ?_ | refine pr_ret ?_ | refine pn_ret ?_) | refine awp_cond_t rfl rfl ?_ | refine awp_cond_f rfl rfl ?_ | ((first | apply aq (hd := rfl) (hok := rfl) (hw := rfl) | apply adr_q (ho := rfl) (hd := rfl) (hw := rfl)); (first | exact q_move rfl (by conv => lhs; whnf) | exact q_assign rfl (by conv => lhs; whnf) | exact q_add rfl rfl rfl (by omega) | exact q_sub rfl rfl rfl (by omega) | exact q_neg rfl rfl (by omega) | exact q_rem_in rfl rfl rfl (by omega) | exact q_quo_in rfl rfl rfl (by omega) | exact q_lss_t rfl rfl rfl (by omega) | exact q_lss_f rfl rfl rfl (by omega) | exact q_leq_t rfl rfl rfl (by omega) | exact q_leq_f rfl rfl rfl (by omega) | exact q_gtr_t rfl rfl rfl (by omega) | exact q_gtr_f rfl rfl rfl (by omega) | exact q_geq_t rfl rfl rfl (by omega) | exact q_geq_f rfl rfl rfl (by omega) | exact q_eql_t rfl rfl rfl (by omega) | exact q_eql_f rfl rfl rfl (by omega) | exact q_neq_t rfl rfl rfl (by omega) | exact q_neq_f rfl rfl rfl (by omega) | exact q_int rfl rfl rfl rfl | exact q_not rfl rfl | exact q_pick_t rfl rfl (by conv => lhs; whnf) | exact q_pick_f rfl rfl (by conv => lhs; whnf) | exact q_extract rfl rfl rfl | exact q_max rfl rfl rfl | exact q_min rfl rfl rfl)) | refine ano rfl rfl rfl ?_ | refine adr_no rfl rfl rfl ?_)
        exact ⟨⟨x + 1, rfl, by omega, H⟩, by show w - ((x : Int) + 1).toNat < w - (x : Int).toNat; omega⟩
      · obtain rfl : x = w := by omega
        repeat (first | with_reducible (first | refine awp_seq ?_ | refine awp_region ?_ | refine awp_region_q (by kernel_rfl) (by kernel_rfl) ?_ | refine adr_nil ?_ | refine adr_end ?_ | refine aops_then ?_ | refine aops_nil ?_ | refine awp_block ?_ | refine awp_label ?_ | refine awp_scope ?_ | refine pn_scope ?_ | refine px_scope ?_ | refine pr_scope ?_ | refine px_then ?_ | refine px_block ?_ | refine px_block_ne rfl ?_ | refine pn_block ?_ | refine pn_then ?_ | refine pn_asg ?_ | refine pn_rnd ?_ | refine px_rnd ?_ | refine awp_exit ?_ | refine awp_skip ?_ | refine awp_ret ?_ | refine pr_then ?_ | refine pr_block ?_ | refine pr_rnd ?_ | refine pr_retM ?_ | refine pn_retM ?_ | refine pr_ret ?_ | refine pn_ret ?_) | refine awp_cond_t rfl rfl ?_ | refine awp_cond_f rfl rfl ?_ | ((first | apply aq (hd := rfl) (hok := rfl) (hw := rfl) | apply adr_q (ho := rfl) (hd := rfl) (hw := rfl)); (first | exact q_move rfl (by conv => lhs; whnf) | exact q_assign rfl (by conv => lhs; whnf) | exact q_add rfl rfl rfl (by omega) | exact q_sub rfl rfl rfl (by omega) | exact q_neg rfl rfl (by omega) | exact q_rem_in rfl rfl rfl (by omega) | exact q_quo_in rfl rfl rfl (by omega) | exact q_lss_t rfl rfl rfl (by omega) | exact q_lss_f rfl rfl rfl (by omega) | exact q_leq_t rfl rfl rfl (by omega) | exact q_leq_f rfl rfl rfl (by omega) | exact q_gtr_t rfl rfl rfl (by omega) | exact q_gtr_f rfl rfl rfl (by omega) | exact q_geq_t rfl rfl rfl (by omega) | exact q_geq_f rfl rfl rfl (by omega) | exact q_eql_t rfl rfl rfl (by omega) | exact q_eql_f rfl rfl rfl (by omega) | exact q_neq_t rfl rfl rfl (by omega) | exact q_neq_f rfl rfl rfl (by omega) | exact q_int rfl rfl rfl rfl | exact q_not rfl rfl | exact q_pick_t rfl rfl (by conv => lhs; whnf) | exact q_pick_f rfl rfl (by conv => lhs; whnf) | exact q_extract rfl rfl rfl | exact q_max rfl rfl rfl | exact q_min rfl rfl rfl)) | refine ano rfl rfl rfl ?_ | refine adr_no rfl rfl rfl ?_)
        exact ⟨⟨y + 1, rfl, by omega, by rw [Nat.add_mul, Nat.one_mul]; exact H⟩, by show k - ((y : Int) + 1).toNat < k - (y : Int).toNat; omega⟩
    · obtain rfl : y = k := by omega
      rw [← hlen, stL_all g] at H
      repeat (first | with_reducible (first | refine awp_seq ?_ | refine awp_region ?_ | refine awp_region_q (by kernel_rfl) (by kernel_rfl) ?_ | refine adr_nil ?_ | refine adr_end ?_ | refine aops_then ?_ | refine aops_nil ?_ | refine awp_block ?_ | refine awp_label ?_ | refine awp_scope ?_ | refine pn_scope ?_ | refine px_scope ?_ | refine pr_scope ?_ | refine px_then ?_ | refine px_block ?_ | refine px_block_ne rfl ?_ | refine pn_block ?_ | refine pn_then ?_ | refine pn_asg ?_ | refine pn_rnd ?_ | refine px_rnd ?_ | refine awp_exit ?_ | refine awp_skip ?_ | refine awp_ret ?_ | refine pr_then ?_ | refine pr_block ?_ | refine pr_rnd ?_ | refine pr_retM ?_ | refine pn_retM ?_ | refine pr_ret ?_ | refine pn_ret ?_) | refine awp_cond_t rfl rfl ?_ | refine awp_cond_f rfl rfl ?_ | ((first | apply aq (hd := rfl) (hok := rfl) (hw := rfl) | apply adr_q (ho := rfl) (hd := rfl) (hw := rfl)); (first | exact q_ldA 0 H rfl rfl rfl Try.underlying37 rfl szU | exact q_move rfl (by conv => lhs; whnf) | exact q_assign rfl (by conv => lhs; whnf) | exact q_add rfl rfl rfl (by omega) | exact q_sub rfl rfl rfl (by omega) | exact q_neg rfl rfl (by omega) | exact q_rem_in rfl rfl rfl (by omega) | exact q_quo_in rfl rfl rfl (by omega) | exact q_lss_t rfl rfl rfl (by omega) | exact q_lss_f rfl rfl rfl (by omega) | exact q_leq_t rfl rfl rfl (by omega) | exact q_leq_f rfl rfl rfl (by omega) | exact q_gtr_t rfl rfl rfl (by omega) | exact q_gtr_f rfl rfl rfl (by omega) | exact q_geq_t rfl rfl rfl (by omega) | exact q_geq_f rfl rfl rfl (by omega) | exact q_eql_t rfl rfl rfl (by omega) | exact q_eql_f rfl rfl rfl (by omega) | exact q_neq_t rfl rfl rfl (by omega) | exact q_neq_f rfl rfl rfl (by omega) | exact q_int rfl rfl rfl rfl | exact q_not rfl rfl | exact q_pick_t rfl rfl (by conv => lhs; whnf) | exact q_pick_f rfl rfl (by conv => lhs; whnf) | exact q_extract rfl rfl rfl | exact q_max rfl rfl rfl | exact q_min rfl rfl rfl)) | refine ano rfl rfl rfl ?_ | refine adr_no rfl rfl rfl ?_)
      refine au rfl rfl rfl (h_stA (us := suc s.h s.w s.p (.slice p.1 s.hs.length p.2)) 2 H rfl rfl rfl rfl szU rfl rfl (fun m5 H => ?_))
      repeat (first | with_reducible (first | refine awp_seq ?_ | refine awp_region ?_ | refine awp_region_q (by kernel_rfl) (by kernel_rfl) ?_ | refine adr_nil ?_ | refine adr_end ?_ | refine aops_then ?_ | refine aops_nil ?_ | refine awp_block ?_ | refine awp_label ?_ | refine awp_scope ?_ | refine pn_scope ?_ | refine px_scope ?_ | refine pr_scope ?_ | refine px_then ?_ | refine px_block ?_ | refine px_block_ne rfl ?_ | refine pn_block ?_ | refine pn_then ?_ | refine pn_asg ?_ | refine pn_rnd ?_ | refine px_rnd ?_ | refine awp_exit ?_ | refine awp_skip ?_ | refine awp_ret ?_ | refine pr_then ?_ | refine pr_block ?_ | refine pr_rnd ?_ | refine pr_retM ?_ | refine pn_retM ?_ | refine pr_ret ?_ | refine pn_ret ?_) | refine awp_cond_t rfl rfl ?_ | refine awp_cond_f rfl rfl ?_ | ((first | apply aq (hd := rfl) (hok := rfl) (hw := rfl) | apply adr_q (ho := rfl) (hd := rfl) (hw := rfl)); (first | exact q_move rfl (by conv => lhs; whnf) | exact q_assign rfl (by conv => lhs; whnf) | exact q_add rfl rfl rfl (by omega) | exact q_sub rfl rfl rfl (by omega) | exact q_neg rfl rfl (by omega) | exact q_rem_in rfl rfl rfl (by omega) | exact q_quo_in rfl rfl rfl (by omega) | exact q_lss_t rfl rfl rfl (by omega) | exact q_lss_f rfl rfl rfl (by omega) | exact q_leq_t rfl rfl rfl (by omega) | exact q_leq_f rfl rfl rfl (by omega) | exact q_gtr_t rfl rfl rfl (by omega) | exact q_gtr_f rfl rfl rfl (by omega) | exact q_geq_t rfl rfl rfl (by omega) | exact q_geq_f rfl rfl rfl (by omega) | exact q_eql_t rfl rfl rfl (by omega) | exact q_eql_f rfl rfl rfl (by omega) | exact q_neq_t rfl rfl rfl (by omega) | exact q_neq_f rfl rfl rfl (by omega) | exact q_int rfl rfl rfl rfl | exact q_not rfl rfl | exact q_pick_t rfl rfl (by conv => lhs; whnf) | exact q_pick_f rfl rfl (by conv => lhs; whnf) | exact q_extract rfl rfl rfl | exact q_max rfl rfl rfl | exact q_min rfl rfl rfl)) | refine ano rfl rfl rfl ?_ | refine adr_no rfl rfl rfl ?_)
      exact ⟨_, ⟨B4, suc s.h s.w s.p (.slice p.1 s.hs.length p.2), rfl, rfl, hs.symm, fun j x hj => H.cellS 2 j rfl hj⟩, _, rfl, H.picks [1] (by decide)⟩
  · skip
    repeat (first | refine awp_cut_J [1,2,4,5] (fun vs m => vs = [.bool true, .pointer (some ⟨B2, 0, Option.none⟩), .pointer (some ⟨B4, 0, Option.none⟩), .pointer (some ⟨B5, 0, Option.none⟩)] ∧ HP m [.vs 37 B5 (suc s.w s.h s.p (.slice p.1 s.hs.length p.2)), .i 3 (.slice p.1 s.hs.length p.2) (List.replicate s.hs.length 0), .vs 37 B4 (suc 0 0 0 (.slice Option.none 0 0)), .vs 37 B2 (suc s.w s.h s.p (.slice av s.hs.length cv))]) (fun i => [0, 1, 2, 3].contains i) [.vs 37 B2 (suc s.w s.h s.p (.slice av s.hs.length cv))] (by kernel_rfl) ?_ ?_ | with_reducible (first | refine awp_seq ?_ | refine awp_region ?_ | refine awp_region_q (by kernel_rfl) (by kernel_rfl) ?_ | refine adr_nil ?_ | refine adr_end ?_ | refine aops_then ?_ | refine aops_nil ?_ | refine awp_block ?_ | refine awp_label ?_ | refine awp_scope ?_ | refine pn_scope ?_ | refine px_scope ?_ | refine pr_scope ?_ | refine px_then ?_ | refine px_block ?_ | refine px_block_ne rfl ?_ | refine pn_block ?_ | refine pn_then ?_ | refine pn_asg ?_ | refine pn_rnd ?_ | refine px_rnd ?_ | refine awp_exit ?_ | refine awp_skip ?_ | refine awp_ret ?_ | refine pr_then ?_ | refine pr_block ?_ | refine pr_rnd ?_ | refine pr_retM ?_ | refine pn_retM ?_ | refine pr_ret ?_ | refine pn_ret ?_) | refine awp_cond_t rfl rfl ?_ | refine awp_cond_f rfl rfl ?_ | ((first | apply aq (hd := rfl) (hok := rfl) (hw := rfl) | apply adr_q (ho := rfl) (hd := rfl) (hw := rfl)); (first | exact q_move rfl (by conv => lhs; whnf) | exact q_assign rfl (by conv => lhs; whnf) | exact q_add rfl rfl rfl (by omega) | exact q_sub rfl rfl rfl (by omega) | exact q_neg rfl rfl (by omega) | exact q_rem_in rfl rfl rfl (by omega) | exact q_quo_in rfl rfl rfl (by omega) | exact q_lss_t rfl rfl rfl (by omega) | exact q_lss_f rfl rfl rfl (by omega) | exact q_leq_t rfl rfl rfl (by omega) | exact q_leq_f rfl rfl rfl (by omega) | exact q_gtr_t rfl rfl rfl (by omega) | exact q_gtr_f rfl rfl rfl (by omega) | exact q_geq_t rfl rfl rfl (by omega) | exact q_geq_f rfl rfl rfl (by omega) | exact q_eql_t rfl rfl rfl (by omega) | exact q_eql_f rfl rfl rfl (by omega) | exact q_neq_t rfl rfl rfl (by omega) | exact q_neq_f rfl rfl rfl (by omega) | exact q_int rfl rfl rfl rfl | exact q_not rfl rfl | exact q_pick_t rfl rfl (by conv => lhs; whnf) | exact q_pick_f rfl rfl (by conv => lhs; whnf) | exact q_extract rfl rfl rfl | exact q_max rfl rfl rfl | exact q_min rfl rfl rfl)) | refine ano rfl rfl rfl ?_ | refine adr_no rfl rfl rfl ?_)
    · (apply aanyJ_free 0 (hH := H.picks [3] (by decide)) (ho := rfl) (hb := by kernel_rfl) (hd := rfl) (hw := rfl)); (intro m H; (first | exact q_SF rfl rfl (by decide) | exact q_ldC 0 H rfl rfl rfl rfl iT.int rfl | exact q_move rfl (by conv => lhs; whnf) | exact q_assign rfl (by conv => lhs; whnf) | exact q_add rfl rfl rfl (by omega) | exact q_sub rfl rfl rfl (by omega) | exact q_neg rfl rfl (by omega) | exact q_rem_in rfl rfl rfl (by omega) | exact q_quo_in rfl rfl rfl (by omega) | exact q_lss_t rfl rfl rfl (by omega) | exact q_lss_f rfl rfl rfl (by omega) | exact q_leq_t rfl rfl rfl (by omega) | exact q_leq_f rfl rfl rfl (by omega) | exact q_gtr_t rfl rfl rfl (by omega) | exact q_gtr_f rfl rfl rfl (by omega) | exact q_geq_t rfl rfl rfl (by omega) | exact q_geq_f rfl rfl rfl (by omega) | exact q_eql_t rfl rfl rfl (by omega) | exact q_eql_f rfl rfl rfl (by omega) | exact q_neq_t rfl rfl rfl (by omega) | exact q_neq_f rfl rfl rfl (by omega) | exact q_int rfl rfl rfl rfl | exact q_not rfl rfl | exact q_pick_t rfl rfl (by conv => lhs; whnf) | exact q_pick_f rfl rfl (by conv => lhs; whnf) | exact q_extract rfl rfl rfl | exact q_max rfl rfl rfl | exact q_min rfl rfl rfl))
      (apply aanyJ_free 1 (hH := H.picks [3] (by decide)) (ho := rfl) (hb := by kernel_rfl) (hd := rfl) (hw := rfl)); (intro m H; (first | exact q_SF rfl rfl (by decide) | exact q_ldC 0 H rfl rfl rfl rfl iT.int rfl | exact q_move rfl (by conv => lhs; whnf) | exact q_assign rfl (by conv => lhs; whnf) | exact q_add rfl rfl rfl (by omega) | exact q_sub rfl rfl rfl (by omega) | exact q_neg rfl rfl (by omega) | exact q_rem_in rfl rfl rfl (by omega) | exact q_quo_in rfl rfl rfl (by omega) | exact q_lss_t rfl rfl rfl (by omega) | exact q_lss_f rfl rfl rfl (by omega) | exact q_leq_t rfl rfl rfl (by omega) | exact q_leq_f rfl rfl rfl (by omega) | exact q_gtr_t rfl rfl rfl (by omega) | exact q_gtr_f rfl rfl rfl (by omega) | exact q_geq_t rfl rfl rfl (by omega) | exact q_geq_f rfl rfl rfl (by omega) | exact q_eql_t rfl rfl rfl (by omega) | exact q_eql_f rfl rfl rfl (by omega) | exact q_neq_t rfl rfl rfl (by omega) | exact q_neq_f rfl rfl rfl (by omega) | exact q_int rfl rfl rfl rfl | exact q_not rfl rfl | exact q_pick_t rfl rfl (by conv => lhs; whnf) | exact q_pick_f rfl rfl (by conv => lhs; whnf) | exact q_extract rfl rfl rfl | exact q_max rfl rfl rfl | exact q_min rfl rfl rfl))
      (apply aanyJ_free 2 (hH := H.picks [3] (by decide)) (ho := rfl) (hb := by kernel_rfl) (hd := rfl) (hw := rfl)); (intro m H; (first | exact q_SF rfl rfl (by decide) | exact q_ldC 0 H rfl rfl rfl rfl iT.int rfl | exact q_move rfl (by conv => lhs; whnf) | exact q_assign rfl (by conv => lhs; whnf) | exact q_add rfl rfl rfl (by omega) | exact q_sub rfl rfl rfl (by omega) | exact q_neg rfl rfl (by omega) | exact q_rem_in rfl rfl rfl (by omega) | exact q_quo_in rfl rfl rfl (by omega) | exact q_lss_t rfl rfl rfl (by omega) | exact q_lss_f rfl rfl rfl (by omega) | exact q_leq_t rfl rfl rfl (by omega) | exact q_leq_f rfl rfl rfl (by omega) | exact q_gtr_t rfl rfl rfl (by omega) | exact q_gtr_f rfl rfl rfl (by omega) | exact q_geq_t rfl rfl rfl (by omega) | exact q_geq_f rfl rfl rfl (by omega) | exact q_eql_t rfl rfl rfl (by omega) | exact q_eql_f rfl rfl rfl (by omega) | exact q_neq_t rfl rfl rfl (by omega) | exact q_neq_f rfl rfl rfl (by omega) | exact q_int rfl rfl rfl rfl | exact q_not rfl rfl | exact q_pick_t rfl rfl (by conv => lhs; whnf) | exact q_pick_f rfl rfl (by conv => lhs; whnf) | exact q_extract rfl rfl rfl | exact q_max rfl rfl rfl | exact q_min rfl rfl rfl))
      (apply aanyJ_free 3 (hH := H.picks [3] (by decide)) (ho := rfl) (hb := by kernel_rfl) (hd := rfl) (hw := rfl)); (intro m H; (first | exact q_SF rfl rfl (by decide) | exact q_ldC 0 H rfl rfl rfl rfl iT.int rfl | exact q_move rfl (by conv => lhs; whnf) | exact q_assign rfl (by conv => lhs; whnf) | exact q_add rfl rfl rfl (by omega) | exact q_sub rfl rfl rfl (by omega) | exact q_neg rfl rfl (by omega) | exact q_rem_in rfl rfl rfl (by omega) | exact q_quo_in rfl rfl rfl (by omega) | exact q_lss_t rfl rfl rfl (by omega) | exact q_lss_f rfl rfl rfl (by omega) | exact q_leq_t rfl rfl rfl (by omega) | exact q_leq_f rfl rfl rfl (by omega) | exact q_gtr_t rfl rfl rfl (by omega) | exact q_gtr_f rfl rfl rfl (by omega) | exact q_geq_t rfl rfl rfl (by omega) | exact q_geq_f rfl rfl rfl (by omega) | exact q_eql_t rfl rfl rfl (by omega) | exact q_eql_f rfl rfl rfl (by omega) | exact q_neq_t rfl rfl rfl (by omega) | exact q_neq_f rfl rfl rfl (by omega) | exact q_int rfl rfl rfl rfl | exact q_not rfl rfl | exact q_pick_t rfl rfl (by conv => lhs; whnf) | exact q_pick_f rfl rfl (by conv => lhs; whnf) | exact q_extract rfl rfl rfl | exact q_max rfl rfl rfl | exact q_min rfl rfl rfl))
      refine aanyJ_take 4 (H.picks [3] (by decide)) rfl (by kernel_rfl) rfl rfl rfl (q_SF rfl rfl (by decide)) ?_
      refine anyJ_each [5] (by kernel_rfl) rfl (each_cons ?_ (each_nil))
      refine stepJ_fix rfl (by kernel_rfl) rfl (by kernel_rfl) rfl (h_stC (u := .int .i64 s.w) 0 H rfl rfl rfl rfl szI rfl (by show (0 : Nat) < 4; omega) (fun m5 H => ⟨H.picks [3] (by decide), ?_⟩))
      refine aanyJ_take 6 (H.picks [3] (by decide)) rfl (by kernel_rfl) rfl rfl rfl (q_SF rfl rfl (by decide)) ?_
      refine anyJ_each [7] (by kernel_rfl) rfl (each_cons ?_ (each_nil))
      refine stepJ_fix rfl (by kernel_rfl) rfl (by kernel_rfl) rfl (h_stC (u := .int .i64 s.h) 0 H rfl rfl rfl rfl szI rfl (by show (1 : Nat) < 4; omega) (fun m7 H => ⟨H.picks [3] (by decide), ?_⟩))
      refine aanyJ_done (by kernel_rfl) ?_
      refine cut_n ?_
      exact ⟨rfl, H.picks [0, 1, 2, 3] (by decide)⟩
    rintro fr1 vs1 m1 ⟨rfl, H⟩
    repeat (first | with_reducible (first | refine awp_seq ?_ | refine awp_region ?_ | refine awp_region_q (by kernel_rfl) (by kernel_rfl) ?_ | refine adr_nil ?_ | refine adr_end ?_ | refine aops_then ?_ | refine aops_nil ?_ | refine awp_block ?_ | refine awp_label ?_ | refine awp_scope ?_ | refine pn_scope ?_ | refine px_scope ?_ | refine pr_scope ?_ | refine px_then ?_ | refine px_block ?_ | refine px_block_ne rfl ?_ | refine pn_block ?_ | refine pn_then ?_ | refine pn_asg ?_ | refine pn_rnd ?_ | refine px_rnd ?_ | refine awp_exit ?_ | refine awp_skip ?_ | refine awp_ret ?_ | refine pr_then ?_ | refine pr_block ?_ | refine pr_rnd ?_ | refine pr_retM ?_ | refine pn_retM ?_ | refine pr_ret ?_ | refine pn_ret ?_) | refine awp_cond_t rfl rfl ?_ | refine awp_cond_f rfl rfl ?_ | ((first | apply aq (hd := rfl) (hok := rfl) (hw := rfl) | apply adr_q (ho := rfl) (hd := rfl) (hw := rfl)); (first | exact q_SF rfl rfl (by decide) | exact q_ldC 3 H rfl rfl rfl rfl iT.int rfl | exact q_move rfl (by conv => lhs; whnf) | exact q_assign rfl (by conv => lhs; whnf) | exact q_add rfl rfl rfl (by omega) | exact q_sub rfl rfl rfl (by omega) | exact q_neg rfl rfl (by omega) | exact q_rem_in rfl rfl rfl (by omega) | exact q_quo_in rfl rfl rfl (by omega) | exact q_lss_t rfl rfl rfl (by omega) | exact q_lss_f rfl rfl rfl (by omega) | exact q_leq_t rfl rfl rfl (by omega) | exact q_leq_f rfl rfl rfl (by omega) | exact q_gtr_t rfl rfl rfl (by omega) | exact q_gtr_f rfl rfl rfl (by omega) | exact q_geq_t rfl rfl rfl (by omega) | exact q_geq_f rfl rfl rfl (by omega) | exact q_eql_t rfl rfl rfl (by omega) | exact q_eql_f rfl rfl rfl (by omega) | exact q_neq_t rfl rfl rfl (by omega) | exact q_neq_f rfl rfl rfl (by omega) | exact q_int rfl rfl rfl rfl | exact q_not rfl rfl | exact q_pick_t rfl rfl (by conv => lhs; whnf) | exact q_pick_f rfl rfl (by conv => lhs; whnf) | exact q_extract rfl rfl rfl | exact q_max rfl rfl rfl | exact q_min rfl rfl rfl)) | refine ano rfl rfl rfl ?_ | refine adr_no rfl rfl rfl ?_)
    refine awp_loop [1, 2, 4, 5, 29, 30] (fun vs m => ∃ y : Nat, vs = [.bool true, .pointer (some ⟨B2, 0, Option.none⟩), .pointer (some ⟨B4, 0, Option.none⟩), .pointer (some ⟨B5, 0, Option.none⟩), .int .i64 s.h, .int .i64 y] ∧ y ≤ k ∧ HP m [.vs 37 B5 (suc s.w s.h s.p (.slice p.1 s.hs.length p.2)), .i 3 (.slice p.1 s.hs.length p.2) (stL s true (y * w)), .vs 37 B4 (suc 0 0 0 (.slice Option.none 0 0)), .vs 37 B2 (suc s.w s.h s.p (.slice av s.hs.length cv))])
      (fun vs _ => k - (intOf (vs.getD 5 undef)).toNat) ⟨0, rfl, Nat.zero_le _, by rw [Nat.zero_mul]; exact H⟩ ?_
    clear H
    rintro fr2 vs2 m2 - ⟨y, rfl, hy, H⟩
    by_cases hlt : y < k
    · repeat (first | with_reducible (first | refine awp_seq ?_ | refine awp_region ?_ | refine awp_region_q (by kernel_rfl) (by kernel_rfl) ?_ | refine adr_nil ?_ | refine adr_end ?_ | refine aops_then ?_ | refine aops_nil ?_ | refine awp_block ?_ | refine awp_label ?_ | refine awp_scope ?_ | refine pn_scope ?_ | refine px_scope ?_ | refine pr_scope ?_ | refine px_then ?_ | refine px_block ?_ | refine px_block_ne rfl ?_ | refine pn_block ?_ | refine pn_then ?_ | refine pn_asg ?_ | refine pn_rnd ?_ | refine px_rnd ?_ | refine awp_exit ?_ | refine awp_skip ?_ | refine awp_ret ?_ | refine pr_then ?_ | refine pr_block ?_ | refine pr_rnd ?_ | refine pr_retM ?_ | refine pn_retM ?_ | refine pr_ret ?_ | refine pn_ret ?_) | refine awp_cond_t rfl rfl ?_ | refine awp_cond_f rfl rfl ?_ | ((first | apply aq (hd := rfl) (hok := rfl) (hw := rfl) | apply adr_q (ho := rfl) (hd := rfl) (hw := rfl)); (first | exact q_SF rfl rfl (by decide) | exact q_ldC 3 H rfl rfl rfl rfl iT.int rfl | exact q_move rfl (by conv => lhs; whnf) | exact q_assign rfl (by conv => lhs; whnf) | exact q_add rfl rfl rfl (by omega) | exact q_sub rfl rfl rfl (by omega) | exact q_neg rfl rfl (by omega) | exact q_rem_in rfl rfl rfl (by omega) | exact q_quo_in rfl rfl rfl (by omega) | exact q_lss_t rfl rfl rfl (by omega) | exact q_lss_f rfl rfl rfl (by omega) | exact q_leq_t rfl rfl rfl (by omega) | exact q_leq_f rfl rfl rfl (by omega) | exact q_gtr_t rfl rfl rfl (by omega) | exact q_gtr_f rfl rfl rfl (by omega) | exact q_geq_t rfl rfl rfl (by omega) | exact q_geq_f rfl rfl rfl (by omega) | exact q_eql_t rfl rfl rfl (by omega) | exact q_eql_f rfl rfl rfl (by omega) | exact q_neq_t rfl rfl rfl (by omega) | exact q_neq_f rfl rfl rfl (by omega) | exact q_int rfl rfl rfl rfl | exact q_not rfl rfl | exact q_pick_t rfl rfl (by conv => lhs; whnf) | exact q_pick_f rfl rfl (by conv => lhs; whnf) | exact q_extract rfl rfl rfl | exact q_max rfl rfl rfl | exact q_min rfl rfl rfl)) | refine ano rfl rfl rfl ?_ | refine adr_no rfl rfl rfl ?_)
      refine awp_loop [1, 2, 4, 5, 6, 29, 30, 34, 35] (fun vs m => ∃ x : Nat, vs = [.bool true, .pointer (some ⟨B2, 0, Option.none⟩), .pointer (some ⟨B4, 0, Option.none⟩), .pointer (some ⟨B5, 0, Option.none⟩), .int .i64 y, .int .i64 s.h, .int .i64 y, .int .i64 s.w, .int .i64 x] ∧ x ≤ w ∧ HP m [.vs 37 B5 (suc s.w s.h s.p (.slice p.1 s.hs.length p.2)), .i 3 (.slice p.1 s.hs.length p.2) (stL s true (y * w + x)), .vs 37 B4 (suc 0 0 0 (.slice Option.none 0 0)), .vs 37 B2 (suc s.w s.h s.p (.slice av s.hs.length cv))])
        (fun vs _ => w - (intOf (vs.getD 8 undef)).toNat) ⟨0, rfl, Nat.zero_le _, H⟩ ?_
      clear H
      rintro fr3 vs3 m3 - ⟨x, rfl, hx, H⟩
      by_cases hlx : x < w
      · have hc := at_cell (w := w) (x := x) (y := y) hlx
        have hN : y * w + x < s.hs.length := by
          rw [hlen]
          have : (y + 1) * w ≤ k * w := Nat.mul_le_mul_right _ (by omega)
          rw [Nat.add_mul, Nat.one_mul] at this
          omega
        have hd := (turS_at g true (x := x) (y := y) (by omega) (by omega)).1
        have hsl := stL_len s true (y * w + x)
        have hst : stL s true (y * w + x + 1) = (stL s true (y * w + x)).set (dst s true x y) (s.hs.getD (y * w + x) 0) := by
          show (stL s true (y * w + x)).set (dst s true ((y * w + x) % s.w.toNat) ((y * w + x) / s.w.toNat)) _ = _
          rw [tw, hc.1, hc.2]
        obtain ⟨Z1, e1⟩ : ∃ z, (y : Int) * s.w = z := ⟨_, rfl⟩
        have f1 : Z1 = ((y * w : Nat) : Int) := by rw [← e1, hw', Int.natCast_mul]
        have hdn : dst s true x y = y * w + (s.w - 1 - x).toNat := by
          show y * s.w.toNat + (s.w - 1 - x).toNat = _
          rw [tw]
        have i2 : (Z1 + x).toNat = y * w + x := by omega
        have hix : 0 ≤ s.w - 1 - x := by omega
        have i1 : (Z1 + (s.w - 1 - x)).toNat = dst s true x y := by rw [hdn]; omega
        have hl1 : dst s true x y < (stL s true (y * w + x)).length := by rw [hsl]; exact hd
        have hT := (H.sl 1 rfl).sl (W := W)
        rw [hsl] at hT
        repeat (first | refine awp_region_ord (ordFrom 19 0 ++ [(19, false)]) (by kernel_rfl) (Nat.le_of_ble_eq_true rfl) (by kernel_rfl) ?_ | with_reducible (first | refine awp_seq ?_ | refine awp_region ?_ | refine awp_region_q (by kernel_rfl) (by kernel_rfl) ?_ | refine adr_nil ?_ | refine adr_end ?_ | refine aops_then ?_ | refine aops_nil ?_ | refine awp_block ?_ | refine awp_label ?_ | refine awp_scope ?_ | refine pn_scope ?_ | refine px_scope ?_ | refine pr_scope ?_ | refine px_then ?_ | refine px_block ?_ | refine px_block_ne rfl ?_ | refine pn_block ?_ | refine pn_then ?_ | refine pn_asg ?_ | refine pn_rnd ?_ | refine px_rnd ?_ | refine awp_exit ?_ | refine awp_skip ?_ | refine awp_ret ?_ | refine pr_then ?_ | refine pr_block ?_ | refine pr_rnd ?_ | refine pr_retM ?_ | refine pn_retM ?_ | refine pr_ret ?_ | refine pn_ret ?_) | refine awp_cond_t rfl rfl ?_ | refine awp_cond_f rfl rfl ?_ | ((first | apply aq (hd := rfl) (hok := rfl) (hw := rfl) | apply adr_q (ho := rfl) (hd := rfl) (hw := rfl)); (first | exact q_SF rfl rfl (by decide) | exact q_ldC 3 H rfl rfl rfl rfl iT.int rfl | exact q_ldC 3 H rfl rfl rfl rfl iT.slice rfl | exact q_ldC 0 H rfl rfl rfl rfl iT.int rfl | exact q_ldC 0 H rfl rfl rfl rfl iT.slice rfl | exact q_mulX e1 rfl rfl rfl (by omega) | exact q_ixI iT (hv.le (Le.none _)) rfl rfl rfl (by omega) (by omega) | exact q_ldI iT (hv.le (Le.none _)) rfl rfl (by omega) | exact q_ixI iT hT rfl rfl rfl (by omega) (by omega) | exact q_move rfl (by conv => lhs; whnf) | exact q_assign rfl (by conv => lhs; whnf) | exact q_add rfl rfl rfl (by omega) | exact q_sub rfl rfl rfl (by omega) | exact q_neg rfl rfl (by omega) | exact q_rem_in rfl rfl rfl (by omega) | exact q_quo_in rfl rfl rfl (by omega) | exact q_lss_t rfl rfl rfl (by omega) | exact q_lss_f rfl rfl rfl (by omega) | exact q_leq_t rfl rfl rfl (by omega) | exact q_leq_f rfl rfl rfl (by omega) | exact q_gtr_t rfl rfl rfl (by omega) | exact q_gtr_f rfl rfl rfl (by omega) | exact q_geq_t rfl rfl rfl (by omega) | exact q_geq_f rfl rfl rfl (by omega) | exact q_eql_t rfl rfl rfl (by omega) | exact q_eql_f rfl rfl rfl (by omega) | exact q_neq_t rfl rfl rfl (by omega) | exact q_neq_f rfl rfl rfl (by omega) | exact q_int rfl rfl rfl rfl | exact q_not rfl rfl | exact q_pick_t rfl rfl (by conv => lhs; whnf) | exact q_pick_f rfl rfl (by conv => lhs; whnf) | exact q_extract rfl rfl rfl | exact q_max rfl rfl rfl | exact q_min rfl rfl rfl)) | refine ano rfl rfl rfl ?_ | refine adr_no rfl rfl rfl ?_)
        clear hT
        refine adr_u rfl rfl (by kernel_rfl) rfl (h_setI iT 1 H rfl rfl rfl rfl (by rw [i1]; exact hl1) (fun m4 H => ?_))
        rw [i1, i2] at H
        have H : HP m4 [.vs 37 B5 (suc s.w s.h s.p (.slice p.1 s.hs.length p.2)), .sl (.slice p.1 s.hs.length p.2) 3 1 (stL s true (y * w + x)).length (i64s ((stL s true (y * w + x)).set (dst s true x y) (s.hs.getD (y * w + x) 0))), .vs 37 B4 (suc 0 0 0 (.slice Option.none 0 0)), .vs 37 B2 (suc s.w s.h s.p (.slice av s.hs.length cv))] := H
        rw [← hst, hsl] at H
        have el : (stL s true (y * w + x + 1)).length = s.hs.length := stL_len ..
        have H : HP m4 [.vs 37 B5 (suc s.w s.h s.p (.slice p.1 s.hs.length p.2)), .i 3 (.slice p.1 s.hs.length p.2) (stL s true (y * w + x + 1)), .vs 37 B4 (suc 0 0 0 (.slice Option.none 0 0)), .vs 37 B2 (suc s.w s.h s.p (.slice av s.hs.length cv))] := by
          show HP m4 [_, .sl _ 3 1 (stL s true (y * w + x + 1)).length (i64s (stL s true (y * w + x + 1))), _, _]
          rw [el]; exact H
        repeat (first | with_reducible (first | refine awp_seq ?_ | refine awp_region ?_ | refine awp_region_q (by kernel_rfl) (by kernel_rfl) ?_ | refine adr_nil ?_ | refine adr_end ?_ | refine aops_then ?_ | refine aops_nil ?_ | refine awp_block ?_ | refine awp_label ?_ | refine awp_scope ?_ | refine pn_scope ?_ | refine px_scope ?_ | refine pr_scope ?_ | refine px_then ?_ | refine px_block ?_ | refine px_block_ne rfl ?_ | refine pn_block ?_ | refine pn_then ?_ | refine pn_asg ?_ | refine pn_rnd ?_ | refine px_rnd ?_ | refine awp_exit ?_ | refine awp_skip ?_ | refine awp_ret ?_ | refine pr_then ?_ | refine pr_block ?_ | refine pr_rnd ?_ | refine pr_retM ?_ | refine pn_retM ?_ | refine pr_ret ?_ | refine pn_ret ?_) | refine awp_cond_t rfl rfl ?_ | refine awp_cond_f rfl rfl ?_ | ((first | apply aq (hd := rfl) (hok := rfl) (hw := rfl) | apply adr_q (ho := rfl) (hd := rfl) (hw := rfl)); (first | exact q_move rfl (by conv => lhs; whnf) | exact q_assign rfl (by conv => lhs; whnf) | exact q_add rfl rfl rfl (by omega) | exact q_sub rfl rfl rfl (by omega) | exact q_neg rfl rfl (by omega) | exact q_rem_in rfl rfl rfl (by omega) | exact q_quo_in rfl rfl rfl (by omega) | exact q_lss_t rfl rfl rfl (by omega) | exact q_lss_f rfl rfl rfl (by omega) | exact q_leq_t rfl rfl rfl (by omega) | exact q_leq_f rfl rfl rfl (by omega) | exact q_gtr_t rfl rfl rfl (by omega) | exact q_gtr_f rfl rfl rfl (by omega) | exact q_geq_t rfl rfl rfl (by omega) | exact q_geq_f rfl rfl rfl (by omega) | exact q_eql_t rfl rfl rfl (by omega) | exact q_eql_f rfl rfl rfl (by omega) | exact q_neq_t rfl rfl rfl (by omega) | exact q_neq_f rfl rfl rfl (by omega) | exact q_int rfl rfl rfl rfl | exact q_not rfl rfl | exact q_pick_t rfl rfl (by conv => lhs; whnf) | exact q_pick_f rfl rfl (by conv => lhs; whnf) | exact q_extract rfl rfl rfl | exact q_max rfl rfl rfl | exact q_min rfl rfl rfl)) | refine ano rfl rfl rfl ?_ | refine adr_no rfl rfl rfl ?_)
        exact ⟨⟨x + 1, rfl, by omega, H⟩, by show w - ((x : Int) + 1).toNat < w - (x : Int).toNat; omega⟩
      · obtain rfl : x = w := by omega
        repeat (first | with_reducible (first | refine awp_seq ?_ | refine awp_region ?_ | refine awp_region_q (by kernel_rfl) (by kernel_rfl) ?_ | refine adr_nil ?_ | refine adr_end ?_ | refine aops_then ?_ | refine aops_nil ?_ | refine awp_block ?_ | refine awp_label ?_ | refine awp_scope ?_ | refine pn_scope ?_ | refine px_scope ?_ | refine pr_scope ?_ | refine px_then ?_ | refine px_block ?_ | refine px_block_ne rfl ?_ | refine pn_block ?_ | refine pn_then ?_ | refine pn_asg ?_ | refine pn_rnd ?_ | refine px_rnd ?_ | refine awp_exit ?_ | refine awp_skip ?_ | refine awp_ret ?_ | refine pr_then ?_ | refine pr_block ?_ | refine pr_rnd ?_ | refine pr_retM ?_ | refine pn_retM ?_ | refine pr_ret ?_ | refine pn_ret ?_) | refine awp_cond_t rfl rfl ?_ | refine awp_cond_f rfl rfl ?_ | ((first | apply aq (hd := rfl) (hok := rfl) (hw := rfl) | apply adr_q (ho := rfl) (hd := rfl) (hw := rfl)); (first | exact q_move rfl (by conv => lhs; whnf) | exact q_assign rfl (by conv => lhs; whnf) | exact q_add rfl rfl rfl (by omega) | exact q_sub rfl rfl rfl (by omega) | exact q_neg rfl rfl (by omega) | exact q_rem_in rfl rfl rfl (by omega) | exact q_quo_in rfl rfl rfl (by omega) | exact q_lss_t rfl rfl rfl (by omega) | exact q_lss_f rfl rfl rfl (by omega) | exact q_leq_t rfl rfl rfl (by omega) | exact q_leq_f rfl rfl rfl (by omega) | exact q_gtr_t rfl rfl rfl (by omega) | exact q_gtr_f rfl rfl rfl (by omega) | exact q_geq_t rfl rfl rfl (by omega) | exact q_geq_f rfl rfl rfl (by omega) | exact q_eql_t rfl rfl rfl (by omega) | exact q_eql_f rfl rfl rfl (by omega) | exact q_neq_t rfl rfl rfl (by omega) | exact q_neq_f rfl rfl rfl (by omega) | exact q_int rfl rfl rfl rfl | exact q_not rfl rfl | exact q_pick_t rfl rfl (by conv => lhs; whnf) | exact q_pick_f rfl rfl (by conv => lhs; whnf) | exact q_extract rfl rfl rfl | exact q_max rfl rfl rfl | exact q_min rfl rfl rfl)) | refine ano rfl rfl rfl ?_ | refine adr_no rfl rfl rfl ?_)
        exact ⟨⟨y + 1, rfl, by omega, by rw [Nat.add_mul, Nat.one_mul]; exact H⟩, by show k - ((y : Int) + 1).toNat < k - (y : Int).toNat; omega⟩
    · obtain rfl : y = k := by omega
      rw [← hlen, stL_all g] at H
      repeat (first | with_reducible (first | refine awp_seq ?_ | refine awp_region ?_ | refine awp_region_q (by kernel_rfl) (by kernel_rfl) ?_ | refine adr_nil ?_ | refine adr_end ?_ | refine aops_then ?_ | refine aops_nil ?_ | refine awp_block ?_ | refine awp_label ?_ | refine awp_scope ?_ | refine pn_scope ?_ | refine px_scope ?_ | refine pr_scope ?_ | refine px_then ?_ | refine px_block ?_ | refine px_block_ne rfl ?_ | refine pn_block ?_ | refine pn_then ?_ | refine pn_asg ?_ | refine pn_rnd ?_ | refine px_rnd ?_ | refine awp_exit ?_ | refine awp_skip ?_ | refine awp_ret ?_ | refine pr_then ?_ | refine pr_block ?_ | refine pr_rnd ?_ | refine pr_retM ?_ | refine pn_retM ?_ | refine pr_ret ?_ | refine pn_ret ?_) | refine awp_cond_t rfl rfl ?_ | refine awp_cond_f rfl rfl ?_ | ((first | apply aq (hd := rfl) (hok := rfl) (hw := rfl) | apply adr_q (ho := rfl) (hd := rfl) (hw := rfl)); (first | exact q_ldA 0 H rfl rfl rfl Try.underlying37 rfl szU | exact q_move rfl (by conv => lhs; whnf) | exact q_assign rfl (by conv => lhs; whnf) | exact q_add rfl rfl rfl (by omega) | exact q_sub rfl rfl rfl (by omega) | exact q_neg rfl rfl (by omega) | exact q_rem_in rfl rfl rfl (by omega) | exact q_quo_in rfl rfl rfl (by omega) | exact q_lss_t rfl rfl rfl (by omega) | exact q_lss_f rfl rfl rfl (by omega) | exact q_leq_t rfl rfl rfl (by omega) | exact q_leq_f rfl rfl rfl (by omega) | exact q_gtr_t rfl rfl rfl (by omega) | exact q_gtr_f rfl rfl rfl (by omega) | exact q_geq_t rfl rfl rfl (by omega) | exact q_geq_f rfl rfl rfl (by omega) | exact q_eql_t rfl rfl rfl (by omega) | exact q_eql_f rfl rfl rfl (by omega) | exact q_neq_t rfl rfl rfl (by omega) | exact q_neq_f rfl rfl rfl (by omega) | exact q_int rfl rfl rfl rfl | exact q_not rfl rfl | exact q_pick_t rfl rfl (by conv => lhs; whnf) | exact q_pick_f rfl rfl (by conv => lhs; whnf) | exact q_extract rfl rfl rfl | exact q_max rfl rfl rfl | exact q_min rfl rfl rfl)) | refine ano rfl rfl rfl ?_ | refine adr_no rfl rfl rfl ?_)
      refine au rfl rfl rfl (h_stA (us := suc s.w s.h s.p (.slice p.1 s.hs.length p.2)) 2 H rfl rfl rfl rfl szU rfl rfl (fun m5 H => ?_))
      repeat (first | with_reducible (first | refine awp_seq ?_ | refine awp_region ?_ | refine awp_region_q (by kernel_rfl) (by kernel_rfl) ?_ | refine adr_nil ?_ | refine adr_end ?_ | refine aops_then ?_ | refine aops_nil ?_ | refine awp_block ?_ | refine awp_label ?_ | refine awp_scope ?_ | refine pn_scope ?_ | refine px_scope ?_ | refine pr_scope ?_ | refine px_then ?_ | refine px_block ?_ | refine px_block_ne rfl ?_ | refine pn_block ?_ | refine pn_then ?_ | refine pn_asg ?_ | refine pn_rnd ?_ | refine px_rnd ?_ | refine awp_exit ?_ | refine awp_skip ?_ | refine awp_ret ?_ | refine pr_then ?_ | refine pr_block ?_ | refine pr_rnd ?_ | refine pr_retM ?_ | refine pn_retM ?_ | refine pr_ret ?_ | refine pn_ret ?_) | refine awp_cond_t rfl rfl ?_ | refine awp_cond_f rfl rfl ?_ | ((first | apply aq (hd := rfl) (hok := rfl) (hw := rfl) | apply adr_q (ho := rfl) (hd := rfl) (hw := rfl)); (first | exact q_move rfl (by conv => lhs; whnf) | exact q_assign rfl (by conv => lhs; whnf) | exact q_add rfl rfl rfl (by omega) | exact q_sub rfl rfl rfl (by omega) | exact q_neg rfl rfl (by omega) | exact q_rem_in rfl rfl rfl (by omega) | exact q_quo_in rfl rfl rfl (by omega) | exact q_lss_t rfl rfl rfl (by omega) | exact q_lss_f rfl rfl rfl (by omega) | exact q_leq_t rfl rfl rfl (by omega) | exact q_leq_f rfl rfl rfl (by omega) | exact q_gtr_t rfl rfl rfl (by omega) | exact q_gtr_f rfl rfl rfl (by omega) | exact q_geq_t rfl rfl rfl (by omega) | exact q_geq_f rfl rfl rfl (by omega) | exact q_eql_t rfl rfl rfl (by omega) | exact q_eql_f rfl rfl rfl (by omega) | exact q_neq_t rfl rfl rfl (by omega) | exact q_neq_f rfl rfl rfl (by omega) | exact q_int rfl rfl rfl rfl | exact q_not rfl rfl | exact q_pick_t rfl rfl (by conv => lhs; whnf) | exact q_pick_f rfl rfl (by conv => lhs; whnf) | exact q_extract rfl rfl rfl | exact q_max rfl rfl rfl | exact q_min rfl rfl rfl)) | refine ano rfl rfl rfl ?_ | refine adr_no rfl rfl rfl ?_)
      exact ⟨_, ⟨B4, suc s.w s.h s.p (.slice p.1 s.hs.length p.2), rfl, rfl, hs.symm, fun j x hj => H.cellS 2 j rfl hj⟩, _, rfl, H.picks [1] (by decide)⟩
end Go.R06
