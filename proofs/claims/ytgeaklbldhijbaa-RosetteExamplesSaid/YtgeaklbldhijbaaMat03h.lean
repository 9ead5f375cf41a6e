import Derived.Test.YtgeaklbldhijbaaMat03g
import Derived.Test.YtgeaklbldhijbaaPro03e
set_option linter.unusedSectionVars false
set_option linter.unusedSimpArgs false
set_option linter.unusedVariables false
/-! Layer 3: the program's count: what is still to come from a state. -/
namespace Go.R03
open Go Go.Abs
section val
variable (l b g : List Int)
/-- What is still to come from a state, with r steps to go. -/
def valN : Nat → Nat → Nat → Nat
  | 0, _, _ => 1
  | r + 1, f, s => (if lft (b.length - 1) (lifL l b g) (l.length + (b.length - 1) - (r + 1)) s 0 then hgt g.length g (l.length + (b.length - 1) - (r + 1)) f 0 * valN r (aftF (b.length - 1) (l.length + (b.length - 1) - (r + 1)) f 0) (aftS (b.length - 1) s 0) else 0) +
      (if lft (b.length - 1) (lifL l b g) (l.length + (b.length - 1) - (r + 1)) s 1 then hgt g.length g (l.length + (b.length - 1) - (r + 1)) f 1 * valN r (aftF (b.length - 1) (l.length + (b.length - 1) - (r + 1)) f 1) (aftS (b.length - 1) s 1) else 0)
end val
theorem or_top {K s h : Nat} (hs : s < 2 ^ K) (hh : h ≤ 1) : s ||| h * 2 ^ K = s + h * 2 ^ K := by
  rw [Nat.or_comm, Nat.mul_comm, ← Nat.two_pow_add_eq_or_of_lt hs]; omega
theorem and_ne_zero (R x : Nat) (K : Nat) (hx : x < 2 ^ K) : R &&& x ≠ 0 ↔ ∃ j, j < K ∧ R.testBit j = true ∧ x.testBit j = true := by
  constructor
  · intro h
    obtain ⟨j, hj⟩ := Nat.exists_testBit_of_ne_zero h
    rw [Nat.testBit_and, Bool.and_eq_true] at hj
    refine ⟨j, ?_, hj⟩
    rcases Nat.lt_or_ge j K with h | h
    · exact h
    · have := Nat.testBit_lt_two_pow (Nat.lt_of_lt_of_le hx (Nat.pow_le_pow_right (by omega) h))
      rw [this] at hj; simp at hj
  · rintro ⟨j, _, h1, h2⟩ h0
    have : (R &&& x).testBit j = true := by rw [Nat.testBit_and, h1, h2]; rfl
    rw [h0, Nat.zero_testBit] at this
    cases this
section walk
variable {l b g : List Int} (hb : Rub b) (hgl : g.length = l.length) (hn : 1 ≤ l.length) (hb7 : b.length ≤ 7) (hbl : b.length ≤ l.length)
include hb hgl hn hb7
theorem lft_tou {q s h : Nat} (hq : b.length - 1 ≤ q) (hs : s < 2 ^ (b.length - 1)) (hh : h ≤ 1) : lft (b.length - 1) (lifL l b g) q s h = touN l b g ((q : Int) - hw b) (s + h * 2 ^ (b.length - 1)) := by
  have ho := hb.len
  unfold lft
  rw [decide_eq_false (by omega), Bool.false_or, or_top hs hh, lifL_len]
  obtain ⟨p, hp⟩ : ∃ p : Nat, ((q : Int) - ((b.length - 1) / 2 : Nat)) % (l.length : Int) = p := ⟨(((q : Int) - ((b.length - 1) / 2 : Nat)) % (l.length : Int)).toNat, by have := emod_bd ((q : Int) - ((b.length - 1) / 2 : Nat)) hn; omega⟩
  have hpl : p < l.length := by have := emod_bd ((q : Int) - ((b.length - 1) / 2 : Nat)) hn; omega
  rw [hp, Int.toNat_natCast]
  have hL : ((lifL l b g).getD p 0).toNat = lif l b g p b.length := by simp [lifL, hpl, lifZ]
  rw [hL, Bool.eq_iff_iff, decide_eq_true_eq, and_ne_zero _ _ _ (lif_lt l b g p b.length)]
  have hhw : (q : Int) - hw b = (q : Int) - ((b.length - 1) / 2 : Nat) := by unfold hw; omega
  unfold touN
  simp only [List.any_eq_true, List.mem_range, Bool.and_eq_true, decide_eq_true_eq, lif_bit]
  refine exists_congr fun j => and_congr_right fun hj => ?_
  rw [hhw]
  have e1 : ca l ((q : Int) - ((b.length - 1) / 2 : Nat)) = l.getD p 0 := by unfold ca; rw [hp, Int.toNat_natCast]
  have e2 : ca g ((q : Int) - ((b.length - 1) / 2 : Nat) + (j - hw b)) = g.getD (((p : Int) + ((j : Int) - (b.length / 2 : Nat))) % (g.length : Int)).toNat 0 := by
    unfold ca hw
    rw [← hp, hgl, Int.emod_add_emod]
  rw [e1, e2]
  simp only [cnd, decide_eq_true_eq]
  constructor
  · rintro ⟨h1, _, h2⟩; exact ⟨h1, h2⟩
  · rintro ⟨h1, h2⟩; exact ⟨h1, hj, h2⟩
include hbl
/-- From the second time around on, with the first steps given. -/
theorem val_two {f : Nat} (hf : f < 2 ^ (b.length - 1)) : ∀ r, r ≤ b.length - 1 → ∀ s, s < 2 ^ (b.length - 1) → s / 2 ^ r = f % 2 ^ (b.length - 1 - r) → valN l b g r f s = comeN l b g f r s
  | 0, _, s, hs, e => by
    rw [Nat.pow_zero, Nat.div_one, Nat.sub_zero, Nat.mod_eq_of_lt hf] at e
    subst e
    simp [valN, comeN]
  | r + 1, hr, s, hs, e => by
    have ho := hb.len
    have ih := val_two hf r (by omega)
    obtain ⟨q, hq⟩ : ∃ q, l.length + (b.length - 1) - (r + 1) = q := ⟨_, rfl⟩
    obtain ⟨d, hd⟩ : ∃ d, b.length - 1 - (r + 1) = d := ⟨_, rfl⟩
    have hqd : q - l.length = d := by omega
    have hge : ¬ q < l.length := by omega
    have hK : b.length - 1 = d + r + 1 := by omega
    have hnext : ∀ h : Nat, h ≤ 1 → h = f / 2 ^ d % 2 → valN l b g r f ((s + h * 2 ^ (b.length - 1)) / 2) = comeN l b g f r ((s + h * 2 ^ (b.length - 1)) / 2) := fun h hh he => by
      have hK2 : 2 ^ (b.length - 1) = 2 ^ d * 2 ^ (r + 1) := by rw [← Nat.pow_add]; congr 1
      apply ih
      · have : h * 2 ^ (b.length - 1) ≤ 1 * 2 ^ (b.length - 1) := Nat.mul_le_mul_right _ hh
        omega
      · rw [Nat.div_div_eq_div_mul, show 2 * 2 ^ r = 2 ^ (r + 1) by rw [Nat.pow_succ]; omega, hK2, ← Nat.mul_assoc, Nat.add_mul_div_right _ _ (Nat.two_pow_pos _), e, hd, show b.length - 1 - r = d + 1 by omega, Nat.mod_pow_succ, he, Nat.mul_comm]
    have l0 := lft_tou hb hgl hn hb7 (q := q) (s := s) (h := 0) (by omega) hs (by omega)
    have l1 := lft_tou hb hgl hn hb7 (q := q) (s := s) (h := 1) (by omega) hs (by omega)
    have f0 : ∀ h, aftF (b.length - 1) q f h = f := fun h => by unfold aftF; rw [if_neg (by omega)]
    have a0 : aftS (b.length - 1) s 0 = (s + 0 * 2 ^ (b.length - 1)) / 2 := by unfold aftS; rw [or_top hs (by omega)]
    have a1 : aftS (b.length - 1) s 1 = (s + 1 * 2 ^ (b.length - 1)) / 2 := by unfold aftS; rw [or_top hs (by omega)]
    have al0 : allOf b s false = s + 0 * 2 ^ (b.length - 1) := by simp [allOf]
    have al1 : allOf b s true = s + 1 * 2 ^ (b.length - 1) := by simp [allOf]
    have o0 : okN l b g f q s false = ((false == f.testBit d) && touN l b g ((q : Int) - hw b) (s + 0 * 2 ^ (b.length - 1))) := by unfold okN; rw [decide_eq_false hge, Bool.false_or, al0, hqd]
    have o1 : okN l b g f q s true = ((true == f.testBit d) && touN l b g ((q : Int) - hw b) (s + 1 * 2 ^ (b.length - 1))) := by unfold okN; rw [decide_eq_false hge, Bool.false_or, al1, hqd]
    have w0 : ∀ h, wq l g q h = 1 := fun h => by unfold wq; rw [if_neg hge]
    have g0 : hgt g.length g q f 0 = 1 - f / 2 ^ d % 2 := by unfold hgt; rw [hgl, if_neg hge, if_pos rfl, hqd]
    have g1 : hgt g.length g q f 1 = f / 2 ^ d % 2 := by unfold hgt; rw [hgl, if_neg hge, if_neg (by omega), hqd]
    rw [valN, comeN, hq, l0, l1, f0, f0, a0, a1, al0, al1, o0, o1, w0, w0, g0, g1]
    have hbit : f.testBit d = decide (f / 2 ^ d % 2 = 1) := Nat.testBit_eq_decide_div_mod_eq
    have hb01 : f / 2 ^ d % 2 = 0 ∨ f / 2 ^ d % 2 = 1 := by omega
    rcases hb01 with h | h
    · rw [hbit, h, hnext 0 (by omega) h.symm]
      cases touN l b g ((q : Int) - hw b) (s + 0 * 2 ^ (b.length - 1)) <;> simp
    · rw [hbit, h, hnext 1 (by omega) h.symm]
      cases touN l b g ((q : Int) - hw b) (s + 1 * 2 ^ (b.length - 1)) <;> simp
/-- Once the first steps are known. -/
theorem val_one {f : Nat} (hf : f < 2 ^ (b.length - 1)) : ∀ i, b.length - 1 + i ≤ l.length → ∀ s, s < 2 ^ (b.length - 1) → valN l b g (b.length - 1 + i) f s = comeN l b g f (b.length - 1 + i) s
  | 0, _, s, hs => val_two hb hgl hn hb7 hbl hf (b.length - 1) (Nat.le_refl _) s hs (by rw [Nat.div_eq_of_lt hs, Nat.sub_self, Nat.pow_zero, Nat.mod_one])
  | i + 1, hi, s, hs => by
    have ho := hb.len
    have ih := val_one hf i (by omega)
    obtain ⟨r, hr⟩ : ∃ r, b.length - 1 + i = r := ⟨_, rfl⟩
    rw [hr] at ih
    rw [show b.length - 1 + (i + 1) = r + 1 by omega]
    obtain ⟨q, hq⟩ : ∃ q, l.length + (b.length - 1) - (r + 1) = q := ⟨_, rfl⟩
    have hlt : q < l.length := by omega
    have hnext : ∀ h : Nat, h ≤ 1 → valN l b g r f ((s + h * 2 ^ (b.length - 1)) / 2) = comeN l b g f r ((s + h * 2 ^ (b.length - 1)) / 2) := fun h hh => by
      apply ih
      have : h * 2 ^ (b.length - 1) ≤ 1 * 2 ^ (b.length - 1) := Nat.mul_le_mul_right _ hh
      omega
    have l0 := lft_tou hb hgl hn hb7 (q := q) (s := s) (h := 0) (by omega) hs (by omega)
    have l1 := lft_tou hb hgl hn hb7 (q := q) (s := s) (h := 1) (by omega) hs (by omega)
    have f0 : ∀ h, aftF (b.length - 1) q f h = f := fun h => by unfold aftF; rw [if_neg (by omega)]
    have a0 : aftS (b.length - 1) s 0 = (s + 0 * 2 ^ (b.length - 1)) / 2 := by unfold aftS; rw [or_top hs (by omega)]
    have a1 : aftS (b.length - 1) s 1 = (s + 1 * 2 ^ (b.length - 1)) / 2 := by unfold aftS; rw [or_top hs (by omega)]
    have al0 : allOf b s false = s + 0 * 2 ^ (b.length - 1) := by simp [allOf]
    have al1 : allOf b s true = s + 1 * 2 ^ (b.length - 1) := by simp [allOf]
    have o0 : okN l b g f q s false = touN l b g ((q : Int) - hw b) (s + 0 * 2 ^ (b.length - 1)) := by unfold okN; rw [decide_eq_true hlt, Bool.true_or, Bool.true_and, al0]
    have o1 : okN l b g f q s true = touN l b g ((q : Int) - hw b) (s + 1 * 2 ^ (b.length - 1)) := by unfold okN; rw [decide_eq_true hlt, Bool.true_or, Bool.true_and, al1]
    have w0 : wq l g q false = (g.getD q 0).toNat := by unfold wq wt; rw [if_pos hlt]; rfl
    have w1 : wq l g q true = 1 := by unfold wq wt; rw [if_pos hlt]; rfl
    have g0 : hgt g.length g q f 0 = (g.getD q 0).toNat := by unfold hgt; rw [hgl, if_pos hlt, if_pos rfl]
    have g1 : hgt g.length g q f 1 = 1 := by unfold hgt; rw [hgl, if_pos hlt, if_neg (by omega)]
    rw [valN, comeN, hq, l0, l1, f0, f0, a0, a1, al0, al1, o0, o1, w0, w1, g0, g1, hnext 0 (by omega), hnext 1 (by omega)]
/-- The first steps, one by one. -/
theorem val_start : ∀ j, j ≤ b.length - 1 → valN l b g (l.length + (b.length - 1)) 0 0 = ((List.range (2 ^ j)).map fun f => wF g f j * valN l b g (l.length + (b.length - 1) - j) f (f * 2 ^ (b.length - 1 - j))).sum
  | 0, _ => by simp [wF]
  | j + 1, hj => by
    have ho := hb.len
    rw [val_start j (by omega), show 2 ^ (j + 1) = 2 ^ j + 2 ^ j by rw [Nat.pow_succ]; omega, List.range_add, List.map_append, List.sum_append_nat, List.map_map]
    have hsum : ∀ (l : List Nat) (F G H : Nat → Nat), (∀ x ∈ l, F x = G x + H x) → (l.map F).sum = (l.map G).sum + (l.map H).sum := by
      intro l F G H
      induction l with
      | nil => intro _; simp
      | cons x l ih =>
        intro h
        simp only [List.map_cons, List.sum_cons]
        rw [ih fun y hy => h y (List.mem_cons_of_mem _ hy), h x (List.mem_cons_self ..)]
        omega
    apply hsum
    intro f hf
    have hf := List.mem_range.1 hf
    obtain ⟨r, hr⟩ : ∃ r, l.length + (b.length - 1) - (j + 1) = r := ⟨_, rfl⟩
    have hr1 : l.length + (b.length - 1) - j = r + 1 := by omega
    have hq : l.length + (b.length - 1) - (r + 1) = j := by omega
    obtain ⟨d, hd⟩ : ∃ d, b.length - 1 - (j + 1) = d := ⟨_, rfl⟩
    have hd1 : b.length - 1 - j = d + 1 := by omega
    have hK : 2 ^ (b.length - 1) = 2 ^ j * 2 ^ (d + 1) := by rw [← Nat.pow_add]; congr 1; omega
    have hlt : f * 2 ^ (d + 1) < 2 ^ (b.length - 1) := by rw [hK]; exact Nat.mul_lt_mul_of_pos_right hf (Nat.two_pow_pos _)
    have hK2 : 2 ^ (b.length - 1) = 2 * (2 ^ j * 2 ^ d) := by rw [hK, Nat.pow_succ, Nat.mul_comm 2, Nat.mul_assoc]
    have hf2 : f * 2 ^ (d + 1) = 2 * (f * 2 ^ d) := by rw [Nat.pow_succ, ← Nat.mul_assoc]; omega
    have a0 : aftS (b.length - 1) (f * 2 ^ (d + 1)) 0 = f * 2 ^ d := by unfold aftS; rw [or_top hlt (by omega), hf2]; omega
    have a1 : aftS (b.length - 1) (f * 2 ^ (d + 1)) 1 = (2 ^ j + f) * 2 ^ d := by unfold aftS; rw [or_top hlt (by omega), hf2, hK2, Nat.add_mul]; omega
    have l0 : ∀ h, lft (b.length - 1) (lifL l b g) j (f * 2 ^ (d + 1)) h = true := fun h => by unfold lft; rw [decide_eq_true (by omega)]; rfl
    have f0 : aftF (b.length - 1) j f 0 = f := by unfold aftF; rw [if_pos (by omega)]; simp
    have f1 : aftF (b.length - 1) j f 1 = 2 ^ j + f := by unfold aftF; rw [if_pos (by omega), or_top hf (by omega)]; omega
    have g0 : hgt g.length g j f 0 = (g.getD j 0).toNat := by unfold hgt; rw [hgl, if_pos (by omega), if_pos rfl]
    have g1 : hgt g.length g j f 1 = 1 := by unfold hgt; rw [hgl, if_pos (by omega), if_neg (by omega)]
    have t0 : f.testBit j = false := Nat.testBit_lt_two_pow hf
    have t1 : (2 ^ j + f).testBit j = true := by rw [Nat.testBit_two_pow_add_eq, t0]; rfl
    have tl : ∀ i, i < j → (2 ^ j + f).testBit i = f.testBit i := fun i hi => Nat.testBit_two_pow_add_gt hi f
    simp only [Function.comp]
    rw [hr1, hd1, hr, hd, show wF g f (j + 1) = wF g f j * wt (g.getD j 0) (f.testBit j) from rfl, show wF g (2 ^ j + f) (j + 1) = wF g (2 ^ j + f) j * wt (g.getD j 0) ((2 ^ j + f).testBit j) from rfl, t0, t1, wF_congr g j tl]
    rw [valN, hq, l0, l0, f0, f1, a0, a1, g0, g1]
    simp only [if_true, wt, Bool.false_eq_true, if_false, Nat.mul_one, Nat.one_mul]
    rw [Nat.mul_add, Nat.mul_assoc]
theorem val_cnt : valN l b g (l.length + (b.length - 1)) 0 0 = cntF g (okB l b g) := by
  have ho := hb.len
  rw [val_start hb hgl hn hb7 hbl (b.length - 1) (Nat.le_refl _), cnt_come hb hgl hbl]
  congr 1
  apply List.map_congr_left
  intro f hf
  have hf := List.mem_range.1 hf
  congr 1
  rw [Nat.sub_self, Nat.pow_zero, Nat.mul_one, show l.length + (b.length - 1) - (b.length - 1) = b.length - 1 + (l.length - (b.length - 1)) by omega, val_one hb hgl hn hb7 hbl hf _ (by omega) _ hf]
  congr 1; omega
end walk
/-- Where the greatest list has another lift, nothing is counted. -/
theorem cnt_none {l b : List Int} (hn : 1 ≤ l.length) (hb : Rub b) (hg : lifted (below l b) b ≠ l) : cntF (below l b) (okB l b (below l b)) = 0 := by
  have hbl := below_length l b
  rw [cntF_congr (Q := fun _ => false) _ fun bs _ => ?_]
  · exact cntF_false _
  · rw [← Bool.not_eq_true]
    intro h
    apply hg
    apply LE.anti
    · exact (adjoint (by omega) hbl hb).2 (LE.refl _)
    · rw [le_iff]
      refine ⟨by rw [lifted_length, hbl], fun p hp => ?_⟩
      unfold okB touB at h
      simp only [List.all_eq_true, List.mem_range, List.any_eq_true, Bool.and_eq_true, decide_eq_true_eq] at h
      obtain ⟨j, hj, _, e2⟩ := h p hp
      have g2 := (lift_le (f := below l b) (by omega) hb).1 (Int.le_refl (ca (lifted (below l b) b) p)) j hj
      rw [ca_nat hp] at e2
      rw [ca_nat (f := lifted (below l b) b) (by rw [lifted_length]; omega)] at g2
      omega
theorem val_sols {l b : List Int} (hn : 1 ≤ l.length) (hl : hts l = true) (hb : Rub b) (hb7 : b.length ≤ 7) (hbl : b.length ≤ l.length) : valN l b (below l b) (l.length + (b.length - 1)) 0 0 = sols l b := by
  rw [val_cnt hb (below_length l b) hn hb7 hbl]
  by_cases hg : lifted (below l b) b = l
  · rw [sols_eq hn hb hl hg]
  · rw [sols_zero hn hb hg, cnt_none hn hb hg]
end Go.R03
