import Derived.Test.YtjepofehaphcnaaMat07d
set_option linter.unusedSectionVars false
set_option linter.unusedSimpArgs false
set_option linter.unusedVariables false
/-! Layer 7: pure mathematics: how many lines fit evenly. -/
namespace Go.R07
set_option linter.unusedVariables false
theorem part_at {t b : List Int} {i d : Int} {k : Nat} (hk : k < t.length) (hl : b.length = t.length) : at0 (part t b i d) k = at0 t k + (i * (at0 b k - at0 t k)).tdiv d := by
  unfold part
  have hk2 : k < b.length := by omega
  simp only [at0, List.getD_eq_getElem?_getD, List.getElem?_zipWith, List.getElem?_eq_getElem hk, List.getElem?_eq_getElem hk2]
  rfl
theorem part_at' {t b : List Int} {i d : Int} {k : Nat} (hk : k < t.length) (hl : b.length = t.length) (hi : 0 ≤ i) (hle : at0 t k ≤ at0 b k) (hd : 0 < d) : at0 (part t b i d) k = (at0 t k * d + i * (at0 b k - at0 t k)) / d := by
  rw [part_at hk hl, Int.tdiv_eq_ediv_of_nonneg (Int.mul_nonneg hi (by omega)), Int.add_comm (at0 t k * d), Int.add_mul_ediv_right _ _ (by omega)]
  omega
structure CurM (s : Sh) (t b : List Int) : Prop where
  g : GoodS s
  ft : LineP s t
  fb : LineP s b
  le : BelowP t b
theorem CurM.len {s : Sh} {t b : List Int} (c : CurM s t b) : b.length = t.length := by have := c.ft.1; have := c.fb.1; omega
theorem part_line {s : Sh} {t b : List Int} (c : CurM s t b) {i d : Int} (hi : 0 ≤ i) (hid : i ≤ d) (hd : 0 < d) : LineP s (part t b i d) := by
  have hl := c.len
  have hpl : (part t b i d).length = t.length := part_len hl
  refine ⟨by rw [hpl]; exact c.ft.1, fun k hk => ?_, fun k hk => ?_⟩
  · rw [hpl] at hk
    have h1 := c.ft.2.1 k hk
    have h2 := c.fb.2.1 k (by omega)
    have h3 := c.le k hk
    rw [part_at hk hl]
    have a0 : 0 ≤ i * (at0 b k - at0 t k) := Int.mul_nonneg hi (by omega)
    rw [Int.tdiv_eq_ediv_of_nonneg a0]
    have a1 : 0 ≤ i * (at0 b k - at0 t k) / d := Int.ediv_nonneg a0 (by omega)
    have a2 : i * (at0 b k - at0 t k) / d ≤ at0 b k - at0 t k := by
      refine Int.ediv_le_of_le_mul hd ?_
      rw [Int.mul_comm (at0 b k - at0 t k)]
      exact Int.mul_le_mul_of_nonneg_right hid (by omega)
    omega
  · rw [hpl] at hk
    have h1 := c.ft.2.2 k hk
    have h2 := c.fb.2.2 k (by omega)
    rw [part_at' (by omega) hl hi (c.le _ (by omega)) hd, part_at' (by omega) hl hi (c.le _ (by omega)) hd]
    obtain ⟨x, hx⟩ : ∃ x, at0 t k = x := ⟨_, rfl⟩
    obtain ⟨x', hx'⟩ : ∃ x, at0 t (k + 1) = x := ⟨_, rfl⟩
    obtain ⟨y, hy⟩ : ∃ x, at0 b k = x := ⟨_, rfl⟩
    obtain ⟨y', hy'⟩ : ∃ x, at0 b (k + 1) = x := ⟨_, rfl⟩
    rw [hx, hx'] at h1
    rw [hy, hy'] at h2
    rw [hx, hx', hy, hy']
    have e1 : x' * d + i * (y' - x') = (x * d + i * (y - x)) + ((d - i) * (x' - x) + i * (y' - y)) := by
      simp only [Int.mul_sub, Int.sub_mul]
      rw [Int.mul_comm x' d, Int.mul_comm x d]
      omega
    have u1 : (d - i) * (x' - x) ≤ (d - i) * s.l := Int.mul_le_mul_of_nonneg_left h1.2 (by omega)
    have u2 : i * (y' - y) ≤ i * s.l := Int.mul_le_mul_of_nonneg_left h2.2 hi
    have v1 : (d - i) * (-s.l) ≤ (d - i) * (x' - x) := Int.mul_le_mul_of_nonneg_left h1.1 (by omega)
    have v2 : i * (-s.l) ≤ i * (y' - y) := Int.mul_le_mul_of_nonneg_left h2.1 hi
    have w1 : (d - i) * s.l + i * s.l = s.l * d := by rw [← Int.add_mul, Int.mul_comm]; congr 1; omega
    have w2 : (d - i) * (-s.l) + i * (-s.l) = (-s.l) * d := by rw [← Int.add_mul, Int.mul_comm]; congr 1; omega
    obtain ⟨X, hX⟩ : ∃ X, x * d + i * (y - x) = X := ⟨_, rfl⟩
    obtain ⟨D, hD⟩ : ∃ X, (d - i) * (x' - x) + i * (y' - y) = X := ⟨_, rfl⟩
    rw [e1, hX, hD]
    have b1 : X + D ≤ X + s.l * d := by omega
    have b2 : X + (-s.l) * d ≤ X + D := by omega
    have c1 := Int.ediv_le_ediv hd b1
    have c2 := Int.ediv_le_ediv hd b2
    rw [Int.add_mul_ediv_right _ _ (by omega)] at c1 c2
    omega
theorem even_rw {t b : List Int} {n i : Nat} (h : i < n) : rw0 (even t b n) i = part t b (i : Nat) ((n : Int) - 1) := by
  unfold even evenN
  rw [rw0, List.getD_eq_getElem?_getD, List.getElem?_map, List.getElem?_range h]; rfl
theorem even_len (t b : List Int) (n : Nat) : (even t b n).length = n := evenN_len t b n n
/-- An even band, told by its distances. -/
theorem even_band {s : Sh} {t b : List Int} (c : CurM s t b) {n : Nat} (h2 : 2 ≤ n) (h12 : n ≤ 12) : bandB s (even t b n) = true ↔ ∀ k, k < t.length → (s.w + s.k) * ((n : Int) - 1) ≤ at0 b k - at0 t k := by
  have hl := c.len
  have hd : (0 : Int) < (n : Int) - 1 := by omega
  constructor
  · intro h k hk
    unfold bandB at h
    simp only [Bool.and_eq_true, decide_eq_true_eq, List.isEmpty_iff] at h
    have h0 := cls_empty.1 h.2.2 0 (by rw [even_len]; omega)
    have h1 := clashAt_no h0 k (by rw [even_rw (by omega), part_len hl]; exact hk) (by rw [even_rw (by omega), part_len hl]; exact hk)
    rw [even_rw (by omega), even_rw (by omega), part_at hk hl, part_at hk hl] at h1
    have hle := c.le k hk
    have e0 : (((0 : Nat) : Int) * (at0 b k - at0 t k)).tdiv ((n : Int) - 1) = 0 := by simp
    have e1 : (((0 + 1 : Nat) : Int) * (at0 b k - at0 t k)) = at0 b k - at0 t k := by simp
    rw [e0, e1, Int.tdiv_eq_ediv_of_nonneg (by omega)] at h1
    exact (Int.le_ediv_iff_mul_le hd).1 (by omega)
  · intro h
    unfold bandB
    simp only [Bool.and_eq_true, decide_eq_true_eq, List.isEmpty_iff]
    refine ⟨by rw [even_len]; exact h12, ?_, ?_⟩
    · unfold linesB
      rw [all_at []]
      intro i hi
      rw [even_len] at hi
      rw [show (even t b n).getD i [] = part t b (i : Nat) ((n : Int) - 1) from even_rw hi]
      exact lineB_t.2 (part_line c (by omega) (by omega) hd)
    · rw [cls_empty]
      intro i hi
      rw [even_len] at hi
      refine clashAt_of fun k hk hk2 => ?_
      rw [even_rw (by omega), part_len hl] at hk
      rw [even_rw (by omega), even_rw (by omega), part_at hk hl, part_at hk hl]
      have hle := c.le k hk
      have h0 := h k hk
      obtain ⟨D, hD⟩ : ∃ D, at0 b k - at0 t k = D := ⟨_, rfl⟩
      rw [hD] at h0 ⊢
      have hD0 : 0 ≤ D := by omega
      rw [Int.tdiv_eq_ediv_of_nonneg (Int.mul_nonneg (by omega) hD0), Int.tdiv_eq_ediv_of_nonneg (Int.mul_nonneg (by omega) hD0)]
      have e1 : ((i + 1 : Nat) : Int) * D = (i : Int) * D + D := by rw [Int.natCast_succ, Int.add_mul, Int.one_mul]
      rw [e1]
      obtain ⟨X, hX⟩ : ∃ X, (i : Int) * D = X := ⟨_, rfl⟩
      rw [hX]
      have b1 : X + (s.w + s.k) * ((n : Int) - 1) ≤ X + D := by omega
      have c1 := Int.ediv_le_ediv hd b1
      rw [Int.add_mul_ediv_right _ _ (by omega)] at c1
      omega
theorem even_mono {s : Sh} {t b : List Int} (c : CurM s t b) {n m : Nat} (h2 : 2 ≤ n) (hnm : n ≤ m) (h12 : m ≤ 12) (h : bandB s (even t b m) = true) : bandB s (even t b n) = true := by
  rw [even_band c h2 (by omega)]
  rw [even_band c (by omega) h12] at h
  intro k hk
  have h1 := h k hk
  have g3 := c.g.w
  have g4 := c.g.k
  have : (s.w + s.k) * ((n : Int) - 1) ≤ (s.w + s.k) * ((m : Int) - 1) := Int.mul_le_mul_of_nonneg_left (by omega) (by omega)
  omega
theorem mostN_is {s : Sh} {t b : List Int} : ∀ n : Nat, mostN s t b n = 0 ∨ (2 ≤ mostN s t b n ∧ mostN s t b n ≤ n ∧ bandB s (even t b (mostN s t b n)) = true)
  | 0 => .inl rfl
  | n + 1 => by
    unfold mostN
    by_cases h : 2 ≤ n + 1 ∧ bandB s (even t b (n + 1)) = true
    · rw [if_pos h]; exact .inr ⟨h.1, Nat.le_refl _, h.2⟩
    · rw [if_neg h]
      rcases mostN_is (s := s) (t := t) (b := b) n with g | g
      · exact .inl g
      · exact .inr ⟨g.1, by omega, g.2.2⟩
theorem mostN_max {s : Sh} {t b : List Int} : ∀ n k : Nat, 2 ≤ k → k ≤ n → bandB s (even t b k) = true → k ≤ mostN s t b n
  | 0, k, h1, h2, _ => by omega
  | n + 1, k, h1, h2, h3 => by
    unfold mostN
    by_cases h : 2 ≤ n + 1 ∧ bandB s (even t b (n + 1)) = true
    · rw [if_pos h]; exact h2
    · rw [if_neg h]
      rcases Nat.lt_or_ge k (n + 1) with g | g
      · exact mostN_max n k h1 (by omega) h3
      · obtain rfl : k = n + 1 := by omega
        exact absurd ⟨h1, h3⟩ h
theorem even_first {t b : List Int} (hl : b.length = t.length) {n : Nat} (h : 2 ≤ n) : rw0 (even t b n) 0 = t := by
  rw [even_rw (by omega)]
  refine List.ext_getElem (part_len hl) fun k h1 h2 => ?_
  have := part_at (i := ((0 : Nat) : Int)) (d := (n : Int) - 1) h2 hl
  rw [show ((0 : Nat) : Int) * (at0 b k - at0 t k) = 0 by simp, Int.zero_tdiv, Int.add_zero] at this
  simp only [at0, List.getD_eq_getElem?_getD, List.getElem?_eq_getElem h1, List.getElem?_eq_getElem h2] at this
  exact this
theorem even_last {t b : List Int} (hl : b.length = t.length) {n : Nat} (h : 2 ≤ n) : rw0 (even t b n) (n - 1) = b := by
  rw [even_rw (by omega), show ((n - 1 : Nat) : Int) = (n : Int) - 1 by omega]
  refine List.ext_getElem (by rw [part_len hl, hl]) fun k h1 h2 => ?_
  have := part_at (i := (n : Int) - 1) (d := (n : Int) - 1) (k := k) (by omega) hl
  rw [Int.mul_tdiv_cancel_left _ (by omega), show at0 t k + (at0 b k - at0 t k) = at0 b k by omega] at this
  simp only [at0, List.getD_eq_getElem?_getD, List.getElem?_eq_getElem h1, List.getElem?_eq_getElem h2] at this
  exact this
end Go.R07
