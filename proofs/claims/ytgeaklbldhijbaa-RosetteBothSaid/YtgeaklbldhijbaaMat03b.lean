import Derived.Test.YtgeaklbldhijbaaMat03
set_option linter.unusedSectionVars false
set_option linter.unusedSimpArgs false
set_option linter.unusedVariables false
/-! Layer 3: turned and mirrored rosettes, periods, axes, matches, two rubbers. -/
namespace Go.R03
theorem ext_ca {f g : List Int} (hl : f.length = g.length) (h : ∀ i : Int, ca f i = ca g i) : f = g :=
  LE.anti ⟨hl, fun i => by rw [h i]; exact Int.le_refl _⟩ ⟨hl.symm, fun i => by rw [h i]; exact Int.le_refl _⟩
theorem eq_of_le_iff {a b : Int} (h : ∀ x, a ≤ x ↔ b ≤ x) : a = b := by
  have h1 := (h a).1 (Int.le_refl _)
  have h2 := (h b).2 (Int.le_refl _)
  omega
theorem eq_of_iff_le {a b : Int} (h : ∀ x, x ≤ a ↔ x ≤ b) : a = b := by
  have h1 := (h a).1 (Int.le_refl _)
  have h2 := (h b).2 (Int.le_refl _)
  omega
theorem tmod_emod (s n : Int) : (s.tmod n) % n = s % n := by
  have : s.tmod n = s - n * s.tdiv n := by have := Int.mul_tdiv_add_tmod s n; omega
  rw [this, Int.sub_mul_emod_self_left]
theorem ca_moved {f : List Int} (hn : 1 ≤ f.length) (s i : Int) : ca (moved f s) i = ca f (i - s) := by
  rw [show ca (moved f s) i = movAt f s (i % (f.length : Int)).toNat from ca_of hn _ i]
  show ca f _ = _
  apply ca_congr
  rw [emod_nat hn, Int.emod_sub_emod, Int.sub_emod i, tmod_emod, ← Int.sub_emod]
theorem ca_image {f : List Int} (hn : 1 ≤ f.length) (i : Int) : ca (image f) i = ca f (-i) := by
  rw [show ca (image f) i = imgAt f (i % (f.length : Int)).toNat from ca_of hn _ i]
  show ca f _ = _
  apply ca_congr
  rw [emod_nat hn, ← Int.zero_sub, Int.sub_emod_emod, Int.zero_sub]
theorem Rub.reverse {b : List Int} (h : Rub b) : Rub b.reverse := by
  have ho := h.odd
  refine ⟨by simpa using ho, ?_, by have h2 := h.hts; unfold R03.hts at h2 ⊢; rw [List.all_reverse]; exact h2⟩
  have h1 : b.length / 2 < b.length := by omega
  rw [List.length_reverse]
  have := h.mid
  simp only [List.getD_eq_getElem?_getD] at *
  rw [List.getElem?_reverse h1, show b.length - 1 - b.length / 2 = b.length / 2 by omega, this]
section around
variable {f b : List Int} (hn : 1 ≤ f.length) (hb : Rub b)
include hn hb
theorem lifted_moved (s : Int) : lifted (moved f s) b = moved (lifted f b) s := by
  apply ext_ca (by simp [lifted_length, moved_length])
  intro i
  rw [ca_moved (by rw [lifted_length]; exact hn)]
  apply eq_of_le_iff
  intro x
  rw [lift_le (by rw [moved_length]; exact hn) hb, lift_le hn hb]
  constructor
  · intro h j hj; have := h j hj; rw [ca_moved hn] at this; rwa [show i - s + (j - hw b) = i + (j - hw b) - s by omega]
  · intro h j hj; have := h j hj; rw [ca_moved hn]; rwa [show i + (j - hw b) - s = i - s + (j - hw b) by omega]
theorem below_moved (s : Int) : below (moved f s) b = moved (below f b) s := by
  apply ext_ca (by simp [below_length, moved_length])
  intro i
  rw [ca_moved (by rw [below_length]; exact hn)]
  apply eq_of_iff_le
  intro x
  rw [le_below (by rw [moved_length]; exact hn) hb, le_below hn hb]
  constructor
  · intro h j hj; have := h j hj; rw [ca_moved hn] at this; rwa [show i - s - (j - hw b) = i - (j - hw b) - s by omega]
  · intro h j hj; have := h j hj; rw [ca_moved hn]; rwa [show i - (j - hw b) - s = i - s - (j - hw b) by omega]
omit hn in
theorem rev_at {j : Nat} (hj : j < b.length) : b.reverse.getD j 0 = b.getD (b.length - 1 - j) 0 := by
  simp only [List.getD_eq_getElem?_getD]; rw [List.getElem?_reverse hj]
theorem lifted_image : lifted (image f) b.reverse = image (lifted f b) := by
  have ho := hb.len
  apply ext_ca (by simp [lifted_length, image_length])
  intro i
  rw [ca_image (by rw [lifted_length]; exact hn)]
  apply eq_of_le_iff
  intro x
  rw [lift_le (by rw [image_length]; exact hn) hb.reverse, lift_le hn hb]
  have hh : hw b.reverse = hw b := by simp [hw]
  rw [hh, List.length_reverse]
  constructor
  · intro h j hj
    have := h (b.length - 1 - j) (by omega)
    rw [ca_image hn, rev_at hb (by omega), show b.length - 1 - (b.length - 1 - j) = j by omega] at this
    rwa [show -(i + (((b.length - 1 - j : Nat) : Int) - hw b)) = -i + (j - hw b) by unfold hw; omega] at this
  · intro h j hj
    have := h (b.length - 1 - j) (by omega)
    rw [ca_image hn, rev_at hb hj]
    rwa [show -(i + ((j : Int) - hw b)) = -i + (((b.length - 1 - j : Nat) : Int) - hw b) by unfold hw; omega]
theorem below_image : below (image f) b.reverse = image (below f b) := by
  have ho := hb.len
  apply ext_ca (by simp [below_length, image_length])
  intro i
  rw [ca_image (by rw [below_length]; exact hn)]
  apply eq_of_iff_le
  intro x
  rw [le_below (by rw [image_length]; exact hn) hb.reverse, le_below hn hb]
  have hh : hw b.reverse = hw b := by simp [hw]
  rw [hh, List.length_reverse]
  constructor
  · intro h j hj
    have := h (b.length - 1 - j) (by omega)
    rw [ca_image hn, rev_at hb (by omega), show b.length - 1 - (b.length - 1 - j) = j by omega] at this
    rwa [show -(i - (((b.length - 1 - j : Nat) : Int) - hw b)) = -i - (j - hw b) by unfold hw; omega] at this
  · intro h j hj
    have := h (b.length - 1 - j) (by omega)
    rw [ca_image hn, rev_at hb hj]
    rwa [show -(i - ((j : Int) - hw b)) = -i - (((b.length - 1 - j : Nat) : Int) - hw b) by unfold hw; omega]
end around
/-! ### turns by the law's own words -/
def turnL (f : List Int) (s : Nat) : List Int := f.drop (f.length - s) ++ f.take (f.length - s)
theorem turnL_eq {f : List Int} (hn : 1 ≤ f.length) {s : Nat} (hs : s ≤ f.length) : turnL f s = moved f s := by
  apply List.ext_getElem (by simp [turnL, moved_length])
  intro i h1 h2
  have hi : i < f.length := by simpa [moved_length] using h2
  simp only [moved, List.getElem_map, List.getElem_range, movAt, turnL]
  have hm : (i : Int) - (s : Int).tmod f.length = (i : Int) - (s : Int) % f.length := by rw [Int.tmod_eq_emod_of_nonneg (by omega)]
  rw [hm, Int.sub_emod_emod]
  by_cases hlt : i < s
  · rw [List.getElem_append_left (by simp; omega)]
    have e : ((i : Int) - s) % (f.length : Int) = i + f.length - s := by
      rw [← Int.add_emod_right, Int.emod_eq_of_lt (by omega) (by omega)]; omega
    rw [e, show ((i : Int) + f.length - s).toNat = f.length - s + i by omega]
    simp [show f.length - s + i < f.length by omega]
  · rw [List.getElem_append_right (by simp; omega)]
    have e : ((i : Int) - s) % (f.length : Int) = i - s := Int.emod_eq_of_lt (by omega) (by omega)
    rw [e, show ((i : Int) - s).toNat = i - s by omega]
    simp [show i - s < f.length by omega, show i - (f.length - (f.length - s)) = i - s by omega]
theorem moved_emod {f : List Int} (hn : 1 ≤ f.length) (s : Int) : moved f s = moved f (s % (f.length : Int)) := by
  apply ext_ca (by simp [moved_length])
  intro i
  rw [ca_moved hn, ca_moved hn]
  apply ca_congr
  rw [Int.sub_emod_emod]
theorem turnL_mod {f : List Int} (hn : 1 ≤ f.length) (s : Int) : turnL f (s % (f.length : Int)).toNat = moved f s := by
  have h1 := Int.emod_nonneg s (show (f.length : Int) ≠ 0 by omega)
  have h2 := Int.emod_lt_of_pos s (show (0 : Int) < f.length by omega)
  rw [turnL_eq hn (by omega), moved_emod hn s, Int.toNat_of_nonneg h1]
theorem image_turnL {f : List Int} (hn : 1 ≤ f.length) : image f = (turnL f (f.length - 1)).reverse := by
  apply List.ext_getElem (by simp [turnL, image_length])
  intro i h1 h2
  have hi : i < f.length := by simpa [image_length] using h1
  have hl : (turnL f (f.length - 1)).length = f.length := by simp [turnL]
  simp only [List.getElem_reverse, hl]
  have he : turnL f (f.length - 1) = moved f ((f.length - 1 : Nat) : Int) := turnL_eq hn (by omega)
  simp only [he]
  simp only [moved, image, List.getElem_map, List.getElem_range, movAt, imgAt]
  congr 2
  rw [Int.tmod_eq_emod_of_nonneg (by omega), Int.sub_emod_emod]
  by_cases h0 : i = 0
  · subst h0
    rw [show (((f.length - 1 - 0 : Nat) : Int) - ((f.length - 1 : Nat) : Int)) = 0 by omega]; simp
  · rw [show (((f.length - 1 - i : Nat) : Int) - ((f.length - 1 : Nat) : Int)) = -(i : Int) by omega]
/-! ### periods -/
theorem moved_eq_iff {f : List Int} (hn : 1 ≤ f.length) {s t : Int} : moved f s = moved f t ↔ ∀ i : Int, ca f (i - s) = ca f (i - t) := by
  constructor
  · intro h i; rw [← ca_moved hn, ← ca_moved hn, h]
  · intro h; exact ext_ca (by simp [moved_length]) fun i => by rw [ca_moved hn, ca_moved hn, h]
theorem moved_self_iff {f : List Int} (hn : 1 ≤ f.length) {s : Int} : moved f s = f ↔ ∀ i : Int, ca f (i - s) = ca f i := by
  constructor
  · intro h i; rw [← ca_moved hn, h]
  · intro h; exact ext_ca (by simp [moved_length]) fun i => by rw [ca_moved hn, h]
theorem per_mul {f : List Int} {p : Int} (h : ∀ i : Int, ca f (i - p) = ca f i) (k : Nat) : ∀ i : Int, ca f (i - p * k) = ca f i := by
  induction k with
  | zero => intro i; simp
  | succ k ih => intro i; rw [show i - p * ((k + 1 : Nat) : Int) = i - p * k - p by rw [show ((k + 1 : Nat) : Int) = (k : Int) + 1 by omega, Int.mul_add]; omega, h, ih]
theorem per_mulZ {f : List Int} {p : Int} (h : ∀ i : Int, ca f (i - p) = ca f i) (k : Int) : ∀ i : Int, ca f (i - p * k) = ca f i := by
  intro i
  rcases Int.le_total 0 k with hk | hk
  · obtain ⟨n, rfl⟩ := Int.eq_ofNat_of_zero_le hk
    exact per_mul h n i
  · obtain ⟨n, hn⟩ := Int.eq_ofNat_of_zero_le (show 0 ≤ -k by omega)
    have := per_mul h n (i - p * k)
    rw [show i - p * k - p * (n : Int) = i by rw [← hn, Int.mul_neg]; omega] at this
    exact this.symm
/-- The period divides just those turns that change nothing. -/
theorem per_dvd {f : List Int} {p : Nat} (hn : 1 ≤ f.length) (hp : IsPer f p) {t : Int} : moved f t = f ↔ (p : Int) ∣ t := by
  obtain ⟨h1, h2, h3, h4⟩ := hp
  have hpp := (moved_self_iff hn).1 h3
  constructor
  · intro h
    have ht := (moved_self_iff hn).1 h
    have hr : ∀ i : Int, ca f (i - t % (p : Int)) = ca f i := fun i => by
      have e : t % (p : Int) = t - p * (t / p) := by have := Int.mul_ediv_add_emod t p; omega
      have := per_mulZ hpp (t / p) (i - t + p * (t / p))
      rw [show i - t + p * (t / p) - p * (t / p) = i - t by omega] at this
      rw [e, show i - (t - p * (t / p)) = i - t + p * (t / p) by omega, ← this, ht]
    have g1 := Int.emod_nonneg t (show (p : Int) ≠ 0 by omega)
    have g2 := Int.emod_lt_of_pos t (show (0 : Int) < p by omega)
    by_cases h0 : t % (p : Int) = 0
    · exact Int.dvd_of_emod_eq_zero h0
    · exfalso
      refine h4 (t % (p : Int)).toNat (by omega) (by omega) ?_
      rw [Int.toNat_of_nonneg g1]
      exact (moved_self_iff hn).2 hr
  · rintro ⟨k, rfl⟩
    exact (moved_self_iff hn).2 (per_mulZ hpp k)
theorem per_dvd2 {f : List Int} {p : Nat} (hn : 1 ≤ f.length) (hp : IsPer f p) {s t : Int} : moved f s = moved f t ↔ (p : Int) ∣ s - t := by
  rw [← per_dvd hn hp, moved_eq_iff hn, moved_self_iff hn]
  constructor
  · intro h i; have := h (i + t); rw [show i + t - s = i - (s - t) by omega, show i + t - t = i by omega] at this; exact this
  · intro h i; have := h (i - t); rw [show i - t - (s - t) = i - s by omega] at this; exact this
theorem moved_n' (f : List Int) (hn : 1 ≤ f.length) : moved f f.length = f := (moved_self_iff hn).2 fun i => by
  apply ca_congr; rw [Int.sub_emod_right]
theorem per_len {f : List Int} {p : Nat} (hn : 1 ≤ f.length) (hp : IsPer f p) : p ∣ f.length := by
  have := (per_dvd hn hp).1 (moved_n' f hn); exact Int.ofNat_dvd.1 this
theorem per_ex {f : List Int} (hn : 1 ≤ f.length) : ∃ p, IsPer f p := by
  have hex : ∃ p : Nat, 1 ≤ p ∧ p ≤ f.length ∧ moved f p = f := ⟨f.length, hn, Nat.le_refl _, moved_n' f hn⟩
  suffices H : ∀ k : Nat, ∀ p : Nat, p ≤ k → 1 ≤ p → p ≤ f.length → moved f p = f → ∃ p, IsPer f p by
    obtain ⟨p, h1, h2, h3⟩ := hex; exact H p p (Nat.le_refl _) h1 h2 h3
  intro k
  induction k with
  | zero => intro p h0 h1; omega
  | succ k ih =>
    intro p h0 h1 h2 h3
    by_cases hlt : ∃ t : Nat, 1 ≤ t ∧ t < p ∧ moved f t = f
    · obtain ⟨t, g1, g2, g3⟩ := hlt
      exact ih t (by omega) g1 (by omega) g3
    · exact ⟨p, h1, h2, h3, fun t g1 g2 g3 => hlt ⟨t, g1, g2, g3⟩⟩
/-- The period of a lift divides that of the rosette. -/
theorem per_lift {f b : List Int} {p q : Nat} (hn : 1 ≤ f.length) (hb : Rub b) (hp : IsPer f p) (hq : IsPer (lifted f b) q) : q ∣ p := by
  have : moved (lifted f b) p = lifted f b := by rw [← lifted_moved hn hb, hp.2.2.1]
  exact Int.ofNat_dvd.1 ((per_dvd (by rw [lifted_length]; exact hn) hq).1 this)
/-- The least match is the turn less a multiple of the period. -/
theorem match_turned {f : List Int} {p : Nat} {s : Int} (hn : 1 ≤ f.length) (hp : IsPer f p) : IsMatch f (moved f s) (s % (p : Int)).toNat := by
  have h1 := hp.1
  have g1 := Int.emod_nonneg s (show (p : Int) ≠ 0 by omega)
  have g2 := Int.emod_lt_of_pos s (show (0 : Int) < p by omega)
  have hle := hp.2.1
  refine ⟨by omega, ?_, fun t ht h => ?_⟩
  · rw [Int.toNat_of_nonneg g1]
    refine (per_dvd2 hn hp).2 ?_
    have := Int.mul_ediv_add_emod s p
    exact ⟨-(s / p), by rw [Int.mul_neg]; omega⟩
  · obtain ⟨k, hk⟩ := (per_dvd2 hn hp).1 h
    have e := Int.mul_ediv_add_emod s p
    have : (p : Int) * (s / p + k) = t - s % (p : Int) := by rw [Int.mul_add]; omega
    have h3 : (p : Int) ∣ (s % (p : Int) - t) := ⟨-(s / p + k), by rw [Int.mul_neg]; omega⟩
    have := Int.le_of_dvd (by omega) h3
    omega
theorem match_lt {f g : List Int} {p n : Nat} (hn : 1 ≤ f.length) (hp : IsPer f p) (hm : IsMatch f g n) : n < p := by
  rcases Nat.lt_or_ge n p with h | h
  · exact h
  · exfalso
    have h1 := hp.1
    refine hm.2.2 (n - p) (by omega) ?_
    rw [← hm.2.1]
    refine (per_dvd2 hn hp).2 ⟨-1, ?_⟩
    omega
/-! ### axes -/
/-- Turned by an axis the mirrored rosette is the rosette: of two axes the difference is a multiple of the period. -/
theorem axis_iff {f : List Int} {p s t : Nat} (hn : 1 ≤ f.length) (hp : IsPer f p) (hs : moved (image f) s = f) : moved (image f) t = f ↔ (p : Int) ∣ (t : Int) - s := by
  have hil := image_length f
  have hs' : ∀ i : Int, ca f (-(i - s)) = ca f i := fun i => by
    rw [← ca_image hn, ← ca_moved (f := image f) (by omega), hs]
  have key : ∀ t : Int, moved (image f) t = f ↔ ∀ i : Int, ca f (-(i - t)) = ca f i := fun t => by
    constructor
    · intro h i; rw [← ca_image hn, ← ca_moved (f := image f) (by omega), h]
    · intro h; exact ext_ca (by simp [moved_length, image_length]) fun i => by rw [ca_moved (by omega), ca_image hn, h]
  rw [key, ← per_dvd hn hp, moved_self_iff hn]
  constructor
  · intro h i
    have h1 := hs' (i - (t - s))
    have h2 := h i
    rw [show -(i - ((t : Int) - s) - s) = -(i - t) by omega] at h1
    rw [← h1, h2]
  · intro h i
    have h1 := hs' (i - (t - s))
    rw [show -(i - ((t : Int) - s) - s) = -(i - t) by omega] at h1
    rw [h1, h]
theorem count_mod (p r : Nat) (hr : r < p) : ∀ q : Nat, ((List.range (p * q)).filter fun t => decide (t % p = r)).length = q := by
  intro q
  induction q with
  | zero => simp
  | succ q ih =>
    rw [Nat.mul_succ, List.range_add, List.filter_append, List.length_append, ih, List.filter_map, List.length_map]
    congr 1
    have : ((fun t => decide (t % p = r)) ∘ fun x => p * q + x) = fun x => decide (x % p = r) := by
      funext x; simp [Nat.mul_add_mod]
    rw [this]
    have e : (List.range p).filter (fun x => decide (x % p = r)) = (List.range p).filter (fun x => x == r) := by
      apply List.filter_congr
      intro x hx
      have := List.mem_range.1 hx
      rw [Nat.mod_eq_of_lt this]
      simp [BEq.beq]
    rw [e, ← List.count_eq_length_filter, List.count_range]
    simp [hr]
theorem axes_count {f : List Int} {p : Nat} (hn : 1 ≤ f.length) (hp : IsPer f p) : (axes f).length = 0 ∨ (axes f).length = f.length / p := by
  unfold axes
  rw [List.length_map]
  by_cases h : ∃ s : Nat, moved (image f) s = f
  · right
    obtain ⟨s, hs⟩ := h
    obtain ⟨q, hq⟩ := per_len hn hp
    have h1 := hp.1
    have e : ((List.range f.length).filter fun (t : Nat) => sames (moved (image f) t) f) = (List.range f.length).filter fun t => decide (t % p = s % p) := by
      apply List.filter_congr
      intro t _
      unfold sames
      congr 1
      apply propext
      rw [axis_iff hn hp hs]
      constructor
      · rintro ⟨k, hk⟩
        have : (t : Int) % p = (s : Int) % p := by rw [show (t : Int) = s + p * k by omega, Int.add_mul_emod_self_left]
        omega
      · intro hm
        have : (t : Int) % p = (s : Int) % p := by omega
        exact Int.dvd_of_emod_eq_zero (Int.emod_eq_emod_iff_emod_sub_eq_zero.1 this)
    rw [e, hq, count_mod p (s % p) (Nat.mod_lt _ (by omega)), Nat.mul_div_cancel_left _ (by omega)]
  · left
    rw [List.length_eq_zero_iff, List.filter_eq_nil_iff]
    intro t _
    unfold sames
    simp only [decide_eq_true_eq]
    exact fun h2 => h ⟨t, h2⟩
end Go.R03
