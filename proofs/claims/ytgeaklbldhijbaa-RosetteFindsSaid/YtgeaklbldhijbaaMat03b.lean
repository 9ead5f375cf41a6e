import Derived.Test.YtgeaklbldhijbaaMat03
set_option linter.unusedSectionVars false
set_option linter.unusedSimpArgs false
set_option linter.unusedVariables false
/-! Layer 3: turned and mirrored rosettes, periods, axes, matches, two rubbers. -/
namespace Go.R03
theorem ext_ca {f g : List Int} (hl : f.length = g.length) (h : ∀ i : Int, ca f i = ca g i) : f = g :=
  LE.anti ⟨hl, fun i => by rw [h i]; exact Int.le_refl _⟩ ⟨hl.symm, fun i => by rw [h i]; exact Int.le_refl _⟩
theorem tmod_emod (s n : Int) : (s.tmod n) % n = s % n := by
  have : s.tmod n = s - n * s.tdiv n := by have := Int.mul_tdiv_add_tmod s n; omega
  rw [this, Int.sub_mul_emod_self_left]
theorem ca_moved {f : List Int} (hn : 1 ≤ f.length) (s i : Int) : ca (moved f s) i = ca f (i - s) := by
  rw [show ca (moved f s) i = movAt f s (i % (f.length : Int)).toNat from ca_of hn _ i]
  show ca f _ = _
  apply ca_congr
  rw [emod_nat hn, Int.emod_sub_emod, Int.sub_emod i, tmod_emod, ← Int.sub_emod]
section around
variable {f b : List Int} (hn : 1 ≤ f.length) (hb : Rub b)
include hn hb
end around
/-! ### turns by the law's own words -/
/-! ### periods -/
theorem moved_self_iff {f : List Int} (hn : 1 ≤ f.length) {s : Int} : moved f s = f ↔ ∀ i : Int, ca f (i - s) = ca f i := by
  constructor
  · intro h i; rw [← ca_moved hn, h]
  · intro h; exact ext_ca (by simp [moved_length]) fun i => by rw [ca_moved hn, h]
theorem per_mul {f : List Int} {p : Int} (h : ∀ i : Int, ca f (i - p) = ca f i) (k : Nat) : ∀ i : Int, ca f (i - p * k) = ca f i := by
  induction k with
  | zero => intro i; simp
  | succ k ih => intro i; rw [show i - p * ((k + 1 : Nat) : Int) = i - p * k - p by rw [show ((k + 1 : Nat) : Int) = (k : Int) + 1 by omega, Int.mul_add]; omega, h, ih]
theorem per_mulZ {f : List Int} {p : Int} (h : ∀ i : Int, ca f (i - p) = ca f i) (k : Int) : ∀ i : Int, ca f (i - p * k) = ca f i := by
  intro i
  rcases Int.le_total 0 k with hk | hk
  · obtain ⟨n, rfl⟩ := Int.eq_ofNat_of_zero_le hk
    exact per_mul h n i
  · obtain ⟨n, hn⟩ := Int.eq_ofNat_of_zero_le (show 0 ≤ -k by omega)
    have := per_mul h n (i - p * k)
    rw [show i - p * k - p * (n : Int) = i by rw [← hn, Int.mul_neg]; omega] at this
    exact this.symm
/-- The period divides just those turns that change nothing. -/
theorem per_dvd {f : List Int} {p : Nat} (hn : 1 ≤ f.length) (hp : IsPer f p) {t : Int} : moved f t = f ↔ (p : Int) ∣ t := by
  obtain ⟨h1, h2, h3, h4⟩ := hp
  have hpp := (moved_self_iff hn).1 h3
  constructor
  · intro h
    have ht := (moved_self_iff hn).1 h
    have hr : ∀ i : Int, ca f (i - t % (p : Int)) = ca f i := fun i => by
      have e : t % (p : Int) = t - p * (t / p) := by have := Int.mul_ediv_add_emod t p; omega
      have := per_mulZ hpp (t / p) (i - t + p * (t / p))
      rw [show i - t + p * (t / p) - p * (t / p) = i - t by omega] at this
      rw [e, show i - (t - p * (t / p)) = i - t + p * (t / p) by omega, ← this, ht]
    have g1 := Int.emod_nonneg t (show (p : Int) ≠ 0 by omega)
    have g2 := Int.emod_lt_of_pos t (show (0 : Int) < p by omega)
    by_cases h0 : t % (p : Int) = 0
    · exact Int.dvd_of_emod_eq_zero h0
    · exfalso
      refine h4 (t % (p : Int)).toNat (by omega) (by omega) ?_
      rw [Int.toNat_of_nonneg g1]
      exact (moved_self_iff hn).2 hr
  · rintro ⟨k, rfl⟩
    exact (moved_self_iff hn).2 (per_mulZ hpp k)
/-! ### axes -/
end Go.R03
