import Derived.Test.YtgeaklbldhijbaaLaw03
import Derived.Test.YtgeaklbldhijbaaAbsHeap
set_option linter.unusedSectionVars false
set_option linter.unusedSimpArgs false
set_option linter.unusedVariables false
/-! Layer 3: what the document's answers are, proved of lists: lifts and what is under them. -/
namespace Go.R03
/-- The height at a step, counted around. -/
def ca (f : List Int) (i : Int) : Int := f.getD (i % (f.length : Int)).toNat 0
theorem ca_nat {f : List Int} {p : Nat} (h : p < f.length) : ca f p = f.getD p 0 := by
  unfold ca; rw [Int.emod_eq_of_lt (by omega) (by omega)]; rfl
theorem ca_congr (f : List Int) {i j : Int} (h : i % (f.length : Int) = j % (f.length : Int)) : ca f i = ca f j := by unfold ca; rw [h]
theorem ca_of {n : Nat} (hn : 1 ≤ n) (F : Nat → Int) (i : Int) : ca ((List.range n).map F) i = F (i % (n : Int)).toNat := by
  have h1 := Int.emod_nonneg i (show (n : Int) ≠ 0 by omega)
  have h2 := Int.emod_lt_of_pos i (show (0 : Int) < n by omega)
  have : (i % (n : Int)).toNat < n := by omega
  simp [ca, this]
/-- A list is below another one. -/
def LE (f g : List Int) : Prop := f.length = g.length ∧ ∀ i : Int, ca f i ≤ ca g i
theorem le_iff {f g : List Int} : LE f g ↔ f.length = g.length ∧ ∀ p : Nat, p < f.length → f.getD p 0 ≤ g.getD p 0 := by
  constructor
  · rintro ⟨h1, h2⟩
    refine ⟨h1, fun p hp => ?_⟩
    have := h2 p
    rwa [ca_nat hp, ca_nat (by omega)] at this
  · rintro ⟨h1, h2⟩
    refine ⟨h1, fun i => ?_⟩
    unfold ca
    rw [← h1]
    by_cases h0 : f.length = 0
    · obtain rfl := List.eq_nil_of_length_eq_zero h0
      have : g = [] := List.eq_nil_of_length_eq_zero (by simpa using h1.symm)
      subst this; simp
    · have h3 := Int.emod_nonneg i (show (f.length : Int) ≠ 0 by omega)
      have h4 := Int.emod_lt_of_pos i (show (0 : Int) < f.length by omega)
      exact h2 _ (by omega)
theorem LE.refl (f : List Int) : LE f f := ⟨rfl, fun _ => Int.le_refl _⟩
theorem LE.trans {f g h : List Int} (a : LE f g) (b : LE g h) : LE f h := ⟨a.1.trans b.1, fun i => Int.le_trans (a.2 i) (b.2 i)⟩
theorem LE.anti {f g : List Int} (a : LE f g) (b : LE g f) : f = g := by
  apply List.ext_getElem a.1
  intro i h1 h2
  have h3 := (le_iff.1 a).2 i h1
  have h4 := (le_iff.1 b).2 i h2
  simp [h1, h2] at h3 h4
  omega
theorem inn_le {f b : List Int} {p : Nat} {x : Int} : ∀ k, inn f b p k ≤ x ↔ f.getD p 0 ≤ x ∧ ∀ i : Nat, i < k → ca f ((p : Int) + (-((b.length / 2 : Nat) : Int) + i)) - b.getD i 0 ≤ x
  | 0 => by simp [inn]
  | k + 1 => by
    have ih := inn_le (f := f) (b := b) (p := p) (x := x) k
    simp only [inn]
    rw [show (max (inn f b p k) (f.getD (((p : Int) + (-((b.length / 2 : Nat) : Int) + k)) % (f.length : Int)).toNat 0 - b.getD k 0) ≤ x) ↔ (inn f b p k ≤ x ∧ ca f ((p : Int) + (-((b.length / 2 : Nat) : Int) + k)) - b.getD k 0 ≤ x) by unfold ca; omega, ih]
    constructor
    · rintro ⟨⟨h1, h2⟩, h3⟩
      refine ⟨h1, fun i hi => ?_⟩
      rcases Nat.lt_or_ge i k with h | h
      · exact h2 i h
      · obtain rfl : i = k := by omega
        exact h3
    · rintro ⟨h1, h2⟩
      exact ⟨⟨h1, fun i hi => h2 i (by omega)⟩, h2 k (by omega)⟩
theorem le_bel {f b : List Int} {p : Nat} {x : Int} : ∀ k, x ≤ bel f b p k ↔ x ≤ f.getD p 0 ∧ ∀ i : Nat, i < k → x ≤ ca f ((p : Int) - (-((b.length / 2 : Nat) : Int) + i)) + b.getD i 0
  | 0 => by simp [bel]
  | k + 1 => by
    have ih := le_bel (f := f) (b := b) (p := p) (x := x) k
    simp only [bel]
    rw [show (x ≤ min (bel f b p k) (f.getD (((p : Int) - (-((b.length / 2 : Nat) : Int) + k)) % (f.length : Int)).toNat 0 + b.getD k 0)) ↔ (x ≤ bel f b p k ∧ x ≤ ca f ((p : Int) - (-((b.length / 2 : Nat) : Int) + k)) + b.getD k 0) by unfold ca; omega, ih]
    constructor
    · rintro ⟨⟨h1, h2⟩, h3⟩
      refine ⟨h1, fun i hi => ?_⟩
      rcases Nat.lt_or_ge i k with h | h
      · exact h2 i h
      · obtain rfl : i = k := by omega
        exact h3
    · rintro ⟨h1, h2⟩
      exact ⟨⟨h1, fun i hi => h2 i (by omega)⟩, h2 k (by omega)⟩
/-- Half of a rubber, less one. -/
def hw (b : List Int) : Int := ((b.length / 2 : Nat) : Int)
/-- A rubber, as far as it matters here. -/
structure Rub (b : List Int) : Prop where
  odd : b.length % 2 = 1
  mid : b.getD (b.length / 2) 0 = 0
  hts : hts b = true
theorem Rub.len {b : List Int} (h : Rub b) : 2 * (b.length / 2) + 1 = b.length := by have := h.odd; omega
theorem ca_lifted {f : List Int} (hn : 1 ≤ f.length) (b : List Int) (i : Int) : ca (lifted f b) i = liftAt f b (i % (f.length : Int)).toNat := ca_of hn _ i
theorem ca_below {f : List Int} (hn : 1 ≤ f.length) (b : List Int) (i : Int) : ca (below f b) i = belAt f b (i % (f.length : Int)).toNat := ca_of hn _ i
theorem emod_nat {i : Int} {n : Nat} (hn : 1 ≤ n) : (((i % (n : Int)).toNat : Nat) : Int) = i % (n : Int) := Int.toNat_of_nonneg (Int.emod_nonneg i (by omega))
/-- The lift at i is at most x. -/
theorem lift_le {f b : List Int} (hn : 1 ≤ f.length) (hb : Rub b) {i x : Int} : ca (lifted f b) i ≤ x ↔ ∀ j : Nat, j < b.length → ca f (i + (j - hw b)) - b.getD j 0 ≤ x := by
  rw [ca_lifted hn, liftAt, inn_le, hb.len]
  have he : ∀ j : Nat, ca f ((((i % (f.length : Int)).toNat : Nat) : Int) + (-((b.length / 2 : Nat) : Int) + j)) = ca f (i + (j - hw b)) := fun j => by
    apply ca_congr
    rw [emod_nat hn, Int.emod_add_emod]
    congr 1; unfold hw; omega
  constructor
  · rintro ⟨_, h2⟩ j hj
    have := h2 j hj
    rwa [he] at this
  · intro h
    refine ⟨?_, fun j hj => by rw [he]; exact h j hj⟩
    have := h (b.length / 2) (by have := hb.odd; omega)
    rw [hb.mid, show i + (((b.length / 2 : Nat) : Int) - hw b) = i by unfold hw; omega] at this
    have e : ca f i = f.getD (i % (f.length : Int)).toNat 0 := rfl
    omega
theorem le_below {f b : List Int} (hn : 1 ≤ f.length) (hb : Rub b) {i x : Int} : x ≤ ca (below f b) i ↔ ∀ j : Nat, j < b.length → x ≤ ca f (i - (j - hw b)) + b.getD j 0 := by
  rw [ca_below hn, belAt, le_bel, hb.len]
  have he : ∀ j : Nat, ca f ((((i % (f.length : Int)).toNat : Nat) : Int) - (-((b.length / 2 : Nat) : Int) + j)) = ca f (i - (j - hw b)) := fun j => by
    apply ca_congr
    rw [emod_nat hn, Int.emod_sub_emod]
    congr 1; unfold hw; omega
  constructor
  · rintro ⟨_, h2⟩ j hj
    have := h2 j hj
    rwa [he] at this
  · intro h
    refine ⟨?_, fun j hj => by rw [he]; exact h j hj⟩
    have := h (b.length / 2) (by have := hb.odd; omega)
    rw [hb.mid, show i - (((b.length / 2 : Nat) : Int) - hw b) = i by unfold hw; omega] at this
    have e : ca f i = f.getD (i % (f.length : Int)).toNat 0 := rfl
    omega
/-- The lift of f is below h exactly if f is below what is under h. -/
theorem adjoint {f h b : List Int} (hn : 1 ≤ f.length) (hl : f.length = h.length) (hb : Rub b) : LE (lifted f b) h ↔ LE f (below h b) := by
  constructor
  · rintro ⟨_, h2⟩
    refine ⟨by rw [below_length, hl], fun i => (le_below (by omega) hb).2 fun j hj => ?_⟩
    have := (lift_le hn hb).1 (h2 (i - (j - hw b))) j hj
    rw [show i - (j - hw b) + (j - hw b) = i by omega] at this
    omega
  · rintro ⟨_, h2⟩
    refine ⟨by rw [lifted_length, hl], fun i => (lift_le hn hb).2 fun j hj => ?_⟩
    have := (le_below (by omega) hb).1 (h2 (i + (j - hw b))) j hj
    rw [show i + (j - hw b) - (j - hw b) = i by omega] at this
    omega
theorem below_le {f b : List Int} (hn : 1 ≤ f.length) (hb : Rub b) : LE (below f b) f := by
  refine ⟨below_length f b, fun i => ?_⟩
  have := (le_below hn hb).1 (Int.le_refl (ca (below f b) i)) (b.length / 2) (by have := hb.odd; omega)
  rw [hb.mid, show i - (((b.length / 2 : Nat) : Int) - hw b) = i by unfold hw; omega] at this
  omega
section gal
variable {f g h b : List Int} (hn : 1 ≤ f.length) (hb : Rub b)
include hn hb
theorem le_close : LE f (below (lifted f b) b) := (adjoint hn (lifted_length f b).symm hb).1 (LE.refl _)
theorem grind_le : LE (lifted (below f b) b) f := (adjoint (by rw [below_length]; exact hn) (below_length f b) hb).2 (LE.refl _)
theorem lifted_mono (hfg : LE f g) : LE (lifted f b) (lifted g b) :=
  (adjoint hn (by rw [lifted_length]; exact hfg.1) hb).2 (hfg.trans (le_close (by rw [← hfg.1]; exact hn) hb))
/-- Close of f has the lift of f. -/
theorem lift_close : lifted (below (lifted f b) b) b = lifted f b :=
  LE.anti (grind_le (by rw [lifted_length]; exact hn) hb) (lifted_mono hn hb (le_close hn hb))
end gal
end Go.R03
