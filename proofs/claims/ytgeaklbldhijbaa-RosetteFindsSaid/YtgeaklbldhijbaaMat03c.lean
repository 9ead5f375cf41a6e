import Derived.Test.YtgeaklbldhijbaaMat03b
set_option linter.unusedSectionVars false
set_option linter.unusedSimpArgs false
set_option linter.unusedVariables false
/-! Layer 3: two rubbers, contacts, needed steps. -/
namespace Go.R03
theorem rub_of {b : List Int} {n : Int} (h : chkR b n = 0) : Rub b := by
  obtain ⟨h1, h2, h3, h4, h5⟩ := chkR_ok h
  refine ⟨h1, ?_, h4⟩
  unfold mid at h5
  rwa [show ((b.length : Int) / 2).toNat = b.length / 2 by omega] at h5
theorem hts_ca {f : List Int} (h : hts f = true) (i : Int) : 0 ≤ ca f i ∧ ca f i ≤ 10000 := hts_at h _
/-! ### contacts -/
/-- The rubber touches somewhere. -/
theorem lift_touch {f b : List Int} (hn : 1 ≤ f.length) (hb : Rub b) (i : Int) : ∃ j : Nat, j < b.length ∧ ca f (i + (j - hw b)) - b.getD j 0 = ca (lifted f b) i := by
  apply Classical.byContradiction
  intro hno
  have : ca (lifted f b) i ≤ ca (lifted f b) i - 1 := by
    rw [lift_le hn hb]
    intro j hj
    have g1 := (lift_le hn hb).1 (Int.le_refl (ca (lifted f b) i)) j hj
    have g2 : ca f (i + (j - hw b)) - b.getD j 0 ≠ ca (lifted f b) i := fun h => hno ⟨j, hj, h⟩
    omega
  omega
/-- The number i around n steps of the step p and the offset j. -/
def off (f b : List Int) (p j : Nat) : Nat := (((p : Int) + (j - hw b)) % (f.length : Int)).toNat
end Go.R03
