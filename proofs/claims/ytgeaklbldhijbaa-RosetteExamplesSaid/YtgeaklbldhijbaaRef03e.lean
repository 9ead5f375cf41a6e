import Derived.Test.YtgeaklbldhijbaaRef03d
set_option linter.unusedSectionVars false
set_option linter.unusedSimpArgs false
set_option linter.unusedVariables false
namespace Go.R03
open Go Go.Abs Go.RowKit Go.Proofs
set_option maxRecDepth 20000
attribute [local irreducible] AWp AOps ADr AAny thenQ blockQ retQ
set_option linter.unusedVariables false
/-! ### two rubbers -/
def bIn (b c : List Int) (k : Nat) : Nat → Int
  | 0 => 10000
  | i + 1 => if i ≤ k ∧ k - i < c.length then min (bIn b c k i) (b.getD i 0 + c.getD (k - i) 0) else bIn b c k i
def both (b c : List Int) : List Int := (List.range (b.length + c.length - 1)).map fun k => bIn b c k b.length
def BOTHE (b c : List Int) : Int := if chkR b 31 ≠ 0 ∨ chkR c 31 ≠ 0 then 31 else if 31 < b.length + c.length - 1 then 4 else 0
theorem chkR_ok {b : List Int} {n : Int} (h : chkR b n = 0) : b.length % 2 = 1 ∧ b.length ≤ 31 ∧ (b.length : Int) ≤ n ∧ hts b = true ∧ mid b = 0 := by
  unfold chkR at h
  split at h
  · omega
  · rename_i h3
    simp only [not_or, Bool.not_eq_false, Decidable.not_not] at h3
    exact ⟨by omega, by omega, by omega, h3.2.2.1, h3.2.2.2⟩
theorem bIn_bd {b c : List Int} (hb : hts b = true) (hc : hts c = true) (k : Nat) : ∀ i, 0 ≤ bIn b c k i ∧ bIn b c k i ≤ 10000
  | 0 => ⟨by simp [bIn], by simp [bIn]⟩
  | i + 1 => by
    have h1 := bIn_bd hb hc k i
    have h2 := hts_at hb i
    have h3 := hts_at hc (k - i)
    unfold bIn
    split <;> omega
end Go.R03
