import Derived.Test.YtjepofehaphcnaaMat07d
set_option linter.unusedSectionVars false
set_option linter.unusedSimpArgs false
set_option linter.unusedVariables false
/-! Layer 7: pure mathematics: what clashes are. -/
namespace Go.R07
set_option linter.unusedVariables false
/-- A clash between line i and the next one. -/
def ClP (s : Sh) (b : List (List Int)) (x : Cl) (i : Nat) : Prop := x.u = i ∧ x.w = (i + 1 : Nat) ∧ x.c = clashI s (rw0 b i) (rw0 b (i + 1)) ∧ 0 ≤ clashI s (rw0 b i) (rw0 b (i + 1))
theorem clN_mem (s : Sh) (b : List (List Int)) : ∀ (n : Nat) (x : Cl), x ∈ clN s b n → ∃ i, i < n ∧ ClP s b x i
  | 0, x, h => by simp [clN] at h
  | n + 1, x, h => by
    rw [clN_succ, List.mem_append] at h
    rcases h with h | h
    · obtain ⟨i, h1, h2⟩ := clN_mem s b n x h
      exact ⟨i, by omega, h2⟩
    · by_cases hc : 0 ≤ clashI s (rw0 b n) (rw0 b (n + 1))
      · rw [if_pos hc, List.mem_singleton] at h
        subst h
        exact ⟨n, by omega, rfl, rfl, rfl, hc⟩
      · rw [if_neg hc] at h; cases h
theorem clN_up (s : Sh) (b : List (List Int)) : ∀ n : Nat, (clN s b n).Pairwise fun x y => x.u < y.u
  | 0 => by simp [clN]
  | n + 1 => by
    rw [clN_succ, List.pairwise_append]
    refine ⟨clN_up s b n, by split <;> simp, fun x hx y hy => ?_⟩
    obtain ⟨i, h1, h2, _⟩ := clN_mem s b n x hx
    by_cases hc : 0 ≤ clashI s (rw0 b n) (rw0 b (n + 1))
    · rw [if_pos hc, List.mem_singleton] at hy
      subst hy
      show x.u < (n : Int)
      omega
    · rw [if_neg hc] at hy; cases hy
theorem up_drop {l : List Cl} (h : l.Pairwise fun x y => x.u < y.u) {j : Nat} {d : Cl} (hj : j < l.length) : ∀ y ∈ l.drop (j + 1), (l.getD j d).u < y.u := by
  have h2 := h.sublist (List.drop_sublist j l)
  rw [dropC d hj, List.pairwise_cons] at h2
  exact h2.1
end Go.R07
