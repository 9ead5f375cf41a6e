import Derived.Test.YtjepofehaphcnaaMat07t
set_option linter.unusedSectionVars false
set_option linter.unusedSimpArgs false
set_option linter.unusedVariables false
/-! Layer 7: pure mathematics: a column of ink, read from the top: run, paper, lines. -/
namespace Go.R07
set_option linter.unusedVariables false
/-- Lines N, in the rows x i, each w high and k apart from the next. -/
structure Col (x : Nat → Int) (N : Nat) (w k : Int) : Prop where
  w1 : 1 ≤ w
  k0 : 0 ≤ k
  gap : ∀ i, i + 1 < N → x i + (w + k) ≤ x (i + 1)
def inkC (x : Nat → Int) (N : Nat) (w : Int) (r : Nat) : Prop := ∃ i, i < N ∧ x i ≤ r ∧ (r : Int) < x i + w
/-- What has been read before row r. -/
structure Pst (x : Nat → Int) (N : Nat) (w k : Int) (r : Nat) (paper run : Int) (n : Nat) : Prop where
  le : n ≤ N
  lo : 0 < n → x (n - 1) < r
  hi : n < N → (r : Int) ≤ x n
  rb : 0 ≤ run ∧ run ≤ r
  pap : 0 ≤ paper ∧ paper ≤ k + r
  no : n = 0 → run = 0
  on : 0 < n → (r : Int) ≤ x (n - 1) + w → run % w = ((r : Int) - x (n - 1)) % w ∧ paper = 0
  off : 0 < n → x (n - 1) + w < r → run = 0 ∧ paper = r - x (n - 1) - w
theorem col_lt {x : Nat → Int} {N : Nat} {w k : Int} (c : Col x N w k) : ∀ d i, i + d + 1 < N → x i + (w + k) ≤ x (i + d + 1)
  | 0, i, h => c.gap i h
  | d + 1, i, h => by
    have a := col_lt c d i (by omega)
    have b := c.gap (i + d + 1) h
    have := c.w1
    have := c.k0
    have e : i + (d + 1) + 1 = i + d + 1 + 1 := by omega
    rw [e]; omega
theorem col_le {x : Nat → Int} {N : Nat} {w k : Int} (c : Col x N w k) {i j : Nat} (hij : i < j) (hj : j < N) : x i + (w + k) ≤ x j := by
  obtain ⟨d, rfl⟩ := Nat.exists_eq_add_of_lt hij
  exact col_lt c d i hj
/-- Ink in row r: of the last line, or of the next one, which begins there. -/
theorem ink_of {x : Nat → Int} {N : Nat} {w k : Int} {r : Nat} {paper run : Int} {n : Nat} (c : Col x N w k) (p : Pst x N w k r paper run n) (h : inkC x N w r) : (0 < n ∧ (r : Int) < x (n - 1) + w) ∨ (n < N ∧ x n = r) := by
  obtain ⟨i, hi, h1, h2⟩ := h
  have w1 := c.w1
  have k0 := c.k0
  by_cases hin : i < n
  · left
    by_cases e : i = n - 1
    · subst e; exact ⟨by omega, h2⟩
    · have a := col_le c (show i < n - 1 by omega) (by have := p.le; omega)
      have b := p.lo (by omega)
      omega
  · right
    by_cases e : i = n
    · subst e
      have := p.hi hi
      exact ⟨hi, by omega⟩
    · have a := col_le c (show n < i by omega) hi
      have b := p.hi (by omega)
      omega
theorem pst_zero {x : Nat → Int} {N : Nat} {w k : Int} (c : Col x N w k) (h : ∀ i, i < N → 0 ≤ x i) : Pst x N w k 0 k 0 0 :=
  ⟨Nat.zero_le _, fun h => absurd h (Nat.lt_irrefl 0), fun hn => h 0 hn, ⟨Int.le_refl _, Int.le_refl _⟩, ⟨c.k0, by omega⟩, fun _ => rfl, fun h => absurd h (Nat.lt_irrefl 0), fun h => absurd h (Nat.lt_irrefl 0)⟩
/-- A row of paper. -/
theorem pst_paper {x : Nat → Int} {N : Nat} {w k : Int} {r : Nat} {paper run : Int} {n : Nat} (c : Col x N w k) (p : Pst x N w k r paper run n) (h : ¬ inkC x N w r) : run % w = 0 ∧ Pst x N w k (r + 1) (paper + 1) 0 n := by
  have w1 := c.w1
  have k0 := c.k0
  have hlast : 0 < n → x (n - 1) + w ≤ r := fun hn => by
    by_cases e : x (n - 1) + w ≤ r
    · exact e
    · exact absurd ⟨n - 1, by have := p.le; omega, by have := p.lo hn; omega, by omega⟩ h
  have hnext : n < N → (r : Int) < x n := fun hn => by
    have a := p.hi hn
    by_cases e : (r : Int) < x n
    · exact e
    · exact absurd ⟨n, hn, by omega, by omega⟩ h
  refine ⟨?_, p.le, fun hn => by have := p.lo hn; omega, fun hn => by have := hnext hn; omega, by omega, by have := p.pap; omega, fun _ => rfl, fun hn h2 => ?_, fun hn h2 => ⟨rfl, ?_⟩⟩
  · by_cases hn : n = 0
    · rw [p.no hn]; exact Int.zero_emod _
    · by_cases e : (r : Int) ≤ x (n - 1) + w
      · have e2 : (r : Int) - x (n - 1) = w := by have := hlast (by omega); omega
        rw [(p.on (by omega) e).1, e2]; exact Int.emod_self
      · rw [(p.off (by omega) (by omega)).1]; exact Int.zero_emod _
  · have := hlast hn
    omega
  · have a := hlast hn
    by_cases e : (r : Int) ≤ x (n - 1) + w
    · have := (p.on hn e).2
      omega
    · have := (p.off hn (by omega)).2
      omega
/-- A row of ink in which a line begins. -/
theorem pst_new {x : Nat → Int} {N : Nat} {w k : Int} {r : Nat} {paper run : Int} {n : Nat} (c : Col x N w k) (p : Pst x N w k r paper run n) (h : inkC x N w r) (h0 : run % w = 0) : (0 < n → k ≤ paper) ∧ Pst x N w k (r + 1) 0 (run + 1) (n + 1) := by
  have w1 := c.w1
  have k0 := c.k0
  have hx : n < N ∧ x n = r := by
    rcases ink_of c p h with ⟨hn, h1⟩ | h1
    · have a := p.lo hn
      have b := (p.on hn (by omega)).1
      rw [h0, Int.emod_eq_of_lt (by omega) (by omega)] at b
      omega
    · exact h1
  have hw : (run + 1) % w = ((r + 1 : Nat) - x (n + 1 - 1)) % w := by
    rw [Nat.add_sub_cancel, hx.2, Int.add_emod, h0]
    have : ((r + 1 : Nat) : Int) - r = 0 + 1 := by omega
    rw [this, Int.add_emod]
    simp
  have hr := p.rb
  refine ⟨fun hn => ?_, by omega, fun _ => by rw [Nat.add_sub_cancel]; omega, fun hn => ?_, by omega, by omega, fun h => by omega, fun _ _ => ⟨hw, rfl⟩, fun _ h2 => ?_⟩
  · have a := col_le c (show n - 1 < n by omega) hx.1
    by_cases e : (r : Int) ≤ x (n - 1) + w
    · have := (p.on hn e).2
      omega
    · have := (p.off hn (by omega)).2
      omega
  · have := c.gap n hn
    omega
  · rw [Nat.add_sub_cancel] at h2
    omega
/-- A row of ink within a line. -/
theorem pst_run {x : Nat → Int} {N : Nat} {w k : Int} {r : Nat} {paper run : Int} {n : Nat} (c : Col x N w k) (p : Pst x N w k r paper run n) (h : inkC x N w r) (h0 : ¬ run % w = 0) : Pst x N w k (r + 1) paper (run + 1) n := by
  have w1 := c.w1
  have k0 := c.k0
  have hn0 : 0 < n := by
    by_cases e : n = 0
    · exact absurd (by rw [p.no e]; exact Int.zero_emod _) h0
    · omega
  have hle : (r : Int) ≤ x (n - 1) + w := by
    by_cases e : (r : Int) ≤ x (n - 1) + w
    · exact e
    · exact absurd (by rw [(p.off hn0 (by omega)).1]; exact Int.zero_emod _) h0
  have hon := p.on hn0 hle
  have hlt : (r : Int) < x (n - 1) + w := by
    by_cases e : (r : Int) = x (n - 1) + w
    · have e2 : (r : Int) - x (n - 1) = w := by omega
      rw [e2, Int.emod_self] at hon
      exact absurd hon.1 h0
    · omega
  have hr := p.rb
  have hp := p.pap
  refine ⟨p.le, fun _ => by have := p.lo hn0; omega, fun hn => ?_, by omega, by omega, fun e => by omega, fun _ _ => ⟨?_, hon.2⟩, fun _ h2 => by omega⟩
  · have a := col_le c (show n - 1 < n by omega) hn
    omega
  · have e : ((r + 1 : Nat) : Int) - x (n - 1) = ((r : Int) - x (n - 1)) + 1 := by omega
    rw [e, Int.add_emod, hon.1, ← Int.add_emod]
theorem pst_end {x : Nat → Int} {N : Nat} {w k : Int} {r : Nat} {paper run : Int} {n : Nat} (c : Col x N w k) (p : Pst x N w k r paper run n) (h : ∀ i, i < N → x i + w ≤ r) : n = N := by
  by_cases e : n < N
  · have a := p.hi e
    have b := h n e
    have := c.w1
    omega
  · have := p.le; omega
end Go.R07
