import Derived.Test.YtjepofehaphcnaaMat07l
import Derived.Test.YtjepofehaphcnaaRef07b
set_option linter.unusedSectionVars false
set_option linter.unusedSimpArgs false
set_option linter.unusedVariables false
/-! Layer 7: pure mathematics: no other band is greater than a drawing. -/
namespace Go.R07
set_option linter.unusedVariables false
theorem dw_wsh {s : Sh} {c : Sn} {L : List (List Int)} (h : dwE s c L = 0) : Wsh s c L ∧ dwL s c L = drN s c L (lns s c) := by
  have hd : dwL s c L = drN s c L (lns s c) := by unfold dwL; rw [if_pos h]
  refine ⟨?_, hd⟩
  unfold dwE at h
  by_cases h0 : roE s c = 0
  · rw [if_pos h0] at h
    by_cases h2 : L.length = lns s c ∧ L.all (wishB s c) = true
    · obtain ⟨g, hok, hro⟩ := roE_good h0
      have g1 := g.c
      refine ⟨g, hok, hro, h2.1, fun i hi => ?_⟩
      have := (all_at (p := wishB s c) ([] : List Int)).1 h2.2 i hi
      unfold wishB at this
      rw [Bool.and_eq_true, decide_eq_true_eq] at this
      have hl : (rw0 L i).length = s.c.toNat := by unfold rw0; omega
      refine ⟨hl, fun j => ?_⟩
      by_cases hj : j < (rw0 L i).length
      · exact alls_at.1 this.2 j hj
      · have : at0 (rw0 L i) j = 0 := by rw [at0, List.getD_eq_getElem?_getD, List.getElem?_eq_none (by omega)]; rfl
        omega
    · rw [if_neg h2] at h; omega
  · rw [if_neg h0] at h; omega
end Go.R07
