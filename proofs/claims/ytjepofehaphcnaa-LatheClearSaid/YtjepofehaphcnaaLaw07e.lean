import Derived.Test.YtjepofehaphcnaaOut07
import Derived.Test.YtjepofehaphcnaaMat07l
set_option linter.unusedSectionVars false
set_option linter.unusedSimpArgs false
set_option linter.unusedVariables false
/-! Layer 7: LatheLens. -/
namespace Go.R07
open Go Go.Abs Go.RowKit Go.Proofs
set_option maxRecDepth 20000
set_option maxHeartbeats 8000000
attribute [local irreducible] AWp AOps ADr AAny thenQ blockQ retQ asgQ rndQ retM
set_option linter.unusedVariables false
set_option linter.unusedSectionVars false
theorem mask_wsh {s : Sh} {c : Sn} {M : List (List Bool)} (h : hiE s c M = 0) : Wsh s c (M.map (wsh c)) ∧ M.length = lns s c ∧ (∀ i, i < M.length → (rwB M i).length = s.c.toNat) ∧ s.w ≤ half c ∧ hiL s c M = drN s c (M.map (wsh c)) (lns s c) := by
  unfold hiE at h
  by_cases h0 : roE s c = 0
  · rw [if_pos h0] at h
    by_cases h1 : ws (half c) s.w (room s c) = true
    · rw [if_pos h1] at h
      by_cases h2 : M.length = lns s c ∧ M.all (maskB s) = true
      · obtain ⟨g, hok, hro⟩ := roE_good h0
        have g1 := g.c
        have hb := ws_t h1
        have hml : ∀ i, i < M.length → (rwB M i).length = s.c.toNat := fun i hi => by
          have := (all_at (p := maskB s) ([] : List Bool)).1 h2.2 i hi
          unfold maskB at this
          rw [decide_eq_true_eq] at this
          unfold rwB; omega
        refine ⟨⟨g, hok, hro, by rw [List.length_map]; exact h2.1, fun i hi => ?_⟩, h2.1, hml, hb.1, ?_⟩
        · rw [List.length_map] at hi
          rw [map_rw c hi, wsh_len]
          refine ⟨hml i hi, fun j => ?_⟩
          have hw := wsh_bd hok (rwB M i) j
          refine ⟨hw.1, ?_⟩
          by_cases hj : j < (rwB M i).length
          · rw [wsh_at c hj]
            split <;> omega
          · have : at0 (wsh c (rwB M i)) j = 0 := by rw [at0, List.getD_eq_getElem?_getD, List.getElem?_eq_none (by rw [wsh_len]; omega)]; rfl
            omega
        · unfold hiL hiE
          rw [if_pos h0, if_pos h1, if_pos h2, if_pos rfl]
      · rw [if_neg h2] at h; omega
    · rw [if_neg h1] at h; omega
  · rw [if_neg h0] at h; omega
end Go.R07
