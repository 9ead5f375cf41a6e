import Derived.Test.YtjepofehaphcnaaMat07w
set_option linter.unusedSectionVars false
set_option linter.unusedSimpArgs false
set_option linter.unusedVariables false
/-! Layer 7: pure mathematics: drawings are bands; what is seen of them. -/
namespace Go.R07
set_option linter.unusedVariables false
structure Wsh (s : Sh) (c : Sn) (wish : List (List Int)) : Prop where
  g : GoodS s
  ok : okN c = true
  ro : 0 ≤ room s c
  n : wish.length = lns s c
  w : ∀ i, i < wish.length → (rw0 wish i).length = s.c.toNat ∧ ∀ j, 0 ≤ at0 (rw0 wish i) j ∧ at0 (rw0 wish i) j ≤ room s c
theorem drN_rw {s : Sh} {c : Sn} {wish : List (List Int)} {n i : Nat} (h : i < n) : rw0 (drN s c wish n) i = drR s c (rw0 wish i) i := by
  unfold drN
  rw [rw0, List.getD_eq_getElem?_getD, List.getElem?_map, List.getElem?_range h]; rfl
/-- Wishes that lean no more than L are left as they are. -/
theorem gF_self {w : List Int} {L : Int} (hL : 0 ≤ L) {n k : Nat} (hk : k < n) (h : ∀ j, j < n → at0 w k ≤ at0 w j + L * (dis k j : Int)) : gF w L n k = at0 w k := by
  have h1 := gF_low (w := w) hL hk hk
  rw [show dis k k = 0 by unfold dis; omega, mul0] at h1
  obtain ⟨i, hi, h2⟩ := gF_is (w := w) hL hk
  have := h i hi
  omega
end Go.R07
