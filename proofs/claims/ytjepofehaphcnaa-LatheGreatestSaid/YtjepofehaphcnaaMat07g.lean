import Derived.Test.YtjepofehaphcnaaMat07l
import Derived.Test.YtjepofehaphcnaaRef07b
set_option linter.unusedSectionVars false
set_option linter.unusedSimpArgs false
set_option linter.unusedVariables false
/-! Layer 7: pure mathematics: no other band is greater than a drawing. -/
namespace Go.R07
set_option linter.unusedVariables false
/-- What holds at each place that two loops, one in the other, have passed. -/
def Upto (P : Nat → Nat → Prop) (C i k : Nat) : Prop := ∀ a b, b < C → (a < i ∨ (a = i ∧ b < k)) → P a b
theorem upto_zero (P : Nat → Nat → Prop) (C : Nat) : Upto P C 0 0 := fun a b _ h => by omega
theorem upto_step {P : Nat → Nat → Prop} {C i k : Nat} (h : Upto P C i k) (hp : P i k) : Upto P C i (k + 1) := fun a b hb hab => by
  by_cases e : a = i ∧ b = k
  · obtain ⟨rfl, rfl⟩ := e; exact hp
  · exact h a b hb (by omega)
theorem upto_row {P : Nat → Nat → Prop} {C i : Nat} (h : Upto P C i C) : Upto P C (i + 1) 0 := fun a b hb hab => h a b hb (by omega)
theorem upto_end {P : Nat → Nat → Prop} {C n : Nat} (h : Upto P C n 0) {a b : Nat} (ha : a < n) (hb : b < C) : P a b := h a b hb (.inl ha)
theorem lean_up {o : List Int} {L : Int} {n : Nat} (h : ∀ i, i + 1 < n → -L ≤ at0 o (i + 1) - at0 o i ∧ at0 o (i + 1) - at0 o i ≤ L) : ∀ d a : Nat, a + d < n → at0 o (a + d) ≤ at0 o a + L * (d : Int) ∧ at0 o a ≤ at0 o (a + d) + L * (d : Int)
  | 0, a, _ => by rw [mul0]; exact ⟨by show at0 o a ≤ _; omega, by show at0 o a ≤ at0 o a + 0; omega⟩
  | d + 1, a, hd => by
    have ih := lean_up h d a (by omega)
    have h1 := h (a + d) (by omega)
    rw [mul_succ]
    have e : a + (d + 1) = a + d + 1 := rfl
    rw [e]
    omega
theorem lean_dis {o : List Int} {L : Int} {n : Nat} (h : ∀ i, i + 1 < n → -L ≤ at0 o (i + 1) - at0 o i ∧ at0 o (i + 1) - at0 o i ≤ L) {k j : Nat} (hk : k < n) (hj : j < n) : at0 o k ≤ at0 o j + L * (dis k j : Int) := by
  by_cases hkj : k ≤ j
  · obtain ⟨d, rfl⟩ := Nat.exists_eq_add_of_le hkj
    rw [show dis k (k + d) = d by unfold dis; omega]
    exact (lean_up h d k hj).2
  · obtain ⟨d, rfl⟩ := Nat.exists_eq_add_of_le (show j ≤ k by omega)
    rw [show dis (j + d) j = d by unfold dis; omega]
    exact (lean_up h d j hk).1
theorem gF_great {w o : List Int} {L R : Int} (hL : 0 ≤ L) {n k : Nat} (hk : k < n) (ho : ∀ i, i + 1 < n → -L ≤ at0 o (i + 1) - at0 o i ∧ at0 o (i + 1) - at0 o i ≤ L) (h : ∀ j, j < n → at0 o j ≤ R + at0 w j) : at0 o k ≤ R + gF w L n k := by
  obtain ⟨i, hi, h1⟩ := gF_is (w := w) hL hk
  have h2 := lean_dis ho hk hi
  have h3 := h i hi
  omega
theorem gF_mono {w v : List Int} {L : Int} (hL : 0 ≤ L) {n k : Nat} (hk : k < n) (h : ∀ j, j < n → at0 w j ≤ at0 v j) : gF w L n k ≤ gF v L n k := by
  obtain ⟨i, hi, h1⟩ := gF_is (w := v) hL hk
  have h2 := gF_low (w := w) hL hk hi
  have h3 := h i hi
  omega
theorem gF_leans {w : List Int} {L : Int} (hL : 0 ≤ L) {n k : Nat} (hk : k < n) (ho : ∀ i, i + 1 < n → -L ≤ at0 w (i + 1) - at0 w i ∧ at0 w (i + 1) - at0 w i ≤ L) : gF w L n k = at0 w k := gF_self hL hk fun j hj => lean_dis ho hk hj
theorem gF_under {w : List Int} {L : Int} (hL : 0 ≤ L) {n k : Nat} (hk : k < n) : gF w L n k ≤ at0 w k := by
  have := gF_low (w := w) hL hk hk
  rw [show dis k k = 0 by unfold dis; omega, mul0] at this
  omega
theorem dw_wsh {s : Sh} {c : Sn} {L : List (List Int)} (h : dwE s c L = 0) : Wsh s c L ∧ dwL s c L = drN s c L (lns s c) := by
  have hd : dwL s c L = drN s c L (lns s c) := by unfold dwL; rw [if_pos h]
  refine ⟨?_, hd⟩
  unfold dwE at h
  by_cases h0 : roE s c = 0
  · rw [if_pos h0] at h
    by_cases h2 : L.length = lns s c ∧ L.all (wishB s c) = true
    · obtain ⟨g, hok, hro⟩ := roE_good h0
      have g1 := g.c
      refine ⟨g, hok, hro, h2.1, fun i hi => ?_⟩
      have := (all_at (p := wishB s c) ([] : List Int)).1 h2.2 i hi
      unfold wishB at this
      rw [Bool.and_eq_true, decide_eq_true_eq] at this
      have hl : (rw0 L i).length = s.c.toNat := by unfold rw0; omega
      refine ⟨hl, fun j => ?_⟩
      by_cases hj : j < (rw0 L i).length
      · exact alls_at.1 this.2 j hj
      · have : at0 (rw0 L i) j = 0 := by rw [at0, List.getD_eq_getElem?_getD, List.getElem?_eq_none (by omega)]; rfl
        omega
    · rw [if_neg h2] at h; omega
  · rw [if_neg h0] at h; omega
end Go.R07
