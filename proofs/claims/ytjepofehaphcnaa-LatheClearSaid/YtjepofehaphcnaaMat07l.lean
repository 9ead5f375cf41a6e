import Derived.Test.YtjepofehaphcnaaMat07w
set_option linter.unusedSectionVars false
set_option linter.unusedSimpArgs false
set_option linter.unusedVariables false
/-! Layer 7: pure mathematics: drawings are bands; what is seen of them. -/
namespace Go.R07
set_option linter.unusedVariables false
structure Wsh (s : Sh) (c : Sn) (wish : List (List Int)) : Prop where
  g : GoodS s
  ok : okN c = true
  ro : 0 ≤ room s c
  n : wish.length = lns s c
  w : ∀ i, i < wish.length → (rw0 wish i).length = s.c.toNat ∧ ∀ j, 0 ≤ at0 (rw0 wish i) j ∧ at0 (rw0 wish i) j ≤ room s c
theorem drN_rw {s : Sh} {c : Sn} {wish : List (List Int)} {n i : Nat} (h : i < n) : rw0 (drN s c wish n) i = drR s c (rw0 wish i) i := by
  unfold drN
  rw [rw0, List.getD_eq_getElem?_getD, List.getElem?_map, List.getElem?_range h]; rfl
/-- What is left leans no more than L. -/
theorem gF_lean {w : List Int} {L : Int} (hL : 0 ≤ L) {n k : Nat} (hk : k + 1 < n) : -L ≤ gF w L n (k + 1) - gF w L n k ∧ gF w L n (k + 1) - gF w L n k ≤ L := by
  have h1 := gF_step (w := w) (L := L) hk
  refine ⟨by omega, ?_⟩
  obtain ⟨i, hi, h2⟩ := gF_is (w := w) hL (n := n) (k := k) (by omega)
  have h3 := gF_low (w := w) hL (n := n) (k := k + 1) (j := i) hk hi
  have h4 : L * (dis (k + 1) i : Int) ≤ L * ((dis k i + 1 : Nat) : Int) := mul_le hL (by unfold dis; omega)
  rw [mul_succ] at h4
  omega
theorem row_next {c : Sn} {i : Nat} : rowAt c (i + 1) = rowAt c i + c.p := by
  unfold rowAt
  rw [Int.natCast_succ, Int.add_mul, Int.one_mul]; omega
theorem draw_band {s : Sh} {c : Sn} {wish : List (List Int)} (h : Wsh s c wish) : bandB s (drN s c wish (lns s c)) = true := by
  have g1 := h.g.c
  have g3 := h.g.w
  have g4 := h.g.k
  have g5 := h.g.l
  obtain ⟨⟨p1, p2⟩, f1, f2⟩ := okN_good h.ok
  have hro := h.ro
  have hr : room s c = c.p - s.w - s.k := rfl
  unfold bandB
  simp only [Bool.and_eq_true, decide_eq_true_eq, List.isEmpty_iff]
  refine ⟨by rw [drN_len]; exact lns_le s c, ?_, ?_⟩
  · unfold linesB
    rw [all_at []]
    intro i hi
    rw [drN_len] at hi
    rw [show (drN s c wish (lns s c)).getD i [] = drR s c (rw0 wish i) i from drN_rw hi]
    obtain ⟨hw1, hw2⟩ := h.w i (by rw [h.n]; exact hi)
    have hin := lns_in hi
    have hra : rowAt c i = c.f + (i : Int) * c.p := rfl
    have ha : 0 ≤ (i : Int) * c.p := Int.mul_nonneg (by omega) (by omega)
    have hin2 : ((i : Int) + 1) * c.p = (i : Int) * c.p + c.p := by rw [Int.add_mul, Int.one_mul]
    refine lineB_t.2 ⟨by rw [drR_len]; omega, fun k hk => ?_, fun k hk => ?_⟩
    · rw [drR_len] at hk
      rw [drR_at hk]
      have := gF_bd (w := rw0 wish i) g5.1 hw2 s.c.toNat k
      omega
    · rw [drR_len] at hk
      rw [drR_at (by omega), drR_at (by omega)]
      have := gF_lean (w := rw0 wish i) g5.1 (n := s.c.toNat) (k := k) (by omega)
      omega
  · rw [cls_empty]
    intro i hi
    rw [drN_len] at hi
    refine clashAt_of fun k hk hk2 => ?_
    rw [drN_rw (by omega), drR_len] at hk
    rw [drN_rw (by omega), drN_rw (by omega), drR_at hk, drR_at hk, row_next]
    have b1 := gF_bd (w := rw0 wish i) g5.1 (h.w i (by rw [h.n]; omega)).2 s.c.toNat k
    have b2 := gF_bd (w := rw0 wish (i + 1)) g5.1 (h.w (i + 1) (by rw [h.n]; omega)).2 s.c.toNat k
    omega
end Go.R07
