import Derived.Test.YtjepofehaphcnaaMat07
set_option linter.unusedSectionVars false
set_option linter.unusedSimpArgs false
set_option linter.unusedVariables false
/-! Layer 7: pure mathematics: how far wishes let a line be lowered. -/
namespace Go.R07
set_option linter.unusedVariables false
/-- What is carried from the left, before place k; what is left there. -/
def mF (w : List Int) (L : Int) : Nat → Int
  | 0 => at0 w 0
  | k + 1 => min (at0 w k) (mF w L k) + L
def fF (w : List Int) (L : Int) (k : Nat) : Int := min (at0 w k) (mF w L k)
/-- What is carried from the right, behind j places; n of them. -/
def mG (w : List Int) (L : Int) (n : Nat) : Nat → Int
  | 0 => mF w L n
  | j + 1 => min (fF w L (n - 1 - j)) (mG w L n j) + L
def gF (w : List Int) (L : Int) (n k : Nat) : Int := min (fF w L k) (mG w L n (n - 1 - k))
theorem mF_succ (w : List Int) (L : Int) (k : Nat) : mF w L (k + 1) = fF w L k + L := rfl
theorem fF_zero (w : List Int) (L : Int) : fF w L 0 = at0 w 0 := by unfold fF mF; omega
theorem fF_succ (w : List Int) (L : Int) (k : Nat) : fF w L (k + 1) = min (at0 w (k + 1)) (fF w L k + L) := rfl
theorem mul0 {L : Int} : L * ((0 : Nat) : Int) = 0 := by simp
theorem mul_succ {L : Int} {k : Nat} : L * ((k + 1 : Nat) : Int) = L * k + L := by rw [Int.natCast_succ, Int.mul_add, Int.mul_one]
theorem fF_le {w : List Int} {L : Int} (hL : 0 ≤ L) : ∀ (k j : Nat), j ≤ k → fF w L k ≤ at0 w j + L * ((k - j : Nat) : Int)
  | 0, j, hj => by obtain rfl : j = 0 := by omega
                   rw [fF_zero, Nat.sub_self, mul0]; omega
  | k + 1, j, hj => by
    rw [fF_succ]
    rcases Nat.lt_or_ge k j with h | h
    · obtain rfl : j = k + 1 := by omega
      rw [Nat.sub_self, mul0]; omega
    · have ih := fF_le (w := w) hL k j h
      rw [show k + 1 - j = (k - j) + 1 by omega, mul_succ]
      omega
theorem fF_at {w : List Int} {L : Int} : ∀ k : Nat, ∃ j, j ≤ k ∧ fF w L k = at0 w j + L * ((k - j : Nat) : Int)
  | 0 => ⟨0, Nat.le_refl _, by rw [fF_zero, Nat.sub_self, mul0]; omega⟩
  | k + 1 => by
    obtain ⟨j, h1, h2⟩ := fF_at (w := w) (L := L) k
    rw [fF_succ]
    by_cases h : at0 w (k + 1) ≤ fF w L k + L
    · exact ⟨k + 1, Nat.le_refl _, by rw [Nat.sub_self, mul0]; omega⟩
    · refine ⟨j, by omega, ?_⟩
      rw [show k + 1 - j = (k - j) + 1 by omega, mul_succ]
      omega
theorem gF_last {w : List Int} {L : Int} (hL : 0 ≤ L) {n : Nat} (hn : 1 ≤ n) : gF w L n (n - 1) = fF w L (n - 1) := by
  unfold gF
  rw [Nat.sub_self, mG, show n = (n - 1) + 1 by omega, mF_succ]
  simp only [Nat.add_sub_cancel]
  omega
theorem gF_step {w : List Int} {L : Int} {n k : Nat} (hk : k + 1 < n) : gF w L n k = min (fF w L k) (gF w L n (k + 1) + L) := by
  conv => lhs; unfold gF
  rw [show n - 1 - k = (n - 1 - (k + 1)) + 1 by omega, mG, show n - 1 - (n - 1 - (k + 1)) = k + 1 by omega]
  rfl
theorem gF_le {w : List Int} {L : Int} (hL : 0 ≤ L) {n : Nat} : ∀ (d k : Nat), k + d < n → gF w L n k ≤ fF w L (k + d) + L * (d : Int)
  | 0, k, h => by
    unfold gF
    rw [mul0, Nat.add_zero]; omega
  | d + 1, k, h => by
    have ih := gF_le (w := w) (n := n) hL d (k + 1) (by omega)
    rw [gF_step (by omega), mul_succ]
    rw [show k + 1 + d = k + (d + 1) by omega] at ih
    omega
theorem gF_at {w : List Int} {L : Int} (hL : 0 ≤ L) {n : Nat} : ∀ (e k : Nat), k + e = n - 1 → 1 ≤ n → ∃ j, k ≤ j ∧ j < n ∧ gF w L n k = fF w L j + L * ((j - k : Nat) : Int)
  | 0, k, h, hn => by
    obtain rfl : k = n - 1 := by omega
    exact ⟨n - 1, Nat.le_refl _, by omega, by rw [gF_last hL hn, Nat.sub_self, mul0]; omega⟩
  | e + 1, k, h, hn => by
    obtain ⟨j, h1, h2, h3⟩ := gF_at (w := w) (n := n) hL e (k + 1) (by omega) hn
    rw [gF_step (by omega)]
    by_cases hc : fF w L k ≤ gF w L n (k + 1) + L
    · exact ⟨k, Nat.le_refl _, by omega, by rw [Nat.sub_self, mul0]; omega⟩
    · refine ⟨j, by omega, h2, ?_⟩
      rw [show j - k = (j - (k + 1)) + 1 by omega, mul_succ]
      omega
/-- How far apart. -/
def dis (a b : Nat) : Nat := max (a - b) (b - a)
theorem mul_le {L : Int} (hL : 0 ≤ L) {a b : Nat} (h : a ≤ b) : L * (a : Int) ≤ L * b := Int.mul_le_mul_of_nonneg_left (by omega) hL
theorem gF_low {w : List Int} {L : Int} (hL : 0 ≤ L) {n k j : Nat} (hk : k < n) (hj : j < n) : gF w L n k ≤ at0 w j + L * (dis k j : Int) := by
  unfold dis
  rcases Nat.lt_or_ge j k with h | h
  · have h1 := gF_le (w := w) hL (n := n) 0 k (by omega)
    have h2 := fF_le (w := w) hL k j (by omega)
    rw [show max (k - j) (j - k) = k - j by omega]
    rw [mul0, Nat.add_zero] at h1
    omega
  · have h1 := gF_le (w := w) hL (n := n) (j - k) k (by omega)
    have h2 := fF_le (w := w) hL j j (Nat.le_refl _)
    rw [show max (k - j) (j - k) = j - k by omega]
    rw [show k + (j - k) = j by omega] at h1
    rw [Nat.sub_self, mul0] at h2
    omega
theorem gF_is {w : List Int} {L : Int} (hL : 0 ≤ L) {n k : Nat} (hk : k < n) : ∃ i, i < n ∧ at0 w i + L * (dis k i : Int) ≤ gF w L n k := by
  obtain ⟨j, h1, h2, h3⟩ := gF_at (w := w) (n := n) hL (n - 1 - k) k (by omega) (by omega)
  obtain ⟨i, h4, h5⟩ := fF_at (w := w) (L := L) j
  refine ⟨i, by omega, ?_⟩
  have h6 : L * (dis k i : Int) ≤ L * (((j - i) + (j - k) : Nat) : Int) := mul_le hL (by unfold dis; omega)
  rw [Int.natCast_add, Int.mul_add] at h6
  omega
/-- Bounds. -/
theorem fF_bd {w : List Int} {L R : Int} (hL : 0 ≤ L) (hw : ∀ i, 0 ≤ at0 w i ∧ at0 w i ≤ R) : ∀ k, 0 ≤ fF w L k ∧ fF w L k ≤ R
  | 0 => by rw [fF_zero]; exact hw 0
  | k + 1 => by
    have ih := fF_bd hL hw k
    have := hw (k + 1)
    rw [fF_succ]; omega
theorem mF_bd {w : List Int} {L R : Int} (hL : 0 ≤ L) (hw : ∀ i, 0 ≤ at0 w i ∧ at0 w i ≤ R) : ∀ k, 0 ≤ mF w L k ∧ mF w L k ≤ R + L
  | 0 => by have := hw 0; unfold mF; omega
  | k + 1 => by have := fF_bd hL hw k; rw [mF_succ]; omega
theorem mG_bd {w : List Int} {L R : Int} (hL : 0 ≤ L) (hw : ∀ i, 0 ≤ at0 w i ∧ at0 w i ≤ R) (n : Nat) : ∀ j, 0 ≤ mG w L n j ∧ mG w L n j ≤ R + L
  | 0 => mF_bd hL hw n
  | j + 1 => by
    have ih := mG_bd hL hw n j
    have := fF_bd hL hw (n - 1 - j)
    unfold mG; omega
theorem gF_bd {w : List Int} {L R : Int} (hL : 0 ≤ L) (hw : ∀ i, 0 ≤ at0 w i ∧ at0 w i ≤ R) (n k : Nat) : 0 ≤ gF w L n k ∧ gF w L n k ≤ R := by
  have h1 := fF_bd hL hw k
  have h2 := mG_bd hL hw n (n - 1 - k)
  unfold gF; omega
/-! ### lists -/
def fL (w : List Int) (L : Int) (n : Nat) : List Int := (List.range n).map (fF w L)
def gL (w : List Int) (L : Int) (n : Nat) : List Int := (List.range n).map (gF w L n)
theorem rg_at {f : Nat → Int} {n k : Nat} (h : k < n) : ((List.range n).map f).getD k 0 = f k := by
  rw [List.getD_eq_getElem?_getD, List.getElem?_map, List.getElem?_range h]; rfl
theorem fL_len (w : List Int) (L : Int) (n : Nat) : (fL w L n).length = n := by simp [fL]
theorem gL_len (w : List Int) (L : Int) (n : Nat) : (gL w L n).length = n := by simp [gL]
theorem dropC {α : Type} {l : List α} {k : Nat} (d : α) (h : k < l.length) : l.drop k = l.getD k d :: l.drop (k + 1) := by
  rw [List.drop_eq_getElem_cons h, List.getD_eq_getElem?_getD, List.getElem?_eq_getElem h]; rfl
theorem takeC {α : Type} {l : List α} {k : Nat} (d : α) (h : k < l.length) : l.take (k + 1) = l.take k ++ [l.getD k d] := by
  rw [List.take_succ_eq_append_getElem h, List.getD_eq_getElem?_getD, List.getElem?_eq_getElem h]; rfl
theorem mixG_set {α : Type} {D R : List α} {k : Nat} (d : α) (hl : R.length = D.length) (hk : k < D.length) : (R.take k ++ D.drop k).set k (R.getD k d) = R.take (k + 1) ++ D.drop (k + 1) := by
  rw [List.set_append_right _ _ (by rw [List.length_take]; omega), List.length_take, Nat.min_eq_left (by omega), Nat.sub_self, dropC d hk, List.set_cons_zero, takeC d (by omega), List.append_assoc]
  rfl
theorem mixG_at {α : Type} {D R : List α} {k : Nat} (d : α) (hl : R.length = D.length) (hk : k < D.length) : (R.take k ++ D.drop k).getD k d = D.getD k d := by
  rw [List.getD_eq_getElem?_getD, List.getElem?_append_right (by rw [List.length_take]; omega), List.length_take, Nat.min_eq_left (by omega), Nat.sub_self, dropC d hk]
  rfl
/-- From the right: the last places are done. -/
theorem mixB_set {α : Type} {D R : List α} {k : Nat} (d : α) (hl : R.length = D.length) (hk : k < D.length) : (D.take (k + 1) ++ R.drop (k + 1)).set k (R.getD k d) = D.take k ++ R.drop k := by
  rw [takeC d hk, List.append_assoc, List.set_append_right _ _ (by rw [List.length_take]; omega), List.length_take, Nat.min_eq_left (by omega), Nat.sub_self, dropC d (show k < R.length by omega)]
  rfl
theorem mixB_at {α : Type} {D R : List α} {k : Nat} (d : α) (hk : k < D.length) : (D.take (k + 1) ++ R.drop (k + 1)).getD k d = D.getD k d := by
  rw [takeC d hk, List.append_assoc, List.getD_eq_getElem?_getD, List.getElem?_append_right (by rw [List.length_take]; omega), List.length_take, Nat.min_eq_left (by omega), Nat.sub_self]
  rfl
/-! ### drawings -/
def drR (s : Sh) (c : Sn) (w : List Int) (i : Nat) : List Int := (gL w s.l s.c.toNat).map fun x => x + rowAt c i
def drN (s : Sh) (c : Sn) (wish : List (List Int)) (n : Nat) : List (List Int) := (List.range n).map fun i => drR s c (rw0 wish i) i
theorem drN_succ (s : Sh) (c : Sn) (wish : List (List Int)) (n : Nat) : drN s c wish (n + 1) = drN s c wish n ++ [drR s c (rw0 wish n) n] := by simp [drN, List.range_succ]
theorem drN_len (s : Sh) (c : Sn) (wish : List (List Int)) (n : Nat) : (drN s c wish n).length = n := by simp [drN]
theorem drR_len (s : Sh) (c : Sn) (w : List Int) (i : Nat) : (drR s c w i).length = s.c.toNat := by simp [drR, gL]
theorem drR_at {s : Sh} {c : Sn} {w : List Int} {i k : Nat} (h : k < s.c.toNat) : at0 (drR s c w i) k = gF w s.l s.c.toNat k + rowAt c i := by
  unfold drR gL
  rw [List.map_map, at0, List.getD_eq_getElem?_getD, List.getElem?_map, List.getElem?_range h]; rfl
/-- A wish. -/
def wishB (s : Sh) (c : Sn) (l : List Int) : Bool := decide ((l.length : Int) = s.c) && alls l 0 (room s c)
def dwE (s : Sh) (c : Sn) (wish : List (List Int)) : Int := if roE s c = 0 then (if wish.length = lns s c ∧ wish.all (wishB s c) = true then 0 else 2) else roE s c
def dwL (s : Sh) (c : Sn) (wish : List (List Int)) : List (List Int) := if dwE s c wish = 0 then drN s c wish (lns s c) else []
def roN (s : Sh) (c : Sn) : Int := if roE s c = 0 then (lns s c : Nat) else 0
def roM (s : Sh) (c : Sn) : Int := if roE s c = 0 then room s c else 0
/-- Masks as wishes. -/
def half (c : Sn) : Int := c.p.tdiv 2
def wsh (c : Sn) (l : List Bool) : List Int := l.map fun b => if b = true then half c else 0
def maskB (s : Sh) (l : List Bool) : Bool := decide ((l.length : Int) = s.c)
def hiE (s : Sh) (c : Sn) (mask : List (List Bool)) : Int := if roE s c = 0 then (if ws (half c) s.w (room s c) = true then (if mask.length = lns s c ∧ mask.all (maskB s) = true then 0 else 2) else 72) else roE s c
def hiL (s : Sh) (c : Sn) (mask : List (List Bool)) : List (List Int) := if hiE s c mask = 0 then drN s c (mask.map (wsh c)) (lns s c) else []
theorem roE_good {s : Sh} {c : Sn} (h : roE s c = 0) : GoodS s ∧ okN c = true ∧ 0 ≤ room s c := by
  unfold roE at h
  by_cases h0 : okS s = true
  · rw [if_pos h0] at h
    by_cases h1 : okN c = true
    · rw [if_pos h1] at h
      by_cases h2 : room s c < 0
      · rw [if_pos h2] at h; omega
      · exact ⟨okS_good h0, h1, by omega⟩
    · rw [if_neg h1] at h; omega
  · rw [if_neg h0] at h; omega
end Go.R07
