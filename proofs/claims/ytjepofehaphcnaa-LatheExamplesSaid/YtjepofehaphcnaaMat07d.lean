import Derived.Test.YtjepofehaphcnaaMat07
set_option linter.unusedSectionVars false
set_option linter.unusedSimpArgs false
set_option linter.unusedVariables false
/-! Layer 7: pure mathematics: how far wishes let a line be lowered. -/
namespace Go.R07
set_option linter.unusedVariables false
/-- What is carried from the left, before place k; what is left there. -/
def mF (w : List Int) (L : Int) : Nat → Int
  | 0 => at0 w 0
  | k + 1 => min (at0 w k) (mF w L k) + L
def fF (w : List Int) (L : Int) (k : Nat) : Int := min (at0 w k) (mF w L k)
/-- What is carried from the right, behind j places; n of them. -/
def mG (w : List Int) (L : Int) (n : Nat) : Nat → Int
  | 0 => mF w L n
  | j + 1 => min (fF w L (n - 1 - j)) (mG w L n j) + L
def gF (w : List Int) (L : Int) (n k : Nat) : Int := min (fF w L k) (mG w L n (n - 1 - k))
theorem mF_succ (w : List Int) (L : Int) (k : Nat) : mF w L (k + 1) = fF w L k + L := rfl
theorem fF_zero (w : List Int) (L : Int) : fF w L 0 = at0 w 0 := by unfold fF mF; omega
theorem fF_succ (w : List Int) (L : Int) (k : Nat) : fF w L (k + 1) = min (at0 w (k + 1)) (fF w L k + L) := rfl
/-- Bounds. -/
theorem fF_bd {w : List Int} {L R : Int} (hL : 0 ≤ L) (hw : ∀ i, 0 ≤ at0 w i ∧ at0 w i ≤ R) : ∀ k, 0 ≤ fF w L k ∧ fF w L k ≤ R
  | 0 => by rw [fF_zero]; exact hw 0
  | k + 1 => by
    have ih := fF_bd hL hw k
    have := hw (k + 1)
    rw [fF_succ]; omega
theorem mF_bd {w : List Int} {L R : Int} (hL : 0 ≤ L) (hw : ∀ i, 0 ≤ at0 w i ∧ at0 w i ≤ R) : ∀ k, 0 ≤ mF w L k ∧ mF w L k ≤ R + L
  | 0 => by have := hw 0; unfold mF; omega
  | k + 1 => by have := fF_bd hL hw k; rw [mF_succ]; omega
theorem mG_bd {w : List Int} {L R : Int} (hL : 0 ≤ L) (hw : ∀ i, 0 ≤ at0 w i ∧ at0 w i ≤ R) (n : Nat) : ∀ j, 0 ≤ mG w L n j ∧ mG w L n j ≤ R + L
  | 0 => mF_bd hL hw n
  | j + 1 => by
    have ih := mG_bd hL hw n j
    have := fF_bd hL hw (n - 1 - j)
    unfold mG; omega
theorem gF_bd {w : List Int} {L R : Int} (hL : 0 ≤ L) (hw : ∀ i, 0 ≤ at0 w i ∧ at0 w i ≤ R) (n k : Nat) : 0 ≤ gF w L n k ∧ gF w L n k ≤ R := by
  have h1 := fF_bd hL hw k
  have h2 := mG_bd hL hw n (n - 1 - k)
  unfold gF; omega
/-! ### lists -/
def fL (w : List Int) (L : Int) (n : Nat) : List Int := (List.range n).map (fF w L)
def gL (w : List Int) (L : Int) (n : Nat) : List Int := (List.range n).map (gF w L n)
theorem rg_at {f : Nat → Int} {n k : Nat} (h : k < n) : ((List.range n).map f).getD k 0 = f k := by
  rw [List.getD_eq_getElem?_getD, List.getElem?_map, List.getElem?_range h]; rfl
theorem fL_len (w : List Int) (L : Int) (n : Nat) : (fL w L n).length = n := by simp [fL]
theorem gL_len (w : List Int) (L : Int) (n : Nat) : (gL w L n).length = n := by simp [gL]
theorem dropC {α : Type} {l : List α} {k : Nat} (d : α) (h : k < l.length) : l.drop k = l.getD k d :: l.drop (k + 1) := by
  rw [List.drop_eq_getElem_cons h, List.getD_eq_getElem?_getD, List.getElem?_eq_getElem h]; rfl
theorem takeC {α : Type} {l : List α} {k : Nat} (d : α) (h : k < l.length) : l.take (k + 1) = l.take k ++ [l.getD k d] := by
  rw [List.take_succ_eq_append_getElem h, List.getD_eq_getElem?_getD, List.getElem?_eq_getElem h]; rfl
theorem mixG_set {α : Type} {D R : List α} {k : Nat} (d : α) (hl : R.length = D.length) (hk : k < D.length) : (R.take k ++ D.drop k).set k (R.getD k d) = R.take (k + 1) ++ D.drop (k + 1) := by
  rw [List.set_append_right _ _ (by rw [List.length_take]; omega), List.length_take, Nat.min_eq_left (by omega), Nat.sub_self, dropC d hk, List.set_cons_zero, takeC d (by omega), List.append_assoc]
  rfl
theorem mixG_at {α : Type} {D R : List α} {k : Nat} (d : α) (hl : R.length = D.length) (hk : k < D.length) : (R.take k ++ D.drop k).getD k d = D.getD k d := by
  rw [List.getD_eq_getElem?_getD, List.getElem?_append_right (by rw [List.length_take]; omega), List.length_take, Nat.min_eq_left (by omega), Nat.sub_self, dropC d hk]
  rfl
/-- From the right: the last places are done. -/
theorem mixB_set {α : Type} {D R : List α} {k : Nat} (d : α) (hl : R.length = D.length) (hk : k < D.length) : (D.take (k + 1) ++ R.drop (k + 1)).set k (R.getD k d) = D.take k ++ R.drop k := by
  rw [takeC d hk, List.append_assoc, List.set_append_right _ _ (by rw [List.length_take]; omega), List.length_take, Nat.min_eq_left (by omega), Nat.sub_self, dropC d (show k < R.length by omega)]
  rfl
theorem mixB_at {α : Type} {D R : List α} {k : Nat} (d : α) (hk : k < D.length) : (D.take (k + 1) ++ R.drop (k + 1)).getD k d = D.getD k d := by
  rw [takeC d hk, List.append_assoc, List.getD_eq_getElem?_getD, List.getElem?_append_right (by rw [List.length_take]; omega), List.length_take, Nat.min_eq_left (by omega), Nat.sub_self]
  rfl
/-! ### drawings -/
def drR (s : Sh) (c : Sn) (w : List Int) (i : Nat) : List Int := (gL w s.l s.c.toNat).map fun x => x + rowAt c i
def drN (s : Sh) (c : Sn) (wish : List (List Int)) (n : Nat) : List (List Int) := (List.range n).map fun i => drR s c (rw0 wish i) i
theorem drN_succ (s : Sh) (c : Sn) (wish : List (List Int)) (n : Nat) : drN s c wish (n + 1) = drN s c wish n ++ [drR s c (rw0 wish n) n] := by simp [drN, List.range_succ]
theorem drN_len (s : Sh) (c : Sn) (wish : List (List Int)) (n : Nat) : (drN s c wish n).length = n := by simp [drN]
theorem drR_len (s : Sh) (c : Sn) (w : List Int) (i : Nat) : (drR s c w i).length = s.c.toNat := by simp [drR, gL]
theorem drR_at {s : Sh} {c : Sn} {w : List Int} {i k : Nat} (h : k < s.c.toNat) : at0 (drR s c w i) k = gF w s.l s.c.toNat k + rowAt c i := by
  unfold drR gL
  rw [List.map_map, at0, List.getD_eq_getElem?_getD, List.getElem?_map, List.getElem?_range h]; rfl
/-- A wish. -/
def wishB (s : Sh) (c : Sn) (l : List Int) : Bool := decide ((l.length : Int) = s.c) && alls l 0 (room s c)
def dwE (s : Sh) (c : Sn) (wish : List (List Int)) : Int := if roE s c = 0 then (if wish.length = lns s c ∧ wish.all (wishB s c) = true then 0 else 2) else roE s c
def dwL (s : Sh) (c : Sn) (wish : List (List Int)) : List (List Int) := if dwE s c wish = 0 then drN s c wish (lns s c) else []
def roN (s : Sh) (c : Sn) : Int := if roE s c = 0 then (lns s c : Nat) else 0
def roM (s : Sh) (c : Sn) : Int := if roE s c = 0 then room s c else 0
/-- Masks as wishes. -/
def half (c : Sn) : Int := c.p.tdiv 2
def wsh (c : Sn) (l : List Bool) : List Int := l.map fun b => if b = true then half c else 0
def maskB (s : Sh) (l : List Bool) : Bool := decide ((l.length : Int) = s.c)
def hiE (s : Sh) (c : Sn) (mask : List (List Bool)) : Int := if roE s c = 0 then (if ws (half c) s.w (room s c) = true then (if mask.length = lns s c ∧ mask.all (maskB s) = true then 0 else 2) else 72) else roE s c
def hiL (s : Sh) (c : Sn) (mask : List (List Bool)) : List (List Int) := if hiE s c mask = 0 then drN s c (mask.map (wsh c)) (lns s c) else []
theorem roE_good {s : Sh} {c : Sn} (h : roE s c = 0) : GoodS s ∧ okN c = true ∧ 0 ≤ room s c := by
  unfold roE at h
  by_cases h0 : okS s = true
  · rw [if_pos h0] at h
    by_cases h1 : okN c = true
    · rw [if_pos h1] at h
      by_cases h2 : room s c < 0
      · rw [if_pos h2] at h; omega
      · exact ⟨okS_good h0, h1, by omega⟩
    · rw [if_neg h1] at h; omega
  · rw [if_neg h0] at h; omega
end Go.R07
