import Derived.Test.YthkheklnlggnbaaMat05h
set_option linter.unusedSectionVars false
set_option linter.unusedSimpArgs false
set_option linter.unusedVariables false
/-! Layer 5: how a slip is hidden: that it is, that nothing is better, and slips of the other sign. -/
namespace Go.R05
set_option linter.unusedVariables false
set_option linter.unusedSectionVars false
/-- Hidden: each number is a slip, and differs by at most m from the one before. -/
def hid (m : Int) : Int → List Int → Bool
  | _, [] => true
  | s, n :: ns => (decide (-20 ≤ n) && (decide (n ≤ 20) && (decide (n - s ≤ m) && decide (s - n ≤ m)))) && hid m n ns
theorem hid_cons {m s n : Int} {ns : List Int} (h : hid m s (n :: ns) = true) : (-20 ≤ n ∧ n ≤ 20) ∧ (n - s ≤ m ∧ s - n ≤ m) ∧ hid m n ns = true := by
  simp only [hid, Bool.and_eq_true, decide_eq_true_eq] at h
  exact ⟨⟨h.1.1, h.1.2.1⟩, h.1.2.2, h.2⟩
theorem hid_mk {m s n : Int} {ns : List Int} (h1 : -20 ≤ n ∧ n ≤ 20) (h2 : n - s ≤ m ∧ s - n ≤ m) (h3 : hid m n ns = true) : hid m s (n :: ns) = true := by
  simp only [hid, Bool.and_eq_true, decide_eq_true_eq]
  exact ⟨⟨h1.1, h1.2, h2.1, h2.2⟩, h3⟩
theorem pth_hid {F m : Int} (hm : 0 ≤ m) (hF : -20 ≤ F ∧ F ≤ 20) : ∀ (L : Nat) (s n : Int), can F m L n → n - s ≤ m → s - n ≤ m → -20 ≤ n → n ≤ 20 → hid m s (pth F m L n ++ [F]) = true
  | 0, s, n, hc, h1, h2, h3, h4 => by
    obtain ⟨c1, c2⟩ := hc
    rw [show ((0 : Nat) : Int) * m = 0 by simp] at c1 c2
    obtain rfl : n = F := by omega
    exact hid_mk hF ⟨h1, h2⟩ rfl
  | L + 1, s, n, hc, h1, h2, h3, h4 => by
    have e := mulS L m
    have hc' := hc
    obtain ⟨c1, c2⟩ := hc
    have hnear := ptA_near (F := F) (s := n) hm (mul0 L hm) (by omega) (by omega)
    have hbd := ptA_bd hm (mul0 L hm) hF ⟨h3, h4⟩ (by omega) (by omega)
    exact hid_mk ⟨h3, h4⟩ ⟨h1, h2⟩ (pth_hid hm hF L n _ (can_next hm hc') hnear.1 hnear.2.1 hbd.1 hbd.2)
theorem Dom.trans : ∀ {a b c : List Int}, Dom a b → Dom b c → Dom a c
  | [], [], [], _, _ => trivial
  | x :: a, y :: b, z :: c, ⟨h1, h2⟩, ⟨g1, g2⟩ => ⟨Int.le_trans h1 g1, Dom.trans h2 g2⟩
theorem pth_best {F m : Int} (hm : 0 ≤ m) : ∀ (ys : List Int) (s : Int), hid m s (ys ++ [F]) = true → can F m (ys.length + 1) s ∧ Dom (pth F m ys.length (ptA F m (ys.length * m) s)) ys
  | [], s, h => by
    obtain ⟨_, ⟨h1, h2⟩, _⟩ := hid_cons h
    refine ⟨⟨?_, ?_⟩, trivial⟩
    · show s - F ≤ ((1 : Nat) : Int) * m; simp; omega
    · show F - s ≤ ((1 : Nat) : Int) * m; simp; omega
  | y :: ys, s, h => by
    obtain ⟨_, ⟨h1, h2⟩, h3⟩ := hid_cons h
    obtain ⟨ih1, ih2⟩ := pth_best hm ys y h3
    have e := mulS (ys.length + 1) m
    have hc : can F m (ys.length + 1 + 1) s := by
      obtain ⟨c1, c2⟩ := ih1
      exact ⟨by omega, by omega⟩
    have hb := next_best hm hc ih1 h1 h2
    refine ⟨hc, ?_⟩
    obtain ⟨d1, d2⟩ : ab (ptA F m (((ys.length + 1 : Nat) : Int) * m) s) ≤ ab y ∧ Dom (pth F m ys.length (ptA F m (ys.length * m) (ptA F m (((ys.length + 1 : Nat) : Int) * m) s))) (pth F m ys.length (ptA F m (ys.length * m) y)) := hb
    exact ⟨d1, d2.trans ih2⟩
/-- The program's slips are such a way. -/
theorem slips_pth {F m s : Int} (hm : 0 ≤ m) {L : Nat} (hc : can F m (L + 1) s) : (List.range L).map (fun i : Nat => ptA F (((i : Int) + 1) * m) (((L : Int) - i) * m) s) = pth F m L (ptA F m (L * m) s) := by
  apply List.ext_getElem?
  intro k
  by_cases hk : k < L
  · rw [pth_at hm L k _ (can_next hm hc) hk]
    simp only [List.getElem?_map, List.getElem?_range hk, Option.map_some]
    congr 1
    have e : (L : Int) * m = k * m + ((L - k : Nat) : Int) * m := by rw [← Int.add_mul]; congr 1; omega
    have h3 := mulS L m
    obtain ⟨g1, g2⟩ := hc
    rw [e, ptA_cons hm (mul0 k hm) (mul0 (L - k) hm) (by omega) (by omega)]
    have ek : ((L - k : Nat) : Int) = (L : Int) - k := by omega
    have e1 : ((k : Int) + 1) * m = (k : Int) * m + m := by rw [Int.add_mul]; simp
    rw [ek, e1]
  · rw [List.getElem?_eq_none (by simp; omega), List.getElem?_eq_none (by rw [pth_len]; omega)]
theorem pth_bd {F m : Int} (hm : 0 ≤ m) (hF : -20 ≤ F ∧ F ≤ 20) : ∀ (L : Nat) (s : Int), can F m L s → -20 ≤ s → s ≤ 20 → ∀ x ∈ pth F m L s, -20 ≤ x ∧ x ≤ 20
  | 0, _, _, _, _, x, hx => by cases hx
  | L + 1, s, hc, h1, h2, x, hx => by
    rcases List.mem_cons.1 hx with rfl | hx
    · exact ⟨h1, h2⟩
    · have e := mulS L m
      have hc' := hc
      obtain ⟨c1, c2⟩ := hc
      have hbd := ptA_bd hm (mul0 L hm) hF ⟨h1, h2⟩ (by omega) (by omega)
      exact pth_bd hm hF L _ (can_next hm hc') hbd.1 hbd.2 x hx
theorem pth_neg {F m : Int} (hm : 0 ≤ m) : ∀ (L : Nat) (s : Int), can F m L s → pth (-F) m L (-s) = (pth F m L s).map (fun x => -x)
  | 0, _, _ => rfl
  | L + 1, s, hc => by
    have e := mulS L m
    have hc' := hc
    obtain ⟨c1, c2⟩ := hc
    show -s :: pth (-F) m L (ptA (-F) m (L * m) (-s)) = -s :: (pth F m L (ptA F m (L * m) s)).map (fun x => -x)
    rw [ptA_neg F m (L * m) s hm (mul0 L hm) (by omega) (by omega), pth_neg hm L _ (can_next hm hc')]
theorem cnt_neg : ∀ l : List Int, cntS (l.map (fun x => -x)) = cntS l ∧ sumS (l.map (fun x => -x)) = sumS l
  | [] => ⟨rfl, rfl⟩
  | x :: l => by
    obtain ⟨h1, h2⟩ := cnt_neg l
    have e1 : wt (-x) = wt x := by unfold wt; split <;> split <;> omega
    have e2 : ab (-x) = ab x := by unfold ab; omega
    simp only [cntS, sumS, List.map_cons, List.sum_cons] at *
    rw [e1, e2, h1, h2]; exact ⟨rfl, rfl⟩
theorem pth_zero {m : Int} (hm : 0 ≤ m) : ∀ L : Nat, cntS (pth 0 m L 0) = 0
  | 0 => rfl
  | L + 1 => by
    have e : ptA 0 m (L * m) 0 = 0 := by have := mul0 L hm; unfold ptA clz; omega
    show wt 0 + cntS (pth 0 m L (ptA 0 m (L * m) 0)) = 0
    rw [e, pth_zero hm L]; rfl
end Go.R05
