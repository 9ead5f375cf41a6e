set_option linter.unusedSectionVars false
set_option linter.unusedSimpArgs false
set_option linter.unusedVariables false
/-! Layer 5: how a slip is hidden: the mathematics. -/
namespace Go.R05
set_option linter.unusedVariables false
set_option linter.unusedSectionVars false
/-- The number of a range that is nearest to 0. -/
def clz (lo hi : Int) : Int := min (max lo 0) hi
def ptA (F a b s : Int) : Int := clz (max (s - a) (F - b)) (min (s + a) (F + b))
theorem ptA_sub {F m a b n s : Int} (hm : 0 ≤ m) (ha : 0 ≤ a) (hb : 0 ≤ b) (h1 : n - s ≤ m) (h2 : s - n ≤ m) (h3 : n - F ≤ a + b) (h4 : F - n ≤ a + b) :
    max (ptA F (a + m) b s) (-(ptA F (a + m) b s)) ≤ max (ptA F a b n) (-(ptA F a b n)) := by
  unfold ptA clz; omega
theorem ptA_cons {F m a b s : Int} (hm : 0 ≤ m) (ha : 0 ≤ a) (hb : 0 ≤ b) (h3 : s - F ≤ a + b + m) (h4 : F - s ≤ a + b + m) :
    ptA F a b (ptA F m (a + b) s) = ptA F (a + m) b s := by
  unfold ptA clz; omega
theorem ptA_zero {F b s : Int} (h3 : s - F ≤ b) (h4 : F - s ≤ b) : ptA F 0 b s = s := by
  unfold ptA clz; omega
theorem ptA_near {F m b s : Int} (hm : 0 ≤ m) (hb : 0 ≤ b) (h3 : s - F ≤ b + m) (h4 : F - s ≤ b + m) : ptA F m b s - s ≤ m ∧ s - ptA F m b s ≤ m ∧ ptA F m b s - F ≤ b ∧ F - ptA F m b s ≤ b := by
  unfold ptA clz; omega
theorem ptA_bd {F m b s M : Int} (hm : 0 ≤ m) (hb : 0 ≤ b) (hF : -M ≤ F ∧ F ≤ M) (hs : -M ≤ s ∧ s ≤ M) (h3 : s - F ≤ b + m) (h4 : F - s ≤ b + m) : -M ≤ ptA F m b s ∧ ptA F m b s ≤ M := by
  unfold ptA clz; omega
theorem ptA_neg (F a b s : Int) (ha : 0 ≤ a) (hb : 0 ≤ b) (h3 : s - F ≤ a + b) (h4 : F - s ≤ a + b) : ptA (-F) a b (-s) = -(ptA F a b s) := by
  unfold ptA clz; omega
theorem mulS (L : Nat) (m : Int) : ((L + 1 : Nat) : Int) * m = L * m + m := by rw [Int.natCast_add, Int.add_mul]; simp
theorem mul0 (L : Nat) {m : Int} (hm : 0 ≤ m) : 0 ≤ (L : Int) * m := Int.mul_nonneg (Int.natCast_nonneg _) hm
/-- The slips from s on, when the cut with F comes after L of them (s is the first one of them, unless L is 0). -/
def pth (F m : Int) : Nat → Int → List Int
  | 0, _ => []
  | L + 1, s => s :: pth F m L (ptA F m (L * m) s)
theorem pth_len (F m : Int) : ∀ (L : Nat) (s : Int), (pth F m L s).length = L
  | 0, _ => rfl
  | L + 1, s => by simp [pth, pth_len F m L]
/-- As far as so many steps. -/
def can (F m : Int) (L : Nat) (s : Int) : Prop := s - F ≤ L * m ∧ F - s ≤ L * m
instance (F m : Int) (L : Nat) (s : Int) : Decidable (can F m L s) := inferInstanceAs (Decidable (_ ∧ _))
theorem can_next {F m : Int} (hm : 0 ≤ m) {L : Nat} {s : Int} (h : can F m (L + 1) s) : can F m L (ptA F m (L * m) s) := by
  have := mulS L m
  have h0 := mul0 L hm
  obtain ⟨h1, h2⟩ := h
  have := ptA_near (F := F) (s := s) hm h0 (by omega) (by omega)
  exact ⟨this.2.2.1, this.2.2.2⟩
/-- The slip k steps after s, where L steps lead to F. -/
theorem pth_at {F m : Int} (hm : 0 ≤ m) : ∀ (L k : Nat) (s : Int), can F m L s → k < L → (pth F m L s)[k]? = some (ptA F (k * m) (((L - k : Nat) : Int) * m) s)
  | 0, _, _, _, h => absurd h (Nat.not_lt_zero _)
  | L + 1, 0, s, hc, _ => by
    simp only [pth, List.getElem?_cons_zero, Nat.sub_zero]
    congr 1
    have := mulS L m
    obtain ⟨h1, h2⟩ := hc
    rw [show ((0 : Nat) : Int) * m = 0 by simp]
    exact (ptA_zero h1 h2).symm
  | L + 1, k + 1, s, hc, hk => by
    simp only [pth, List.getElem?_cons_succ]
    rw [pth_at hm L k _ (can_next hm hc) (by omega)]
    congr 1
    have e1 : L + 1 - (k + 1) = L - k := by omega
    rw [e1]
    have h1 := mulS L m
    have h2 : (L : Int) * m = k * m + ((L - k : Nat) : Int) * m := by rw [← Int.add_mul]; congr 1; omega
    rw [h2, mulS k m]
    obtain ⟨g1, g2⟩ := hc
    exact ptA_cons hm (mul0 k hm) (mul0 (L - k) hm) (by omega) (by omega)
/-! ### costs -/
def wt (x : Int) : Nat := if x = 0 then 0 else 1
def ab (x : Int) : Int := max x (-x)
def cntS (l : List Int) : Nat := (l.map wt).sum
def sumS (l : List Int) : Int := (l.map ab).sum
theorem ab_nonneg (x : Int) : 0 ≤ ab x := by unfold ab; omega
theorem sumS_nonneg : ∀ l, 0 ≤ sumS l
  | [] => by simp [sumS]
  | x :: l => by have := sumS_nonneg l; have := ab_nonneg x; simp only [sumS, List.map_cons, List.sum_cons] at *; omega
theorem sumS_le {M : Int} : ∀ l, (∀ x ∈ l, ab x ≤ M) → sumS l ≤ l.length * M
  | [], _ => by simp [sumS]
  | x :: l, h => by
    have h1 := sumS_le l (fun y hy => h y (List.mem_cons_of_mem _ hy))
    have h2 := h x List.mem_cons_self
    have h3 := mulS l.length M
    simp only [sumS, List.map_cons, List.sum_cons, List.length_cons] at *; omega
theorem cntS_le : ∀ l, cntS l ≤ l.length
  | [] => by simp [cntS]
  | x :: l => by have := cntS_le l; have : wt x ≤ 1 := by unfold wt; split <;> omega
                 simp only [cntS, List.map_cons, List.sum_cons, List.length_cons] at *; omega
/-- No element is nearer to 0. -/
def Dom : List Int → List Int → Prop
  | [], [] => True
  | x :: l, y :: r => ab x ≤ ab y ∧ Dom l r
  | _, _ => False
theorem dom_of : ∀ (l r : List Int), l.length = r.length → (∀ (k : Nat) (x y : Int), l[k]? = some x → r[k]? = some y → ab x ≤ ab y) → Dom l r
  | [], [], _, _ => trivial
  | x :: l, y :: r, h, hk => ⟨hk 0 x y rfl rfl, dom_of l r (by simpa using h) (fun k a b ha hb => hk (k + 1) a b (by simpa using ha) (by simpa using hb))⟩
  | [], _ :: _, h, _ => by simp at h
  | _ :: _, [], h, _ => by simp at h
theorem wt_mono {x y : Int} (h : ab x ≤ ab y) : wt x ≤ wt y := by unfold wt ab at *; split <;> split <;> omega
theorem dom_cost : ∀ {l r : List Int}, Dom l r → cntS l ≤ cntS r ∧ sumS l ≤ sumS r
  | [], [], _ => by simp
  | x :: l, y :: r, ⟨h, h'⟩ => by
    obtain ⟨h1, h2⟩ := dom_cost h'
    have := wt_mono h
    simp only [cntS, sumS, List.map_cons, List.sum_cons] at *; omega
  | [], _ :: _, h => h.elim
  | _ :: _, [], h => h.elim
/-- The best way from s has a cost that no other one has: for a slip that is not the next one of the way. -/
theorem next_best {F m : Int} (hm : 0 ≤ m) {L : Nat} {s n : Int} (hs : can F m (L + 1) s) (hn : can F m L n) (h1 : n - s ≤ m) (h2 : s - n ≤ m) :
    Dom (pth F m L (ptA F m (L * m) s)) (pth F m L n) := by
  refine dom_of _ _ (by rw [pth_len, pth_len]) (fun k x y hx hy => ?_)
  have hk : k < L := by
    rcases Nat.lt_or_ge k L with h | h
    · exact h
    · rw [List.getElem?_eq_none (by rw [pth_len]; exact h)] at hx; cases hx
  rw [pth_at hm L k _ (can_next hm hs) hk] at hx
  rw [pth_at hm L k _ hn hk] at hy
  cases hx; cases hy
  have e : (L : Int) * m = k * m + ((L - k : Nat) : Int) * m := by rw [← Int.add_mul]; congr 1; omega
  have h3 := mulS L m
  obtain ⟨g1, g2⟩ := hs
  obtain ⟨g3, g4⟩ := hn
  rw [e, ptA_cons hm (mul0 k hm) (mul0 (L - k) hm) (by omega) (by omega)]
  exact ptA_sub hm (mul0 k hm) (mul0 (L - k) hm) h1 h2 (by omega) (by omega)
/-! ### the table of the reference -/
end Go.R05
