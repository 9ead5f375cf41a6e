import Derived.Test.YtjepofehaphcnaaMat07l
set_option linter.unusedSectionVars false
set_option linter.unusedSimpArgs false
set_option linter.unusedVariables false
/-! Layer 7: pure mathematics: how much ink a column has. -/
namespace Go.R07
set_option linter.unusedVariables false
/-- A row that one of the lines covers. -/
def hitB (w : Int) (xs : List Int) (r : Nat) : Bool := xs.any fun x => ws ((r : Int) - x) 0 (w - 1)
def hitN (w : Int) (xs : List Int) (n : Nat) : Nat := (List.range n).countP (hitB w xs)
theorem hitN_succ (w : Int) (xs : List Int) (n : Nat) : hitN w xs (n + 1) = hitN w xs n + if hitB w xs n = true then 1 else 0 := by
  unfold hitN
  rw [List.range_succ, List.countP_append]
  congr 1
  rw [List.countP_cons, List.countP_nil]
  split <;> rfl
/-- Lines one below the other. -/
def Apt (w : Int) : List Int → Prop
  | [] => True
  | x :: xs => (∀ y ∈ xs, x + w ≤ y) ∧ Apt w xs
theorem hit_one {w x : Int} (hw : 0 ≤ w) (hx : 0 ≤ x) : ∀ n : Nat, (hitN w [x] n : Int) = max 0 (min ((n : Int) - x) w)
  | 0 => by
    show ((0 : Nat) : Int) = _
    omega
  | n + 1 => by
    have ih := hit_one hw hx n
    rw [hitN_succ]
    have hb : hitB w [x] n = ws ((n : Int) - x) 0 (w - 1) := by simp [hitB]
    rw [hb]
    cases hc : ws ((n : Int) - x) 0 (w - 1)
    · rcases ws_f hc with q | q <;> simp <;> omega
    · have q := ws_t hc
      simp; omega
theorem hit_cons {w x : Int} {xs : List Int} (h : ∀ y ∈ xs, x + w ≤ y) : ∀ n : Nat, hitN w (x :: xs) n = hitN w [x] n + hitN w xs n
  | 0 => rfl
  | n + 1 => by
    have ih := hit_cons (w := w) h n
    rw [hitN_succ, hitN_succ, hitN_succ, ih]
    have hb : hitB w (x :: xs) n = (hitB w [x] n || hitB w xs n) := by simp [hitB]
    rw [hb]
    cases h1 : hitB w [x] n <;> cases h2 : hitB w xs n
    · rfl
    · simp; omega
    · simp; omega
    · exfalso
      unfold hitB at h1 h2
      simp only [List.any_cons, List.any_nil, Bool.or_false] at h1
      obtain ⟨y, hy, h3⟩ := List.any_eq_true.1 h2
      have a := ws_t h1
      have b := ws_t h3
      have := h y hy
      omega
/-- Each line has its weight of ink. -/
theorem hit_all {w : Int} (hw : 0 ≤ w) {n : Nat} : ∀ {xs : List Int}, Apt w xs → (∀ x ∈ xs, 0 ≤ x ∧ x + w ≤ n) → (hitN w xs n : Int) = (xs.length : Int) * w
  | [], _, _ => by
    have : hitN w [] n = 0 := by
      unfold hitN
      rw [List.countP_eq_zero]
      intro r _
      simp [hitB]
    rw [this]; simp
  | x :: xs, h, hb => by
    have ih := hit_all (n := n) hw h.2 fun y hy => hb y (List.mem_cons_of_mem _ hy)
    rw [hit_cons h.1, Int.natCast_add, ih]
    have h0 := hb x (List.mem_cons_self ..)
    rw [hit_one hw h0.1, List.length_cons, Int.natCast_succ, Int.add_mul, Int.one_mul]
    omega
/-- Where the lines of a band are in a column. -/
def colX (b : List (List Int)) (k : Nat) : List Int := b.map fun l => at0 l k
theorem dot_hit (s : Sh) (b : List (List Int)) (r k : Nat) : dotB s b r k = hitB s.w (colX b k) r := by
  unfold dotB hitB colX
  rw [List.any_map]; rfl
theorem band_apt {s : Sh} {k : Nat} (hw : 0 ≤ s.w + s.k) (hk2 : 0 ≤ s.k) (h0 : 0 ≤ s.w) : ∀ {b : List (List Int)}, (∀ l ∈ b, k < l.length) → (∀ i, i < b.length - 1 → clashI s (rw0 b i) (rw0 b (i + 1)) = -1) → Apt s.w (colX b k) ∧ ∀ y ∈ colX b k, at0 (rw0 b 0) k ≤ y
  | [], _, _ => ⟨trivial, fun y hy => by cases hy⟩
  | [l], _, _ => ⟨by simp [colX, Apt], fun y hy => by
      obtain rfl : y = at0 l k := by simpa [colX] using hy
      exact Int.le_refl _⟩
  | l :: l2 :: b, hl, hc => by
    have ih := band_apt (s := s) (k := k) hw hk2 h0 (b := l2 :: b) (fun x hx => hl x (List.mem_cons_of_mem _ hx)) (fun i hi => hc (i + 1) (by simp at hi ⊢; omega))
    have h1 := clashAt_no (hc 0 (by simp)) k (hl l (List.mem_cons_self ..)) (hl l2 (List.mem_cons_of_mem _ (List.mem_cons_self ..)))
    have h1 : s.w + s.k ≤ at0 l2 k - at0 l k := h1
    have hf : ∀ y ∈ colX (l2 :: b) k, at0 l2 k ≤ y := ih.2
    refine ⟨⟨fun y hy => ?_, ih.1⟩, fun y hy => ?_⟩
    · have h3 := hf y hy
      show at0 l k + s.w ≤ y
      omega
    · have hy : y ∈ at0 l k :: colX (l2 :: b) k := hy
      rcases List.mem_cons.1 hy with rfl | hy
      · exact Int.le_refl _
      · have := hf y hy
        show at0 l k ≤ y
        omega
/-- Each column of a band has as much ink as its lines. -/
theorem band_hit {s : Sh} {b : List (List Int)} (h : chkB s b = 0) (g : GoodS s) (hl : ∀ i, i < b.length → LineP s (rw0 b i)) {k : Nat} (hk : k < s.c.toNat) : (hitN s.w (colX b k) s.r.toNat : Int) = (b.length : Int) * s.w := by
  have g1 := g.c
  have g2 := g.r
  have g3 := g.w
  have g4 := g.k
  have hm : ∀ l ∈ b, ∃ i, i < b.length ∧ rw0 b i = l := fun l hx => by
    obtain ⟨i, hi, e⟩ := List.getElem_of_mem hx
    exact ⟨i, hi, by rw [rw0, List.getD_eq_getElem?_getD, List.getElem?_eq_getElem hi]; exact e⟩
  have hcl : ∀ i, i < b.length - 1 → clashI s (rw0 b i) (rw0 b (i + 1)) = -1 := by
    unfold chkB at h
    rw [if_pos (good_okS g)] at h
    by_cases hb : bandB s b = true
    · unfold bandB at hb
      simp only [Bool.and_eq_true, decide_eq_true_eq, List.isEmpty_iff] at hb
      exact cls_empty.1 hb.2.2
    · rw [if_neg hb] at h; omega
  have ha := band_apt (s := s) (k := k) (by omega) (by omega) (by omega) (b := b) (fun l hx => by
    obtain ⟨i, hi, rfl⟩ := hm l hx
    have := (hl i hi).1
    omega) hcl
  have := hit_all (n := s.r.toNat) (by omega : 0 ≤ s.w) ha.1 (fun x hx => by
    obtain ⟨l, hl2, rfl⟩ := List.mem_map.1 hx
    obtain ⟨i, hi, rfl⟩ := hm l hl2
    have h2 := (hl i hi).2.1 k (by have := (hl i hi).1; omega)
    omega)
  rw [this]
  unfold colX
  rw [List.length_map]
end Go.R07
