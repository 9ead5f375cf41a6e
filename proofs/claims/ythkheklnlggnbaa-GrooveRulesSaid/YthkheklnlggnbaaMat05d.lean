set_option linter.unusedSectionVars false
set_option linter.unusedSimpArgs false
set_option linter.unusedVariables false
/-! Layer 5: distances: the mathematics of squares, and of what is least. -/
namespace Go.R05
set_option linter.unusedVariables false
set_option linter.unusedSectionVars false
/-- A spot; the square of a distance, as a fraction; a segment. -/
abbrev Sp := Int × Int
abbrev Sq := Int × Int
abbrev Sg := Sp × Sp
def mns (a b : Sp) : Sp := (a.1 - b.1, a.2 - b.2)
def dotv (a b : Sp) : Int := a.1 * b.1 + a.2 * b.2
def crs (a b : Sp) : Int := a.1 * b.2 - a.2 * b.1
/-- The square of the distance of a spot from a segment. -/
def ptd (p a b : Sp) : Sq :=
  if dotv (mns b a) (mns p a) ≤ 0 then (dotv (mns p a) (mns p a), 1)
  else if dotv (mns b a) (mns b a) ≤ dotv (mns b a) (mns p a) then (dotv (mns p b) (mns p b), 1)
  else (crs (mns b a) (mns p a) * crs (mns b a) (mns p a), dotv (mns b a) (mns b a))
def opp (a b : Int) : Bool := decide (min a b < 0) && decide (0 < max a b)
def side (s : Sg) (p : Sp) : Int := crs (mns s.2 s.1) (mns p s.1)
def meets (s t : Sg) : Bool := opp (side s t.1) (side s t.2) && opp (side t s.1) (side t s.2)
/-- Less, for fractions with denominators above 0. -/
def sqL (p q : Sq) : Prop := p.1 * q.2 < q.1 * p.2
instance (p q : Sq) : Decidable (sqL p q) := inferInstanceAs (Decidable (_ < _))
/-- A good fraction. -/
def okS (p : Sq) : Prop := 0 ≤ p.1 ∧ 0 < p.2
def minStep (m x : Sq) : Sq := if sqL x m then x else m
def minF (l : List Sq) : Sq := l.tail.foldl minStep (l.headD (0, 1))
/-- The four squares of two segments. -/
def ends (s t : Sg) : List Sq := [ptd t.1 s.1 s.2, ptd t.2 s.1 s.2, ptd s.1 t.1 t.2, ptd s.2 t.1 t.2]
def sgd (s t : Sg) : Sq := if meets s t then (0, 1) else minF (ends s t)
def segs : List Sp → List Sg
  | [] => []
  | [a] => [(a, a)]
  | a :: l => (a :: l).zip l
def allSq (a b : List Sp) : List Sq := (segs a).flatMap fun s => (segs b).map fun t => sgd s t
def dst (a b : List Sp) : Sq := minF (allSq a b)
/-! ### order -/
theorem sqL_trans_le {p q r : Sq} (hp : okS p) (hq : okS q) (hr : okS r) (h1 : ¬ sqL q p) (h2 : ¬ sqL r q) : ¬ sqL r p := by
  unfold sqL okS at *
  obtain ⟨p1, p2⟩ := p; obtain ⟨q1, q2⟩ := q; obtain ⟨r1, r2⟩ := r
  simp only [Int.not_lt] at *
  -- p1 q2 ≤ q1 p2, q1 r2 ≤ r1 q2
  have a1 := Int.mul_le_mul_of_nonneg_right h1 (by omega : 0 ≤ r2)
  have a2 := Int.mul_le_mul_of_nonneg_right h2 (by omega : 0 ≤ p2)
  have : p1 * r2 * q2 ≤ r1 * p2 * q2 := by
    have e1 : p1 * q2 * r2 = p1 * r2 * q2 := by rw [Int.mul_right_comm]
    have e2 : q1 * p2 * r2 = q1 * r2 * p2 := by rw [Int.mul_right_comm]
    have e3 : r1 * q2 * p2 = r1 * p2 * q2 := by rw [Int.mul_right_comm]
    omega
  exact Int.le_of_mul_le_mul_right this hq.2
theorem sqL_irr (p : Sq) : ¬ sqL p p := by unfold sqL; omega
theorem minStep_ok {m x : Sq} (hm : okS m) (hx : okS x) : okS (minStep m x) := by unfold minStep; split <;> assumption
theorem fold_min : ∀ (l : List Sq) (m : Sq), okS m → (∀ x ∈ l, okS x) → okS (l.foldl minStep m) ∧ ¬ sqL m (l.foldl minStep m) ∧ (∀ x ∈ l, ¬ sqL x (l.foldl minStep m)) ∧ (l.foldl minStep m = m ∨ l.foldl minStep m ∈ l)
  | [], m, hm, _ => ⟨hm, sqL_irr m, by simp, Or.inl rfl⟩
  | x :: l, m, hm, hl => by
    have hx := hl x List.mem_cons_self
    obtain ⟨h0, h1, h2, h3⟩ := fold_min l (minStep m x) (minStep_ok hm hx) (fun y hy => hl y (List.mem_cons_of_mem _ hy))
    simp only [List.foldl_cons]
    generalize l.foldl minStep (minStep m x) = R at *
    have hs : ¬ sqL m R ∧ ¬ sqL x R := by
      unfold minStep at h1
      by_cases h : sqL x m
      · rw [if_pos h] at h1
        refine ⟨?_, h1⟩
        exact sqL_trans_le h0 hx hm h1 (by unfold sqL at *; omega)
      · rw [if_neg h] at h1
        exact ⟨h1, sqL_trans_le h0 hm hx h1 h⟩
    refine ⟨h0, hs.1, fun y hy => ?_, ?_⟩
    · rcases List.mem_cons.mp hy with rfl | hy
      · exact hs.2
      · exact h2 y hy
    · rcases h3 with h3 | h3
      · unfold minStep at h3
        split at h3
        · right; rw [h3]; exact List.mem_cons_self
        · exact Or.inl h3
      · exact Or.inr (List.mem_cons_of_mem _ h3)
theorem minF_spec {l : List Sq} (hne : l ≠ []) (hl : ∀ x ∈ l, okS x) : minF l ∈ l ∧ ∀ x ∈ l, ¬ sqL x (minF l) := by
  obtain ⟨a, t, rfl⟩ : ∃ a t, l = a :: t := by cases l with | nil => exact absurd rfl hne | cons a t => exact ⟨a, t, rfl⟩
  have h := fold_min t a (hl a List.mem_cons_self) (fun x hx => hl x (List.mem_cons_of_mem _ hx))
  unfold minF
  simp only [List.tail_cons, List.headD_cons]
  refine ⟨?_, fun x hx => ?_⟩
  · rcases h.2.2.2 with e | e
    · rw [e]; exact List.mem_cons_self
    · exact List.mem_cons_of_mem _ e
  · rcases List.mem_cons.mp hx with rfl | hx
    · exact h.2.1
    · exact h.2.2.1 x hx
theorem sq_nonneg (a : Int) : 0 ≤ a * a := by
  rcases Int.le_total 0 a with h | h
  · exact Int.mul_nonneg h h
  · have := Int.mul_nonneg (a := -a) (b := -a) (by omega) (by omega)
    rwa [Int.neg_mul_neg] at this
theorem dot_nonneg (a : Sp) : 0 ≤ dotv a a := by
  unfold dotv; have := sq_nonneg a.1; have := sq_nonneg a.2; omega
theorem ptd_ok (p a b : Sp) : okS (ptd p a b) := by
  unfold ptd okS
  split
  · exact ⟨dot_nonneg _, Int.one_pos⟩
  · split
    · exact ⟨dot_nonneg _, Int.one_pos⟩
    · exact ⟨sq_nonneg _, by have := dot_nonneg (mns b a); show 0 < dotv (mns b a) (mns b a); omega⟩
theorem ends_ok (s t : Sg) : ∀ x ∈ ends s t, okS x := by
  intro x hx
  simp only [ends, List.mem_cons, List.not_mem_nil, or_false] at hx
  rcases hx with rfl | rfl | rfl | rfl <;> exact ptd_ok _ _ _
theorem sgd_ok (s t : Sg) : okS (sgd s t) := by
  unfold sgd
  split
  · exact ⟨by decide, by decide⟩
  · exact ends_ok s t _ (minF_spec (by simp [ends]) (ends_ok s t)).1
theorem allSq_ok (a b : List Sp) : ∀ x ∈ allSq a b, okS x := by
  intro x hx
  simp only [allSq, List.mem_flatMap, List.mem_map] at hx
  obtain ⟨s, _, t, _, rfl⟩ := hx
  exact sgd_ok s t
theorem segs_ne {a : List Sp} (h : a ≠ []) : segs a ≠ [] := by
  match a, h with
  | [x], _ => simp [segs]
  | x :: y :: l, _ => simp [segs]
theorem allSq_ne {a b : List Sp} (ha : a ≠ []) (hb : b ≠ []) : allSq a b ≠ [] := by
  obtain ⟨s, l, h⟩ := List.exists_cons_of_ne_nil (segs_ne ha)
  obtain ⟨t, r, h'⟩ := List.exists_cons_of_ne_nil (segs_ne hb)
  simp [allSq, h, h']
/-! ### lowest terms -/
def low (p : Sq) : Sq := (p.1 / (Int.gcd p.1 p.2 : Int), p.2 / (Int.gcd p.1 p.2 : Int))
theorem low_natE (a b : Nat) : low ((a : Int), (b : Int)) = (((a / Nat.gcd a b : Nat) : Int), ((b / Nat.gcd a b : Nat) : Int)) := by
  simp only [low, Int.gcd, Int.natAbs_natCast, Int.natCast_ediv]
end Go.R05
