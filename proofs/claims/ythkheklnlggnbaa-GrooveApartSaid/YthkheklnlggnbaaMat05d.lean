set_option linter.unusedSectionVars false
set_option linter.unusedSimpArgs false
set_option linter.unusedVariables false
/-! Layer 5: distances: the mathematics of squares, and of what is least. -/
namespace Go.R05
set_option linter.unusedVariables false
set_option linter.unusedSectionVars false
/-- A spot; the square of a distance, as a fraction; a segment. -/
abbrev Sp := Int × Int
abbrev Sq := Int × Int
abbrev Sg := Sp × Sp
def mns (a b : Sp) : Sp := (a.1 - b.1, a.2 - b.2)
def dotv (a b : Sp) : Int := a.1 * b.1 + a.2 * b.2
def crs (a b : Sp) : Int := a.1 * b.2 - a.2 * b.1
/-- The square of the distance of a spot from a segment. -/
def ptd (p a b : Sp) : Sq :=
  if dotv (mns b a) (mns p a) ≤ 0 then (dotv (mns p a) (mns p a), 1)
  else if dotv (mns b a) (mns b a) ≤ dotv (mns b a) (mns p a) then (dotv (mns p b) (mns p b), 1)
  else (crs (mns b a) (mns p a) * crs (mns b a) (mns p a), dotv (mns b a) (mns b a))
def opp (a b : Int) : Bool := decide (min a b < 0) && decide (0 < max a b)
def side (s : Sg) (p : Sp) : Int := crs (mns s.2 s.1) (mns p s.1)
def meets (s t : Sg) : Bool := opp (side s t.1) (side s t.2) && opp (side t s.1) (side t s.2)
/-- Less, for fractions with denominators above 0. -/
def sqL (p q : Sq) : Prop := p.1 * q.2 < q.1 * p.2
instance (p q : Sq) : Decidable (sqL p q) := inferInstanceAs (Decidable (_ < _))
/-- A good fraction. -/
def okS (p : Sq) : Prop := 0 ≤ p.1 ∧ 0 < p.2
def minStep (m x : Sq) : Sq := if sqL x m then x else m
def minF (l : List Sq) : Sq := l.tail.foldl minStep (l.headD (0, 1))
/-- The four squares of two segments. -/
def ends (s t : Sg) : List Sq := [ptd t.1 s.1 s.2, ptd t.2 s.1 s.2, ptd s.1 t.1 t.2, ptd s.2 t.1 t.2]
def sgd (s t : Sg) : Sq := if meets s t then (0, 1) else minF (ends s t)
def segs : List Sp → List Sg
  | [] => []
  | [a] => [(a, a)]
  | a :: l => (a :: l).zip l
def allSq (a b : List Sp) : List Sq := (segs a).flatMap fun s => (segs b).map fun t => sgd s t
def dst (a b : List Sp) : Sq := minF (allSq a b)
/-! ### order -/
theorem sqL_trans_le {p q r : Sq} (hp : okS p) (hq : okS q) (hr : okS r) (h1 : ¬ sqL q p) (h2 : ¬ sqL r q) : ¬ sqL r p := by
  unfold sqL okS at *
  obtain ⟨p1, p2⟩ := p; obtain ⟨q1, q2⟩ := q; obtain ⟨r1, r2⟩ := r
  simp only [Int.not_lt] at *
  -- p1 q2 ≤ q1 p2, q1 r2 ≤ r1 q2
  have a1 := Int.mul_le_mul_of_nonneg_right h1 (by omega : 0 ≤ r2)
  have a2 := Int.mul_le_mul_of_nonneg_right h2 (by omega : 0 ≤ p2)
  have : p1 * r2 * q2 ≤ r1 * p2 * q2 := by
    have e1 : p1 * q2 * r2 = p1 * r2 * q2 := by rw [Int.mul_right_comm]
    have e2 : q1 * p2 * r2 = q1 * r2 * p2 := by rw [Int.mul_right_comm]
    have e3 : r1 * q2 * p2 = r1 * p2 * q2 := by rw [Int.mul_right_comm]
    omega
  exact Int.le_of_mul_le_mul_right this hq.2
theorem sqL_irr (p : Sq) : ¬ sqL p p := by unfold sqL; omega
theorem minStep_ok {m x : Sq} (hm : okS m) (hx : okS x) : okS (minStep m x) := by unfold minStep; split <;> assumption
theorem fold_min : ∀ (l : List Sq) (m : Sq), okS m → (∀ x ∈ l, okS x) → okS (l.foldl minStep m) ∧ ¬ sqL m (l.foldl minStep m) ∧ (∀ x ∈ l, ¬ sqL x (l.foldl minStep m)) ∧ (l.foldl minStep m = m ∨ l.foldl minStep m ∈ l)
  | [], m, hm, _ => ⟨hm, sqL_irr m, by simp, Or.inl rfl⟩
  | x :: l, m, hm, hl => by
    have hx := hl x List.mem_cons_self
    obtain ⟨h0, h1, h2, h3⟩ := fold_min l (minStep m x) (minStep_ok hm hx) (fun y hy => hl y (List.mem_cons_of_mem _ hy))
    simp only [List.foldl_cons]
    generalize l.foldl minStep (minStep m x) = R at *
    have hs : ¬ sqL m R ∧ ¬ sqL x R := by
      unfold minStep at h1
      by_cases h : sqL x m
      · rw [if_pos h] at h1
        refine ⟨?_, h1⟩
        exact sqL_trans_le h0 hx hm h1 (by unfold sqL at *; omega)
      · rw [if_neg h] at h1
        exact ⟨h1, sqL_trans_le h0 hm hx h1 h⟩
    refine ⟨h0, hs.1, fun y hy => ?_, ?_⟩
    · rcases List.mem_cons.mp hy with rfl | hy
      · exact hs.2
      · exact h2 y hy
    · rcases h3 with h3 | h3
      · unfold minStep at h3
        split at h3
        · right; rw [h3]; exact List.mem_cons_self
        · exact Or.inl h3
      · exact Or.inr (List.mem_cons_of_mem _ h3)
theorem minF_spec {l : List Sq} (hne : l ≠ []) (hl : ∀ x ∈ l, okS x) : minF l ∈ l ∧ ∀ x ∈ l, ¬ sqL x (minF l) := by
  obtain ⟨a, t, rfl⟩ : ∃ a t, l = a :: t := by cases l with | nil => exact absurd rfl hne | cons a t => exact ⟨a, t, rfl⟩
  have h := fold_min t a (hl a List.mem_cons_self) (fun x hx => hl x (List.mem_cons_of_mem _ hx))
  unfold minF
  simp only [List.tail_cons, List.headD_cons]
  refine ⟨?_, fun x hx => ?_⟩
  · rcases h.2.2.2 with e | e
    · rw [e]; exact List.mem_cons_self
    · exact List.mem_cons_of_mem _ e
  · rcases List.mem_cons.mp hx with rfl | hx
    · exact h.2.1
    · exact h.2.2.1 x hx
theorem sq_nonneg (a : Int) : 0 ≤ a * a := by
  rcases Int.le_total 0 a with h | h
  · exact Int.mul_nonneg h h
  · have := Int.mul_nonneg (a := -a) (b := -a) (by omega) (by omega)
    rwa [Int.neg_mul_neg] at this
theorem dot_nonneg (a : Sp) : 0 ≤ dotv a a := by
  unfold dotv; have := sq_nonneg a.1; have := sq_nonneg a.2; omega
theorem ptd_ok (p a b : Sp) : okS (ptd p a b) := by
  unfold ptd okS
  split
  · exact ⟨dot_nonneg _, Int.one_pos⟩
  · split
    · exact ⟨dot_nonneg _, Int.one_pos⟩
    · exact ⟨sq_nonneg _, by have := dot_nonneg (mns b a); show 0 < dotv (mns b a) (mns b a); omega⟩
theorem ends_ok (s t : Sg) : ∀ x ∈ ends s t, okS x := by
  intro x hx
  simp only [ends, List.mem_cons, List.not_mem_nil, or_false] at hx
  rcases hx with rfl | rfl | rfl | rfl <;> exact ptd_ok _ _ _
theorem sgd_ok (s t : Sg) : okS (sgd s t) := by
  unfold sgd
  split
  · exact ⟨by decide, by decide⟩
  · exact ends_ok s t _ (minF_spec (by simp [ends]) (ends_ok s t)).1
theorem allSq_ok (a b : List Sp) : ∀ x ∈ allSq a b, okS x := by
  intro x hx
  simp only [allSq, List.mem_flatMap, List.mem_map] at hx
  obtain ⟨s, _, t, _, rfl⟩ := hx
  exact sgd_ok s t
theorem segs_ne {a : List Sp} (h : a ≠ []) : segs a ≠ [] := by
  match a, h with
  | [x], _ => simp [segs]
  | x :: y :: l, _ => simp [segs]
theorem allSq_ne {a b : List Sp} (ha : a ≠ []) (hb : b ≠ []) : allSq a b ≠ [] := by
  obtain ⟨s, l, h⟩ := List.exists_cons_of_ne_nil (segs_ne ha)
  obtain ⟨t, r, h'⟩ := List.exists_cons_of_ne_nil (segs_ne hb)
  simp [allSq, h, h']
theorem dst_ok {a b : List Sp} (ha : a ≠ []) (hb : b ≠ []) : okS (dst a b) := allSq_ok a b _ (minF_spec (allSq_ne ha hb) (allSq_ok a b)).1
/-! ### lowest terms -/
def low (p : Sq) : Sq := (p.1 / (Int.gcd p.1 p.2 : Int), p.2 / (Int.gcd p.1 p.2 : Int))
theorem low_nat {a b c d : Nat} (hb : 0 < b) (hd : 0 < d) (h : a * d = c * b) : a / Nat.gcd a b = c / Nat.gcd c d ∧ b / Nat.gcd a b = d / Nat.gcd c d := by
  have hg : 0 < Nat.gcd a b := Nat.gcd_pos_of_pos_right _ hb
  have hh : 0 < Nat.gcd c d := Nat.gcd_pos_of_pos_right _ hd
  obtain ⟨a', ha⟩ := Nat.gcd_dvd_left a b
  obtain ⟨b', hb'⟩ := Nat.gcd_dvd_right a b
  obtain ⟨c', hc⟩ := Nat.gcd_dvd_left c d
  obtain ⟨d', hd'⟩ := Nat.gcd_dvd_right c d
  have e1 : a / Nat.gcd a b = a' := by conv => lhs; lhs; rw [ha]
                                       exact Nat.mul_div_cancel_left _ hg
  have e2 : b / Nat.gcd a b = b' := by conv => lhs; lhs; rw [hb']
                                       exact Nat.mul_div_cancel_left _ hg
  have e3 : c / Nat.gcd c d = c' := by conv => lhs; lhs; rw [hc]
                                       exact Nat.mul_div_cancel_left _ hh
  have e4 : d / Nat.gcd c d = d' := by conv => lhs; lhs; rw [hd']
                                       exact Nat.mul_div_cancel_left _ hh
  have k1 : Nat.gcd a' b' = 1 := by rw [← e1, ← e2]; exact Nat.gcd_div_gcd_div_gcd_of_pos_right hb
  have k2 : Nat.gcd c' d' = 1 := by rw [← e3, ← e4]; exact Nat.gcd_div_gcd_div_gcd_of_pos_right hd
  generalize Nat.gcd a b = g at *
  generalize Nat.gcd c d = k at *
  subst ha hb' hc hd'
  have hx : a' * d' = c' * b' := by
    have : (g * k) * (a' * d') = (g * k) * (c' * b') := by
      have : g * a' * (k * d') = k * c' * (g * b') := h
      calc (g * k) * (a' * d') = g * a' * (k * d') := by ac_rfl
        _ = k * c' * (g * b') := h
        _ = (g * k) * (c' * b') := by ac_rfl
    exact Nat.eq_of_mul_eq_mul_left (Nat.mul_pos hg hh) this
  have hb0 : 0 < b' := Nat.pos_of_mul_pos_right hb |> fun h => by rcases Nat.eq_zero_or_pos b' with e | e; · rw [e] at hb; simp at hb
                                                                  · exact e
  have d1 : b' ∣ d' := by
    have : b' ∣ a' * d' := ⟨c', by rw [hx, Nat.mul_comm]⟩
    exact (Nat.Coprime.symm k1).dvd_of_dvd_mul_left this
  have d2 : d' ∣ b' := by
    have : d' ∣ c' * b' := ⟨a', by rw [← hx, Nat.mul_comm]⟩
    exact (Nat.Coprime.symm k2).dvd_of_dvd_mul_left this
  have hbd : b' = d' := Nat.dvd_antisymm d1 d2
  rw [e1, e2, e3, e4]
  subst hbd
  exact ⟨Nat.eq_of_mul_eq_mul_right hb0 hx, rfl⟩
theorem okS_nat {p : Sq} (h : okS p) : ∃ a b : Nat, p = ((a : Int), (b : Int)) ∧ 0 < b := by
  obtain ⟨p1, p2⟩ := p
  obtain ⟨h1, h2⟩ := h
  exact ⟨p1.toNat, p2.toNat, by simp at *; constructor <;> omega, by simp at *; omega⟩
theorem low_natE (a b : Nat) : low ((a : Int), (b : Int)) = (((a / Nat.gcd a b : Nat) : Int), ((b / Nat.gcd a b : Nat) : Int)) := by
  simp only [low, Int.gcd, Int.natAbs_natCast, Int.natCast_ediv]
theorem low_eq {p q : Sq} (hp : okS p) (hq : okS q) (h : p.1 * q.2 = q.1 * p.2) : low p = low q := by
  obtain ⟨a, b, rfl, hb⟩ := okS_nat hp
  obtain ⟨c, d, rfl, hd⟩ := okS_nat hq
  rw [low_natE, low_natE]
  have := low_nat hb hd (by have h : (a : Int) * d = c * b := h; exact_mod_cast h)
  rw [this.1, this.2]
theorem low_ok {p : Sq} (hp : okS p) : okS (low p) ∧ (low p).1 * p.2 = p.1 * (low p).2 := by
  obtain ⟨a, b, rfl, hb⟩ := okS_nat hp
  rw [low_natE]
  have hg : 0 < Nat.gcd a b := Nat.gcd_pos_of_pos_right _ hb
  refine ⟨⟨Int.natCast_nonneg _, ?_⟩, ?_⟩
  · show (0 : Int) < ((b / Nat.gcd a b : Nat) : Int)
    have := Nat.div_pos (Nat.le_of_dvd hb (Nat.gcd_dvd_right a b)) hg
    omega
  · show ((a / Nat.gcd a b : Nat) : Int) * (b : Int) = (a : Int) * ((b / Nat.gcd a b : Nat) : Int)
    have h1 := Nat.div_mul_cancel (Nat.gcd_dvd_left a b)
    have h2 := Nat.div_mul_cancel (Nat.gcd_dvd_right a b)
    have : a / Nat.gcd a b * b = a * (b / Nat.gcd a b) := by
      generalize Nat.gcd a b = g at *
      conv => lhs; rhs; rw [← h2]
      conv => rhs; lhs; rw [← h1]
      ac_rfl
    exact_mod_cast this
/-- Less doesn't depend on the terms. -/
theorem sqL_low {p q : Sq} (hp : okS p) (hq : okS q) : sqL (low p) q ↔ sqL p q := by
  obtain ⟨h1, h2⟩ := low_ok hp
  obtain ⟨⟨h3, h4⟩, h5, h6⟩ := And.intro h1 hq
  unfold sqL
  have e1 : (low p).1 * q.2 * p.2 = p.1 * q.2 * (low p).2 := by rw [Int.mul_right_comm, h2, Int.mul_right_comm]
  have e2 : q.1 * (low p).2 * p.2 = q.1 * p.2 * (low p).2 := Int.mul_right_comm _ _ _
  constructor
  · intro h
    have := Int.mul_lt_mul_of_pos_right h hp.2
    rw [e1, e2] at this
    exact Int.lt_of_mul_lt_mul_right this (Int.le_of_lt h4)
  · intro h
    have := Int.mul_lt_mul_of_pos_right h h4
    rw [← e1, ← e2] at this
    exact Int.lt_of_mul_lt_mul_right this (Int.le_of_lt hp.2)
theorem sqL_low_r {p q : Sq} (hp : okS p) (hq : okS q) : sqL p (low q) ↔ sqL p q := by
  obtain ⟨h1, h2⟩ := low_ok hq
  unfold sqL
  have e1 : p.1 * (low q).2 * q.2 = p.1 * q.2 * (low q).2 := Int.mul_right_comm _ _ _
  have e2 : (low q).1 * p.2 * q.2 = q.1 * p.2 * (low q).2 := by rw [Int.mul_right_comm, h2, Int.mul_right_comm]
  constructor
  · intro h
    have := Int.mul_lt_mul_of_pos_right h hq.2
    rw [e1, e2] at this
    exact Int.lt_of_mul_lt_mul_right this (Int.le_of_lt h1.2)
  · intro h
    have := Int.mul_lt_mul_of_pos_right h h1.2
    rw [← e1, ← e2] at this
    exact Int.lt_of_mul_lt_mul_right this (Int.le_of_lt hq.2)
/-- Less by whole parts, and by what is left. -/
def lessW (p q : Sq) : Bool := if p.1 / p.2 ≠ q.1 / q.2 then decide (p.1 / p.2 < q.1 / q.2) else decide ((p.1 % p.2) * q.2 < (q.1 % q.2) * p.2)
theorem lessW_eq {p q : Sq} (hp : okS p) (hq : okS q) : lessW p q = decide (sqL p q) := by
  obtain ⟨p1, p2⟩ := p; obtain ⟨q1, q2⟩ := q
  show (if p1 / p2 ≠ q1 / q2 then decide (p1 / p2 < q1 / q2) else decide ((p1 % p2) * q2 < (q1 % q2) * p2)) = decide (p1 * q2 < q1 * p2)
  unfold okS at *
  simp only at hp hq
  have e1 := Int.mul_ediv_add_emod p1 p2
  have e2 := Int.mul_ediv_add_emod q1 q2
  have b1 := Int.emod_nonneg p1 (by omega : p2 ≠ 0)
  have b2 := Int.emod_lt_of_pos p1 hp.2
  have b3 := Int.emod_nonneg q1 (by omega : q2 ≠ 0)
  have b4 := Int.emod_lt_of_pos q1 hq.2
  generalize p1 / p2 = A at *
  generalize q1 / q2 = B at *
  generalize p1 % p2 = r at *
  generalize q1 % q2 = s at *
  subst e1 e2
  have x1 : (p2 * A + r) * q2 = p2 * q2 * A + r * q2 := by rw [Int.add_mul]; congr 1; rw [Int.mul_right_comm]
  have x2 : (q2 * B + s) * p2 = p2 * q2 * B + s * p2 := by rw [Int.add_mul]; congr 1; rw [Int.mul_right_comm, Int.mul_comm q2 p2]
  rw [x1, x2]
  have hP : 0 < p2 * q2 := Int.mul_pos hp.2 hq.2
  have r1 : 0 ≤ r * q2 := Int.mul_nonneg b1 (by omega)
  have r2 : r * q2 < p2 * q2 := Int.mul_lt_mul_of_pos_right b2 hq.2
  have r3 : 0 ≤ s * p2 := Int.mul_nonneg b3 (by omega)
  have r4 : s * p2 < p2 * q2 := by rw [Int.mul_comm p2 q2]; exact Int.mul_lt_mul_of_pos_right b4 hp.2
  generalize p2 * q2 = D at *
  generalize r * q2 = R at *
  generalize s * p2 = S at *
  by_cases h : A = B
  · subst h; rw [if_neg (by simp)]; congr 1; apply propext; omega
  · rw [if_pos h]
    congr 1; apply propext
    rcases Int.lt_or_gt_of_ne h with h | h
    · have : D * (A + 1) ≤ D * B := Int.mul_le_mul_of_nonneg_left (by omega) (by omega)
      rw [Int.mul_add, Int.mul_one] at this
      constructor <;> intro _ <;> omega
    · have : D * (B + 1) ≤ D * A := Int.mul_le_mul_of_nonneg_left (by omega) (by omega)
      rw [Int.mul_add, Int.mul_one] at this
      constructor <;> intro _ <;> omega
end Go.R05
