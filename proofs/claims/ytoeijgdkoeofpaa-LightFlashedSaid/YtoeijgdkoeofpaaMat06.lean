set_option linter.unusedSectionVars false
set_option linter.unusedSimpArgs false
set_option linter.unusedVariables false
/-! Layer 6: pure mathematics: shades. -/
namespace Go.R06
set_option linter.unusedVariables false
/-- From lo to hi. -/
def ws (n lo hi : Int) : Bool := decide (lo ≤ n) && decide (n ≤ hi)
theorem ws_t {n lo hi : Int} (h : ws n lo hi = true) : lo ≤ n ∧ n ≤ hi := by simpa [ws] using h
theorem ws_f {n lo hi : Int} (h : ws n lo hi = false) : n < lo ∨ hi < n := by
  unfold ws at h
  rcases Bool.and_eq_false_iff.1 h with g | g
  · left; have := of_decide_eq_false g; omega
  · right; have := of_decide_eq_false g; omega
theorem ws_of {n lo hi : Int} (h : lo ≤ n ∧ n ≤ hi) : ws n lo hi = true := by simpa [ws] using h
/-- All from lo to hi. -/
def alls (zs : List Int) (lo hi : Int) : Bool := zs.all fun x => ws x lo hi
/-- Two numbers: a tilt, a shade. -/
abbrev Tw := Int × Int
/-- A light. -/
structure Li where
  x : Int
  y : Int
  z : Int
deriving DecidableEq
def okL (l : Li) : Bool := ws l.x (-30) 30 && (ws l.y (-30) 30 && ws l.z 1 30)
structure GoodL (l : Li) : Prop where
  x : -30 ≤ l.x ∧ l.x ≤ 30
  y : -30 ≤ l.y ∧ l.y ≤ 30
  z : 1 ≤ l.z ∧ l.z ≤ 30
theorem okL_good {l : Li} (h : okL l = true) : GoodL l := by
  simp only [okL, Bool.and_eq_true] at h
  exact ⟨ws_t h.1, ws_t h.2.1, ws_t h.2.2⟩
theorem good_okL {l : Li} (h : GoodL l) : okL l = true := by
  simp only [okL, Bool.and_eq_true]
  exact ⟨ws_of h.x, ws_of h.y, ws_of h.z⟩
def okT (t : Tw) : Bool := ws t.1 (-400) 400 && ws t.2 (-400) 400
theorem okT_good {t : Tw} (h : okT t = true) : (-400 ≤ t.1 ∧ t.1 ≤ 400) ∧ (-400 ≤ t.2 ∧ t.2 ≤ 400) := by
  simp only [okT, Bool.and_eq_true] at h
  exact ⟨ws_t h.1, ws_t h.2⟩
def chkL (l : Li) : Int := if okL l = true then 0 else 61
/-- Products of numbers in ranges. -/
theorem mulb {a b A B : Int} (ha : -A ≤ a ∧ a ≤ A) (hb : -B ≤ b ∧ b ≤ B) : -(A * B) ≤ a * b ∧ a * b ≤ A * B := by
  have hA : 0 ≤ A := by omega
  have h1 : a.natAbs ≤ A.natAbs := by omega
  have h2 : b.natAbs ≤ B.natAbs := by omega
  have h3 : (a * b).natAbs ≤ A.natAbs * B.natAbs := by rw [Int.natAbs_mul]; exact Nat.mul_le_mul h1 h2
  have h4 : ((A.natAbs * B.natAbs : Nat) : Int) = A * B := by
    rw [Int.natCast_mul]; congr 1 <;> omega
  omega
theorem sq_nonneg (a : Int) : 0 ≤ a * a := by
  rcases Int.le_total 0 a with h | h
  · exact Int.mul_nonneg h h
  · exact Int.mul_nonneg_of_nonpos_of_nonpos h h
theorem sqb {a A : Int} (ha : -A ≤ a ∧ a ≤ A) : 0 ≤ a * a ∧ a * a ≤ A * A := ⟨sq_nonneg a, (mulb ha ha).2⟩
theorem mul1 {a b : Int} (ha : 1 ≤ a) (hb : 1 ≤ b) : 1 ≤ a * b := Int.mul_pos ha hb
/-- What faces the light. -/
def dd (t : Tw) (p : Int) (l : Li) : Int := 2 * p * l.z - l.x * t.1 - l.y * t.2
def nrm (t : Tw) (p : Int) : Int := t.1 * t.1 + t.2 * t.2 + 4 * p * p
def dir (l : Li) : Int := l.x * l.x + l.y * l.y + l.z * l.z
/-- Lowest terms. -/
def low (q : Tw) : Tw := (q.1 / (Nat.gcd q.1.natAbs q.2.natAbs : Nat), q.2 / (Nat.gcd q.1.natAbs q.2.natAbs : Nat))
def shd (t : Tw) (p : Int) (l : Li) : Tw := low (max (dd t p l) 0 * max (dd t p l) 0, nrm t p * dir l)
structure Fit (t : Tw) (p : Int) (l : Li) : Prop where
  t : (-400 ≤ t.1 ∧ t.1 ≤ 400) ∧ (-400 ≤ t.2 ∧ t.2 ≤ 400)
  p : 1 ≤ p ∧ p ≤ 100
  l : GoodL l
theorem Fit.dd {t : Tw} {p : Int} {l : Li} (h : Fit t p l) : -30000 ≤ dd t p l ∧ dd t p l ≤ 30000 := by
  have h1 := mulb (A := 200) (B := 30) (a := 2 * p) (b := l.z) (by have := h.p; omega) (by have := h.l.z; omega)
  have h2 := mulb (A := 30) (B := 400) h.l.x h.t.1
  have h3 := mulb (A := 30) (B := 400) h.l.y h.t.2
  unfold R06.dd; omega
theorem Fit.nrm {t : Tw} {p : Int} {l : Li} (h : Fit t p l) : 4 ≤ nrm t p ∧ nrm t p ≤ 360000 := by
  have h1 := sqb (A := 400) h.t.1
  have h2 := sqb (A := 400) h.t.2
  have h3 := mul1 h.p.1 h.p.1
  have h4 := sqb (A := 100) (a := p) (by have := h.p; omega)
  have e : 4 * p * p = 4 * (p * p) := Int.mul_assoc _ _ _
  unfold R06.nrm; omega
theorem Fit.dir {t : Tw} {p : Int} {l : Li} (h : Fit t p l) : 1 ≤ dir l ∧ dir l ≤ 2700 := by
  have h1 := sqb (A := 30) h.l.x
  have h2 := sqb (A := 30) h.l.y
  have h3 := mul1 h.l.z.1 h.l.z.1
  have h4 := sqb (A := 30) (a := l.z) (by have := h.l.z; omega)
  unfold R06.dir; omega
theorem Fit.den {t : Tw} {p : Int} {l : Li} (h : Fit t p l) : 1 ≤ R06.nrm t p * R06.dir l ∧ R06.nrm t p * R06.dir l ≤ 972000000 := by
  have h1 := h.nrm
  have h2 := h.dir
  constructor
  · exact mul1 (by omega) h2.1
  · exact (mulb (A := 360000) (B := 2700) (a := R06.nrm t p) (b := R06.dir l) (by omega) (by omega)).2
theorem Fit.num {t : Tw} {p : Int} {l : Li} (h : Fit t p l) : 0 ≤ max (R06.dd t p l) 0 * max (R06.dd t p l) 0 ∧ max (R06.dd t p l) 0 * max (R06.dd t p l) 0 ≤ 900000000 := by
  have h1 := h.dd
  exact sqb (A := 30000) (by omega)
/-- Cauchy and Schwarz. -/
theorem cauchy (t : Tw) (p : Int) (l : Li) : nrm t p * dir l - dd t p l * dd t p l = (2 * p * l.x + t.1 * l.z) * (2 * p * l.x + t.1 * l.z) + (2 * p * l.y + t.2 * l.z) * (2 * p * l.y + t.2 * l.z) + (t.1 * l.y - t.2 * l.x) * (t.1 * l.y - t.2 * l.x) := by
  unfold nrm dir dd
  grind
theorem num_le (t : Tw) (p : Int) (l : Li) : max (dd t p l) 0 * max (dd t p l) 0 ≤ nrm t p * dir l := by
  have h := cauchy t p l
  have h1 := sq_nonneg (2 * p * l.x + t.1 * l.z)
  have h2 := sq_nonneg (2 * p * l.y + t.2 * l.z)
  have h3 := sq_nonneg (t.1 * l.y - t.2 * l.x)
  have h4 := sq_nonneg (dd t p l)
  rcases Int.le_total (dd t p l) 0 with g | g
  · rw [Int.max_eq_right g]; omega
  · rw [Int.max_eq_left g]; omega
/-! ### lowest terms -/
structure GoodQ (q : Tw) : Prop where
  num : 0 ≤ q.1
  den : 1 ≤ q.2
theorem low_nat (a b : Nat) : low ((a : Int), (b : Int)) = (((a / Nat.gcd a b : Nat) : Int), ((b / Nat.gcd a b : Nat) : Int)) := by
  simp [low]
theorem GoodQ.nat {q : Tw} (h : GoodQ q) : ∃ a b : Nat, q = ((a : Int), (b : Int)) ∧ 1 ≤ b :=
  ⟨q.1.toNat, q.2.toNat, by have := h.num; have := h.den; exact Prod.ext (by simp; omega) (by simp; omega), by have := h.den; omega⟩
/-- A fraction and its lowest terms are as great. -/
theorem low_eq {q : Tw} (h : GoodQ q) : (low q).1 * q.2 = q.1 * (low q).2 ∧ 0 ≤ (low q).1 ∧ 1 ≤ (low q).2 ∧ (low q).1 ≤ q.1 ∧ (low q).2 ≤ q.2 ∧ Nat.gcd (low q).1.natAbs (low q).2.natAbs = 1 := by
  obtain ⟨a, b, rfl, hb⟩ := h.nat
  rw [low_nat]
  have hg : 0 < Nat.gcd a b := Nat.gcd_pos_of_pos_right _ hb
  have ha' : Nat.gcd a b * (a / Nat.gcd a b) = a := Nat.mul_div_cancel' (Nat.gcd_dvd_left a b)
  have hb' : Nat.gcd a b * (b / Nat.gcd a b) = b := Nat.mul_div_cancel' (Nat.gcd_dvd_right a b)
  have hco := Nat.coprime_div_gcd_div_gcd hg
  have e1 : a / Nat.gcd a b * b = a * (b / Nat.gcd a b) := by
    calc a / Nat.gcd a b * b = a / Nat.gcd a b * (Nat.gcd a b * (b / Nat.gcd a b)) := by rw [hb']
      _ = (Nat.gcd a b * (a / Nat.gcd a b)) * (b / Nat.gcd a b) := by rw [← Nat.mul_assoc, Nat.mul_comm (a / Nat.gcd a b)]
      _ = a * (b / Nat.gcd a b) := by rw [ha']
  have e2 : 1 ≤ b / Nat.gcd a b := Nat.div_pos (Nat.le_of_dvd hb (Nat.gcd_dvd_right a b)) hg
  have e3 := Nat.div_le_self a (Nat.gcd a b)
  have e4 := Nat.div_le_self b (Nat.gcd a b)
  generalize a / Nat.gcd a b = x at *
  generalize b / Nat.gcd a b = y at *
  refine ⟨?_, ?_, ?_, ?_, ?_, ?_⟩
  · show (x : Int) * b = a * y; exact_mod_cast e1
  · show (0 : Int) ≤ x; omega
  · show (1 : Int) ≤ y; omega
  · show (x : Int) ≤ a; omega
  · show (y : Int) ≤ b; omega
  · show Nat.gcd ((x : Int)).natAbs ((y : Int)).natAbs = 1; exact hco
/-- Fractions in lowest terms that are as great are the same. -/
theorem low_uniq {a b c d : Int} (ha : 0 ≤ a) (hb : 1 ≤ b) (hc : 0 ≤ c) (hd : 1 ≤ d) (h1 : Nat.gcd a.natAbs b.natAbs = 1) (h2 : Nat.gcd c.natAbs d.natAbs = 1) (h : a * d = c * b) : a = c ∧ b = d := by
  obtain ⟨A, rfl⟩ : ∃ A : Nat, a = A := ⟨a.toNat, by omega⟩
  obtain ⟨B, rfl⟩ : ∃ A : Nat, b = A := ⟨b.toNat, by omega⟩
  obtain ⟨C, rfl⟩ : ∃ A : Nat, c = A := ⟨c.toNat, by omega⟩
  obtain ⟨D, rfl⟩ : ∃ A : Nat, d = A := ⟨d.toNat, by omega⟩
  have h : A * D = C * B := by exact_mod_cast h
  simp only [Int.natAbs_natCast] at h1 h2
  have e1 : B ∣ D := by
    have : B ∣ A * D := ⟨C, by rw [h, Nat.mul_comm]⟩
    exact Nat.Coprime.dvd_of_dvd_mul_left (Nat.Coprime.symm h1) this
  have e2 : D ∣ B := by
    have : D ∣ C * B := ⟨A, by rw [← h, Nat.mul_comm]⟩
    exact Nat.Coprime.dvd_of_dvd_mul_left (Nat.Coprime.symm h2) this
  have e : B = D := Nat.dvd_antisymm e1 e2
  subst e
  exact ⟨by have := Nat.eq_of_mul_eq_mul_right (by omega) h; omega, rfl⟩
theorem low_ext {q r : Tw} (hq : GoodQ q) (hr : GoodQ r) (h : q.1 * r.2 = r.1 * q.2) : low q = low r := by
  obtain ⟨a1, a2, a3, _, _, a4⟩ := low_eq hq
  obtain ⟨b1, b2, b3, _, _, b4⟩ := low_eq hr
  have hq2 := hq.den
  have hr2 := hr.den
  have : (low q).1 * (low r).2 = (low r).1 * (low q).2 := by
    have e : ((low q).1 * (low r).2) * (q.2 * r.2) = ((low r).1 * (low q).2) * (q.2 * r.2) := by
      calc ((low q).1 * (low r).2) * (q.2 * r.2) = ((low q).1 * q.2) * (low r).2 * r.2 := by grind
        _ = (q.1 * (low q).2) * (low r).2 * r.2 := by rw [a1]
        _ = (q.1 * r.2) * (low q).2 * (low r).2 := by grind
        _ = (r.1 * q.2) * (low q).2 * (low r).2 := by rw [h]
        _ = (r.1 * (low r).2) * (low q).2 * q.2 := by grind
        _ = ((low r).1 * r.2) * (low q).2 * q.2 := by rw [b1]
        _ = _ := by grind
    exact Int.eq_of_mul_eq_mul_right (Int.ne_of_gt (Int.mul_pos (by omega) (by omega))) e
  have := low_uniq a2 a3 b2 b3 a4 b4 this
  exact Prod.ext this.1 this.2
/-- What is compared. -/
structure Shp (q : Tw) : Prop where
  den : 1 ≤ q.2 ∧ q.2 ≤ 1000000000
  num : 0 ≤ q.1 ∧ q.1 ≤ q.2
def okQ (q : Tw) : Bool := ws q.2 1 1000000000 && ws q.1 0 q.2
theorem okQ_shp {q : Tw} (h : okQ q = true) : Shp q := by
  simp only [okQ, Bool.and_eq_true] at h
  exact ⟨ws_t h.1, ws_t h.2⟩
theorem Shp.good {q : Tw} (h : Shp q) : GoodQ q := ⟨h.num.1, h.den.1⟩
def cmI (x y : Int) : Int := if x < y then -1 else if y < x then 1 else 0
def cmpQ (a b : Tw) : Int := if (okQ a && okQ b) = true then cmI (a.1 * b.2) (b.1 * a.2) else 0
theorem Fit.good {t : Tw} {p : Int} {l : Li} (h : Fit t p l) : GoodQ (max (R06.dd t p l) 0 * max (R06.dd t p l) 0, R06.nrm t p * R06.dir l) := ⟨h.num.1, h.den.1⟩
/-- A shade is one. -/
theorem Fit.shp {t : Tw} {p : Int} {l : Li} (h : Fit t p l) : Shp (shd t p l) ∧ Nat.gcd (shd t p l).1.natAbs (shd t p l).2.natAbs = 1 := by
  obtain ⟨h1, h2, h3, h4, h5, h6⟩ := low_eq h.good
  have h7 := h.den
  have h8 := num_le t p l
  refine ⟨⟨⟨h3, Int.le_trans h5 (by show R06.nrm t p * R06.dir l ≤ _; omega)⟩, h2, ?_⟩, h6⟩
  refine Int.le_of_mul_le_mul_right (a := R06.nrm t p * R06.dir l) ?_ (by omega)
  show (low _).1 * (R06.nrm t p * R06.dir l) ≤ (low _).2 * (R06.nrm t p * R06.dir l)
  have h1 : (shd t p l).1 * (R06.nrm t p * R06.dir l) = max (R06.dd t p l) 0 * max (R06.dd t p l) 0 * (shd t p l).2 := h1
  show (shd t p l).1 * _ ≤ (shd t p l).2 * _
  rw [h1, Int.mul_comm]
  exact Int.mul_le_mul_of_nonneg_left h8 (by show 0 ≤ (low _).2; omega)
/-! ### Compare orders -/
end Go.R06
