import Derived.Test.YtoeijgdkoeofpaaMat06
set_option linter.unusedSectionVars false
set_option linter.unusedSimpArgs false
set_option linter.unusedVariables false
/-! Layer 6: pure mathematics: surfaces, shadows, pictures. -/
namespace Go.R06
set_option linter.unusedVariables false
/-- A surface. -/
structure Su where
  w : Int
  h : Int
  p : Int
  hs : List Int
def okS (s : Su) : Bool := ws s.w 2 24 && (ws s.h 2 24 && (ws s.p 1 100 && (decide ((s.hs.length : Int) = s.w * s.h) && alls s.hs (-100) 100)))
structure GoodS (s : Su) : Prop where
  w : 2 ≤ s.w ∧ s.w ≤ 24
  h : 2 ≤ s.h ∧ s.h ≤ 24
  p : 1 ≤ s.p ∧ s.p ≤ 100
  n : (s.hs.length : Int) = s.w * s.h
  hs : ∀ z ∈ s.hs, -100 ≤ z ∧ z ≤ 100
theorem okS_good {s : Su} (h : okS s = true) : GoodS s := by
  simp only [okS, Bool.and_eq_true] at h
  refine ⟨ws_t h.1, ws_t h.2.1, ws_t h.2.2.1, of_decide_eq_true h.2.2.2.1, fun z hz => ?_⟩
  have := h.2.2.2.2
  unfold alls at this
  exact ws_t (List.all_eq_true.1 this z hz)
theorem good_okS {s : Su} (g : GoodS s) : okS s = true := by
  simp only [okS, Bool.and_eq_true]
  refine ⟨ws_of g.w, ws_of g.h, ws_of g.p, decide_eq_true g.n, ?_⟩
  unfold alls
  exact List.all_eq_true.2 fun z hz => ws_of (g.hs z hz)
def chkS (s : Su) : Int := if okS s = true then 0 else 60
/-- The height of a point. -/
def hg (s : Su) (x y : Int) : Int := s.hs.getD (y * s.w + x).toNat 0
theorem idx_lt {w h x y : Int} (hx : 0 ≤ x ∧ x < w) (hy : 0 ≤ y ∧ y < h) : 0 ≤ y * w + x ∧ y * w + x < w * h := by
  have h1 : 0 ≤ y * w := Int.mul_nonneg hy.1 (by omega)
  have h2 : (y + 1) * w ≤ h * w := Int.mul_le_mul_of_nonneg_right (by omega) (by omega)
  rw [Int.add_mul, Int.one_mul] at h2
  rw [Int.mul_comm w h]
  omega
theorem GoodS.idx {s : Su} (g : GoodS s) {x y : Int} (hx : 0 ≤ x ∧ x < s.w) (hy : 0 ≤ y ∧ y < s.h) : 0 ≤ y * s.w + x ∧ (y * s.w + x).toNat < s.hs.length := by
  have := idx_lt hx hy
  have := g.n
  omega
theorem GoodS.bd {s : Su} (g : GoodS s) (i : Nat) : -100 ≤ s.hs.getD i 0 ∧ s.hs.getD i 0 ≤ 100 := by
  rw [List.getD_eq_getElem?_getD]
  by_cases h : i < s.hs.length
  · rw [List.getElem?_eq_getElem h]; exact g.hs _ (List.getElem_mem _)
  · rw [List.getElem?_eq_none (by omega)]; simp
theorem GoodS.hg {s : Su} (g : GoodS s) (x y : Int) : -100 ≤ hg s x y ∧ hg s x y ≤ 100 := g.bd _
def md (s : Su) (x y : Int) : Int := hg s x y + hg s (x + 1) y + hg s x (y + 1) + hg s (x + 1) (y + 1)
def tl (s : Su) (x y : Int) : Tw := (hg s (x + 1) y + hg s (x + 1) (y + 1) - hg s x y - hg s x (y + 1), hg s x (y + 1) + hg s (x + 1) (y + 1) - hg s x y - hg s (x + 1) y)
theorem GoodS.md {s : Su} (g : GoodS s) (x y : Int) : -400 ≤ md s x y ∧ md s x y ≤ 400 := by
  have h1 := g.hg x y
  have h2 := g.hg (x + 1) y
  have h3 := g.hg x (y + 1)
  have h4 := g.hg (x + 1) (y + 1)
  unfold R06.md; omega
theorem GoodS.tl {s : Su} (g : GoodS s) (x y : Int) : (-400 ≤ (tl s x y).1 ∧ (tl s x y).1 ≤ 400) ∧ (-400 ≤ (tl s x y).2 ∧ (tl s x y).2 ≤ 400) := by
  have h1 := g.hg x y
  have h2 := g.hg (x + 1) y
  have h3 := g.hg x (y + 1)
  have h4 := g.hg (x + 1) (y + 1)
  unfold R06.tl; simp only; omega
theorem GoodS.fit {s : Su} (g : GoodS s) {l : Li} (hl : GoodL l) (x y : Int) : Fit (R06.tl s x y) s.p l := ⟨g.tl x y, g.p, hl⟩
/-- A cell of the surface. -/
def inC (s : Su) (x y : Int) : Bool := ws x 0 (s.w - 2) && ws y 0 (s.h - 2)
theorem inC_t {s : Su} {x y : Int} (h : inC s x y = true) : (0 ≤ x ∧ x ≤ s.w - 2) ∧ (0 ≤ y ∧ y ≤ s.h - 2) := by
  simp only [inC, Bool.and_eq_true] at h
  exact ⟨ws_t h.1, ws_t h.2⟩
theorem inC_of {s : Su} {x y : Int} (h : (0 ≤ x ∧ x ≤ s.w - 2) ∧ (0 ≤ y ∧ y ≤ s.h - 2)) : inC s x y = true := by
  simp only [inC, Bool.and_eq_true]
  exact ⟨ws_of h.1, ws_of h.2⟩
/-- What the light's sides have in common. -/
def gl (l : Li) : Int := (Nat.gcd l.x.natAbs l.y.natAbs : Nat)
def sx (l : Li) : Int := l.x / gl l
def sy (l : Li) : Int := l.y / gl l
theorem gl_dvd (l : Li) : gl l ∣ l.x ∧ gl l ∣ l.y := by
  unfold gl
  exact ⟨Int.ofNat_dvd_left.2 (Nat.gcd_dvd_left _ _), Int.ofNat_dvd_left.2 (Nat.gcd_dvd_right _ _)⟩
theorem gl_zero (l : Li) : gl l = 0 ↔ l.x = 0 ∧ l.y = 0 := by
  unfold gl
  rw [Int.natCast_eq_zero, Nat.gcd_eq_zero_iff, Int.natAbs_eq_zero, Int.natAbs_eq_zero]
theorem gl_nn (l : Li) : 0 ≤ gl l := Int.natCast_nonneg _
theorem gl_le {l : Li} (g : GoodL l) : gl l ≤ 30 := by
  unfold gl
  by_cases hx : l.x = 0
  · by_cases hy : l.y = 0
    · rw [hx, hy]; decide
    · have := Nat.le_of_dvd (by omega) (Nat.gcd_dvd_right l.x.natAbs l.y.natAbs)
      have := g.y; omega
  · have := Nat.le_of_dvd (by omega) (Nat.gcd_dvd_left l.x.natAbs l.y.natAbs)
    have := g.x; omega
theorem sx_mul (l : Li) : sx l * gl l = l.x := Int.ediv_mul_cancel (gl_dvd l).1
theorem sy_mul (l : Li) : sy l * gl l = l.y := Int.ediv_mul_cancel (gl_dvd l).2
theorem sx_bd {l : Li} (g : GoodL l) : -30 ≤ sx l ∧ sx l ≤ 30 := by
  have h := sx_mul l
  have h0 := gl_nn l
  have hx := g.x
  by_cases hz : gl l = 0
  · unfold sx; rw [hz, Int.ediv_zero]; omega
  · have h1 : 1 ≤ gl l := by omega
    have n := congrArg Int.natAbs h
    rw [Int.natAbs_mul] at n
    have : (sx l).natAbs * 1 ≤ (sx l).natAbs * (gl l).natAbs := Nat.mul_le_mul_left _ (by omega)
    omega
theorem sy_bd {l : Li} (g : GoodL l) : -30 ≤ sy l ∧ sy l ≤ 30 := by
  have h := sy_mul l
  have h0 := gl_nn l
  have hx := g.y
  by_cases hz : gl l = 0
  · unfold sy; rw [hz, Int.ediv_zero]; omega
  · have h1 : 1 ≤ gl l := by omega
    have n := congrArg Int.natAbs h
    rw [Int.natAbs_mul] at n
    have : (sy l).natAbs * 1 ≤ (sy l).natAbs * (gl l).natAbs := Nat.mul_le_mul_left _ (by omega)
    omega
theorem st_ne {l : Li} (h : gl l ≠ 0) : sx l ≠ 0 ∨ sy l ≠ 0 := by
  by_cases hx : sx l = 0
  · right
    intro hy
    have h1 := sx_mul l
    have h2 := sy_mul l
    rw [hx, Int.zero_mul] at h1
    rw [hy, Int.zero_mul] at h2
    exact h ((gl_zero l).2 ⟨h1.symm, h2.symm⟩)
  · left; exact hx
/-- Whether the cell that is k steps away hides the lamp. -/
def dkA (s : Su) (l : Li) (x y : Int) (k : Int) : Bool := inC s (x + k * sx l) (y + k * sy l) && decide (4 * k * s.p * l.z < gl l * (md s (x + k * sx l) (y + k * sy l) - md s x y))
/-- From k steps on. -/
def dkF (s : Su) (l : Li) (x y : Int) : Nat → Nat → Bool
  | _, 0 => false
  | k, n + 1 => dkA s l x y k || dkF s l x y (k + 1) n
def dk (s : Su) (l : Li) (x y : Int) : Bool := (gl l != 0) && dkF s l x y 1 23
theorem dkF_iff (s : Su) (l : Li) (x y : Int) : ∀ n k, dkF s l x y k n = true ↔ ∃ j : Nat, k ≤ j ∧ j < k + n ∧ dkA s l x y j = true
  | 0, k => by simp [dkF]; intro j h1 h2; omega
  | n + 1, k => by
    rw [dkF, Bool.or_eq_true, dkF_iff s l x y n (k + 1)]
    constructor
    · rintro (h | ⟨j, h1, h2, h3⟩)
      · exact ⟨k, Nat.le_refl _, by omega, h⟩
      · exact ⟨j, by omega, by omega, h3⟩
    · rintro ⟨j, h1, h2, h3⟩
      by_cases e : k = j
      · subst e; exact .inl h3
      · exact .inr ⟨j, by omega, by omega, h3⟩
theorem dk_iff (s : Su) (l : Li) (x y : Int) : dk s l x y = true ↔ gl l ≠ 0 ∧ ∃ j : Nat, 1 ≤ j ∧ j ≤ 23 ∧ dkA s l x y j = true := by
  unfold dk
  rw [Bool.and_eq_true, bne_iff_ne, dkF_iff]
  constructor
  · rintro ⟨h, j, h1, h2, h3⟩; exact ⟨h, j, h1, by omega, h3⟩
  · rintro ⟨h, j, h1, h2, h3⟩; exact ⟨h, j, h1, by omega, h3⟩
/-- Between the start and a cell of the surface there are cells. -/
theorem ray_in {a b c : Int} {k j : Nat} (hkj : k ≤ j) (h0 : 0 ≤ a ∧ a ≤ c) (hj : 0 ≤ a + j * b ∧ a + j * b ≤ c) : 0 ≤ a + k * b ∧ a + k * b ≤ c := by
  rcases Int.le_total 0 b with hb | hb
  · have m1 : (k : Int) * b ≤ j * b := Int.mul_le_mul_of_nonneg_right (by omega) hb
    have m2 : 0 ≤ (k : Int) * b := Int.mul_nonneg (by omega) hb
    omega
  · have m1 : (j : Int) * b ≤ k * b := Int.mul_le_mul_of_nonpos_right (by omega) hb
    have m2 : (k : Int) * b ≤ 0 := Int.mul_nonpos_of_nonneg_of_nonpos (by omega) hb
    omega
theorem out_on {s : Su} {l : Li} {x y : Int} (hc : inC s x y = true) {k j : Nat} (hkj : k ≤ j) (ho : inC s (x + k * sx l) (y + k * sy l) = false) : dkA s l x y j = false := by
  cases h : dkA s l x y j with
  | false => rfl
  | true =>
    exfalso
    unfold dkA at h
    rw [Bool.and_eq_true] at h
    have h1 := inC_t h.1
    have h0 := inC_t hc
    have : inC s (x + k * sx l) (y + k * sy l) = true := inC_of ⟨ray_in hkj h0.1 h1.1, ray_in hkj h0.2 h1.2⟩
    rw [ho] at this; cases this
theorem dkF_out {s : Su} {l : Li} {x y : Int} (hc : inC s x y = true) {k n : Nat} (ho : inC s (x + k * sx l) (y + k * sy l) = false) : dkF s l x y k n = false := by
  cases h : dkF s l x y k n with
  | false => rfl
  | true =>
    obtain ⟨j, h1, h2, h3⟩ := (dkF_iff s l x y n k).1 h
    rw [out_on hc h1 ho] at h3; cases h3
/-- 24 steps lead out of the surface. -/
theorem far_out {s : Su} (g : GoodS s) {l : Li} {x y : Int} (hc : inC s x y = true) (hne : gl l ≠ 0) {k : Nat} (hk : 24 ≤ k) : inC s (x + k * sx l) (y + k * sy l) = false := by
  have h0 := inC_t hc
  have hw := g.w
  have hh := g.h
  have step : ∀ b : Int, b ≠ 0 → (k : Int) * b ≤ -24 ∨ 24 ≤ (k : Int) * b := fun b hb => by
    rcases Int.lt_or_gt_of_ne hb with h | h
    · left
      have : (k : Int) * b ≤ k * (-1) := Int.mul_le_mul_of_nonneg_left (by omega) (by omega)
      omega
    · right
      have : (k : Int) * 1 ≤ k * b := Int.mul_le_mul_of_nonneg_left (by omega) (by omega)
      omega
  cases h : inC s (x + k * sx l) (y + k * sy l) with
  | false => rfl
  | true =>
    exfalso
    have h1 := inC_t h
    rcases st_ne hne with hb | hb
    · rcases step _ hb with h2 | h2 <;> omega
    · rcases step _ hb with h2 | h2 <;> omega
/-! ### lists of what the facets give -/
def nC (s : Su) : Nat := ((s.w - 1) * (s.h - 1)).toNat
def fmN (w : Nat) {α : Type} (f : Int → Int → α) (n : Nat) : List α := (List.range n).map fun i => f ((i % w : Nat) : Int) ((i / w : Nat) : Int)
def fm (s : Su) {α : Type} (f : Int → Int → α) : List α := fmN (s.w - 1).toNat f (nC s)
theorem fmN_len (w : Nat) {α : Type} (f : Int → Int → α) (n : Nat) : (fmN w f n).length = n := by simp [fmN]
theorem fmN_succ (w : Nat) {α : Type} (f : Int → Int → α) (n : Nat) : fmN w f (n + 1) = fmN w f n ++ [f ((n % w : Nat) : Int) ((n / w : Nat) : Int)] := by
  simp [fmN, List.range_succ]
theorem at_cell {w x y : Nat} (hx : x < w) : (y * w + x) % w = x ∧ (y * w + x) / w = y := by
  constructor
  · rw [Nat.add_comm, Nat.add_mul_mod_self_right, Nat.mod_eq_of_lt hx]
  · rw [Nat.add_comm, Nat.add_mul_div_right _ _ (by omega), Nat.div_eq_of_lt hx, Nat.zero_add]
theorem fmN_at (w : Nat) {α : Type} (f : Int → Int → α) {x y : Nat} (hx : x < w) : fmN w f (y * w + x + 1) = fmN w f (y * w + x) ++ [f x y] := by
  rw [fmN_succ, (at_cell hx).1, (at_cell hx).2]
theorem fmN_get (w : Nat) {α : Type} (f : Int → Int → α) {n i : Nat} (h : i < n) (d : α) : (fmN w f n).getD i d = f ((i % w : Nat) : Int) ((i / w : Nat) : Int) := by
  simp [fmN, List.getD_eq_getElem?_getD, h]
theorem GoodS.nC {s : Su} (g : GoodS s) : ((nC s : Nat) : Int) = (s.w - 1) * (s.h - 1) ∧ nC s ≤ 529 ∧ 1 ≤ nC s ∧ nC s = (s.h - 1).toNat * (s.w - 1).toNat := by
  have h1 := mul1 (a := s.w - 1) (b := s.h - 1) (by have := g.w; omega) (by have := g.h; omega)
  have h2 := (mulb (A := 23) (B := 23) (a := s.w - 1) (b := s.h - 1) (by have := g.w; omega) (by have := g.h; omega)).2
  unfold R06.nC
  refine ⟨by omega, by omega, by omega, ?_⟩
  rw [Int.toNat_mul (by have := g.w; omega) (by have := g.h; omega), Nat.mul_comm]
/-- The cell with an index. -/
theorem GoodS.cell {s : Su} (g : GoodS s) {i : Nat} (h : i < R06.nC s) : inC s ((i % (s.w - 1).toNat : Nat) : Int) ((i / (s.w - 1).toNat : Nat) : Int) = true := by
  have hw := g.w
  have hh := g.h
  have hn := g.nC.2.2.2
  have m := Nat.mod_lt i (show (s.w - 1).toNat > 0 by omega)
  have d : i / (s.w - 1).toNat < (s.h - 1).toNat := Nat.div_lt_of_lt_mul (by rw [Nat.mul_comm]; omega)
  generalize i % (s.w - 1).toNat = a at *
  generalize i / (s.w - 1).toNat = b at *
  exact inC_of ⟨by omega, by omega⟩
theorem GoodS.index {s : Su} (g : GoodS s) {x y : Nat} (hx : (x : Int) < s.w - 1) (hy : (y : Int) < s.h - 1) : y * (s.w - 1).toNat + x < R06.nC s := by
  rw [g.nC.2.2.2]
  have : (y + 1) * (s.w - 1).toNat ≤ (s.h - 1).toNat * (s.w - 1).toNat := Nat.mul_le_mul_right _ (by omega)
  rw [Nat.add_mul, Nat.one_mul] at this
  omega
def fac (s : Su) : List Tw := fm s (tl s)
def shw (s : Su) (l : Li) : List Bool := fm s (dk s l)
def sh1 (s : Su) (l : Li) (x y : Int) : Tw := if dk s l x y = true then (0, 1) else shd (tl s x y) s.p l
def pic (s : Su) (l : Li) : List Tw := fm s (sh1 s l)
theorem sh1_shp {s : Su} (g : GoodS s) {l : Li} (hl : GoodL l) (x y : Int) : Shp (sh1 s l x y) ∧ Nat.gcd (sh1 s l x y).1.natAbs (sh1 s l x y).2.natAbs = 1 := by
  unfold sh1
  split
  · exact ⟨⟨by constructor <;> decide, by constructor <;> decide⟩, by decide⟩
  · exact (g.fit hl x y).shp
theorem pic_shp {s : Su} (g : GoodS s) {l : Li} (hl : GoodL l) : ∀ q ∈ pic s l, Shp q := by
  intro q hq
  unfold pic fm fmN at hq
  rw [List.mem_map] at hq
  obtain ⟨i, _, rfl⟩ := hq
  exact (sh1_shp g hl _ _).1
/-- The level of a shade. -/
def lvl (n : Int) (q : Tw) : Int := min (n * q.1 / q.2) (n - 1)
def chkP (s : Su) (l : Li) : Int := if okS s = true then chkL l else 60
def lvls (s : Su) (l : Li) (n : Int) : List Int := (pic s l).map (lvl n)
def chkV (s : Su) (l : Li) (n : Int) : Int := if chkP s l = 0 then (if ws n 1 256 = true then 0 else 2) else chkP s l
end Go.R06
