import Derived.Test.YtoeijgdkoeofpaaMat06
set_option linter.unusedSectionVars false
set_option linter.unusedSimpArgs false
set_option linter.unusedVariables false
/-! Layer 6: pure mathematics: surfaces, shadows, pictures. -/
namespace Go.R06
set_option linter.unusedVariables false
/-- A surface. -/
structure Su where
  w : Int
  h : Int
  p : Int
  hs : List Int
def okS (s : Su) : Bool := ws s.w 2 24 && (ws s.h 2 24 && (ws s.p 1 100 && (decide ((s.hs.length : Int) = s.w * s.h) && alls s.hs (-100) 100)))
structure GoodS (s : Su) : Prop where
  w : 2 ≤ s.w ∧ s.w ≤ 24
  h : 2 ≤ s.h ∧ s.h ≤ 24
  p : 1 ≤ s.p ∧ s.p ≤ 100
  n : (s.hs.length : Int) = s.w * s.h
  hs : ∀ z ∈ s.hs, -100 ≤ z ∧ z ≤ 100
theorem okS_good {s : Su} (h : okS s = true) : GoodS s := by
  simp only [okS, Bool.and_eq_true] at h
  refine ⟨ws_t h.1, ws_t h.2.1, ws_t h.2.2.1, of_decide_eq_true h.2.2.2.1, fun z hz => ?_⟩
  have := h.2.2.2.2
  unfold alls at this
  exact ws_t (List.all_eq_true.1 this z hz)
def chkS (s : Su) : Int := if okS s = true then 0 else 60
/-- The height of a point. -/
def hg (s : Su) (x y : Int) : Int := s.hs.getD (y * s.w + x).toNat 0
theorem idx_lt {w h x y : Int} (hx : 0 ≤ x ∧ x < w) (hy : 0 ≤ y ∧ y < h) : 0 ≤ y * w + x ∧ y * w + x < w * h := by
  have h1 : 0 ≤ y * w := Int.mul_nonneg hy.1 (by omega)
  have h2 : (y + 1) * w ≤ h * w := Int.mul_le_mul_of_nonneg_right (by omega) (by omega)
  rw [Int.add_mul, Int.one_mul] at h2
  rw [Int.mul_comm w h]
  omega
theorem GoodS.idx {s : Su} (g : GoodS s) {x y : Int} (hx : 0 ≤ x ∧ x < s.w) (hy : 0 ≤ y ∧ y < s.h) : 0 ≤ y * s.w + x ∧ (y * s.w + x).toNat < s.hs.length := by
  have := idx_lt hx hy
  have := g.n
  omega
theorem GoodS.bd {s : Su} (g : GoodS s) (i : Nat) : -100 ≤ s.hs.getD i 0 ∧ s.hs.getD i 0 ≤ 100 := by
  rw [List.getD_eq_getElem?_getD]
  by_cases h : i < s.hs.length
  · rw [List.getElem?_eq_getElem h]; exact g.hs _ (List.getElem_mem _)
  · rw [List.getElem?_eq_none (by omega)]; simp
theorem GoodS.hg {s : Su} (g : GoodS s) (x y : Int) : -100 ≤ hg s x y ∧ hg s x y ≤ 100 := g.bd _
def tl (s : Su) (x y : Int) : Tw := (hg s (x + 1) y + hg s (x + 1) (y + 1) - hg s x y - hg s x (y + 1), hg s x (y + 1) + hg s (x + 1) (y + 1) - hg s x y - hg s (x + 1) y)
theorem GoodS.tl {s : Su} (g : GoodS s) (x y : Int) : (-400 ≤ (tl s x y).1 ∧ (tl s x y).1 ≤ 400) ∧ (-400 ≤ (tl s x y).2 ∧ (tl s x y).2 ≤ 400) := by
  have h1 := g.hg x y
  have h2 := g.hg (x + 1) y
  have h3 := g.hg x (y + 1)
  have h4 := g.hg (x + 1) (y + 1)
  unfold R06.tl; simp only; omega
/-- A cell of the surface. -/
def inC (s : Su) (x y : Int) : Bool := ws x 0 (s.w - 2) && ws y 0 (s.h - 2)
theorem inC_t {s : Su} {x y : Int} (h : inC s x y = true) : (0 ≤ x ∧ x ≤ s.w - 2) ∧ (0 ≤ y ∧ y ≤ s.h - 2) := by
  simp only [inC, Bool.and_eq_true] at h
  exact ⟨ws_t h.1, ws_t h.2⟩
theorem inC_of {s : Su} {x y : Int} (h : (0 ≤ x ∧ x ≤ s.w - 2) ∧ (0 ≤ y ∧ y ≤ s.h - 2)) : inC s x y = true := by
  simp only [inC, Bool.and_eq_true]
  exact ⟨ws_of h.1, ws_of h.2⟩
/-! ### lists of what the facets give -/
def nC (s : Su) : Nat := ((s.w - 1) * (s.h - 1)).toNat
def fmN (w : Nat) {α : Type} (f : Int → Int → α) (n : Nat) : List α := (List.range n).map fun i => f ((i % w : Nat) : Int) ((i / w : Nat) : Int)
def fm (s : Su) {α : Type} (f : Int → Int → α) : List α := fmN (s.w - 1).toNat f (nC s)
theorem fmN_len (w : Nat) {α : Type} (f : Int → Int → α) (n : Nat) : (fmN w f n).length = n := by simp [fmN]
theorem fmN_succ (w : Nat) {α : Type} (f : Int → Int → α) (n : Nat) : fmN w f (n + 1) = fmN w f n ++ [f ((n % w : Nat) : Int) ((n / w : Nat) : Int)] := by
  simp [fmN, List.range_succ]
theorem at_cell {w x y : Nat} (hx : x < w) : (y * w + x) % w = x ∧ (y * w + x) / w = y := by
  constructor
  · rw [Nat.add_comm, Nat.add_mul_mod_self_right, Nat.mod_eq_of_lt hx]
  · rw [Nat.add_comm, Nat.add_mul_div_right _ _ (by omega), Nat.div_eq_of_lt hx, Nat.zero_add]
theorem fmN_at (w : Nat) {α : Type} (f : Int → Int → α) {x y : Nat} (hx : x < w) : fmN w f (y * w + x + 1) = fmN w f (y * w + x) ++ [f x y] := by
  rw [fmN_succ, (at_cell hx).1, (at_cell hx).2]
theorem GoodS.nC {s : Su} (g : GoodS s) : ((nC s : Nat) : Int) = (s.w - 1) * (s.h - 1) ∧ nC s ≤ 529 ∧ 1 ≤ nC s ∧ nC s = (s.h - 1).toNat * (s.w - 1).toNat := by
  have h1 := mul1 (a := s.w - 1) (b := s.h - 1) (by have := g.w; omega) (by have := g.h; omega)
  have h2 := (mulb (A := 23) (B := 23) (a := s.w - 1) (b := s.h - 1) (by have := g.w; omega) (by have := g.h; omega)).2
  unfold R06.nC
  refine ⟨by omega, by omega, by omega, ?_⟩
  rw [Int.toNat_mul (by have := g.w; omega) (by have := g.h; omega), Nat.mul_comm]
/-- The cell with an index. -/
theorem GoodS.cell {s : Su} (g : GoodS s) {i : Nat} (h : i < R06.nC s) : inC s ((i % (s.w - 1).toNat : Nat) : Int) ((i / (s.w - 1).toNat : Nat) : Int) = true := by
  have hw := g.w
  have hh := g.h
  have hn := g.nC.2.2.2
  have m := Nat.mod_lt i (show (s.w - 1).toNat > 0 by omega)
  have d : i / (s.w - 1).toNat < (s.h - 1).toNat := Nat.div_lt_of_lt_mul (by rw [Nat.mul_comm]; omega)
  generalize i % (s.w - 1).toNat = a at *
  generalize i / (s.w - 1).toNat = b at *
  exact inC_of ⟨by omega, by omega⟩
def fac (s : Su) : List Tw := fm s (tl s)
end Go.R06
