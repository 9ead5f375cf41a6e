import Derived.Test.YtoeijgdkoeofpaaMat06b
set_option linter.unusedSectionVars false
set_option linter.unusedSimpArgs false
set_option linter.unusedVariables false
/-! Layer 6: pure mathematics: what is turned, mirrored or raised; higher lights; flat surfaces. -/
namespace Go.R06
set_option linter.unusedVariables false
/-- Turned by a quarter, and mirrored. -/
def turS (s : Su) (mir : Bool) : Su := if mir then ⟨s.w, s.h, s.p, (List.range (s.w * s.h).toNat).map fun (j : Nat) => hg s (s.w - 1 - (j % s.w.toNat : Nat)) ((j / s.w.toNat : Nat) : Int)⟩
  else ⟨s.h, s.w, s.p, (List.range (s.w * s.h).toNat).map fun (j : Nat) => hg s ((j / s.h.toNat : Nat) : Int) (s.h - 1 - (j % s.h.toNat : Nat))⟩
def turL (l : Li) (mir : Bool) : Li := if mir then ⟨-l.x, l.y, l.z⟩ else ⟨-l.y, l.x, l.z⟩
theorem hg_tur {s : Su} (g : GoodS s) {x y : Int} (hx : 0 ≤ x ∧ x < s.h) (hy : 0 ≤ y ∧ y < s.w) : hg (turS s false) x y = hg s y (s.h - 1 - x) := by
  have hi := idx_lt hx hy
  rw [Int.mul_comm s.h s.w] at hi
  obtain ⟨X, rfl⟩ : ∃ n : Nat, x = n := ⟨x.toNat, by omega⟩
  obtain ⟨Y, rfl⟩ : ∃ n : Nat, y = n := ⟨y.toNat, by omega⟩
  obtain ⟨H, hH⟩ : ∃ n : Nat, s.h = n := ⟨s.h.toNat, by omega⟩
  have e : ((Y : Int) * s.h + X).toNat = Y * H + X := by
    rw [hH, ← Int.natCast_mul, ← Int.natCast_add, Int.toNat_natCast]
  have hlt : Y * H + X < (s.w * s.h).toNat := by rw [← e]; omega
  have hc := at_cell (w := H) (x := X) (y := Y) (by omega)
  show (List.map _ _).getD ((Y : Int) * s.h + X).toNat 0 = _
  rw [e, List.getD_eq_getElem?_getD, List.getElem?_map, List.getElem?_range hlt]
  show hg s (((Y * H + X) / s.h.toNat : Nat) : Int) (s.h - 1 - ((Y * H + X) % s.h.toNat : Nat)) = _
  have hHn : s.h.toNat = H := by omega
  rw [hHn, hc.1, hc.2]
theorem hg_mir {s : Su} (g : GoodS s) {x y : Int} (hx : 0 ≤ x ∧ x < s.w) (hy : 0 ≤ y ∧ y < s.h) : hg (turS s true) x y = hg s (s.w - 1 - x) y := by
  have hi := idx_lt hx hy
  obtain ⟨X, rfl⟩ : ∃ n : Nat, x = n := ⟨x.toNat, by omega⟩
  obtain ⟨Y, rfl⟩ : ∃ n : Nat, y = n := ⟨y.toNat, by omega⟩
  obtain ⟨H, hH⟩ : ∃ n : Nat, s.w = n := ⟨s.w.toNat, by omega⟩
  have e : ((Y : Int) * s.w + X).toNat = Y * H + X := by
    rw [hH, ← Int.natCast_mul, ← Int.natCast_add, Int.toNat_natCast]
  have hlt : Y * H + X < (s.w * s.h).toNat := by rw [← e]; omega
  have hc := at_cell (w := H) (x := X) (y := Y) (by omega)
  show (List.map _ _).getD ((Y : Int) * s.w + X).toNat 0 = _
  rw [e, List.getD_eq_getElem?_getD, List.getElem?_map, List.getElem?_range hlt]
  show hg s (s.w - 1 - ((Y * H + X) % s.w.toNat : Nat)) (((Y * H + X) / s.w.toNat : Nat) : Int) = _
  have hHn : s.w.toNat = H := by omega
  rw [hHn, hc.1, hc.2]
theorem turS_good {s : Su} (g : GoodS s) (mir : Bool) : GoodS (turS s mir) := by
  have h0 : 0 ≤ s.w * s.h := Int.mul_nonneg (by have := g.w; omega) (by have := g.h; omega)
  cases mir
  · refine ⟨g.h, g.w, g.p, ?_, fun z hz => ?_⟩
    · show ((List.map _ _).length : Int) = s.h * s.w
      rw [List.length_map, List.length_range, Int.mul_comm s.h]; omega
    · obtain ⟨j, _, rfl⟩ := List.mem_map.1 hz
      exact g.hg _ _
  · refine ⟨g.w, g.h, g.p, ?_, fun z hz => ?_⟩
    · show ((List.map _ _).length : Int) = s.w * s.h
      rw [List.length_map, List.length_range]; omega
    · obtain ⟨j, _, rfl⟩ := List.mem_map.1 hz
      exact g.hg _ _
theorem turL_good {l : Li} (g : GoodL l) (mir : Bool) : GoodL (turL l mir) := by
  have h1 := g.x
  have h2 := g.y
  cases mir
  · exact ⟨by show -30 ≤ -l.y ∧ -l.y ≤ 30; omega, h1, g.z⟩
  · exact ⟨by show -30 ≤ -l.x ∧ -l.x ≤ 30; omega, h2, g.z⟩
theorem md_tur {s : Su} (g : GoodS s) {x y : Int} (hx : 0 ≤ x ∧ x ≤ s.h - 2) (hy : 0 ≤ y ∧ y ≤ s.w - 2) : md (turS s false) x y = md s y (s.h - 2 - x) ∧ tl (turS s false) x y = (-(tl s y (s.h - 2 - x)).2, (tl s y (s.h - 2 - x)).1) := by
  have a1 := hg_tur g (x := x) (y := y) (by omega) (by omega)
  have a2 := hg_tur g (x := x + 1) (y := y) (by omega) (by omega)
  have a3 := hg_tur g (x := x) (y := y + 1) (by omega) (by omega)
  have a4 := hg_tur g (x := x + 1) (y := y + 1) (by omega) (by omega)
  have e1 : s.h - 1 - x = s.h - 2 - x + 1 := by omega
  have e2 : s.h - 1 - (x + 1) = s.h - 2 - x := by omega
  rw [e1] at a1 a3
  rw [e2] at a2 a4
  unfold md tl
  rw [a1, a2, a3, a4]
  constructor
  · omega
  · refine Prod.ext ?_ ?_ <;> simp only <;> omega
theorem md_mir {s : Su} (g : GoodS s) {x y : Int} (hx : 0 ≤ x ∧ x ≤ s.w - 2) (hy : 0 ≤ y ∧ y ≤ s.h - 2) : md (turS s true) x y = md s (s.w - 2 - x) y ∧ tl (turS s true) x y = (-(tl s (s.w - 2 - x) y).1, (tl s (s.w - 2 - x) y).2) := by
  have a1 := hg_mir g (x := x) (y := y) (by omega) (by omega)
  have a2 := hg_mir g (x := x + 1) (y := y) (by omega) (by omega)
  have a3 := hg_mir g (x := x) (y := y + 1) (by omega) (by omega)
  have a4 := hg_mir g (x := x + 1) (y := y + 1) (by omega) (by omega)
  have e1 : s.w - 1 - x = s.w - 2 - x + 1 := by omega
  have e2 : s.w - 1 - (x + 1) = s.w - 2 - x := by omega
  rw [e1] at a1 a3
  rw [e2] at a2 a4
  unfold md tl
  rw [a1, a2, a3, a4]
  constructor
  · omega
  · refine Prod.ext ?_ ?_ <;> simp only <;> omega
theorem gl_tur (l : Li) (mir : Bool) : gl (turL l mir) = gl l := by
  cases mir
  · show ((Nat.gcd (-l.y).natAbs l.x.natAbs : Nat) : Int) = (Nat.gcd l.x.natAbs l.y.natAbs : Nat)
    rw [Int.natAbs_neg, Nat.gcd_comm]
  · show ((Nat.gcd (-l.x).natAbs l.y.natAbs : Nat) : Int) = (Nat.gcd l.x.natAbs l.y.natAbs : Nat)
    rw [Int.natAbs_neg]
theorem st_tur (l : Li) : sx (turL l false) = -sy l ∧ sy (turL l false) = sx l := by
  constructor
  · show -l.y / gl (turL l false) = -(l.y / gl l)
    rw [gl_tur, Int.neg_ediv_of_dvd (gl_dvd l).2]
  · show l.x / gl (turL l false) = l.x / gl l
    rw [gl_tur]
theorem st_mir (l : Li) : sx (turL l true) = -sx l ∧ sy (turL l true) = sy l := by
  constructor
  · show -l.x / gl (turL l true) = -(l.x / gl l)
    rw [gl_tur, Int.neg_ediv_of_dvd (gl_dvd l).1]
  · show l.y / gl (turL l true) = l.y / gl l
    rw [gl_tur]
theorem dkA_tur {s : Su} (g : GoodS s) (l : Li) {x y : Int} (hx : 0 ≤ x ∧ x ≤ s.h - 2) (hy : 0 ≤ y ∧ y ≤ s.w - 2) (k : Int) : dkA (turS s false) (turL l false) x y k = dkA s l y (s.h - 2 - x) k := by
  unfold dkA
  rw [(st_tur l).1, (st_tur l).2, gl_tur]
  have e : k * -sy l = -(k * sy l) := Int.mul_neg _ _
  rw [e]
  have hin : inC (turS s false) (x + -(k * sy l)) (y + k * sx l) = inC s (y + k * sx l) (s.h - 2 - x + k * sy l) := by
    rw [Bool.eq_iff_iff]
    constructor
    · intro h; have h := inC_t h
      have h : (0 ≤ x + -(k * sy l) ∧ x + -(k * sy l) ≤ s.h - 2) ∧ (0 ≤ y + k * sx l ∧ y + k * sx l ≤ s.w - 2) := h
      exact inC_of ⟨h.2, by omega⟩
    · intro h; have h := inC_t h
      exact inC_of ⟨by show 0 ≤ x + -(k * sy l) ∧ x + -(k * sy l) ≤ s.h - 2; omega, h.1⟩
  rw [hin]
  cases hc : inC s (y + k * sx l) (s.h - 2 - x + k * sy l) with
  | false => rfl
  | true =>
    have h := inC_t hc
    rw [(md_tur g (x := x + -(k * sy l)) (y := y + k * sx l) (by omega) h.1).1, (md_tur g hx hy).1, show s.h - 2 - (x + -(k * sy l)) = s.h - 2 - x + k * sy l by omega]
    rfl
theorem dkA_mir {s : Su} (g : GoodS s) (l : Li) {x y : Int} (hx : 0 ≤ x ∧ x ≤ s.w - 2) (hy : 0 ≤ y ∧ y ≤ s.h - 2) (k : Int) : dkA (turS s true) (turL l true) x y k = dkA s l (s.w - 2 - x) y k := by
  unfold dkA
  rw [(st_mir l).1, (st_mir l).2, gl_tur]
  have e : k * -sx l = -(k * sx l) := Int.mul_neg _ _
  rw [e]
  have hin : inC (turS s true) (x + -(k * sx l)) (y + k * sy l) = inC s (s.w - 2 - x + k * sx l) (y + k * sy l) := by
    rw [Bool.eq_iff_iff]
    constructor
    · intro h; have h := inC_t h
      have h : (0 ≤ x + -(k * sx l) ∧ x + -(k * sx l) ≤ s.w - 2) ∧ (0 ≤ y + k * sy l ∧ y + k * sy l ≤ s.h - 2) := h
      exact inC_of ⟨by omega, h.2⟩
    · intro h; have h := inC_t h
      exact inC_of ⟨by show 0 ≤ x + -(k * sx l) ∧ x + -(k * sx l) ≤ s.w - 2; omega, h.2⟩
  rw [hin]
  cases hc : inC s (s.w - 2 - x + k * sx l) (y + k * sy l) with
  | false => rfl
  | true =>
    have h := inC_t hc
    rw [(md_mir g (x := x + -(k * sx l)) (y := y + k * sy l) (by omega) h.2).1, (md_mir g hx hy).1, show s.w - 2 - (x + -(k * sx l)) = s.w - 2 - x + k * sx l by omega]
    rfl
theorem dk_ext {s t : Su} {l m : Li} {x y u v : Int} (hg : gl l = gl m) (h : ∀ k : Nat, dkA s l x y k = dkA t m u v k) : dk s l x y = dk t m u v := by
  rw [Bool.eq_iff_iff, dk_iff, dk_iff, hg]
  simp only [h]
/-- What is turned or mirrored looks so. -/
theorem dk_tur {s : Su} (g : GoodS s) (l : Li) {x y : Int} (hx : 0 ≤ x ∧ x ≤ s.h - 2) (hy : 0 ≤ y ∧ y ≤ s.w - 2) : dk (turS s false) (turL l false) x y = dk s l y (s.h - 2 - x) :=
  dk_ext (gl_tur l false) fun k => dkA_tur g l hx hy k
theorem dk_mir {s : Su} (g : GoodS s) (l : Li) {x y : Int} (hx : 0 ≤ x ∧ x ≤ s.w - 2) (hy : 0 ≤ y ∧ y ≤ s.h - 2) : dk (turS s true) (turL l true) x y = dk s l (s.w - 2 - x) y :=
  dk_ext (gl_tur l true) fun k => dkA_mir g l hx hy k
theorem shd_tur (t : Tw) (p : Int) (l : Li) : shd (-t.2, t.1) p (turL l false) = shd t p l := by
  unfold shd
  have e1 : dd (-t.2, t.1) p (turL l false) = dd t p l := by
    show 2 * p * l.z - -l.y * -t.2 - l.x * t.1 = 2 * p * l.z - l.x * t.1 - l.y * t.2
    rw [Int.neg_mul_neg]; omega
  have e2 : nrm (-t.2, t.1) p = nrm t p := by
    show -t.2 * -t.2 + t.1 * t.1 + 4 * p * p = t.1 * t.1 + t.2 * t.2 + 4 * p * p
    rw [Int.neg_mul_neg]; omega
  have e3 : dir (turL l false) = dir l := by
    show -l.y * -l.y + l.x * l.x + l.z * l.z = l.x * l.x + l.y * l.y + l.z * l.z
    rw [Int.neg_mul_neg]; omega
  rw [e1, e2, e3]
theorem shd_mir (t : Tw) (p : Int) (l : Li) : shd (-t.1, t.2) p (turL l true) = shd t p l := by
  unfold shd
  have e1 : dd (-t.1, t.2) p (turL l true) = dd t p l := by
    show 2 * p * l.z - -l.x * -t.1 - l.y * t.2 = 2 * p * l.z - l.x * t.1 - l.y * t.2
    rw [Int.neg_mul_neg]
  have e2 : nrm (-t.1, t.2) p = nrm t p := by
    show -t.1 * -t.1 + t.2 * t.2 + 4 * p * p = t.1 * t.1 + t.2 * t.2 + 4 * p * p
    rw [Int.neg_mul_neg]
  have e3 : dir (turL l true) = dir l := by
    show -l.x * -l.x + l.y * l.y + l.z * l.z = l.x * l.x + l.y * l.y + l.z * l.z
    rw [Int.neg_mul_neg]
  rw [e1, e2, e3]
theorem sh1_tur {s : Su} (g : GoodS s) (l : Li) {x y : Int} (hx : 0 ≤ x ∧ x ≤ s.h - 2) (hy : 0 ≤ y ∧ y ≤ s.w - 2) : sh1 (turS s false) (turL l false) x y = sh1 s l y (s.h - 2 - x) := by
  unfold sh1
  rw [dk_tur g l hx hy, (md_tur g hx hy).2, shd_tur]
  rfl
theorem sh1_mir {s : Su} (g : GoodS s) (l : Li) {x y : Int} (hx : 0 ≤ x ∧ x ≤ s.w - 2) (hy : 0 ≤ y ∧ y ≤ s.h - 2) : sh1 (turS s true) (turL l true) x y = sh1 s l (s.w - 2 - x) y := by
  unfold sh1
  rw [dk_mir g l hx hy, (md_mir g hx hy).2, shd_mir]
  rfl
/-- The facet to which a facet comes. -/
def toC (s : Su) (mir : Bool) (x y : Nat) : Nat := if mir then y * (s.w - 1).toNat + ((s.w - 2).toNat - x) else x * (s.h - 1).toNat + ((s.h - 2).toNat - y)
theorem nC_tur {s : Su} (g : GoodS s) (mir : Bool) : nC (turS s mir) = nC s := by
  cases mir
  · show ((s.h - 1) * (s.w - 1)).toNat = ((s.w - 1) * (s.h - 1)).toNat
    rw [Int.mul_comm]
  · rfl
theorem fm_tur {s : Su} (g : GoodS s) (mir : Bool) {α : Type} (f f' : Int → Int → α) (d : α) (hm : mir = true → ∀ x y, (0 ≤ x ∧ x ≤ s.w - 2) → (0 ≤ y ∧ y ≤ s.h - 2) → f' x y = f (s.w - 2 - x) y) (ht : mir = false → ∀ x y, (0 ≤ x ∧ x ≤ s.h - 2) → (0 ≤ y ∧ y ≤ s.w - 2) → f' x y = f y (s.h - 2 - x)) {x y : Nat} (hx : (x : Int) < s.w - 1) (hy : (y : Int) < s.h - 1) :
    (fm (turS s mir) f').getD (toC s mir x y) d = (fm s f).getD (y * (s.w - 1).toNat + x) d ∧ toC s mir x y < nC s := by
  have hi := g.index hx hy
  have hw := g.w
  have hh := g.h
  cases mir
  · have gt := turS_good g false
    have hi2 := gt.index (x := (s.h - 2).toNat - y) (y := x) (by show (((s.h - 2).toNat - y : Nat) : Int) < s.h - 1; omega) (by show (x : Int) < s.w - 1; omega)
    rw [nC_tur g] at hi2
    have hc := at_cell (w := (s.h - 1).toNat) (x := (s.h - 2).toNat - y) (y := x) (by omega)
    have hc2 := at_cell (w := (s.w - 1).toNat) (x := x) (y := y) (by omega)
    refine ⟨?_, hi2⟩
    unfold fm
    rw [fmN_get _ _ (by rw [nC_tur g]; exact hi2), fmN_get _ _ hi, hc2.1, hc2.2]
    show f' (((x * (s.h - 1).toNat + ((s.h - 2).toNat - y)) % (s.h - 1).toNat : Nat) : Int) (((x * (s.h - 1).toNat + ((s.h - 2).toNat - y)) / (s.h - 1).toNat : Nat) : Int) = _
    rw [hc.1, hc.2, ht rfl _ _ (by omega) (by omega)]
    congr 1; omega
  · have gt := turS_good g true
    have hi2 := gt.index (x := (s.w - 2).toNat - x) (y := y) (by show (((s.w - 2).toNat - x : Nat) : Int) < s.w - 1; omega) (by show (y : Int) < s.h - 1; omega)
    rw [nC_tur g] at hi2
    have hc := at_cell (w := (s.w - 1).toNat) (x := (s.w - 2).toNat - x) (y := y) (by omega)
    have hc2 := at_cell (w := (s.w - 1).toNat) (x := x) (y := y) (by omega)
    refine ⟨?_, hi2⟩
    unfold fm
    rw [fmN_get _ _ (by rw [nC_tur g]; exact hi2), fmN_get _ _ hi, hc2.1, hc2.2]
    show f' (((y * (s.w - 1).toNat + ((s.w - 2).toNat - x)) % (s.w - 1).toNat : Nat) : Int) (((y * (s.w - 1).toNat + ((s.w - 2).toNat - x)) / (s.w - 1).toNat : Nat) : Int) = _
    rw [hc.1, hc.2, hm rfl _ _ (by omega) (by omega)]
    congr 1; omega
/-! ### raised, higher, flat -/
end Go.R06
