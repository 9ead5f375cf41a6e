import Derived.Test.YtoeijgdkoeofpaaMat06b
set_option linter.unusedSectionVars false
set_option linter.unusedSimpArgs false
set_option linter.unusedVariables false
/-! Layer 6: pure mathematics: what is turned, mirrored or raised; higher lights; flat surfaces. -/
namespace Go.R06
set_option linter.unusedVariables false
theorem dk_ext {s t : Su} {l m : Li} {x y u v : Int} (hg : gl l = gl m) (h : ∀ k : Nat, dkA s l x y k = dkA t m u v k) : dk s l x y = dk t m u v := by
  rw [Bool.eq_iff_iff, dk_iff, dk_iff, hg]
  simp only [h]
/-! ### raised, higher, flat -/
def upS (s : Su) (b : Int) : Su := ⟨s.w, s.h, s.p, s.hs.map (· + b)⟩
theorem hg_up {s : Su} (g : GoodS s) (b : Int) {x y : Int} (hx : 0 ≤ x ∧ x < s.w) (hy : 0 ≤ y ∧ y < s.h) : hg (upS s b) x y = hg s x y + b := by
  have := (g.idx hx hy).2
  show (s.hs.map (· + b)).getD (y * s.w + x).toNat 0 = s.hs.getD (y * s.w + x).toNat 0 + b
  rw [List.getD_eq_getElem?_getD, List.getD_eq_getElem?_getD, List.getElem?_map, List.getElem?_eq_getElem this]
  rfl
theorem md_up {s : Su} (g : GoodS s) (b : Int) {x y : Int} (h : (0 ≤ x ∧ x ≤ s.w - 2) ∧ (0 ≤ y ∧ y ≤ s.h - 2)) : md (upS s b) x y = md s x y + 4 * b ∧ tl (upS s b) x y = tl s x y := by
  have a1 := hg_up g b (x := x) (y := y) (by omega) (by omega)
  have a2 := hg_up g b (x := x + 1) (y := y) (by omega) (by omega)
  have a3 := hg_up g b (x := x) (y := y + 1) (by omega) (by omega)
  have a4 := hg_up g b (x := x + 1) (y := y + 1) (by omega) (by omega)
  unfold md tl
  rw [a1, a2, a3, a4]
  constructor
  · omega
  · refine Prod.ext ?_ ?_ <;> simp only <;> omega
theorem dk_up {s : Su} (g : GoodS s) (l : Li) (b : Int) {x y : Int} (h : (0 ≤ x ∧ x ≤ s.w - 2) ∧ (0 ≤ y ∧ y ≤ s.h - 2)) : dk (upS s b) l x y = dk s l x y := by
  refine dk_ext rfl fun k => ?_
  unfold dkA
  show (inC s _ _ && _) = _
  cases hc : inC s (x + k * sx l) (y + k * sy l) with
  | false => rfl
  | true =>
    rw [(md_up g b (inC_t hc)).1, (md_up g b h).1, show ∀ a c : Int, a + 4 * b - (c + 4 * b) = a - c from fun a c => by omega]
    rfl
theorem fm_ext {s t : Su} (g : GoodS s) (hw : s.w = t.w) (hh : s.h = t.h) {α : Type} {f f' : Int → Int → α} (h : ∀ x y, inC s x y = true → f x y = f' x y) : fm s f = fm t f' := by
  unfold fm fmN
  have hn : nC t = nC s := by unfold nC; rw [hw, hh]
  rw [hn, ← hw]
  refine List.map_congr_left fun i hi => ?_
  exact h _ _ (g.cell (List.mem_range.1 hi))
theorem pic_up {s : Su} (g : GoodS s) (l : Li) (b : Int) : pic (upS s b) l = pic s l := by
  refine (fm_ext g rfl rfl fun x y hc => ?_).symm
  unfold sh1
  rw [dk_up g l b (inC_t hc), (md_up g b (inC_t hc)).2]
  rfl
/-- Who lies in shadow sees a higher facet. -/
theorem dk_above {s : Su} (g : GoodS s) {l : Li} (hl : GoodL l) {x y : Int} (h : dk s l x y = true) : ∃ u v, inC s u v = true ∧ md s x y < md s u v := by
  rw [dk_iff] at h
  obtain ⟨h0, j, h1, h2, h3⟩ := h
  unfold dkA at h3
  rw [Bool.and_eq_true] at h3
  refine ⟨_, _, h3.1, ?_⟩
  have h4 := of_decide_eq_true h3.2
  have : 0 ≤ 4 * (j : Int) * s.p * l.z := Int.mul_nonneg (Int.mul_nonneg (by omega) (by have := g.p; omega)) (by have := hl.z; omega)
  have hg0 := gl_nn l
  rcases Int.lt_or_le (md s x y) (md s (x + j * sx l) (y + j * sy l)) with q | q
  · exact q
  · exfalso
    have : gl l * (md s (x + j * sx l) (y + j * sy l) - md s x y) ≤ 0 := Int.mul_nonpos_of_nonneg_of_nonpos hg0 (by omega)
    omega
/-- Flat. -/
def flS (w h p v : Int) : Su := ⟨w, h, p, List.replicate (w * h).toNat v⟩
theorem hg_fl {w h p v : Int} {x y : Int} (hx : 0 ≤ x ∧ x < w) (hy : 0 ≤ y ∧ y < h) : hg (flS w h p v) x y = v := by
  have := idx_lt hx hy
  show (List.replicate (w * h).toNat v).getD (y * w + x).toNat 0 = v
  rw [List.getD_eq_getElem?_getD, List.getElem?_replicate, if_pos (by omega)]
  rfl
theorem md_fl {w h p v : Int} {x y : Int} (hc : inC (flS w h p v) x y = true) : md (flS w h p v) x y = 4 * v ∧ tl (flS w h p v) x y = (0, 0) := by
  have hc := inC_t hc
  have hc : (0 ≤ x ∧ x ≤ w - 2) ∧ (0 ≤ y ∧ y ≤ h - 2) := hc
  have a1 := hg_fl (p := p) (v := v) (x := x) (y := y) (w := w) (h := h) (by omega) (by omega)
  have a2 := hg_fl (p := p) (v := v) (x := x + 1) (y := y) (w := w) (h := h) (by omega) (by omega)
  have a3 := hg_fl (p := p) (v := v) (x := x) (y := y + 1) (w := w) (h := h) (by omega) (by omega)
  have a4 := hg_fl (p := p) (v := v) (x := x + 1) (y := y + 1) (w := w) (h := h) (by omega) (by omega)
  unfold md tl
  rw [a1, a2, a3, a4]
  constructor
  · omega
  · refine Prod.ext ?_ ?_ <;> simp only <;> omega
theorem dk_fl {w h p v : Int} (g : GoodS (flS w h p v)) {l : Li} (hl : GoodL l) {x y : Int} (hc : inC (flS w h p v) x y = true) : dk (flS w h p v) l x y = false := by
  cases h : dk (flS w h p v) l x y with
  | false => rfl
  | true =>
    obtain ⟨a, b, h1, h2⟩ := dk_above g hl h
    rw [(md_fl hc).1, (md_fl h1).1] at h2; omega
theorem fm_const {s : Su} (g : GoodS s) {α : Type} {f : Int → Int → α} {c : α} (h : ∀ x y, inC s x y = true → f x y = c) : fm s f = List.replicate (nC s) c := by
  refine List.eq_replicate_iff.2 ⟨fmN_len _ _ _, fun b hb => ?_⟩
  unfold fm fmN at hb
  obtain ⟨i, hi, rfl⟩ := List.mem_map.1 hb
  exact h _ _ (g.cell (List.mem_range.1 hi))
theorem pic_fl {w h p v : Int} (g : GoodS (flS w h p v)) {l : Li} (hl : GoodL l) : pic (flS w h p v) l = List.replicate (nC (flS w h p v)) (shd (0, 0) p l) :=
  fm_const g fun x y hc => by
    unfold sh1
    rw [dk_fl g hl hc, (md_fl hc).2]
    rfl
theorem shw_fl {w h p v : Int} (g : GoodS (flS w h p v)) {l : Li} (hl : GoodL l) : shw (flS w h p v) l = List.replicate (nC (flS w h p v)) false :=
  fm_const g fun x y hc => dk_fl g hl hc
end Go.R06
