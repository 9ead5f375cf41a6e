import Derived.Test.YtoeijgdkoeofpaaRef06
set_option linter.unusedSectionVars false
set_option linter.unusedSimpArgs false
set_option linter.unusedVariables false
/-! Layer 6: lights, surfaces and lists that came in as arguments. -/
namespace Go.R06
open Go Go.Abs Go.RowKit Go.Proofs Go.ChangeShapes Go.WideShapes Go.ChangeAt
set_option maxRecDepth 20000
set_option maxHeartbeats 4000000
set_option linter.unusedVariables false
set_option linter.unusedSectionVars false
section open1
variable {H : Type} {enc : TypeId × Value → H} {w : World} {base : Nat} {spare : Nat → Bool} {held : Bool}
/-- A slice that came in, when each element is known. -/
theorem open_listG {P : Program} {α : Type} (f : α → List Value) {t e : TypeId} {n s : Nat} {c : Value} {y : DataW H × List MemPlace} (ht : P.underlying t = some (.slice e)) (hl : P.cellsOf e = s) (hs : 1 ≤ s)
    (hone : ∀ k cs z, cs.length = s → DataW.trod enc P w base spare held k e cs = some z → ∃ a, cs = f a) (h : DataW.trod enc P w base spare held n t [c] = some y) : ∃ l : List α, SL w Mem.none s c l.length (l.flatMap f) := by
  obtain ⟨len, xs, hS, hE⟩ := open_slice ht hl hs h
  have hP : ∀ i, i < len → ∃ a, (xs.drop (i * s)).take s = f a := fun i hi => by
    obtain ⟨k, z, g⟩ := hE i hi
    have hm : (i + 1) * s ≤ len * s := Nat.mul_le_mul_right _ (by omega)
    rw [Nat.add_mul, Nat.one_mul] at hm
    exact hone _ _ _ (by rw [List.length_take, List.length_drop, hS.1]; omega) g
  rcases Nat.eq_zero_or_pos len with h0 | h0
  · subst h0
    have : xs = [] := List.eq_nil_of_length_eq_zero (by rw [hS.1]; omega)
    subst this
    exact ⟨[], hS⟩
  · have hP' : ∃ g : Nat → α, ∀ i, i < len → (xs.drop (i * s)).take s = f (g i) := by
      refine ⟨fun i => if h : i < len then (hP i h).choose else (hP 0 h0).choose, fun i hi => ?_⟩
      simp only [dif_pos hi]
      exact (hP i hi).choose_spec
    obtain ⟨g, hg⟩ := hP'
    have hx : xs = ((List.range len).map g).flatMap f := by
      rw [chunks_eq hS.1 hg, List.flatMap_map]
    refine ⟨(List.range len).map g, ?_⟩
    rw [← hx]
    simpa using hS
theorem ints_flat (l : List Int) : l.flatMap (fun z => [Value.int .i64 z]) = i64s l := by
  induction l with
  | nil => rfl
  | cons a l ih => rw [List.flatMap_cons, ih]; rfl
/-- The cells of bools, of lights. -/
def bls (l : List Bool) : List Value := l.flatMap fun b => [.bool b]
def liC (l : List Li) : List Value := l.flatMap lcs
abbrev suc (w h p : Int) (v : Value) : List Value := [.int .i64 w, .int .i64 h, .int .i64 p, v]
abbrev suv (w h p : Int) (v : Value) : Value := .agg #[.int .i64 w, .int .i64 h, .int .i64 p, v]
theorem open_light {n : Nat} {cs : List Value} {y : DataW H × List MemPlace} (h : DataW.trod enc Try.prog w base spare held n 31 cs = some y) : ∃ l : Li, cs = lcs l := by
  have hi := Try.underlying3
  have ci : Try.prog.cellsOf 3 = 1 := by kernel_rfl
  obtain ⟨hlen, hf⟩ := open_fields Try.underlying31 h
  rw [show Try.prog.cellsOf 31 = 3 by kernel_rfl] at hlen
  match cs, hlen with
  | [x0, x1, x2], _ =>
    obtain ⟨_, _, g0⟩ := hf 0 _ 0 1 rfl rfl ci
    obtain ⟨_, _, g1⟩ := hf 1 _ 1 1 rfl rfl ci
    obtain ⟨_, _, g2⟩ := hf 2 _ 2 1 rfl rfl ci
    obtain ⟨c0, e0, _⟩ := open_cellInt hi (show DataW.trod enc Try.prog w base spare held _ 3 [x0] = _ from g0)
    obtain ⟨c1, e1, _⟩ := open_cellInt hi (show DataW.trod enc Try.prog w base spare held _ 3 [x1] = _ from g1)
    obtain ⟨c2, e2, _⟩ := open_cellInt hi (show DataW.trod enc Try.prog w base spare held _ 3 [x2] = _ from g2)
    subst e0 e1 e2
    exact ⟨⟨c0, c1, c2⟩, rfl⟩
theorem open_intsS {n : Nat} {c : Value} {y : DataW H × List MemPlace} (h : DataW.trod enc Try.prog w base spare held n 35 [c] = some y) : ∃ l : List Int, SL w Mem.none 1 c l.length (i64s l) := by
  obtain ⟨l, hl⟩ := open_listG (fun z => [Value.int .i64 z]) Try.underlying35 (s := 1) (by kernel_rfl) (by decide) (fun k cs z hl g => by
    obtain ⟨x, rfl⟩ : ∃ x, cs = [x] := List.length_eq_one_iff.1 hl
    obtain ⟨c, e, _⟩ := open_cellInt Try.underlying3 g
    exact ⟨c, by rw [e]⟩) h
  rw [ints_flat] at hl
  exact ⟨l, hl⟩
theorem open_lightsS {n : Nat} {c : Value} {y : DataW H × List MemPlace} (h : DataW.trod enc Try.prog w base spare held n 41 [c] = some y) : ∃ l : List Li, SL w Mem.none 3 c l.length (liC l) :=
  open_listG lcs Try.underlying41 (s := 3) (by kernel_rfl) (by decide) (fun k cs z _ g => open_light g) h
theorem open_surf {n : Nat} {cs : List Value} {y : DataW H × List MemPlace} (h : DataW.trod enc Try.prog w base spare held n 37 cs = some y) : ∃ (s : Su) (v : Value), cs = suc s.w s.h s.p v ∧ SL w Mem.none 1 v s.hs.length (i64s s.hs) := by
  have hi := Try.underlying3
  have ci : Try.prog.cellsOf 3 = 1 := by kernel_rfl
  obtain ⟨hlen, hf⟩ := open_fields Try.underlying37 h
  rw [show Try.prog.cellsOf 37 = 4 by kernel_rfl] at hlen
  match cs, hlen with
  | [x0, x1, x2, x3], _ =>
    obtain ⟨_, _, g0⟩ := hf 0 _ 0 1 rfl rfl ci
    obtain ⟨_, _, g1⟩ := hf 1 _ 1 1 rfl rfl ci
    obtain ⟨_, _, g2⟩ := hf 2 _ 2 1 rfl rfl ci
    obtain ⟨_, _, g3⟩ := hf 3 _ 3 1 rfl rfl (by kernel_rfl)
    obtain ⟨c0, e0, _⟩ := open_cellInt hi (show DataW.trod enc Try.prog w base spare held _ 3 [x0] = _ from g0)
    obtain ⟨c1, e1, _⟩ := open_cellInt hi (show DataW.trod enc Try.prog w base spare held _ 3 [x1] = _ from g1)
    obtain ⟨c2, e2, _⟩ := open_cellInt hi (show DataW.trod enc Try.prog w base spare held _ 3 [x2] = _ from g2)
    obtain ⟨hs, hS⟩ := open_intsS (show DataW.trod enc Try.prog w base spare held _ 35 [x3] = _ from g3)
    subst e0 e1 e2
    exact ⟨⟨c0, c1, c2, hs⟩, x3, rfl, hS⟩
end open1
end Go.R06
