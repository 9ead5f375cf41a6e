import Derived.Test.YtjepofehaphcnaaRef07c
set_option linter.unusedSectionVars false
set_option linter.unusedSimpArgs false
set_option linter.unusedVariables false
/-! Layer 7: sheets, screens and lists of lists that came in as arguments. -/
namespace Go.R07
open Go Go.Abs Go.RowKit Go.Proofs Go.ChangeShapes Go.WideShapes Go.ChangeAt
set_option maxRecDepth 20000
set_option maxHeartbeats 4000000
set_option linter.unusedVariables false
set_option linter.unusedSectionVars false
section open1
variable {H : Type} {enc : TypeId × Value → H} {w : World} {base : Nat} {spare : Nat → Bool} {held : Bool}
theorem open_listG {P : Program} {α : Type} (f : α → List Value) {t e : TypeId} {n s : Nat} {c : Value} {y : DataW H × List MemPlace} (ht : P.underlying t = some (.slice e)) (hl : P.cellsOf e = s) (hs : 1 ≤ s)
    (hone : ∀ k cs z, cs.length = s → DataW.trod enc P w base spare held k e cs = some z → ∃ a, cs = f a) (h : DataW.trod enc P w base spare held n t [c] = some y) : ∃ l : List α, SL w Mem.none s c l.length (l.flatMap f) := by
  obtain ⟨len, xs, hS, hE⟩ := open_slice ht hl hs h
  have hP : ∀ i, i < len → ∃ a, (xs.drop (i * s)).take s = f a := fun i hi => by
    obtain ⟨k, z, g⟩ := hE i hi
    have hm : (i + 1) * s ≤ len * s := Nat.mul_le_mul_right _ (by omega)
    rw [Nat.add_mul, Nat.one_mul] at hm
    exact hone _ _ _ (by rw [List.length_take, List.length_drop, hS.1]; omega) g
  rcases Nat.eq_zero_or_pos len with h0 | h0
  · subst h0
    have : xs = [] := List.eq_nil_of_length_eq_zero (by rw [hS.1]; omega)
    subst this
    exact ⟨[], hS⟩
  · have hP' : ∃ g : Nat → α, ∀ i, i < len → (xs.drop (i * s)).take s = f (g i) := by
      refine ⟨fun i => if h : i < len then (hP i h).choose else (hP 0 h0).choose, fun i hi => ?_⟩
      simp only [dif_pos hi]
      exact (hP i hi).choose_spec
    obtain ⟨g, hg⟩ := hP'
    have hx : xs = ((List.range len).map g).flatMap f := by
      rw [chunks_eq hS.1 hg, List.flatMap_map]
    refine ⟨(List.range len).map g, ?_⟩
    rw [← hx]
    simpa using hS
theorem ints_flat (l : List Int) : l.flatMap (fun z => [Value.int .i64 z]) = i64s l := by
  induction l with
  | nil => rfl
  | cons a l ih => rw [List.flatMap_cons, ih]; rfl
theorem bools_flat (l : List Bool) : l.flatMap (fun z => [Value.bool z]) = bls l := by
  induction l with
  | nil => rfl
  | cons a l ih => rw [List.flatMap_cons, ih]; rfl
theorem open_intsS {n : Nat} {c : Value} {y : DataW H × List MemPlace} (h : DataW.trod enc Try.prog w base spare held n 31 [c] = some y) : ∃ l : List Int, SL w Mem.none 1 c l.length (i64s l) := by
  obtain ⟨l, hl⟩ := open_listG (fun z => [Value.int .i64 z]) Try.underlying31 (s := 1) (by kernel_rfl) (by decide) (fun k cs z hl g => by
    obtain ⟨x, rfl⟩ : ∃ x, cs = [x] := List.length_eq_one_iff.1 hl
    obtain ⟨c, e, _⟩ := open_cellInt Try.underlying3 g
    exact ⟨c, by rw [e]⟩) h
  rw [ints_flat] at hl
  exact ⟨l, hl⟩
theorem open_boolsS {n : Nat} {c : Value} {y : DataW H × List MemPlace} (h : DataW.trod enc Try.prog w base spare held n 49 [c] = some y) : ∃ l : List Bool, SL w Mem.none 1 c l.length (bls l) := by
  obtain ⟨l, hl⟩ := open_listG (fun z => [Value.bool z]) Try.underlying49 (s := 1) (by kernel_rfl) (by decide) (fun k cs z hl g => by
    obtain ⟨x, rfl⟩ : ∃ x, cs = [x] := List.length_eq_one_iff.1 hl
    obtain ⟨c, e⟩ := open_cellBool Try.underlying4 g
    exact ⟨c, by rw [e]⟩) h
  rw [bools_flat] at hl
  exact ⟨l, hl⟩
theorem open_rowsG {P : Program} {α : Type} (f : List α → List Value) {t e : TypeId} {n : Nat} {c : Value} {y : DataW H × List MemPlace} (ht : P.underlying t = some (.slice e)) (hl : P.cellsOf e = 1)
    (hone : ∀ k c z, DataW.trod enc P w base spare held k e [c] = some z → ∃ l : List α, SL w Mem.none 1 c l.length (f l)) (h : DataW.trod enc P w base spare held n t [c] = some y) : ∃ (L : List (List α)) (hs : List Value), ROWS f w Mem.none c L hs := by
  obtain ⟨len, xs, hS, hE⟩ := open_slice ht hl (by decide) h
  have hx := hS.1
  rw [Nat.mul_one] at hx
  have hP : ∀ i, i < len → ∃ l : List α, SL w Mem.none 1 (xs.getD i undef) l.length (f l) := fun i hi => by
    obtain ⟨k, z, g⟩ := hE i hi
    rw [Nat.mul_one, drop_cons undef (by omega), List.take_succ_cons, List.take_zero] at g
    exact hone _ _ _ g
  refine ⟨(List.range len).map fun i => if h : i < len then (hP i h).choose else [], xs, ?_, fun i hi => ?_⟩
  · simpa using hS
  · have hi' : i < len := by simpa using hi
    have e : ((List.range len).map fun i => if h : i < len then (hP i h).choose else []).getD i [] = (hP i hi').choose := by
      rw [List.getD_eq_getElem?_getD, List.getElem?_map, List.getElem?_range hi']
      show (if h : i < len then (hP i h).choose else []) = _
      rw [dif_pos hi']
    rw [e]
    exact (hP i hi').choose_spec
theorem open_rows {n : Nat} {c : Value} {y : DataW H × List MemPlace} (h : DataW.trod enc Try.prog w base spare held n 23 [c] = some y) : ∃ (L : List (List Int)) (hs : List Value), ROWS i64s w Mem.none c L hs :=
  open_rowsG i64s Try.underlying23 (by kernel_rfl) (fun k c z g => open_intsS g) h
theorem open_masks {n : Nat} {c : Value} {y : DataW H × List MemPlace} (h : DataW.trod enc Try.prog w base spare held n 40 [c] = some y) : ∃ (L : List (List Bool)) (hs : List Value), ROWS bls w Mem.none c L hs :=
  open_rowsG bls Try.underlying40 (by kernel_rfl) (fun k c z g => open_boolsS g) h
theorem open_sheet {n : Nat} {cs : List Value} {y : DataW H × List MemPlace} (h : DataW.trod enc Try.prog w base spare held n 29 cs = some y) : ∃ s : Sh, cs = sc s := by
  have hi := Try.underlying3
  have ci : Try.prog.cellsOf 3 = 1 := by kernel_rfl
  obtain ⟨a, b, c, d, e, rfl⟩ := open_five Try.underlying29 ⟨rfl, rfl⟩ ⟨rfl, rfl⟩ ⟨rfl, rfl⟩ ⟨rfl, rfl⟩ ⟨rfl, rfl⟩ hi ci (by kernel_rfl) h
  exact ⟨⟨a, b, c, d, e⟩, rfl⟩
end open1
end Go.R07
