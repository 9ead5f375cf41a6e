import Derived.Test.YtoeijgdkoeofpaaRef06
set_option linter.unusedSectionVars false
set_option linter.unusedSimpArgs false
set_option linter.unusedVariables false
/-! Layer 6: lights, surfaces and lists that came in as arguments. -/
namespace Go.R06
open Go Go.Abs Go.RowKit Go.Proofs Go.ChangeShapes Go.WideShapes Go.ChangeAt
set_option maxRecDepth 20000
set_option maxHeartbeats 4000000
set_option linter.unusedVariables false
set_option linter.unusedSectionVars false
section open1
variable {H : Type} {enc : TypeId × Value → H} {w : World} {base : Nat} {spare : Nat → Bool} {held : Bool}
/-- The cells of bools, of lights. -/
def bls (l : List Bool) : List Value := l.flatMap fun b => [.bool b]
abbrev suc (w h p : Int) (v : Value) : List Value := [.int .i64 w, .int .i64 h, .int .i64 p, v]
abbrev suv (w h p : Int) (v : Value) : Value := .agg #[.int .i64 w, .int .i64 h, .int .i64 p, v]
theorem open_light {n : Nat} {cs : List Value} {y : DataW H × List MemPlace} (h : DataW.trod enc Try.prog w base spare held n 31 cs = some y) : ∃ l : Li, cs = lcs l := by
  have hi := Try.underlying3
  have ci : Try.prog.cellsOf 3 = 1 := by kernel_rfl
  obtain ⟨hlen, hf⟩ := open_fields Try.underlying31 h
  rw [show Try.prog.cellsOf 31 = 3 by kernel_rfl] at hlen
  match cs, hlen with
  | [x0, x1, x2], _ =>
    obtain ⟨_, _, g0⟩ := hf 0 _ 0 1 rfl rfl ci
    obtain ⟨_, _, g1⟩ := hf 1 _ 1 1 rfl rfl ci
    obtain ⟨_, _, g2⟩ := hf 2 _ 2 1 rfl rfl ci
    obtain ⟨c0, e0, _⟩ := open_cellInt hi (show DataW.trod enc Try.prog w base spare held _ 3 [x0] = _ from g0)
    obtain ⟨c1, e1, _⟩ := open_cellInt hi (show DataW.trod enc Try.prog w base spare held _ 3 [x1] = _ from g1)
    obtain ⟨c2, e2, _⟩ := open_cellInt hi (show DataW.trod enc Try.prog w base spare held _ 3 [x2] = _ from g2)
    subst e0 e1 e2
    exact ⟨⟨c0, c1, c2⟩, rfl⟩
end open1
end Go.R06
