import Derived.Test.YtgeaklbldhijbaaOut03b
import Derived.Test.YtgeaklbldhijbaaMat03j
import Derived.Test.YtgeaklbldhijbaaAbsCell
set_option linter.unusedSectionVars false
set_option linter.unusedSimpArgs false
set_option linter.unusedVariables false
/-! Layer 3: RosetteContact. -/
namespace Go.R03
open Go Go.Abs Go.RowKit Go.Proofs
set_option maxRecDepth 20000
set_option maxHeartbeats 8000000
attribute [local irreducible] AWp AOps ADr AAny thenQ blockQ retQ
set_option linter.unusedVariables false
theorem fContactsP : Fun Try.prog 37 := ⟨_, _, Try.func37, rfl, by kernel_rfl⟩
theorem fNeededP : Fun Try.prog 39 := ⟨_, _, Try.func39, rfl, by kernel_rfl⟩
/-- What the program's other functions do. -/
structure Ros2 : Prop where
  contacts : ∀ (W : World) (vf vb : Value) (f b : List Int) (p : Int), SL W Mem.none 1 vf f.length (i64s f) → SL W Mem.none 1 vb b.length (i64s b) → ACalls Try.prog (gen W) 37 #[vf, vb, .int .i64 p] Mem.none (RES (if ask f b ≠ 0 then ask f b else if 0 ≤ p ∧ p < f.length then 0 else 2) (touches f b p.toNat))
  needed : LBE 39 ask needed
section con
variable (f b : List Int)
variable {f b}
end con
section con2
variable {f b : List Int} (hn : 1 ≤ f.length) (hbl : b.length ≤ f.length)
include hn hbl
end con2
end Go.R03
