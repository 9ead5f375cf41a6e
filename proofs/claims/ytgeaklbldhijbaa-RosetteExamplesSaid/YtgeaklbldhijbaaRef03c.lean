import Derived.Test.YtgeaklbldhijbaaRef03b
set_option linter.unusedSectionVars false
set_option linter.unusedSimpArgs false
set_option linter.unusedVariables false
namespace Go.R03
open Go Go.Abs Go.RowKit Go.Proofs
set_option maxRecDepth 20000
attribute [local irreducible] AWp AOps ADr AAny thenQ blockQ retQ
set_option linter.unusedVariables false
theorem moved_length (f : List Int) (s : Int) : (moved f s).length = f.length := by simp [moved]
theorem image_length (f : List Int) : (image f).length = f.length := by simp [image]
theorem map_self (f : List Int) : (List.range f.length).map (fun p => f.getD p 0) = f := by
  apply List.ext_getElem (by simp)
  intro i h1 h2
  simp at h1 ⊢
  simp [h1]
theorem moved_n (f : List Int) : moved f f.length = f := by
  refine Eq.trans (List.map_congr_left fun p hp => ?_) (map_self f)
  have hp := List.mem_range.1 hp
  unfold movAt
  rw [Int.tmod_self, Int.sub_zero, Int.emod_eq_of_lt (by omega) (by omega)]
  rfl
/-- s is the least number from 1 on by which the list can be turned. -/
def IsPer (f : List Int) (s : Nat) : Prop := 1 ≤ s ∧ s ≤ f.length ∧ moved f s = f ∧ ∀ t : Nat, 1 ≤ t → t < s → moved f t ≠ f
theorem same_b (w : World) (va vb : Value) (a b : List Int) {r : Bool} (hr : sames a b = r) (ha : SL w Mem.none 1 va a.length (i64s a)) (hb : SL w Mem.none 1 vb b.length (i64s b)) :
    QCalls Try.prog 71 #[va, vb] w (.bool r) := hr ▸ same_q w va vb a b ha hb
def axes (f : List Int) : List Int := ((List.range f.length).filter fun (s : Nat) => sames (moved (image f) s) f).map Int.ofNat
def IsMatch (f g : List Int) (s : Nat) : Prop := s < f.length ∧ moved f s = g ∧ ∀ t : Nat, t < s → moved f t ≠ g
/-- What Match gives. -/
def MATCH (f g : List Int) (v : Value) : Prop :=
  ((chk f ≠ 0 ∨ chk g ≠ 0) ∧ v = .tuple #[.int .i64 0, .int .i64 30]) ∨
  (chk f = 0 ∧ chk g = 0 ∧ ((∃ s, IsMatch f g s ∧ v = .tuple #[.int .i64 s, .int .i64 0]) ∨ ((∀ t : Nat, t < f.length → moved f t ≠ g) ∧ v = .tuple #[.int .i64 0, .int .i64 6])))
end Go.R03
