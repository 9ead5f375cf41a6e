import Derived.Test.YtkahddncdoamiaaAbsRange
import Derived.Laws.StructEq
set_option linter.unusedSectionVars false
set_option linter.unusedSimpArgs false
set_option linter.unusedVariables false
/-! Abs: values of several cells: structs and arrays; slices of them. -/
namespace Go.Abs
open Go Go.RowKit
section run
variable {P : Program}
end run
section ops
variable {P : Program} {W : World} {C : Cls W} {o : Oper} {fr : Fr} {m : Mem}
theorem addr_add (B off j : Nat) : (⟨B, off, Option.none⟩ : Addr).add j = ⟨B, off + j, Option.none⟩ := by unfold Addr.add; split <;> simp_all
/-! ### Values put together -/
def over (z : Array Value) (off : Nat) : List Value → Array Value
  | [] => z
  | c :: cs => over (z.setIfInBounds off c) (off + 1) cs
theorem over_size : ∀ (cs : List Value) (z : Array Value) (off : Nat), (over z off cs).size = z.size
  | [], _, _ => rfl
  | c :: cs, z, off => by simp [over, over_size cs]
theorem over_get : ∀ (cs : List Value) (z : Array Value) (off i : Nat), off + cs.length ≤ z.size → (over z off cs)[i]? = if off ≤ i ∧ i < off + cs.length then cs[i - off]? else z[i]?
  | [], z, off, i, _ => by
    rw [if_neg (by simp only [List.length_nil]; omega)]; rfl
  | c :: cs, z, off, i, h => by
    simp only [List.length_cons] at h
    simp only [over, List.length_cons]
    rw [over_get cs _ _ i (by simp; omega)]
    by_cases h1 : i = off
    · subst h1
      rw [if_neg (by omega), if_pos (by omega)]
      simp [show i < z.size by omega]
    · by_cases h2 : off + 1 ≤ i ∧ i < off + 1 + cs.length
      · rw [if_pos h2, if_pos (by omega)]
        rw [show i - off = (i - (off + 1)) + 1 by omega]
        simp
      · rw [if_neg h2, if_neg (by omega)]
        rw [Array.getElem?_setIfInBounds_ne (by omega)]
theorem over_foldl (cs : List Value) (z : Array Value) (off k : Nat) : (cs.zipIdx k).foldl (fun acc (x : Value × Nat) => acc.setIfInBounds (off + x.2) x.1) z = over z (off + k) cs := by
  induction cs generalizing z k with
  | nil => rfl
  | cons c cs ih =>
    simp only [List.zipIdx_cons, List.foldl_cons, over]
    rw [ih]; congr 1
theorem fill_cons {place : Nat → Option (Nat × Nat)} {z : Array Value} {i : Nat} {v : Value} {rest : List (Nat × Value)} {off size : Nat} (hp : place i = some (off, size)) (hs : v.cells.size = size) (hz : off + size ≤ z.size) :
    Instr.fill place z ((i, v) :: rest) = Instr.fill place (over z off v.cells.toList) rest := by
  have hf : v.cells.zipIdx.foldl (fun cs (x : Value × Nat) => cs.setIfInBounds (off + x.2) x.1) z = over z off v.cells.toList := by
    rw [← Array.foldl_toList, Array.toList_zipIdx]; exact over_foldl _ _ _ 0
  simp only [Instr.fill, hp]
  rw [if_neg (by simp; omega)]
  exact congrArg (fun t => Instr.fill place t rest) hf
theorem over_all (cs : List Value) (z : Array Value) (h : cs.length = z.size) : over z 0 cs = cs.toArray := by
  apply Array.ext_getElem?
  intro i
  rw [over_get cs z 0 i (by omega)]
  split
  · simp
  · rw [Array.getElem?_eq_none (by omega), Array.getElem?_eq_none (by simp; omega)]
/-! ### Structs that are compared -/
/-! ### Stores -/
end ops
end Go.Abs
