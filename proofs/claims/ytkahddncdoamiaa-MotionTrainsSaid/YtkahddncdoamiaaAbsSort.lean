import Derived.Test.YtkahddncdoamiaaAbsCell
import Derived.Shelf.Sort.Plain
import Derived.Shelf.Slices.CompactI
import Derived.Shelf.Slices.In.SortNone
import Derived.Lib.RowBridge
set_option linter.unusedSectionVars false
set_option linter.unusedSimpArgs false
set_option linter.unusedVariables false
/-! Abs: the library's Sort and Compact of ints, over entries of the call's own memory. -/
namespace Go.Abs
open Go Go.RowKit Go.Sort Go.Shelf Go.Proofs
section row
variable {P : Program} {W : World} {m : Mem}
/-- A row that is turned, with new blocks behind it. -/
theorem Conc.putRow {w : World} {B : Nat} {b : Blk} (hw : Conc W m w) (hB : m B = some b) {zs ys : List Int} (hz : b.cells = i64s zs) (hl : ys.length = zs.length) (n : Nat) (os : Array Obj) :
    Conc W (m.put B { b with cells := i64s ys }) (grow (Sort.putRow (Value.int .i64) (Sort.ahead w n) B 0 ys.toArray) os) ∧ Frm m w (m.put B { b with cells := i64s ys }) (grow (Sort.putRow (Value.int .i64) (Sort.ahead w n) B 0 ys.toArray) os) := by
  have hst : Still w (Sort.ahead w n) := ⟨rfl, rfl, rfl, rfl⟩
  have hw1 : Conc W m (Sort.ahead w n) := hw.still hst
  obtain ⟨g1, cur, g2, g3, g4⟩ := Conc.blk hw1 B b hB
  have hlen : zs.length ≤ cur.size := by
    have := congrArg List.length g4
    simp only [hz, List.length_take, Array.length_toList, i64s, List.length_map] at this
    omega
  have hkeep := Conc.setRow hw1 hB (putCells (Value.int .i64) 0 ys.toArray cur) (by simp [putCells, g3]) (i64s ys) (by
    apply List.ext_getElem
    · simp [putCells, i64s]; omega
    · intro i h1 h2
      have hi : i < ys.length := by simpa [i64s] using h2
      simp [putCells, i64s, hi])
  have hrow : Sort.putRow (Value.int .i64) (Sort.ahead w n) B 0 ys.toArray = (Sort.ahead w n).setRow B (putCells (Value.int .i64) 0 ys.toArray cur) := by
    unfold Sort.putRow mapBlock World.setRow
    congr 1
    apply Array.ext_getElem?
    intro k
    simp only [Array.getElem?_modify, Array.getElem?_setIfInBounds]
    by_cases hk : B = k
    · subst hk
      simp only [if_true]
      rw [g2]
      simp [onCells]
    · simp [hk]
  rw [hrow]
  generalize (Sort.ahead w n).setRow B (putCells (Value.int .i64) 0 ys.toArray cur) = w2 at hkeep
  obtain ⟨c2, f2⟩ := hkeep
  have hf : Frm m w (m.put B { b with cells := i64s ys }) w2 := (hst.frm (m := m)).trans f2
  have hold : ∀ k, k < w2.heap.size → (grow w2 os).heap[k]? = w2.heap[k]? := fun k hk => heap_grow_old w2 os hk
  refine ⟨⟨⟨c2.below.os, c2.below.tape, c2.below.output, by rw [size_grow]; have := c2.below.size; omega, fun i hi => ?_⟩, fun B' b' hb' => ?_, fun B' o' ho' => ?_⟩, ⟨by rw [size_grow]; have := hf.size; omega, fun B' hB' hfr => ?_⟩⟩
  · rw [hold i (Nat.lt_of_lt_of_le hi c2.below.size)]; exact c2.below.block i hi
  · obtain ⟨q1, q2, q3, q4⟩ := c2.blk B' b' hb'
    exact ⟨q1, q2, by rw [hold B' (c2.lt hb')]; exact q3, q4⟩
  · obtain ⟨q1, q2, q3⟩ := c2.obj B' o' ho'
    exact ⟨q1, by rw [hold B' (c2.ltO ho')]; exact q2, q3⟩
  · obtain ⟨q1, q2⟩ := hf.old B' hB' hfr
    exact ⟨q1, by rw [hold B' (Nat.lt_of_lt_of_le hB' hf.size)]; exact q2⟩
theorem HP.putRow {l : List Ent} (H : HP m l) (i : Nat) {I : TypeId} {B cap n n' : Nat} {xs ys : List Value} (hi : l[i]? = some (.sl (.slice (some ⟨B, 0, Option.none⟩) n cap) I 1 n xs)) (b' : Blk)
    (hv : OWN (m.put B b') I 1 (.slice (some ⟨B, 0, Option.none⟩) n' cap) n' ys) : HP (m.put B b') (l.set i (.sl (.slice (some ⟨B, 0, Option.none⟩) n' cap) I 1 n' ys)) := by
  have hput : ∀ B' x, B' ≠ B → m B' = some x → (m.put B b') B' = some x := fun B' x hne hb => by simp [Mem.put, hne, hb]
  refine H.turn i hi hv (fun q hq hok => ?_) (fun B' hB' => .inl (by simpa [Ent.blk, blkOf] using hB'))
  cases q with
  | sl vq eq sq nq xq => exact OWN.keepNe (v := .slice (some ⟨B, 0, Option.none⟩) n cap) (fun B' x hne hb => hput B' x (fun e => hne (by rw [e]; rfl)) hb) hok hq
  | box B' x => exact hput B' x (fun e => hq B' rfl (by rw [e]; rfl)) hok
  | obj B' o => exact hok
end row
end Go.Abs
