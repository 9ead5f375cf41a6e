import Derived.Test.YtgeaklbldhijbaaAbsCell
import Derived.Shelf.Sort.Plain
import Derived.Shelf.Slices.CompactI
import Derived.Shelf.Slices.In.SortNone
import Derived.Lib.RowBridge
set_option linter.unusedSectionVars false
set_option linter.unusedSimpArgs false
set_option linter.unusedVariables false
/-! Abs: the library's Sort and Compact of ints, over entries of the call's own memory. -/
namespace Go.Abs
open Go Go.RowKit Go.Sort Go.Shelf Go.Proofs
section row
variable {P : Program} {W : World} {m : Mem}
/-- A row that is turned, with new blocks behind it. -/
theorem Conc.putRow {w : World} {B : Nat} {b : Blk} (hw : Conc W m w) (hB : m B = some b) {zs ys : List Int} (hz : b.cells = i64s zs) (hl : ys.length = zs.length) (n : Nat) (os : Array Obj) :
    Conc W (m.put B { b with cells := i64s ys }) (grow (Sort.putRow (Value.int .i64) (Sort.ahead w n) B 0 ys.toArray) os) ∧ Frm m w (m.put B { b with cells := i64s ys }) (grow (Sort.putRow (Value.int .i64) (Sort.ahead w n) B 0 ys.toArray) os) := by
  have hst : Still w (Sort.ahead w n) := ⟨rfl, rfl, rfl, rfl⟩
  have hw1 : Conc W m (Sort.ahead w n) := hw.still hst
  obtain ⟨g1, cur, g2, g3, g4⟩ := Conc.blk hw1 B b hB
  have hlen : zs.length ≤ cur.size := by
    have := congrArg List.length g4
    simp only [hz, List.length_take, Array.length_toList, i64s, List.length_map] at this
    omega
  have hkeep := Conc.setRow hw1 hB (putCells (Value.int .i64) 0 ys.toArray cur) (by simp [putCells, g3]) (i64s ys) (by
    apply List.ext_getElem
    · simp [putCells, i64s]; omega
    · intro i h1 h2
      have hi : i < ys.length := by simpa [i64s] using h2
      simp [putCells, i64s, hi])
  have hrow : Sort.putRow (Value.int .i64) (Sort.ahead w n) B 0 ys.toArray = (Sort.ahead w n).setRow B (putCells (Value.int .i64) 0 ys.toArray cur) := by
    unfold Sort.putRow mapBlock World.setRow
    congr 1
    apply Array.ext_getElem?
    intro k
    simp only [Array.getElem?_modify, Array.getElem?_setIfInBounds]
    by_cases hk : B = k
    · subst hk
      simp only [if_true]
      rw [g2]
      simp [onCells]
    · simp [hk]
  rw [hrow]
  generalize (Sort.ahead w n).setRow B (putCells (Value.int .i64) 0 ys.toArray cur) = w2 at hkeep
  obtain ⟨c2, f2⟩ := hkeep
  have hf : Frm m w (m.put B { b with cells := i64s ys }) w2 := (hst.frm (m := m)).trans f2
  have hold : ∀ k, k < w2.heap.size → (grow w2 os).heap[k]? = w2.heap[k]? := fun k hk => heap_grow_old w2 os hk
  refine ⟨⟨⟨c2.below.os, c2.below.tape, c2.below.output, by rw [size_grow]; have := c2.below.size; omega, fun i hi => ?_⟩, fun B' b' hb' => ?_, fun B' o' ho' => ?_⟩, ⟨by rw [size_grow]; have := hf.size; omega, fun B' hB' hfr => ?_⟩⟩
  · rw [hold i (Nat.lt_of_lt_of_le hi c2.below.size)]; exact c2.below.block i hi
  · obtain ⟨q1, q2, q3, q4⟩ := c2.blk B' b' hb'
    exact ⟨q1, q2, by rw [hold B' (c2.lt hb')]; exact q3, q4⟩
  · obtain ⟨q1, q2, q3⟩ := c2.obj B' o' ho'
    exact ⟨q1, by rw [hold B' (c2.ltO ho')]; exact q2, q3⟩
  · obtain ⟨q1, q2⟩ := hf.old B' hB' hfr
    exact ⟨q1, by rw [hold B' (Nat.lt_of_lt_of_le hB' hf.size)]; exact q2⟩
theorem HP.putRow {l : List Ent} (H : HP m l) (i : Nat) {I : TypeId} {B cap n n' : Nat} {xs ys : List Value} (hi : l[i]? = some (.sl (.slice (some ⟨B, 0, Option.none⟩) n cap) I 1 n xs)) (b' : Blk)
    (hv : OWN (m.put B b') I 1 (.slice (some ⟨B, 0, Option.none⟩) n' cap) n' ys) : HP (m.put B b') (l.set i (.sl (.slice (some ⟨B, 0, Option.none⟩) n' cap) I 1 n' ys)) := by
  have hput : ∀ B' x, B' ≠ B → m B' = some x → (m.put B b') B' = some x := fun B' x hne hb => by simp [Mem.put, hne, hb]
  refine H.turn i hi hv (fun q hq hok => ?_) (fun B' hB' => .inl (by simpa [Ent.blk, blkOf] using hB'))
  cases q with
  | sl vq eq sq nq xq => exact OWN.keepNe (v := .slice (some ⟨B, 0, Option.none⟩) n cap) (fun B' x hne hb => hput B' x (fun e => hne (by rw [e]; rfl)) hb) hok hq
  | box B' x => exact hput B' x (fun e => hq B' rfl (by rw [e]; rfl)) hok
  | obj B' o => exact hok
/-- slices.Sort of an entry. -/
theorem sort_h {ρ : Ren} (Ly : Lays.n189 P ρ) {f : Nat} (hf : ρ.f 189 = f) {I : TypeId} {l : List Ent} (H : HP m l) (i : Nat) {v : Value} {zs : List Int} (hi : l[i]? = some (.sl v I 1 zs.length (i64s zs))) (hz : zs.length ≤ 1000000) :
    ACalls P (gen W) f #[v] m (fun _ m' => HP m' (l.set i (.sl v I 1 zs.length (i64s (zs.mergeSort fun x y => decide (x ≤ y)))))) := fun w hw => by
  subst hf
  have hown := H.sl i hi
  rcases hown.2 with ⟨rfl, h0⟩ | ⟨B, cap, rfl, h1, h2, h3⟩
  · obtain rfl : zs = [] := List.eq_nil_of_length_eq_zero h0
    refine (Any.slices_Sort_int_none Ly Option.none 0 w).mono fun e w' ⟨he, hw'⟩ => ?_
    subst hw' he
    exact ⟨_, m, rfl, hw, Frm.refl _ _, by rw [show ([] : List Int).mergeSort (fun x y => decide (x ≤ y)) = [] by simp, set_at_self hi]; exact H⟩
  · obtain ⟨g1, cur, g2, g3, g4⟩ := Conc.blk hw B _ h3
    have hlt : B < w.heap.size := Conc.lt hw h3
    have hH : Holds (Value.int .i64) w B 0 zs.toArray := fun j hj => by
      have hj' : j < zs.length := by simpa using hj
      have hcell : cellAt W m ⟨B, 0 + j, Option.none⟩ (.int .i64 (zs.getD j 0)) := ⟨rfl, .inr ⟨_, h3, by simp [i64s, hj']⟩⟩
      refine ⟨?_, by simp [World.frozen?, g2]⟩
      have := hcell.cell hw
      rw [this]; simp [hj']
    refine (Any.slices_Sort_int Ly B 0 cap zs w hH hlt (by omega)).mono fun e w' ⟨he, n, os, hw'⟩ => ?_
    subst hw' he
    have hl : (zs.mergeSort fun x y => decide (x ≤ y)).length = zs.length := List.length_mergeSort _
    obtain ⟨c2, f2⟩ := Conc.putRow hw h3 rfl hl n os
    exact ⟨_, _, rfl, c2, f2, H.putRow i hi _ ⟨by simp [i64s, hl], .inr ⟨B, cap, rfl, h1, h2, by rw [Mem.put_at]⟩⟩⟩
/-- slices.Compact of an entry. -/
theorem compact_h {ρ : Ren} (Ly : Lays2.n20 P ρ) {f : Nat} (hf : ρ.f 20 = f) {I : TypeId} {l : List Ent} (H : HP m l) (i : Nat) {v : Value} {zs : List Int} (hi : l[i]? = some (.sl v I 1 zs.length (i64s zs))) :
    ACalls P (gen W) f #[v] m (fun v' m' => HP m' (l.set i (.sl v' I 1 (Lib.compact zs).length (i64s (Lib.compact zs))))) := fun w hw => by
  subst hf
  have hown := H.sl i hi
  rcases hown.2 with ⟨rfl, h0⟩ | ⟨B, cap, rfl, h1, h2, h3⟩
  · obtain rfl : zs = [] := List.eq_nil_of_length_eq_zero h0
    refine (Any.slices_Compact_int_empty Ly Option.none 0 w).mono fun e w' ⟨he, hw'⟩ => ?_
    subst hw' he
    exact ⟨_, m, rfl, hw, Frm.refl _ _, by
      show HP m (l.set i (.sl (.slice Option.none 0 0) I 1 (Lib.compact ([] : List Int)).length (i64s (Lib.compact ([] : List Int)))))
      rw [show Lib.compact ([] : List Int) = [] by rfl, set_at_self hi]; exact H⟩
  · obtain ⟨g1, cur, g2, g3, g4⟩ := Conc.blk hw B _ h3
    have hH : Holds (Value.int .i64) w B 0 zs.toArray := fun j hj => by
      have hj' : j < zs.length := by simpa using hj
      have hcell : cellAt W m ⟨B, 0 + j, Option.none⟩ (.int .i64 (zs.getD j 0)) := ⟨rfl, .inr ⟨_, h3, by simp [i64s, hj']⟩⟩
      refine ⟨?_, by simp [World.frozen?, g2]⟩
      have := hcell.cell hw
      rw [this]; simp [hj']
    have hmax : zs.length ≤ 9223372036854775807 := by have := h2; unfold maxLen at this; omega
    refine (Any.slices_Compact_int Ly B 0 cap zs w hH hmax h1).mono fun e w' ⟨he, n, hw'⟩ => ?_
    subst hw' he
    have hle := Lib.compact_length_le zs
    obtain ⟨c2, f2⟩ := Conc.putRow (ys := Lib.compact zs ++ List.replicate (zs.length - (Lib.compact zs).length) 0) hw h3 rfl (by simp; omega) n #[]
    rw [grow_empty] at c2 f2
    have hshort : Le (m.put B ⟨i64s (Lib.compact zs), I, cap * 1⟩) (m.put B ⟨i64s (Lib.compact zs ++ List.replicate (zs.length - (Lib.compact zs).length) 0), I, cap * 1⟩) := ⟨fun B' b' hb' => by
      by_cases e : B' = B
      · subst e
        rw [Mem.put_at] at hb'
        obtain rfl := Option.some.inj hb'
        exact ⟨i64s (List.replicate (zs.length - (Lib.compact zs).length) 0), by rw [Mem.put_at]; simp [i64s]⟩
      · have hb2 : m B' = some b' := by simpa [Mem.put, e] using hb'
        exact ⟨[], by simp [Mem.put, e, hb2]⟩, fun B' o' ho' => ho'⟩
    refine ⟨_, _, rfl, c2.forget hshort, ⟨f2.size, fun B' hB' hf => ⟨?_, (f2.old B' hB' hf).2⟩⟩, H.putRow i hi _ ⟨by simp [i64s], .inr ⟨B, cap, rfl, Nat.le_trans hle h1, h2, by rw [Mem.put_at]⟩⟩⟩
    have e : B' ≠ B := fun e => by have := hf.1; rw [e, h3] at this; cases this
    exact ⟨by simp [Mem.put, e]; exact hf.1, hf.2⟩
end row
end Go.Abs
