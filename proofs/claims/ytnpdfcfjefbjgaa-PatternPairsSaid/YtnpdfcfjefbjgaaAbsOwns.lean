import Derived.Test.YtnpdfcfjefbjgaaAbsStruct
set_option linter.unusedSectionVars false
set_option linter.unusedSimpArgs false
set_option linter.unusedVariables false
/-! Abs: several slices of the call's own, apart from each other. -/
namespace Go.Abs
open Go Go.RowKit
/-- Slices of ints of the call's own, no two in one block. -/
structure OWNS (m : Mem) (e : TypeId) (l : List (Value × List Int)) : Prop where
  own : ∀ p ∈ l, OWN m e 1 p.1 p.2.length (i64s p.2)
  apart : l.Pairwise fun p q => ∀ B, blkOf p.1 = some B → blkOf q.1 ≠ some B
theorem OWNS.nil (m : Mem) (e : TypeId) : OWNS m e [] := ⟨fun _ h => (by cases h), List.Pairwise.nil⟩
theorem OWNS.one {m : Mem} {e : TypeId} {l : List (Value × List Int)} (h : OWNS m e l) (i : Nat) {v : Value} {xs : List Int} (hi : l[i]? = some (v, xs)) : OWN m e 1 v xs.length (i64s xs) :=
  h.own (v, xs) (List.mem_of_getElem? hi)
theorem OWNS.keep {m m' : Mem} {e : TypeId} {l : List (Value × List Int)} (h : OWNS m e l) (k : Keep m m') : OWNS m' e l := ⟨fun p hp => k.own (h.own p hp), h.apart⟩
/-- A call has made one more. -/
theorem OWNS.call {m m2 : Mem} {e : TypeId} {l : List (Value × List Int)} {v : Value} {xs : List Int} (h : OWNS m e l) (hs : Sep m m2) (hv : OWN m2 e 1 v xs.length (i64s xs)) : OWNS (m.union m2) e ((v, xs) :: l) :=
  ⟨fun p hp => by
    rcases List.mem_cons.1 hp with rfl | hp
    · exact hv.union
    · exact hs.own (h.own p hp), List.pairwise_cons.2 ⟨(fun q hq B h1 h2 => by
      obtain ⟨b, hb⟩ := (h.own q hq).blk h2
      obtain ⟨b2, hb2⟩ := hv.blk h1
      rw [hs.get B b hb] at hb2; cases hb2), h.apart⟩⟩
theorem OWNS.callOnly {m m2 : Mem} {e : TypeId} {l : List (Value × List Int)} (h : OWNS m e l) (hs : Sep m m2) : OWNS (m.union m2) e l := h.keep hs.keep
/-- The first one is written over. -/
theorem OWNS.turn {m m' : Mem} {e : TypeId} {l : List (Value × List Int)} {v : Value} {xs : List Int} (h : OWNS m e ((v, xs) :: l)) (hk : ∀ B b, blkOf v ≠ some B → m B = some b → m' B = some b) : OWNS m' e l :=
  ⟨fun p hp => (h.own p (List.mem_cons_of_mem _ hp)).keepNe hk fun B h1 h2 => (List.pairwise_cons.1 h.apart).1 p hp B h2 h1, (List.pairwise_cons.1 h.apart).2⟩
/-- The i-th one is written over. -/
theorem OWNS.turnAt {m m' : Mem} {e : TypeId} {l : List (Value × List Int)} (i : Nat) {v : Value} {xs : List Int} (h : OWNS m e l) (hi : l[i]? = some (v, xs)) (hk : ∀ B b, blkOf v ≠ some B → m B = some b → m' B = some b) : OWNS m' e (l.eraseIdx i) := by
  have hsub : (l.eraseIdx i).Sublist l := List.eraseIdx_sublist l i
  refine ⟨fun p hp => (h.own p (hsub.subset hp)).keepNe hk fun B h1 h2 => ?_, h.apart.sublist hsub⟩
  have hlt := (List.getElem?_eq_some_iff.1 hi).1
  have hget := (List.getElem?_eq_some_iff.1 hi).2
  obtain ⟨j, hj, hpj⟩ := List.getElem_of_mem hp
  rw [List.getElem_eraseIdx] at hpj
  have hap := List.pairwise_iff_getElem.1 h.apart
  split at hpj
  · rename_i hji
    have := hap j i (by omega) hlt hji B (by rw [hpj]; exact h1)
    rw [hget] at this
    exact this h2
  · rename_i hji
    rw [List.length_eraseIdx_of_lt hlt] at hj
    have := hap i (j + 1) hlt (by omega) (by omega) B (by rw [hget]; exact h2)
    rw [hpj] at this
    exact this h1
end Go.Abs
