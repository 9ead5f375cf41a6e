import Derived.Test.YtjepofehaphcnaaAbsMap
import Derived.Test.YtjepofehaphcnaaAbsStruct
set_option linter.unusedSectionVars false
set_option linter.unusedSimpArgs false
set_option linter.unusedVariables false
/-! Abs: maps of the call's own with keys of any kind that Go compares; ranges over them. -/
namespace Go.Abs
open Go Go.RowKit
structure KX (κ : Type) where
  k : κ
  v : Value
  b : Nat
section keys
variable {κ : Type} [DecidableEq κ]
def KX.e (enc : κ → Value) (x : KX κ) : MapEntry := { key := enc x.k, val := x.v, born := x.b }
def getX : List (KX κ) → κ → Option Value
  | [], _ => none
  | e :: l, x => if e.k = x then some e.v else getX l x
def putX : List (KX κ) → κ → Value → Nat → List (KX κ)
  | [], x, v, c => [⟨x, v, c⟩]
  | e :: l, x, v, c => if e.k = x then ⟨x, v, e.b⟩ :: l else e :: putX l x v c
def clockX (l : List (KX κ)) (x : κ) (c : Nat) : Nat := if (getX l x).isSome then c else c + 1
variable {P : Program} {T : TypeId} {enc : κ → Value}
/-! ### the map as a whole -/
structure WfX (l : List (KX κ)) (c : Nat) : Prop where
  born : ∀ e ∈ l, e.b < c
  stamps : (l.map (·.b)).Nodup
  keys : (l.map (·.k)).Nodup
theorem WfX.nil (c : Nat) : WfX ([] : List (KX κ)) c := ⟨fun _ h => (by cases h), by simp, by simp⟩
theorem getX_none {x : κ} : ∀ {l : List (KX κ)}, getX l x = none → ∀ e ∈ l, e.k ≠ x
  | e :: l, h, e', he => by
    unfold getX at h
    by_cases hk : e.k = x
    · rw [if_pos hk] at h; cases h
    · rw [if_neg hk] at h
      rcases List.mem_cons.1 he with rfl | he
      · exact hk
      · exact getX_none h e' he
theorem keys_putX {x : κ} {v : Value} {c : Nat} : ∀ (l : List (KX κ)), (putX l x v c).map (·.k) = if (getX l x).isSome then l.map (·.k) else l.map (·.k) ++ [x]
  | [] => by simp [putX, getX]
  | a :: l => by
    have ih := keys_putX (x := x) (v := v) (c := c) l
    unfold putX getX
    by_cases hk : a.k = x
    · rw [if_pos hk, if_pos hk]; simp [hk]
    · rw [if_neg hk, if_neg hk, List.map_cons, ih]
      split <;> simp
theorem stamps_putX {x : κ} {v : Value} {c : Nat} : ∀ (l : List (KX κ)), (putX l x v c).map (·.b) = if (getX l x).isSome then l.map (·.b) else l.map (·.b) ++ [c]
  | [] => by simp [putX, getX]
  | a :: l => by
    have ih := stamps_putX (x := x) (v := v) (c := c) l
    unfold putX getX
    by_cases hk : a.k = x
    · rw [if_pos hk, if_pos hk]; simp
    · rw [if_neg hk, if_neg hk, List.map_cons, ih]
      split <;> simp
theorem WfX.put {l : List (KX κ)} {c : Nat} (h : WfX l c) (x : κ) (v : Value) : WfX (putX l x v c) (clockX l x c) := by
  have hk := keys_putX (x := x) (v := v) (c := c) l
  have hb := stamps_putX (x := x) (v := v) (c := c) l
  unfold clockX
  cases hg : getX l x with
  | some u =>
    rw [hg] at hk hb
    simp only [Option.isSome_some, if_true] at hk hb ⊢
    refine ⟨fun e he => ?_, by rw [hb]; exact h.stamps, by rw [hk]; exact h.keys⟩
    have : e.b ∈ (putX l x v c).map (·.b) := List.mem_map.2 ⟨e, he, rfl⟩
    rw [hb] at this
    obtain ⟨e', he', e2⟩ := List.mem_map.1 this
    rw [← e2]; exact h.born e' he'
  | none =>
    rw [hg] at hk hb
    simp only [Option.isSome_none, Bool.false_eq_true, if_false] at hk hb ⊢
    refine ⟨fun e he => ?_, ?_, ?_⟩
    · have : e.b ∈ (putX l x v c).map (·.b) := List.mem_map.2 ⟨e, he, rfl⟩
      rw [hb] at this
      rcases List.mem_append.1 this with h1 | h1
      · obtain ⟨e', he', e2⟩ := List.mem_map.1 h1
        have := h.born e' he'
        omega
      · simp at h1; omega
    · rw [hb, List.nodup_append]
      refine ⟨h.stamps, by simp, fun a ha b hb' => ?_⟩
      simp at hb'
      obtain ⟨e', he', e2⟩ := List.mem_map.1 ha
      have := h.born e' he'
      omega
    · rw [hk, List.nodup_append]
      refine ⟨h.keys, by simp, fun a ha b hb' => ?_⟩
      simp at hb'
      obtain ⟨e', he', e2⟩ := List.mem_map.1 ha
      rw [hb', ← e2]
      exact getX_none hg e' he'
/-! ### what is left of a range -/
end keys
section ops
variable {κ : Type} [DecidableEq κ] {enc : κ → Value}
variable {P : Program} {W : World} {C : Cls W} {o : Oper} {fr : Fr} {m : Mem}
/-! ### ranges -/
end ops
/-! ### structs as keys -/
end Go.Abs
