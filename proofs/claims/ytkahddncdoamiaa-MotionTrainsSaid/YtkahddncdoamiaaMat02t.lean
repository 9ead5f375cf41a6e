import Derived.Test.YtkahddncdoamiaaAbsInts
set_option linter.unusedSectionVars false
set_option linter.unusedSimpArgs false
set_option linter.unusedVariables false
/-! Layer 2: trains of wheels: the mathematics. -/
namespace Go.R02
theorem find_at {α : Type} {f : Nat → Option α} {n k : Nat} {x : α} (hk : k < n) (h0 : ∀ j, j < k → f j = none) (h : f k = some x) : (List.range n).findSome? f = some x := by
  rw [List.findSome?_eq_some_iff]
  refine ⟨List.range k, k, (List.range (n - k - 1)).map (k + 1 + ·), ?_, h, fun j hj => h0 j (List.mem_range.1 hj)⟩
  apply List.ext_getElem
  · simp; omega
  · intro i h1 h2
    simp only [List.getElem_range]
    by_cases hi : i < k
    · rw [List.getElem_append_left (by simpa using hi)]; simp
    · rw [List.getElem_append_right (by simpa using Nat.le_of_not_lt hi)]
      simp only [List.length_range]
      rcases Nat.eq_or_lt_of_le (Nat.le_of_not_lt hi) with e | e
      · subst e; simp
      · obtain ⟨d, hd⟩ : ∃ d, i - k = d + 1 := ⟨i - k - 1, by omega⟩
        simp only [hd, List.getElem_cons_succ, List.getElem_map, List.getElem_range]
        omega
theorem find_none {α : Type} {f : Nat → Option α} {n : Nat} (h : ∀ j, j < n → f j = none) : (List.range n).findSome? f = none := by
  rw [List.findSome?_eq_none_iff]
  exact fun j hj => h j (List.mem_range.1 hj)
theorem find_congr {α : Type} {f g : Nat → Option α} {n : Nat} (h : ∀ j, j < n → f j = g j) : (List.range n).findSome? f = (List.range n).findSome? g := by
  induction n with
  | zero => rfl
  | succ n ih =>
    rw [List.range_succ, List.findSome?_append, List.findSome?_append, ih fun j hj => h j (by omega)]
    simp only [List.findSome?_cons, List.findSome?_nil]
    rw [h n (by omega)]
theorem find_mul {α : Type} (f : Nat → Nat → Option α) (m : Nat) : ∀ n : Nat, (List.range (n * m)).findSome? (fun i => f (i / m) (i % m)) = (List.range n).findSome? fun a => (List.range m).findSome? fun b => f a b
  | 0 => by simp
  | n + 1 => by
    rw [Nat.add_mul, Nat.one_mul, List.range_add, List.findSome?_append, find_mul f m n, List.range_succ, List.findSome?_append]
    congr 1
    simp only [List.findSome?_cons, List.findSome?_nil, List.findSome?_map]
    have : (List.range m).findSome? ((fun i => f (i / m) (i % m)) ∘ fun x => n * m + x) = (List.range m).findSome? fun b => f n b := by
      apply find_congr
      intro j hj
      simp only [Function.comp]
      have hm : 0 < m := by omega
      rw [show n * m + j = j + m * n by rw [Nat.mul_comm]; omega, Nat.add_mul_div_left _ _ hm, Nat.add_mul_mod_self_left, Nat.div_eq_of_lt hj, Nat.mod_eq_of_lt hj, Nat.zero_add]
    rw [this]
    cases (List.range m).findSome? fun b => f n b <;> rfl
/-- The first completion of a train that has begun, k wheels short. -/
def goC (w : List Int) (num den : Int) : Nat → List Int → Int → Int → Option (List Int)
  | 0, t, a, b => if a * den = b * num then some t else none
  | k + 1, t, a, b => (List.range w.length).findSome? fun (i : Nat) => if (i : Int) ∈ t then none else goC w num den k (t ++ [(i : Int)]) (if t.length % 2 = 1 then a else a * w.getD i 0) (if t.length % 2 = 1 then b * w.getD i 0 else b)
def hit2 (w : List Int) (num den : Int) (a b : Nat) : Option (List Int) := if a ≠ b ∧ w.getD a 0 * den = w.getD b 0 * num then some [(a : Int), (b : Int)] else none
def hit4 (w : List Int) (num den : Int) (a b c d : Nat) : Option (List Int) :=
  if (a ≠ b ∧ a ≠ c ∧ a ≠ d ∧ b ≠ c ∧ b ≠ d ∧ c ≠ d) ∧ w.getD a 0 * w.getD c 0 * den = w.getD b 0 * w.getD d 0 * num then some [(a : Int), (b : Int), (c : Int), (d : Int)] else none
theorem go2 (w : List Int) (num den : Int) : goC w num den 2 [] 1 1 = (List.range w.length).findSome? fun a => (List.range w.length).findSome? fun b => hit2 w num den a b := by
  apply find_congr
  intro a _
  simp only [List.not_mem_nil, if_false, List.nil_append, List.length_nil, Nat.zero_mod, Nat.zero_ne_one]
  apply find_congr
  intro b _
  simp only [List.mem_singleton, List.length_singleton, Nat.mod_succ, if_true, goC, hit2, Int.one_mul, List.singleton_append]
  by_cases h : a = b
  · subst h; simp
  · rw [if_neg (by omega)]
    by_cases h2 : w.getD a 0 * den = w.getD b 0 * num
    · rw [if_pos h2, if_pos ⟨h, h2⟩]
    · rw [if_neg h2, if_neg fun x => h2 x.2]
theorem go4_nest (w : List Int) (num den : Int) : goC w num den 4 [] 1 1 = (List.range w.length).findSome? fun a => (List.range w.length).findSome? fun b => (List.range w.length).findSome? fun c => (List.range w.length).findSome? fun d => hit4 w num den a b c d := by
  apply find_congr
  intro a _
  simp only [List.not_mem_nil, if_false, List.nil_append, List.length_nil, Nat.zero_mod, Nat.zero_ne_one]
  apply find_congr
  intro b _
  by_cases h1 : a = b
  · subst h1
    rw [if_pos (by simp)]
    symm
    exact find_none fun c _ => find_none fun d _ => if_neg fun x => x.1.1 rfl
  rw [if_neg (by simp; omega)]
  apply find_congr
  intro c _
  by_cases h2 : a = c ∨ b = c
  · rw [if_pos (by simp; omega)]
    symm
    exact find_none fun d _ => if_neg fun x => by omega
  rw [if_neg (by simp; omega)]
  apply find_congr
  intro d _
  by_cases h3 : a = d ∨ b = d ∨ c = d
  · rw [if_pos (by simp; omega)]
    symm
    exact if_neg fun x => by omega
  rw [if_neg (by simp; omega)]
  simp only [goC, hit4, List.length_append, List.length_cons, List.length_nil, List.cons_append, List.nil_append, Int.one_mul]
  simp only [show (0 + 1) % 2 = 1 by decide, show ¬ (0 + 1 + 1) % 2 = 1 by decide, show (0 + 1 + 1 + 1) % 2 = 1 by decide, if_true, if_false]
  by_cases h4 : w.getD a 0 * w.getD c 0 * den = w.getD b 0 * w.getD d 0 * num
  · rw [if_pos h4, if_pos ⟨by omega, h4⟩]
  · rw [if_neg h4, if_neg fun x => h4 x.2]
theorem go4 (w : List Int) (num den : Int) : goC w num den 4 [] 1 1 = (List.range (w.length * w.length * w.length * w.length)).findSome? fun i =>
    hit4 w num den (i / (w.length * w.length * w.length)) (i / (w.length * w.length) % w.length) (i / w.length % w.length) (i % w.length) := by
  obtain ⟨n, hn⟩ : ∃ n, w.length = n := ⟨_, rfl⟩
  rw [go4_nest]
  rw [hn]
  rw [show n * n * n * n = n * (n * (n * n)) by simp [Nat.mul_assoc]]
  have e : (fun i : Nat => hit4 w num den (i / (n * n * n)) (i / (n * n) % n) (i / n % n) (i % n)) = fun i => (fun a j => hit4 w num den a (j / (n * n)) (j % (n * n) / n) (j % (n * n) % n)) (i / (n * (n * n))) (i % (n * (n * n))) := by
    funext i
    have e1 : i % (n * (n * n)) / (n * n) = i / (n * n) % n := by rw [Nat.mul_comm n (n * n), Nat.mod_mul_right_div_self]
    have e2 : i % (n * (n * n)) % (n * n) = i % (n * n) := Nat.mod_mod_of_dvd _ ⟨n, by rw [Nat.mul_comm]⟩
    have e3 : i % (n * n) / n = i / n % n := Nat.mod_mul_right_div_self ..
    have e4 : i % (n * n) % n = i % n := Nat.mod_mod_of_dvd _ ⟨n, rfl⟩
    simp only [e1, e2, e3, e4]
    rw [Nat.mul_assoc]
  rw [e]
  refine Eq.trans ?_ (find_mul (fun a j => hit4 w num den a (j / (n * n)) (j % (n * n) / n) (j % (n * n) % n)) (n * (n * n)) n).symm
  apply find_congr
  intro a _
  refine Eq.trans ?_ (find_mul (fun b l => hit4 w num den a b (l / n) (l % n)) (n * n) n).symm
  apply find_congr
  intro b _
  exact (find_mul (fun c d => hit4 w num den a b c d) n n).symm
def okW (w : List Int) : Bool := w.all fun x => decide (12 ≤ x) && decide (x ≤ 200)
def okR (num den : Int) : Bool := (decide (1 ≤ num) && decide (num ≤ 96)) && (decide (1 ≤ den) && decide (den ≤ 96))
def TRF (w : List Int) (num den : Int) : Option (List Int) := match goC w num den 2 [] 1 1 with | some t => some t | none => goC w num den 4 [] 1 1
def TRE (w : List Int) (num den : Int) : Int := if 16 < w.length then 4 else if okW w = false then 2 else if okR num den = false then 2 else if TRF w num den = none then 6 else 0
def TR (w : List Int) (num den : Int) : List Int := (TRF w num den).getD []
theorem okW_at {w : List Int} (h : okW w = true) {i : Nat} (hi : i < w.length) : 12 ≤ w.getD i 0 ∧ w.getD i 0 ≤ 200 := by
  have := List.all_eq_true.1 h w[i] (List.getElem_mem hi)
  simp at this; simp [hi]; omega
end Go.R02
