import Derived.Test.YthkheklnlggnbaaMat05d
set_option linter.unusedSectionVars false
set_option linter.unusedSimpArgs false
set_option linter.unusedVariables false
/-! Layer 5: distances: lines the other way round, and lines moved. -/
namespace Go.R05
set_option linter.unusedVariables false
set_option linter.unusedSectionVars false
theorem dot0_eq {a b : Sp} (h : dotv (mns b a) (mns b a) ≤ 0) : a = b := by
  obtain ⟨x, y⟩ := a; obtain ⟨u, v⟩ := b
  unfold dotv mns at h
  simp only at h
  have h1 := sq_nonneg (u - x)
  have h2 := sq_nonneg (v - y)
  have z1 : (u - x) * (u - x) = 0 := by omega
  have z2 : (v - y) * (v - y) = 0 := by omega
  have y1 := (Int.mul_eq_zero.1 z1).elim id id
  have y2 := (Int.mul_eq_zero.1 z2).elim id id
  exact Prod.ext (by simp only; omega) (by simp only; omega)
theorem ptd_rev (p a b : Sp) : ptd p b a = ptd p a b := by
  have d1 : dotv (mns a b) (mns a b) = dotv (mns b a) (mns b a) := by
    obtain ⟨x, y⟩ := p; obtain ⟨c, d⟩ := a; obtain ⟨e, f⟩ := b
    unfold mns dotv; grind
  have d2 : dotv (mns a b) (mns p b) = dotv (mns b a) (mns b a) - dotv (mns b a) (mns p a) := by
    obtain ⟨x, y⟩ := p; obtain ⟨c, d⟩ := a; obtain ⟨e, f⟩ := b
    unfold mns dotv; grind
  have d3 : crs (mns a b) (mns p b) * crs (mns a b) (mns p b) = crs (mns b a) (mns p a) * crs (mns b a) (mns p a) := by
    obtain ⟨x, y⟩ := p; obtain ⟨c, d⟩ := a; obtain ⟨e, f⟩ := b
    unfold mns crs; grind
  have d4 := dot_nonneg (mns b a)
  unfold ptd
  rw [d1, d2, d3]
  have eq0 : dotv (mns b a) (mns b a) ≤ 0 → (dotv (mns p b) (mns p b), (1 : Int)) = (dotv (mns p a) (mns p a), 1) := fun h => by rw [dot0_eq h]
  generalize dotv (mns b a) (mns b a) = D at *
  generalize dotv (mns b a) (mns p a) = E at *
  by_cases h1 : E ≤ 0
  · by_cases h2 : D ≤ E
    · rw [if_pos (by omega), if_pos h1]; exact eq0 (by omega)
    · rw [if_neg (by omega), if_pos (by omega), if_pos h1]
  · by_cases h2 : D ≤ E
    · rw [if_pos (by omega), if_neg h1, if_pos h2]
    · rw [if_neg (by omega), if_neg (by omega), if_neg h1, if_neg h2]
theorem opp_comm (a b : Int) : opp a b = opp b a := by unfold opp; rw [Int.min_comm, Int.max_comm]
theorem opp_neg (a b : Int) : opp (-a) (-b) = opp a b := by
  unfold opp
  rw [Bool.eq_iff_iff]
  simp only [Bool.and_eq_true, decide_eq_true_eq]
  omega
theorem side_rev (s : Sg) (p : Sp) : side (s.2, s.1) p = -(side s p) := by
  obtain ⟨⟨c, d⟩, ⟨e, f⟩⟩ := s; obtain ⟨x, y⟩ := p
  unfold side mns crs; grind
theorem meets_rev (s t : Sg) : meets t (s.2, s.1) = meets s t := by
  unfold meets
  rw [side_rev, side_rev, opp_neg, opp_comm (side t (s.2, s.1).1), Bool.and_comm]
theorem minF_same {l r : List Sq} (hl : l ≠ []) (hr : r ≠ []) (ol : ∀ x ∈ l, okS x) (orr : ∀ x ∈ r, okS x) (hlr : ∀ x ∈ l, ∃ y ∈ r, low y = low x) (hrl : ∀ x ∈ r, ∃ y ∈ l, low y = low x) : low (minF l) = low (minF r) := by
  obtain ⟨a1, a2⟩ := minF_spec hl ol
  obtain ⟨b1, b2⟩ := minF_spec hr orr
  exact low_least a1 b1 ol orr a2 b2 hlr hrl
theorem sgd_rev (s t : Sg) : low (sgd t (s.2, s.1)) = low (sgd s t) := by
  unfold sgd
  rw [meets_rev]
  split
  · rfl
  · refine minF_same (by simp [ends]) (by simp [ends]) (ends_ok _ _) (ends_ok _ _) (fun x hx => ⟨x, ?_, rfl⟩) (fun x hx => ⟨x, ?_, rfl⟩)
    · simp only [ends, List.mem_cons, List.not_mem_nil, or_false, ptd_rev] at hx ⊢
      rcases hx with h | h | h | h <;> simp [h]
    · simp only [ends, List.mem_cons, List.not_mem_nil, or_false, ptd_rev] at hx ⊢
      rcases hx with h | h | h | h <;> simp [h]
theorem segs_cons2 (x y : Sp) (l : List Sp) : segs (x :: y :: l) = (x, y) :: (if l = [] then [] else segs (y :: l)) := by
  cases l with
  | nil => rfl
  | cons z l => rfl
theorem segs_snoc : ∀ (l : List Sp) (x y : Sp), segs (l ++ [x, y]) = (if l = [] then [] else segs (l ++ [x])) ++ [(x, y)]
  | [], x, y => rfl
  | [a], x, y => rfl
  | a :: b :: l, x, y => by
    have ih := segs_snoc (b :: l) x y
    rw [if_neg (by simp)] at ih ⊢
    rw [show (a :: b :: l) ++ [x, y] = a :: b :: (l ++ [x, y]) from rfl, segs_cons2, if_neg (by simp), show b :: (l ++ [x, y]) = (b :: l) ++ [x, y] from rfl, ih,
      show (a :: b :: l) ++ [x] = a :: b :: (l ++ [x]) from rfl, segs_cons2, if_neg (by simp)]
    rfl
theorem segs_rev : ∀ l : List Sp, segs l.reverse = ((segs l).map fun s => (s.2, s.1)).reverse
  | [] => rfl
  | [a] => rfl
  | a :: b :: l => by
    have ih := segs_rev (b :: l)
    rw [List.reverse_cons, List.reverse_cons, List.append_assoc, show [b] ++ [a] = [b, a] from rfl, segs_snoc, segs_cons2]
    by_cases h : l = []
    · subst h; rfl
    · rw [if_neg (by simpa using h), if_neg h, ← List.reverse_cons, ih]
      simp
theorem dst_rev {a b : List Sp} (ha : a ≠ []) (hb : b ≠ []) : low (dst b a.reverse) = low (dst a b) := by
  unfold dst
  refine minF_same (allSq_ne hb (by simpa using ha)) (allSq_ne ha hb) (allSq_ok _ _) (allSq_ok _ _) (fun x hx => ?_) (fun x hx => ?_)
  · simp only [allSq, segs_rev, List.mem_flatMap, List.mem_map, List.mem_reverse] at hx ⊢
    obtain ⟨t, ht, s', ⟨s, hs, rfl⟩, rfl⟩ := hx
    exact ⟨sgd s t, ⟨s, hs, t, ht, rfl⟩, (sgd_rev s t).symm⟩
  · simp only [allSq, segs_rev, List.mem_flatMap, List.mem_map, List.mem_reverse] at hx ⊢
    obtain ⟨s, hs, t, ht, rfl⟩ := hx
    exact ⟨sgd t (s.2, s.1), ⟨t, ht, (s.2, s.1), ⟨s, hs, rfl⟩, rfl⟩, sgd_rev s t⟩
/-! ### moved -/
/-- A move that keeps lengths: turned over (k = -1) or not (k = 1). -/
def Iso (f : Sp → Sp) : Prop := ∃ k : Int, (k = 1 ∨ k = -1) ∧ ∀ p a b c : Sp, dotv (mns (f p) (f a)) (mns (f b) (f c)) = dotv (mns p a) (mns b c) ∧ crs (mns (f p) (f a)) (mns (f b) (f c)) = k * crs (mns p a) (mns b c)
theorem Iso.comp {f g : Sp → Sp} (hf : Iso f) (hg : Iso g) : Iso (fun p => g (f p)) := by
  obtain ⟨k, hk, h⟩ := hf
  obtain ⟨j, hj, h'⟩ := hg
  refine ⟨j * k, by rcases hk with rfl | rfl <;> rcases hj with rfl | rfl <;> simp, fun p a b c => ⟨?_, ?_⟩⟩
  · rw [(h' _ _ _ _).1, (h _ _ _ _).1]
  · rw [(h' _ _ _ _).2, (h _ _ _ _).2, Int.mul_assoc]
theorem Iso.id : Iso (fun p => p) := ⟨1, .inl rfl, fun p a b c => ⟨rfl, by simp⟩⟩
theorem Iso.mir : Iso (fun p => (-p.1, p.2)) := ⟨-1, .inr rfl, fun p a b c => by unfold dotv crs mns; constructor <;> grind⟩
theorem Iso.rot : Iso (fun p => (-p.2, p.1)) := ⟨1, .inl rfl, fun p a b c => by unfold dotv crs mns; constructor <;> grind⟩
theorem Iso.add (d : Sp) : Iso (fun p => (p.1 + d.1, p.2 + d.2)) := ⟨1, .inl rfl, fun p a b c => by unfold dotv crs mns; constructor <;> grind⟩
theorem ptd_iso {f : Sp → Sp} (hf : Iso f) (p a b : Sp) : ptd (f p) (f a) (f b) = ptd p a b := by
  obtain ⟨k, hk, h⟩ := hf
  have kk : k * k = 1 := by rcases hk with rfl | rfl <;> rfl
  have e : ∀ c : Int, (k * c) * (k * c) = c * c := fun c => by
    rcases hk with rfl | rfl
    · simp
    · rw [Int.neg_one_mul, Int.neg_mul_neg]
  unfold ptd
  simp only [(h _ _ _ _).1, (h _ _ _ _).2, e]
theorem meets_iso {f : Sp → Sp} (hf : Iso f) (s t : Sg) : meets (f s.1, f s.2) (f t.1, f t.2) = meets s t := by
  obtain ⟨k, hk, h⟩ := hf
  unfold meets side
  simp only [(h _ _ _ _).2]
  rcases hk with rfl | rfl
  · simp only [Int.one_mul]
  · simp only [Int.neg_one_mul, opp_neg]
theorem sgd_iso {f : Sp → Sp} (hf : Iso f) (s t : Sg) : sgd (f s.1, f s.2) (f t.1, f t.2) = sgd s t := by
  unfold sgd ends
  rw [meets_iso hf]
  simp only [ptd_iso hf]
theorem segs_map (f : Sp → Sp) : ∀ l : List Sp, segs (l.map f) = (segs l).map fun s => (f s.1, f s.2)
  | [] => rfl
  | [a] => rfl
  | a :: b :: l => by
    have ih := segs_map f (b :: l)
    simp only [List.map_cons] at ih ⊢
    rw [segs_cons2, segs_cons2]
    by_cases h : l = []
    · subst h; rfl
    · rw [if_neg (by simpa using h), if_neg h, ih]; rfl
theorem dst_iso {f : Sp → Sp} (hf : Iso f) (a b : List Sp) : dst (a.map f) (b.map f) = dst a b := by
  unfold dst allSq
  congr 1
  rw [segs_map, segs_map, List.flatMap_map]
  congr 1
  funext s
  rw [List.map_map]
  congr 1
  funext t
  exact sgd_iso hf s t
/-- Quarters of a turn. -/
def rotK : Nat → Sp → Sp
  | 0, p => p
  | k + 1, p => (-(rotK k p).2, (rotK k p).1)
theorem Iso.rots : ∀ k, Iso (rotK k)
  | 0 => Iso.id
  | k + 1 => (Iso.rots k).comp Iso.rot
theorem rotK_bd {M : Int} : ∀ (k : Nat) {p : Sp}, (-M ≤ p.1 ∧ p.1 ≤ M) ∧ (-M ≤ p.2 ∧ p.2 ≤ M) → (-M ≤ (rotK k p).1 ∧ (rotK k p).1 ≤ M) ∧ (-M ≤ (rotK k p).2 ∧ (rotK k p).2 ≤ M)
  | 0, _, h => h
  | k + 1, p, h => by
    have := rotK_bd k h
    show (-M ≤ -(rotK k p).2 ∧ -(rotK k p).2 ≤ M) ∧ (-M ≤ (rotK k p).1 ∧ (rotK k p).1 ≤ M)
    omega
def mirB (m : Bool) (p : Sp) : Sp := if m then (-p.1, p.2) else p
theorem Iso.mirB (m : Bool) : Iso (mirB m) := by
  cases m
  · exact Iso.id
  · exact Iso.mir
end Go.R05
