import Derived.Test.YthkheklnlggnbaaMat05d
set_option linter.unusedSectionVars false
set_option linter.unusedSimpArgs false
set_option linter.unusedVariables false
/-! Layer 5: distances: spots of a line alone, and lines that share a spot. -/
namespace Go.R05
set_option linter.unusedVariables false
set_option linter.unusedSectionVars false
theorem lagr (u w : Sp) : crs u w * crs u w + dotv u w * dotv u w = dotv u u * dotv w w := by
  obtain ⟨a, b⟩ := u; obtain ⟨c, d⟩ := w
  unfold crs dotv
  grind
theorem crs_le (u w : Sp) : crs u w * crs u w ≤ dotv w w * dotv u u := by
  have h := lagr u w
  have := sq_nonneg (dotv u w)
  rw [Int.mul_comm (dotv w w)]
  omega
theorem far_end (p a b : Sp) : dotv (mns p b) (mns p b) = dotv (mns p a) (mns p a) - 2 * dotv (mns b a) (mns p a) + dotv (mns b a) (mns b a) := by
  obtain ⟨x, y⟩ := p; obtain ⟨c, d⟩ := a; obtain ⟨e, f⟩ := b
  unfold mns dotv
  grind
theorem crs_end (p a b : Sp) : crs (mns b a) (mns p a) = crs (mns b a) (mns p b) := by
  obtain ⟨x, y⟩ := p; obtain ⟨c, d⟩ := a; obtain ⟨e, f⟩ := b
  unfold mns crs
  grind
/-- A spot is no farther from a segment than from an end of it. -/
theorem ptd_end (p u v s : Sp) (h : s = u ∨ s = v) : ¬ sqL (dotv (mns p s) (mns p s), 1) (ptd p u v) := by
  have e1 := far_end p u v
  have d1 := dot_nonneg (mns v u)
  have c1 := crs_le (mns v u) (mns p u)
  have c2 := crs_le (mns v u) (mns p v)
  rw [← crs_end p u v] at c2
  unfold sqL ptd
  rcases h with rfl | rfl
  · split
    · simp only; omega
    · split
      · simp only; omega
      · simp only; omega
  · split
    · simp only; omega
    · split
      · simp only; omega
      · simp only; omega
theorem mns_self (s : Sp) : mns s s = (0, 0) := by unfold mns; rw [Int.sub_self, Int.sub_self]
theorem meets_pt (s : Sp) (t : Sg) : meets (s, s) t = false := by
  have e : ∀ p, side (s, s) p = 0 := fun p => by unfold side; rw [mns_self]; unfold crs; simp
  unfold meets
  rw [e, e]
  rfl
theorem ptd_pt (p s : Sp) : ptd p s s = (dotv (mns p s) (mns p s), 1) := by
  unfold ptd
  rw [mns_self, if_pos (by unfold dotv; simp)]
theorem no_less_zero {x : Sq} (h : okS x) (k : Int) (hk : 0 < k) : ¬ sqL x (0, k) := by
  unfold sqL
  have := Int.mul_nonneg h.1 (Int.le_of_lt hk)
  simp only; omega
theorem pt_seg (s : Sp) (u v : Sp) (t : Sg) (h : s = u ∨ s = v) : ¬ sqL (sgd (s, s) t) (sgd (u, v) t) := by
  have ok1 := sgd_ok (s, s) t
  by_cases hm : meets (u, v) t = true
  · have : sgd (u, v) t = (0, 1) := by unfold sgd; rw [if_pos hm]
    rw [this]
    exact no_less_zero ok1 1 (by decide)
  have e2 : sgd (u, v) t = minF (ends (u, v) t) := by unfold sgd; rw [if_neg hm]
  have e1 : sgd (s, s) t = minF (ends (s, s) t) := by unfold sgd; rw [meets_pt]; rfl
  have m1 := (minF_spec (l := ends (s, s) t) (by simp [ends]) (ends_ok _ _)).1
  have m2 := (minF_spec (l := ends (u, v) t) (by simp [ends]) (ends_ok _ _)).2
  have o2 := sgd_ok (u, v) t
  rw [e2] at o2 ⊢
  rw [e1]
  have key : ∀ x y, x ∈ ends (u, v) t → okS y → ¬ sqL y x → ¬ sqL y (minF (ends (u, v) t)) := fun x y hx hy h => sqL_trans_le o2 (ends_ok _ _ x hx) hy (m2 x hx) h
  have t1 : ptd t.1 u v ∈ ends (u, v) t := by simp [ends]
  have t2 : ptd t.2 u v ∈ ends (u, v) t := by simp [ends]
  have t3 : ptd u t.1 t.2 ∈ ends (u, v) t := by simp [ends]
  have t4 : ptd v t.1 t.2 ∈ ends (u, v) t := by simp [ends]
  have t5 : ptd s t.1 t.2 ∈ ends (u, v) t := by
    rcases h with rfl | rfl
    · exact t3
    · exact t4
  have q1 : ¬ sqL (ptd t.1 s s) (minF (ends (u, v) t)) := key _ _ t1 (ptd_ok _ _ _) (by rw [ptd_pt]; exact ptd_end _ _ _ _ h)
  have q2 : ¬ sqL (ptd t.2 s s) (minF (ends (u, v) t)) := key _ _ t2 (ptd_ok _ _ _) (by rw [ptd_pt]; exact ptd_end _ _ _ _ h)
  have q3 : ¬ sqL (ptd s t.1 t.2) (minF (ends (u, v) t)) := m2 _ t5
  generalize minF (ends (s, s) t) = M at *
  simp only [ends, List.mem_cons, List.not_mem_nil, or_false] at m1
  rcases m1 with e | e | e | e <;> rw [e] <;> assumption
theorem segs_mem : ∀ {a : List Sp} {s : Sp}, s ∈ a → ∃ u ∈ segs a, s = u.1 ∨ s = u.2
  | [x], s, h => by
    obtain rfl := List.mem_singleton.1 h
    exact ⟨(s, s), by simp [segs], .inl rfl⟩
  | x :: y :: l, s, h => by
    rcases List.mem_cons.1 h with rfl | h
    · exact ⟨(s, y), by simp [segs], .inl rfl⟩
    · obtain ⟨u, hu, hs⟩ := segs_mem h
      cases l with
      | nil =>
        simp only [segs, List.mem_singleton] at hu
        subst hu
        refine ⟨(x, y), by simp [segs], .inr ?_⟩
        rcases hs with e | e <;> exact e
      | cons z l => exact ⟨u, by simp only [segs, List.zip_cons_cons, List.mem_cons] at *; exact .inr hu, hs⟩
theorem allSq_mem {a b : List Sp} {u t : Sg} (hu : u ∈ segs a) (ht : t ∈ segs b) : sgd u t ∈ allSq a b := by
  unfold allSq
  exact List.mem_flatMap.2 ⟨u, hu, List.mem_map.2 ⟨t, ht, rfl⟩⟩
/-- A spot of a line alone is no nearer. -/
theorem dst_spot {a b : List Sp} {s : Sp} (hb : b ≠ []) (hs : s ∈ a) : ¬ sqL (dst [s] b) (dst a b) := by
  have ha : a ≠ [] := fun e => by rw [e] at hs; cases hs
  have h1 := (minF_spec (allSq_ne (a := [s]) (by simp) hb) (allSq_ok [s] b)).1
  obtain ⟨u, hu, hsu⟩ := segs_mem hs
  simp only [allSq, segs, List.flatMap_cons, List.flatMap_nil, List.append_nil, List.mem_map] at h1
  obtain ⟨t, ht, e⟩ := h1
  have e' : dst [s] b = sgd (s, s) t := by
    rw [e]; unfold dst allSq segs
    simp
  have h2 := (minF_spec (allSq_ne ha hb) (allSq_ok a b)).2 _ (allSq_mem hu ht)
  rw [e']
  exact sqL_trans_le (dst_ok ha hb) (sgd_ok u t) (sgd_ok (s, s) t) h2 (pt_seg s u.1 u.2 t hsu)
theorem zero_of {x m : Sq} (hx : okS x) (hm : okS m) (h0 : x.1 = 0) (h : ¬ sqL x m) : m.1 = 0 := by
  unfold sqL at h
  rw [h0, Int.zero_mul] at h
  have := hm.1
  rcases Int.lt_or_le 0 m.1 with h1 | h1
  · exact absurd (Int.mul_pos h1 hx.2) h
  · omega
theorem ptd_zero (p u v : Sp) (h : p = u ∨ p = v) : (ptd p u v).1 = 0 := by
  have hz : ∀ a : Sp, dotv (mns a a) (mns a a) = 0 := fun a => by rw [mns_self]; rfl
  unfold ptd
  rcases h with rfl | rfl
  · rw [if_pos]
    · exact hz p
    · rw [mns_self]; unfold dotv; simp
  · split
    · have := dot_nonneg (mns p u); show dotv (mns p u) (mns p u) = 0; omega
    · rw [if_pos (Int.le_refl _)]; exact hz p
/-- Lines that share a spot. -/
theorem dst_share {a b : List Sp} {s : Sp} (ha : s ∈ a) (hb : s ∈ b) : (dst a b).1 = 0 := by
  have hna : a ≠ [] := fun e => by rw [e] at ha; cases ha
  have hnb : b ≠ [] := fun e => by rw [e] at hb; cases hb
  obtain ⟨u, hu, hsu⟩ := segs_mem ha
  obtain ⟨t, ht, hst⟩ := segs_mem hb
  have h2 := (minF_spec (allSq_ne hna hnb) (allSq_ok a b)).2 _ (allSq_mem hu ht)
  refine zero_of (sgd_ok u t) (dst_ok hna hnb) ?_ h2
  unfold sgd
  split
  · rfl
  · have m2 := (minF_spec (l := ends u t) (by simp [ends]) (ends_ok _ _))
    have hx : ptd s u.1 u.2 ∈ ends u t := by
      rcases hst with e | e
      · rw [e]; simp [ends]
      · rw [e]; simp [ends]
    exact zero_of (ptd_ok _ _ _) (ends_ok _ _ _ m2.1) (ptd_zero s u.1 u.2 hsu) (m2.2 _ hx)
theorem low_zero {p : Sq} (hp : okS p) (h : p.1 = 0) : low p = (0, 1) := low_eq (p := p) (q := (0, 1)) hp ⟨by decide, by decide⟩ (by rw [h]; simp) |>.trans rfl
/-- So far apart, by whole parts. -/
theorem apart_ediv {p : Sq} (hp : okS p) {N : Int} (hN : 0 ≤ N) : decide (N ≤ (low p).1 / (low p).2) = !decide (sqL p (N, 1)) := by
  obtain ⟨h1, _⟩ := low_ok hp
  have e : sqL (low p) (N, 1) ↔ sqL p (N, 1) := sqL_low hp ⟨hN, Int.one_pos⟩
  rw [← decide_not]
  congr 1
  apply propext
  rw [← e, Int.le_ediv_iff_mul_le h1.2]
  unfold sqL
  simp
end Go.R05
