import Derived.Test.YtgeaklbldhijbaaMat03c
set_option linter.unusedSectionVars false
set_option linter.unusedSimpArgs false
set_option linter.unusedVariables false
/-! Layer 3: how many rosettes lift by a list: a sum over what is high. -/
namespace Go.R03
def allL : Nat → Nat → List (List Int)
  | 0, _ => [[]]
  | n + 1, M => (List.range (M + 1)).flatMap fun h => (allL n M).map (Int.ofNat h :: ·)
def top (l : List Int) : Nat := (l.foldr max 0).toNat
def sols (l b : List Int) : Nat := ((allL l.length (top l)).filter fun f => sames (lifted f b) l).length
/-- How many lists there are below g, if those steps that are as high as g are such that P. -/
def cntF : List Int → (List Bool → Bool) → Nat
  | [], P => if P [] then 1 else 0
  | x :: g, P => cntF g (fun r => P (true :: r)) + x.toNat * cntF g (fun r => P (false :: r))
theorem cntF_false : ∀ g : List Int, cntF g (fun _ => false) = 0
  | [] => rfl
  | x :: g => by simp [cntF, cntF_false g]
theorem cntF_and (g : List Int) (c : Bool) (P : List Bool → Bool) : cntF g (fun r => c && P r) = if c then cntF g P else 0 := by
  cases c
  · simpa using cntF_false g
  · simp
theorem cntF_congr : ∀ (g : List Int) {P Q : List Bool → Bool}, (∀ r, r.length = g.length → P r = Q r) → cntF g P = cntF g Q
  | [], P, Q, h => by simp [cntF, h [] rfl]
  | x :: g, P, Q, h => by
    simp only [cntF]
    rw [cntF_congr g fun r hr => h (true :: r) (by simp [hr]), cntF_congr g fun r hr => h (false :: r) (by simp [hr])]
def leqL (f g : List Int) : Bool := (f.zip g).all fun x => decide (x.1 ≤ x.2)
def bitsL (f g : List Int) : List Bool := f.zipWith (fun a c => decide (a = c)) g
theorem sum_split (x A B : Nat) : ∀ k : Nat, ((List.range k).map fun h => if h < x then A else if h = x then B else 0).sum = if k ≤ x then k * A else x * A + B
  | 0 => by simp
  | k + 1 => by
    rw [List.range_succ, List.map_append, List.sum_append_nat, sum_split x A B k]
    simp only [List.map_cons, List.map_nil, List.sum_cons, List.sum_nil, Nat.add_zero]
    rcases Nat.lt_trichotomy k x with h | h | h
    · rw [if_pos (by omega), if_pos h, if_pos (by omega), Nat.succ_mul]
    · subst h; rw [if_pos (Nat.le_refl _), if_neg (by omega), if_pos rfl, if_neg (by omega)]
    · rw [if_neg (by omega), if_neg (by omega), if_neg (by omega), if_neg (by omega)]; rfl
theorem countP_flat {α β : Type} (p : β → Bool) (F : α → List β) (l : List α) : (l.flatMap F).countP p = (l.map fun a => (F a).countP p).sum := by
  rw [List.countP_flatMap]; rfl
theorem cnt_allL : ∀ (g : List Int) (M : Nat) (P : List Bool → Bool), (∀ x ∈ g, 0 ≤ x ∧ x ≤ M) → (allL g.length M).countP (fun f => leqL f g && P (bitsL f g)) = cntF g P
  | [], M, P, _ => by simp [allL, cntF, leqL, bitsL]
  | x :: g, M, P, h => by
    obtain ⟨h1, h2⟩ := h x (List.mem_cons_self ..)
    obtain ⟨n, rfl⟩ := Int.eq_ofNat_of_zero_le h1
    have ihT := cnt_allL g M (fun r => P (true :: r)) fun y hy => h y (List.mem_cons_of_mem _ hy)
    have ihF := cnt_allL g M (fun r => P (false :: r)) fun y hy => h y (List.mem_cons_of_mem _ hy)
    simp only [List.length_cons, allL]
    rw [countP_flat]
    have e : (List.range (M + 1)).map (fun a => ((allL g.length M).map (Int.ofNat a :: ·)).countP (fun f => leqL f ((n : Int) :: g) && P (bitsL f ((n : Int) :: g)))) =
        (List.range (M + 1)).map fun k => if k < n then cntF g (fun r => P (false :: r)) else if k = n then cntF g (fun r => P (true :: r)) else 0 := by
      apply List.map_congr_left
      intro k _
      rw [List.countP_map, ← ihT, ← ihF]
      split
      · rename_i hk
        apply List.countP_congr
        intro y _
        simp [leqL, bitsL, show ¬ (k : Int) = n by omega, show (k : Int) ≤ n by omega]
      · split
        · rename_i hk hk2
          subst hk2
          apply List.countP_congr
          intro y _
          simp [leqL, bitsL]
        · rename_i hk hk2
          rw [List.countP_eq_zero]
          intro y _
          simp [leqL, show ¬ k ≤ n by omega]
    rw [e, sum_split, if_neg (by omega)]
    simp only [cntF, Int.toNat_natCast]
    omega
/-- At each step one of the steps that are high is touched. -/
def touB (l b g : List Int) (bs : List Bool) (p : Nat) : Bool := (List.range b.length).any fun j => bs.getD (((p : Int) + (j - hw b)) % (l.length : Int)).toNat false && decide (ca g ((p : Int) + (j - hw b)) - b.getD j 0 = ca l p)
def okB (l b g : List Int) (bs : List Bool) : Bool := (List.range l.length).all fun p => touB l b g bs p
theorem leqL_iff : ∀ {f g : List Int}, f.length = g.length → (leqL f g = true ↔ LE f g)
  | f, g, hl => by
    rw [le_iff]
    unfold leqL
    rw [List.all_eq_true]
    constructor
    · intro h
      refine ⟨hl, fun p hp => ?_⟩
      have := h (f[p], g[p]'(by omega)) (by rw [← List.getElem_zip (h := by simp; omega)]; exact List.getElem_mem _)
      simpa [hp, show p < g.length by omega] using this
    · rintro ⟨_, h⟩ x hx
      obtain ⟨i, hi, rfl⟩ := List.getElem_of_mem hx
      have hi1 : i < f.length := by simp at hi; omega
      have hi2 : i < g.length := by omega
      have := h i hi1
      simpa [hi1, hi2] using this
theorem bits_at {f g : List Int} (hl : f.length = g.length) {p : Nat} (hp : p < f.length) : (bitsL f g).getD p false = decide (f.getD p 0 = g.getD p 0) := by
  unfold bitsL
  simp [List.getElem?_zipWith, hp, show p < g.length by omega]
section sols
variable {l b : List Int} (hn : 1 ≤ l.length) (hb : Rub b)
include hn hb
theorem lifts_iff {f : List Int} (hf : f.length = l.length) (hg : lifted (below l b) b = l) : lifted f b = l ↔ leqL f (below l b) = true ∧ okB l b (below l b) (bitsL f (below l b)) = true := by
  have hbl := below_length l b
  rw [leqL_iff (by omega)]
  have hbit : ∀ i : Int, (bitsL f (below l b)).getD (i % (l.length : Int)).toNat false = decide (ca f i = ca (below l b) i) := fun i => by
    have h1 := Int.emod_nonneg i (show (l.length : Int) ≠ 0 by omega)
    have h2 := Int.emod_lt_of_pos i (show (0 : Int) < l.length by omega)
    rw [bits_at (by omega) (by omega)]
    unfold ca
    rw [hf, hbl]
  have hok : okB l b (below l b) (bitsL f (below l b)) = true ↔ ∀ p : Nat, p < l.length → ∃ j : Nat, j < b.length ∧ ca f ((p : Int) + (j - hw b)) = ca (below l b) ((p : Int) + (j - hw b)) ∧ ca (below l b) ((p : Int) + (j - hw b)) - b.getD j 0 = ca l p := by
    unfold okB touB
    simp only [List.all_eq_true, List.mem_range, List.any_eq_true, Bool.and_eq_true, hbit, decide_eq_true_eq]
  rw [hok]
  constructor
  · intro h
    have hle : LE f (below l b) := (adjoint (by omega) hf hb).1 (by rw [h]; exact LE.refl _)
    refine ⟨hle, fun p hp => ?_⟩
    obtain ⟨j, hj, e⟩ := lift_touch (f := f) (by omega) hb p
    rw [h] at e
    have g1 := hle.2 ((p : Int) + (j - hw b))
    have g2 := (lift_le (f := below l b) (by omega) hb).1 (Int.le_refl (ca (lifted (below l b) b) p)) j hj
    rw [hg] at g2
    exact ⟨j, hj, by omega, by omega⟩
  · rintro ⟨hle, h⟩
    apply LE.anti
    · have := lifted_mono (by omega) hb hle
      rwa [hg] at this
    · rw [le_iff]
      refine ⟨by rw [lifted_length, hf], fun p hp => ?_⟩
      obtain ⟨j, hj, e1, e2⟩ := h p hp
      have g2 := (lift_le (f := f) (by omega) hb).1 (Int.le_refl (ca (lifted f b) p)) j hj
      rw [ca_nat hp] at e2
      rw [ca_nat (f := lifted f b) (by rw [lifted_length]; omega)] at g2
      omega
omit hn hb in
theorem allL_len : ∀ (n M : Nat) (g : List Int), g ∈ allL n M → g.length = n := by
  intro n M
  induction n with
  | zero => intro g hg; simp [allL] at hg; simp [hg]
  | succ n ih =>
    intro g hg
    simp only [allL, List.mem_flatMap, List.mem_map] at hg
    obtain ⟨h, _, y, hy, rfl⟩ := hg
    simp [ih y hy]
omit hn hb in
theorem le_top2 : ∀ (l : List Int) (x : Int), x ∈ l → x ≤ l.foldr max 0 := by
  intro l
  induction l with
  | nil => intro x h; cases h
  | cons y l ih =>
    intro x h
    simp only [List.foldr_cons]
    rcases List.mem_cons.1 h with rfl | h
    · omega
    · have := ih x h; omega
/-- The number of rosettes that lift by the list. -/
theorem sols_eq (hl : hts l = true) (hg : lifted (below l b) b = l) : sols l b = cntF (below l b) (okB l b (below l b)) := by
  have hbl := below_length l b
  have hh := hts_at (zs := l) hl
  rw [← cnt_allL (below l b) (top l) (okB l b (below l b)) ?_]
  · unfold sols
    rw [hbl, ← List.countP_eq_length_filter]
    apply List.countP_congr
    intro f hf
    have := lifts_iff (f := f) hn hb (allL_len _ _ _ hf) hg
    unfold sames
    rw [decide_eq_true_eq, this, Bool.and_eq_true]
  · intro x hx
    obtain ⟨i, hi, rfl⟩ := List.getElem_of_mem hx
    have g1 := (le_iff.1 (below_le (f := l) hn hb)).2 i hi
    have hi2 : i < l.length := by omega
    have g2 := le_top2 l l[i] (List.getElem_mem _)
    have g3 : (0 : Int) ≤ (below l b).getD i 0 := by
      have := (le_below (f := l) (i := i) (x := 0) hn hb).2 fun j hj => by
        have a1 := hts_ca hl ((i : Int) - (j - hw b))
        have a2 := hts_at hb.hts j
        omega
      rwa [ca_nat hi] at this
    simp [hi, hi2] at g1 g3
    unfold top
    omega
theorem sols_zero (hg : lifted (below l b) b ≠ l) : sols l b = 0 := by
  unfold sols
  rw [List.length_eq_zero_iff, List.filter_eq_nil_iff]
  intro f hf h
  have h := of_decide_eq_true h
  have hfl := allL_len _ _ _ hf
  apply hg
  have := lift_close (f := f) (by omega) hb
  rwa [h] at this
end sols
end Go.R03
