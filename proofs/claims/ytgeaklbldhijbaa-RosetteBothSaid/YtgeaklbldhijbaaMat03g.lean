import Derived.Test.YtgeaklbldhijbaaMat03f
set_option linter.unusedSectionVars false
set_option linter.unusedSimpArgs false
set_option linter.unusedVariables false
/-! Layer 3: all lists, one by one. -/
namespace Go.R03
/-- The t-th list: the digits of t, the lowest first. -/
def dig (B : Nat) : Nat → Nat → List Int
  | 0, _ => []
  | n + 1, t => ((t % B : Nat) : Int) :: dig B n (t / B)
theorem dig_length (B : Nat) : ∀ n t, (dig B n t).length = n
  | 0, _ => rfl
  | n + 1, t => by simp [dig, dig_length B n]
theorem dig_mem {B : Nat} (hB : 1 ≤ B) : ∀ n t, ∀ x ∈ dig B n t, 0 ≤ x ∧ x ≤ ((B - 1 : Nat) : Int)
  | 0, _, _, h => by simp [dig] at h
  | n + 1, t, x, h => by
    rcases List.mem_cons.1 h with rfl | h
    · have := Nat.mod_lt t (show B > 0 by omega); omega
    · exact dig_mem hB n _ x h
theorem dig_inj {B : Nat} (hB : 1 ≤ B) : ∀ n t u, t < B ^ n → u < B ^ n → dig B n t = dig B n u → t = u
  | 0, t, u, h1, h2, _ => by simp at h1 h2; omega
  | n + 1, t, u, h1, h2, h => by
    simp only [dig, List.cons.injEq] at h
    have hd : ∀ t, t < B ^ (n + 1) → t / B < B ^ n := fun t ht => by
      rw [Nat.pow_succ, Nat.mul_comm] at ht; exact Nat.div_lt_of_lt_mul ht
    have h3 := dig_inj hB n (t / B) (u / B) (hd t h1) (hd u h2) h.2
    have h4 : t % B = u % B := by omega
    rw [← Nat.div_add_mod t B, ← Nat.div_add_mod u B, h3, h4]
theorem dig_surj {B : Nat} (hB : 1 ≤ B) : ∀ (g : List Int), (∀ x ∈ g, 0 ≤ x ∧ x ≤ ((B - 1 : Nat) : Int)) → ∃ t, t < B ^ g.length ∧ dig B g.length t = g
  | [], _ => ⟨0, by simp, rfl⟩
  | x :: g, h => by
    obtain ⟨t, h1, h2⟩ := dig_surj hB g fun y hy => h y (List.mem_cons_of_mem _ hy)
    obtain ⟨h3, h4⟩ := h x (List.mem_cons_self ..)
    obtain ⟨y, rfl⟩ := Int.eq_ofNat_of_zero_le h3
    have hy : y < B := by omega
    refine ⟨y + B * t, ?_, ?_⟩
    · have : B * (t + 1) ≤ B * B ^ g.length := Nat.mul_le_mul_left _ h1
      rw [List.length_cons, Nat.pow_succ, Nat.mul_comm (B ^ g.length)]
      rw [Nat.mul_succ] at this
      omega
    · simp only [List.length_cons, dig]
      rw [Nat.add_mul_mod_self_left, Nat.mod_eq_of_lt hy, Nat.add_mul_div_left _ _ (by omega), Nat.div_eq_of_lt hy, Nat.zero_add, h2]
/-- How many of the first t lists lift to l. -/
def cntT (l b : List Int) (B t : Nat) : Nat := ((List.range t).filter fun u => sames (lifted (dig B l.length u) b) l).length
theorem cntT_succ (l b : List Int) (B t : Nat) : cntT l b B (t + 1) = cntT l b B t + if sames (lifted (dig B l.length t) b) l then 1 else 0 := by
  unfold cntT
  rw [List.range_succ, List.filter_append, List.length_append]
  congr 1
  cases h : sames (lifted (dig B l.length t) b) l <;> simp [h]
theorem cntT_all (l b : List Int) : cntT l b (top l + 1) ((top l + 1) ^ l.length) = sols l b := by
  unfold cntT sols
  have hB : 1 ≤ top l + 1 := by omega
  apply Nat.le_antisymm
  · rw [← List.length_map (f := dig (top l + 1) l.length)]
    apply length_le_of_sub
    · rw [List.nodup_iff_pairwise_ne, List.pairwise_map]
      have := (List.nodup_range (n := (top l + 1) ^ l.length)).filter fun u => sames (lifted (dig (top l + 1) l.length u) b) l
      exact (List.nodup_iff_pairwise_ne.1 this).imp_of_mem fun ha hb hne e => hne (dig_inj hB _ _ _ (List.mem_range.1 (List.mem_filter.1 ha).1) (List.mem_range.1 (List.mem_filter.1 hb).1) e)
    · intro x hx
      obtain ⟨u, hu, rfl⟩ := List.mem_map.1 hx
      obtain ⟨h1, h2⟩ := List.mem_filter.1 hu
      refine List.mem_filter.2 ⟨(mem_allL _ _ _).2 ⟨dig_length _ _ _, fun y hy => ?_⟩, h2⟩
      have := dig_mem hB _ _ y hy
      simpa using this
  · have e : (((List.range ((top l + 1) ^ l.length)).filter fun u => sames (lifted (dig (top l + 1) l.length u) b) l).map (dig (top l + 1) l.length)).length = ((List.range ((top l + 1) ^ l.length)).filter fun u => sames (lifted (dig (top l + 1) l.length u) b) l).length := List.length_map _
    rw [← e]
    apply length_le_of_sub
    · exact (nodup_allL _ _).filter _
    · intro g hg
      obtain ⟨h1, h2⟩ := List.mem_filter.1 hg
      obtain ⟨h3, h4⟩ := (mem_allL _ _ _).1 h1
      obtain ⟨t, h5, h6⟩ := dig_surj hB g (by simpa using h4)
      rw [h3] at h5 h6
      exact List.mem_map.2 ⟨t, List.mem_filter.2 ⟨List.mem_range.2 h5, by rw [h6]; exact h2⟩, h6⟩
/-- The next list: leading digits that are B - 1 turn to 0, the one behind them grows. -/
theorem dig_succ {B : Nat} (hB : 1 ≤ B) : ∀ (n t i : Nat), i < n → (∀ j, j < i → (dig B n t).getD j 0 = ((B - 1 : Nat) : Int)) → (dig B n t).getD i 0 ≠ ((B - 1 : Nat) : Int) →
    dig B n (t + 1) = (List.replicate i 0 ++ [(dig B n t).getD i 0 + 1]) ++ (dig B n t).drop (i + 1)
  | 0, _, _, h, _, _ => by omega
  | n + 1, t, 0, _, _, h => by
    simp only [dig, List.getD_cons_zero] at h
    have hm := Nat.mod_lt t (show B > 0 by omega)
    have hlt : t % B + 1 < B := by omega
    have e := Nat.div_add_mod t B
    have e1 : (t + 1) % B = t % B + 1 := by
      rw [show t + 1 = t % B + 1 + B * (t / B) by omega, Nat.add_mul_mod_self_left, Nat.mod_eq_of_lt hlt]
    have e2 : (t + 1) / B = t / B := by
      rw [show t + 1 = t % B + 1 + B * (t / B) by omega, Nat.add_mul_div_left _ _ (by omega), Nat.div_eq_of_lt hlt, Nat.zero_add]
      rw [show t % B + 1 + B * (t / B) = t + 1 by omega] at *
    simp only [dig, e1, List.getD_cons_zero, List.drop_succ_cons, List.drop_zero, List.replicate_zero, List.nil_append]
    rw [e2]; simp
  | n + 1, t, i + 1, hi, hall, h => by
    have h0 := hall 0 (by omega)
    simp only [dig, List.getD_cons_zero] at h0
    have hm := Nat.mod_lt t (show B > 0 by omega)
    have e := Nat.div_add_mod t B
    have hmul : t + 1 = B * (t / B + 1) := by rw [Nat.mul_succ]; omega
    have e1 : (t + 1) % B = 0 := by rw [hmul]; exact Nat.mul_mod_right _ _
    have e2 : (t + 1) / B = t / B + 1 := by rw [hmul]; exact Nat.mul_div_cancel_left _ (by omega)
    have ih := dig_succ hB n (t / B) i (by omega) (fun j hj => by have := hall (j + 1) (by omega); simpa [dig] using this) (by simpa [dig] using h)
    simp only [dig, e1, e2, ih, List.getD_cons_succ, List.drop_succ_cons, List.replicate_succ, List.cons_append]
    rfl
theorem dig_last {B : Nat} (hB : 1 ≤ B) : ∀ (n t : Nat), t < B ^ n → (∀ j, j < n → (dig B n t).getD j 0 = ((B - 1 : Nat) : Int)) → t + 1 = B ^ n
  | 0, t, h, _ => by simp at h ⊢; omega
  | n + 1, t, h, hall => by
    have h0 := hall 0 (by omega)
    simp only [dig, List.getD_cons_zero] at h0
    have hm := Nat.mod_lt t (show B > 0 by omega)
    have e := Nat.div_add_mod t B
    have hd : t / B < B ^ n := by rw [Nat.pow_succ, Nat.mul_comm] at h; exact Nat.div_lt_of_lt_mul h
    have ih := dig_last hB n (t / B) hd fun j hj => by have := hall (j + 1) (by omega); simpa [dig] using this
    rw [Nat.pow_succ, ← ih, Nat.mul_comm, Nat.mul_succ]
    omega
end Go.R03
