import Derived.Test.YtgeaklbldhijbaaMat03b
set_option linter.unusedSectionVars false
set_option linter.unusedSimpArgs false
set_option linter.unusedVariables false
/-! Layer 3: two rubbers, contacts, needed steps. -/
namespace Go.R03
theorem rub_of {b : List Int} {n : Int} (h : chkR b n = 0) : Rub b := by
  obtain ⟨h1, h2, h3, h4, h5⟩ := chkR_ok h
  refine ⟨h1, ?_, h4⟩
  unfold mid at h5
  rwa [show ((b.length : Int) / 2).toNat = b.length / 2 by omega] at h5
theorem hts_ca {f : List Int} (h : hts f = true) (i : Int) : 0 ≤ ca f i ∧ ca f i ≤ 10000 := hts_at h _
theorem le_bIn {b c : List Int} {k : Nat} {x : Int} : ∀ n, x ≤ bIn b c k n ↔ x ≤ 10000 ∧ ∀ i : Nat, i < n → i ≤ k → k - i < c.length → x ≤ b.getD i 0 + c.getD (k - i) 0
  | 0 => by simp [bIn]
  | n + 1 => by
    have ih := le_bIn (b := b) (c := c) (k := k) (x := x) n
    unfold bIn
    split
    · rename_i hc
      rw [show (x ≤ min (bIn b c k n) (b.getD n 0 + c.getD (k - n) 0)) ↔ (x ≤ bIn b c k n ∧ x ≤ b.getD n 0 + c.getD (k - n) 0) by omega, ih]
      constructor
      · rintro ⟨⟨h1, h2⟩, h3⟩
        refine ⟨h1, fun i hi g1 g2 => ?_⟩
        rcases Nat.lt_or_ge i n with h | h
        · exact h2 i h g1 g2
        · obtain rfl : i = n := by omega
          exact h3
      · rintro ⟨h1, h2⟩
        exact ⟨⟨h1, fun i hi => h2 i (by omega)⟩, h2 n (by omega) hc.1 hc.2⟩
    · rename_i hc
      rw [ih]
      constructor
      · rintro ⟨h1, h2⟩
        refine ⟨h1, fun i hi g1 g2 => ?_⟩
        rcases Nat.lt_or_ge i n with h | h
        · exact h2 i h g1 g2
        · obtain rfl : i = n := by omega
          exact absurd ⟨g1, g2⟩ hc
      · rintro ⟨h1, h2⟩
        exact ⟨h1, fun i hi => h2 i (by omega)⟩
theorem both_length (b c : List Int) : (both b c).length = b.length + c.length - 1 := by simp [both]
theorem both_at {b c : List Int} {k : Nat} (hk : k < b.length + c.length - 1) : (both b c).getD k 0 = bIn b c k b.length := by simp [both, hk]
theorem le_both {b c : List Int} {k : Nat} {x : Int} (hk : k < b.length + c.length - 1) : x ≤ (both b c).getD k 0 ↔ x ≤ 10000 ∧ ∀ i j : Nat, i < b.length → j < c.length → i + j = k → x ≤ b.getD i 0 + c.getD j 0 := by
  rw [both_at hk, le_bIn]
  constructor
  · rintro ⟨h1, h2⟩
    refine ⟨h1, fun i j hi hj hij => ?_⟩
    have := h2 i hi (by omega) (by omega)
    rwa [show k - i = j by omega] at this
  · rintro ⟨h1, h2⟩
    exact ⟨h1, fun i hi g1 g2 => h2 i (k - i) hi g2 (by omega)⟩
/-- Two rubbers are as high in either order. -/
theorem both_comm (b c : List Int) : both b c = both c b := by
  apply List.ext_getElem (by simp [both_length]; omega)
  intro k h1 h2
  have hk : k < b.length + c.length - 1 := by simpa [both_length] using h1
  have e1 : (both b c).getD k 0 = (both b c)[k] := by simp [h1]
  have e2 : (both c b).getD k 0 = (both c b)[k] := by simp [h2]
  rw [← e1, ← e2]
  apply eq_of_iff_le
  intro x
  rw [le_both hk, le_both (by omega)]
  constructor
  · rintro ⟨h1, h2⟩; exact ⟨h1, fun i j hi hj hij => by have := h2 j i hj hi (by omega); omega⟩
  · rintro ⟨h1, h2⟩; exact ⟨h1, fun i j hi hj hij => by have := h2 j i hj hi (by omega); omega⟩
theorem bothe_comm (b c : List Int) : BOTHE b c = BOTHE c b := by
  unfold BOTHE
  rw [Nat.add_comm b.length]
  by_cases h1 : chkR b 31 = 0 <;> by_cases h2 : chkR c 31 = 0 <;> simp [h1, h2]
/-- Two rubbers together are one. -/
theorem both_rub {b c : List Int} (hb : Rub b) (hc : Rub c) : Rub (both b c) := by
  have h1 := hb.len
  have h2 := hc.len
  refine ⟨by rw [both_length]; omega, ?_, ?_⟩
  · rw [both_length]
    have hk : (b.length + c.length - 1) / 2 < b.length + c.length - 1 := by omega
    have e : (b.length + c.length - 1) / 2 = b.length / 2 + c.length / 2 := by omega
    have g1 : (both b c).getD ((b.length + c.length - 1) / 2) 0 ≤ 0 := by
      have := ((le_both hk).1 (Int.le_refl _)).2 (b.length / 2) (c.length / 2) (by omega) (by omega) e.symm
      rw [hb.mid, hc.mid] at this
      omega
    have g2 : 0 ≤ (both b c).getD ((b.length + c.length - 1) / 2) 0 := by
      rw [le_both hk]
      refine ⟨by omega, fun i j _ _ _ => ?_⟩
      have := hts_at hb.hts i
      have := hts_at hc.hts j
      omega
    omega
  · unfold R03.hts both
    rw [List.all_map, List.all_eq_true]
    intro k _
    have g1 : bIn b c k b.length ≤ 10000 := ((le_bIn b.length).1 (Int.le_refl _)).1
    have g2 : 0 ≤ bIn b c k b.length := by
      rw [le_bIn]
      refine ⟨by omega, fun i _ _ _ => ?_⟩
      have := hts_at hb.hts i
      have := hts_at hc.hts (k - i)
      omega
    simp [g1, g2]
theorem hw_both {b c : List Int} (hb : Rub b) (hc : Rub c) : hw (both b c) = hw b + hw c := by
  have h1 := hb.len
  have h2 := hc.len
  unfold hw
  rw [both_length]
  omega
/-- A rubber upon another one lifts as the one lifts what the other one lifts. -/
theorem lifted_both {f b c : List Int} (hn : 1 ≤ f.length) (hf : hts f = true) (hb : Rub b) (hc : Rub c) : lifted (lifted f b) c = lifted f (both b c) := by
  have h1 := hb.len
  have h2 := hc.len
  have hwb := hw_both hb hc
  apply ext_ca (by simp [lifted_length])
  intro i
  apply eq_of_le_iff
  intro x
  rw [lift_le (by rw [lifted_length]; exact hn) hc, lift_le hn (both_rub hb hc), both_length, hwb]
  constructor
  · intro h l hl
    have hx : ca f i ≤ x := by
      have g1 := h (c.length / 2) (by omega)
      rw [hc.mid, show i + (((c.length / 2 : Nat) : Int) - hw c) = i by unfold hw; omega] at g1
      have g2 := (le_lifted hn hb).2 i
      omega
    have key : ca f (i + (l - (hw b + hw c))) - x ≤ (both b c).getD l 0 := by
      rw [le_both hl]
      refine ⟨?_, fun p q hp hq hpq => ?_⟩
      · have g1 := hts_ca hf i
        have g2 := hts_ca hf (i + (l - (hw b + hw c)))
        omega
      · have g1 := h q hq
        have g2 := (lift_le hn hb).1 (Int.le_refl (ca (lifted f b) (i + (q - hw c)))) p hp
        rw [show i + ((q : Int) - hw c) + (p - hw b) = i + (l - (hw b + hw c)) by omega] at g2
        omega
    omega
  · intro h q hq
    have : ca (lifted f b) (i + (q - hw c)) ≤ x + c.getD q 0 := by
      rw [lift_le hn hb]
      intro p hp
      have g1 := h (p + q) (by omega)
      have g2 := ((le_both (b := b) (c := c) (k := p + q) (by omega)).1 (Int.le_refl _)).2 p q hp hq rfl
      rw [show i + ((q : Int) - hw c) + (p - hw b) = i + (((p + q : Nat) : Int) - (hw b + hw c)) by omega]
      omega
    omega
theorem below_both {f b c : List Int} (hn : 1 ≤ f.length) (hf : hts f = true) (hb : Rub b) (hc : Rub c) : below (below f b) c = below f (both b c) := by
  have h1 := hb.len
  have h2 := hc.len
  have hwb := hw_both hb hc
  apply ext_ca (by simp [below_length])
  intro i
  apply eq_of_iff_le
  intro x
  rw [le_below (by rw [below_length]; exact hn) hc, le_below hn (both_rub hb hc), both_length, hwb]
  constructor
  · intro h l hl
    have hx : x ≤ ca f i := by
      have g1 := h (c.length / 2) (by omega)
      rw [hc.mid, show i - (((c.length / 2 : Nat) : Int) - hw c) = i by unfold hw; omega] at g1
      have g2 := (below_le hn hb).2 i
      omega
    have key : x - ca f (i - (l - (hw b + hw c))) ≤ (both b c).getD l 0 := by
      rw [le_both hl]
      refine ⟨?_, fun p q hp hq hpq => ?_⟩
      · have g1 := hts_ca hf i
        have g2 := hts_ca hf (i - (l - (hw b + hw c)))
        omega
      · have g1 := h q hq
        have g2 := (le_below hn hb).1 (Int.le_refl (ca (below f b) (i - (q - hw c)))) p hp
        rw [show i - ((q : Int) - hw c) - (p - hw b) = i - (l - (hw b + hw c)) by omega] at g2
        omega
    omega
  · intro h q hq
    have : x - c.getD q 0 ≤ ca (below f b) (i - (q - hw c)) := by
      rw [le_below hn hb]
      intro p hp
      have g1 := h (p + q) (by omega)
      have g2 := ((le_both (b := b) (c := c) (k := p + q) (by omega)).1 (Int.le_refl _)).2 p q hp hq rfl
      rw [show i - ((q : Int) - hw c) - (p - hw b) = i - (((p + q : Nat) : Int) - (hw b + hw c)) by omega]
      omega
    omega
/-! ### contacts -/
/-- The rubber touches somewhere. -/
theorem lift_touch {f b : List Int} (hn : 1 ≤ f.length) (hb : Rub b) (i : Int) : ∃ j : Nat, j < b.length ∧ ca f (i + (j - hw b)) - b.getD j 0 = ca (lifted f b) i := by
  apply Classical.byContradiction
  intro hno
  have : ca (lifted f b) i ≤ ca (lifted f b) i - 1 := by
    rw [lift_le hn hb]
    intro j hj
    have g1 := (lift_le hn hb).1 (Int.le_refl (ca (lifted f b) i)) j hj
    have g2 : ca f (i + (j - hw b)) - b.getD j 0 ≠ ca (lifted f b) i := fun h => hno ⟨j, hj, h⟩
    omega
  omega
/-- The number i around n steps of the step p and the offset j. -/
def off (f b : List Int) (p j : Nat) : Nat := (((p : Int) + (j - hw b)) % (f.length : Int)).toNat
end Go.R03
