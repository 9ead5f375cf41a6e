import Derived.Test.YtoeijgdkoeofpaaRef06u
import Derived.Test.YtoeijgdkoeofpaaMat06c
set_option linter.unusedSectionVars false
set_option linter.unusedSimpArgs false
set_option linter.unusedVariables false
/-! Layer 6: the light in which a facet flashes is the brightest, and the first one that is. -/
namespace Go.R06
open Go Go.Abs Go.RowKit Go.Proofs
set_option linter.unusedVariables false
theorem shp_okQW {q : Tw} (h : Shp q) : okQ q = true := by
  simp only [okQ, Bool.and_eq_true]
  exact ⟨ws_of h.den, ws_of h.num⟩
theorem cmp_shpW {a b : Tw} (ha : Shp a) (hb : Shp b) : cmpQ a b = cmI (a.1 * b.2) (b.1 * a.2) := by
  unfold cmpQ; rw [shp_okQW ha, shp_okQW hb]; rfl
theorem cmp_antiW {a b : Tw} (ha : Shp a) (hb : Shp b) : cmpQ a b = -cmpQ b a := by
  rw [cmp_shpW ha hb, cmp_shpW hb ha]; unfold cmI; split <;> split <;> (try split) <;> omega
theorem cmp_leW {a b : Tw} (ha : Shp a) (hb : Shp b) : cmpQ a b ≤ 0 ↔ a.1 * b.2 ≤ b.1 * a.2 := by
  rw [cmp_shpW ha hb]; unfold cmI; split; omega; split <;> omega
theorem cmp_transW {a b c : Tw} (ha : Shp a) (hb : Shp b) (hc : Shp c) (h1 : cmpQ a b ≤ 0) (h2 : cmpQ b c ≤ 0) : cmpQ a c ≤ 0 := by
  rw [cmp_leW ha hb] at h1
  rw [cmp_leW hb hc] at h2
  rw [cmp_leW ha hc]
  have hb2 := hb.den.1
  refine Int.le_of_mul_le_mul_right (a := b.2) ?_ (by omega)
  have m1 := Int.mul_le_mul_of_nonneg_right h1 (show 0 ≤ c.2 by have := hc.den; omega)
  have m2 := Int.mul_le_mul_of_nonneg_right h2 (show 0 ≤ a.2 by have := ha.den; omega)
  have e1 : a.1 * c.2 * b.2 = a.1 * b.2 * c.2 := by grind
  have e2 : b.1 * a.2 * c.2 = b.1 * c.2 * a.2 := by grind
  have e3 : c.1 * a.2 * b.2 = c.1 * b.2 * a.2 := by grind
  omega
theorem apartW {p q : Ent} (h : apartE p q) : apartE q p := fun B hq hp => h B hp hq
theorem permW {m : Mem} {l l' : List Ent} (h : HP m l) (hp : l.Perm l') : HP m l' := ⟨fun p hq => h.ok p (hp.mem_iff.2 hq), (hp.pairwise_iff (fun h => apartW h)).1 h.apart⟩
theorem pic_shpAt {s : Su} (g : GoodS s) {l : Li} (hl : GoodL l) {j : Nat} (h : j < nC s) : Shp ((pic s l).getD j (0, 0)) := by
  unfold pic fm
  rw [fmN_get _ _ h]
  exact (sh1_shp g hl _ _).1
theorem fb_max {s : Su} (g : GoodS s) {ls : List Li} (hok : ∀ j, j < ls.length → GoodL (ls.getD j L0)) {j : Nat} (hj : j < nC s) : ∀ st, 1 ≤ st → st ≤ ls.length →
    (fb s ls j st).1 < st ∧ (fb s ls j st).2 = (pic s (ls.getD (fb s ls j st).1 L0)).getD j (0, 0) ∧ ∀ k, k < st → cmpQ ((pic s (ls.getD k L0)).getD j (0, 0)) (fb s ls j st).2 ≤ 0 ∧ (cmpQ ((pic s (ls.getD k L0)).getD j (0, 0)) (fb s ls j st).2 = 0 → (fb s ls j st).1 ≤ k)
  | 0, h, _ => absurd h (by omega)
  | 1, _, _ => by
    rw [fb_one]
    refine ⟨Nat.zero_lt_one, rfl, fun k hk => ?_⟩
    obtain rfl : k = 0 := by omega
    show cmpQ ((pic s (ls.getD 0 L0)).getD j (0, 0)) ((pic s (ls.getD 0 L0)).getD j (0, 0)) ≤ 0 ∧ _
    rw [cmpQ_self]
    exact ⟨Int.le_refl _, fun _ => Nat.le_refl _⟩
  | n + 2, _, hn => by
    obtain ⟨h1, h2, h3⟩ := fb_max g hok hj (n + 1) (by omega) (by omega)
    have hP := fun k (hk : k < ls.length) => pic_shpAt g (hok k hk) hj
    have hB : Shp (fb s ls j (n + 1)).2 := by rw [h2]; exact hP _ (by omega)
    have e : fb s ls j (n + 2) = if cmpQ ((pic s (ls.getD (n + 1) L0)).getD j (0, 0)) (fb s ls j (n + 1)).2 > 0 then (n + 1, (pic s (ls.getD (n + 1) L0)).getD j (0, 0)) else fb s ls j (n + 1) := rfl
    have hN := hP (n + 1) (by omega)
    by_cases hc : cmpQ ((pic s (ls.getD (n + 1) L0)).getD j (0, 0)) (fb s ls j (n + 1)).2 > 0
    · rw [if_pos hc] at e
      rw [e]
      refine ⟨by show n + 1 < n + 2; omega, rfl, fun k hk => ?_⟩
      show cmpQ _ ((pic s (ls.getD (n + 1) L0)).getD j (0, 0)) ≤ 0 ∧ (cmpQ _ ((pic s (ls.getD (n + 1) L0)).getD j (0, 0)) = 0 → n + 1 ≤ k)
      by_cases hk2 : k = n + 1
      · subst hk2
        rw [cmpQ_self]
        exact ⟨Int.le_refl _, fun _ => Nat.le_refl _⟩
      · have hK := hP k (by omega)
        have a1 := (h3 k (by omega)).1
        have a2 := cmp_antiW hB hN
        have a3 := cmp_transW hK hB hN a1 (by omega)
        refine ⟨a3, fun h0 => ?_⟩
        have a4 := cmp_antiW hN hK
        have a5 := cmp_transW hN hK hB (by omega) a1
        omega
    · rw [if_neg hc] at e
      rw [e]
      refine ⟨by omega, h2, fun k hk => ?_⟩
      by_cases hk2 : k = n + 1
      · subst hk2
        exact ⟨by omega, fun _ => by omega⟩
      · exact h3 k (by omega)
end Go.R06
