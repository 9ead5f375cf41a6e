import Derived.Test.YtgeaklbldhijbaaMat03g
import Derived.Test.YtgeaklbldhijbaaPro03h
import Derived.Test.YtgeaklbldhijbaaRef03f
import Derived.Lib.SlicesCompact
set_option linter.unusedSectionVars false
set_option linter.unusedSimpArgs false
set_option linter.unusedVariables false
/-! Layer 3: what is touched and needed: lists that are sorted. -/
namespace Go.R03
open Go Go.Abs
theorem sorted_eq : ∀ {l1 l2 : List Int}, l1.Pairwise (· < ·) → l2.Pairwise (· < ·) → (∀ x, x ∈ l1 ↔ x ∈ l2) → l1 = l2
  | [], [], _, _, _ => rfl
  | [], y :: l2, _, _, h => by have := (h y).2 (List.mem_cons_self ..); cases this
  | x :: l1, [], _, _, h => by have := (h x).1 (List.mem_cons_self ..); cases this
  | x :: l1, y :: l2, h1, h2, h => by
    obtain ⟨a1, a2⟩ := List.pairwise_cons.1 h1
    obtain ⟨b1, b2⟩ := List.pairwise_cons.1 h2
    have hx := (h x).1 (List.mem_cons_self ..)
    have hy := (h y).2 (List.mem_cons_self ..)
    have e : x = y := by
      rcases List.mem_cons.1 hx with e | hx
      · exact e
      · rcases List.mem_cons.1 hy with e | hy
        · exact e.symm
        · have := b1 x hx
          have := a1 y hy
          omega
    subst e
    congr 1
    refine sorted_eq a2 b2 fun z => ⟨fun hz => ?_, fun hz => ?_⟩
    · rcases List.mem_cons.1 ((h z).1 (List.mem_cons_of_mem _ hz)) with e | h3
      · have := a1 z hz; omega
      · exact h3
    · rcases List.mem_cons.1 ((h z).2 (List.mem_cons_of_mem _ hz)) with e | h3
      · have := b1 z hz; omega
      · exact h3
abbrev msort (l : List Int) : List Int := l.mergeSort fun x y => decide (x ≤ y)
theorem msort_le (l : List Int) : (msort l).Pairwise (· ≤ ·) := by
  have := List.pairwise_mergeSort (le := fun x y : Int => decide (x ≤ y)) (fun a b c h1 h2 => by simp at h1 h2 ⊢; omega) (fun a b => by simp; omega) l
  exact this.imp fun h => by simpa using h
theorem msort_eq {l l2 : List Int} (hn : l.Nodup) (h2 : l2.Pairwise (· < ·)) (h : ∀ x, x ∈ l ↔ x ∈ l2) : msort l = l2 := by
  have hn2 : (msort l).Nodup := (List.mergeSort_perm l _).nodup_iff.2 hn
  refine sorted_eq ?_ h2 fun x => by rw [← h x]; exact List.mem_mergeSort
  exact ((msort_le l).and hn2).imp fun h => by have h1 := h.1; have h2 := h.2; omega
theorem compact_sorted {l : List Int} (hl : l.Pairwise (· ≤ ·)) : (Lib.compact l).Pairwise (· < ·) ∧ ∀ x, x ∈ Lib.compact l ↔ x ∈ l := by
  have hat : ∀ i, i < l.length → (l.toArray)[i]! = l.getD i 0 := fun i hi => by simp [hi]
  have hle : ∀ i j, i ≤ j → j < l.length → l.getD i 0 ≤ l.getD j 0 := fun i j hij hj => by
    rcases Nat.lt_or_ge i j with h | h
    · have := List.pairwise_iff_getElem.1 hl i j (by omega) hj h
      simpa [hj, show i < l.length by omega] using this
    · obtain rfl : i = j := by omega
      exact Int.le_refl _
  unfold Lib.compact Lib.compactUpTo
  constructor
  · rw [List.pairwise_map]
    refine List.Pairwise.imp_of_mem (fun {i j} hi hj hij => ?_) ((List.pairwise_lt_range).filter _)
    have hi := List.mem_filter.1 hi
    have hj := List.mem_filter.1 hj
    have hil := List.mem_range.1 hi.1
    have hjl := List.mem_range.1 hj.1
    have hk : j = 0 ∨ (l.toArray)[j]! ≠ (l.toArray)[j - 1]! := by simpa [Lib.keeps] using hj.2
    rw [hat i hil, hat j hjl]
    rcases hk with h | h
    · omega
    · rw [hat j hjl, hat (j - 1) (by omega)] at h
      have h1 := hle i (j - 1) (by omega) (by omega)
      have h2 := hle (j - 1) j (by omega) hjl
      omega
  · intro x
    simp only [List.mem_map, List.mem_filter, List.mem_range]
    constructor
    · rintro ⟨i, ⟨hi, _⟩, rfl⟩
      rw [hat i hi]
      simp [hi]
    · intro hx
      obtain ⟨i, hi, rfl⟩ := List.getElem_of_mem hx
      -- the first place that holds it
      have key : ∀ i, i < l.length → ∃ j, (j < l.length ∧ Lib.keeps l.toArray j = true) ∧ l.getD j 0 = l.getD i 0 := by
        intro i
        induction i with
        | zero => intro hi; exact ⟨0, ⟨hi, by simp [Lib.keeps]⟩, rfl⟩
        | succ i ih =>
          intro hi
          by_cases e : l.getD (i + 1) 0 = l.getD i 0
          · obtain ⟨j, h1, h2⟩ := ih (by omega)
            exact ⟨j, h1, h2.trans e.symm⟩
          · refine ⟨i + 1, ⟨hi, ?_⟩, rfl⟩
            have : (l.toArray)[i + 1]! ≠ (l.toArray)[i + 1 - 1]! := by rw [hat _ hi, hat _ (by omega)]; exact e
            simp only [Lib.keeps, decide_eq_true_eq]
            exact .inr this
      obtain ⟨j, h1, h2⟩ := key i hi
      refine ⟨j, h1, ?_⟩
      rw [hat j h1.1, h2]
      simp [hi]
section touch
variable {f b : List Int} (hn : 1 ≤ f.length) (hbl : b.length ≤ f.length) (hbo : b.length % 2 = 1)
/-- The step at the k-th drop. -/
def stp (f b : List Int) (p k : Nat) : Int := ((p : Int) + ((k : Int) - (b.length / 2 : Nat))) % (f.length : Int)
include hn hbl in
theorem stp_inj {p j k : Nat} (hj : j < k) (hk : k < b.length) : stp f b p j ≠ stp f b p k := by
  intro e
  unfold stp at e
  have h := Int.sub_emod ((p : Int) + ((k : Int) - (b.length / 2 : Nat))) ((p : Int) + ((j : Int) - (b.length / 2 : Nat))) f.length
  rw [← e, Int.sub_self, Int.zero_emod, show (p : Int) + ((k : Int) - (b.length / 2 : Nat)) - ((p : Int) + ((j : Int) - (b.length / 2 : Nat))) = ((k - j : Nat) : Int) by omega, Int.emod_eq_of_lt (by omega) (by omega)] at h
  omega
theorem tch_mem {h : List Int} {p : Nat} {x : Int} : ∀ K, x ∈ tch f b h p K ↔ ∃ k, k < K ∧ x = stp f b p k ∧ f.getD (stp f b p k).toNat 0 - b.getD k 0 = h.getD p 0
  | 0 => by simp [tch]
  | K + 1 => by
    have ih := tch_mem (h := h) (p := p) (x := x) K
    have hs : tch f b h p (K + 1) = if f.getD (stp f b p K).toNat 0 - b.getD K 0 = h.getD p 0 then tch f b h p K ++ [stp f b p K] else tch f b h p K := rfl
    rw [hs]
    by_cases hc : f.getD (stp f b p K).toNat 0 - b.getD K 0 = h.getD p 0
    · rw [if_pos hc, List.mem_append, ih, List.mem_singleton]
      constructor
      · rintro (⟨k, h1, h2⟩ | h1)
        · exact ⟨k, by omega, h2⟩
        · exact ⟨K, by omega, h1, hc⟩
      · rintro ⟨k, h1, h2, h3⟩
        rcases Nat.lt_or_ge k K with h | h
        · exact .inl ⟨k, h, h2, h3⟩
        · obtain rfl : k = K := by omega
          exact .inr h2
    · rw [if_neg hc, ih]
      constructor
      · rintro ⟨k, h1, h2⟩; exact ⟨k, by omega, h2⟩
      · rintro ⟨k, h1, h2, h3⟩
        rcases Nat.lt_or_ge k K with h | h
        · exact ⟨k, h, h2, h3⟩
        · obtain rfl : k = K := by omega
          exact absurd h3 hc
include hn hbl in
theorem tch_nodup {h : List Int} {p : Nat} : ∀ K, K ≤ b.length → (tch f b h p K).Nodup
  | 0, _ => by simp [tch]
  | K + 1, hK => by
    have ih := tch_nodup (h := h) (p := p) K (by omega)
    have hs : tch f b h p (K + 1) = if f.getD (stp f b p K).toNat 0 - b.getD K 0 = h.getD p 0 then tch f b h p K ++ [stp f b p K] else tch f b h p K := rfl
    rw [hs]
    split
    · rw [List.nodup_append]
      refine ⟨ih, by simp, fun a ha c hc e => ?_⟩
      simp at hc
      obtain ⟨k, h1, h2, _⟩ := (tch_mem K).1 ha
      exact stp_inj hn hbl h1 (by omega) (by rw [← h2, e, hc])
    · exact ih
theorem getD_lifted {p : Nat} (hp : p < f.length) : (lifted f b).getD p 0 = liftAt f b p := by simp [lifted, hp]
include hn hbl hbo in
theorem touches_sort {p : Nat} (hp : p < f.length) : msort (tch f b (lifted f b) p b.length) = touches f b p := by
  have hK : 2 * (b.length / 2) + 1 = b.length := by omega
  have hst : ∀ k : Nat, ((p : Int) + (-((b.length / 2 : Nat) : Int) + k)) % (f.length : Int) = stp f b p k := fun k => by unfold stp; congr 1; omega
  have hbd : ∀ k, 0 ≤ stp f b p k ∧ stp f b p k < f.length := fun k => emod_bd _ hn
  refine msort_eq (tch_nodup hn hbl _ (Nat.le_refl _)) ?_ fun x => ?_
  · unfold touches
    rw [List.pairwise_flatMap]
    refine ⟨fun q hq => ?_, ?_⟩
    · unfold tIn
      rw [List.pairwise_flatMap]
      refine ⟨fun k _ => by split <;> simp, ?_⟩
      refine List.Pairwise.imp_of_mem (fun {j k} hj hk hjk => ?_) (List.pairwise_lt_range (n := 2 * (b.length / 2) + 1))
      intro x hx y hy
      split at hx <;> split at hy
      · rename_i h1 h2
        rw [hst] at h1 h2
        exact absurd (h1.1.trans h2.1.symm) (stp_inj hn hbl hjk (by have := List.mem_range.1 hk; omega))
      all_goals simp at hx hy
    · refine (List.pairwise_lt_range (n := f.length)).imp fun {q r} hqr x hx y hy => ?_
      have key : ∀ (q : Nat) (x : Int), x ∈ tIn f b p q (liftAt f b p) (2 * (b.length / 2) + 1) → x = q := fun q x hx => by
        unfold tIn at hx
        obtain ⟨k, _, h⟩ := List.mem_flatMap.1 hx
        split at h
        · simpa using h
        · cases h
      rw [key q x hx, key r y hy]; omega
  · rw [tch_mem, getD_lifted hp]
    unfold touches tIn
    simp only [List.mem_flatMap, List.mem_range, hst]
    constructor
    · rintro ⟨k, h1, h2, h3⟩
      refine ⟨(stp f b p k).toNat, by have := hbd k; omega, k, by omega, ?_⟩
      rw [if_pos ⟨by have := hbd k; omega, h3⟩, List.mem_singleton, h2]
      have := hbd k; omega
    · rintro ⟨q, hq, k, hk, h⟩
      split at h
      · rename_i h3
        simp at h
        refine ⟨k, by omega, by rw [h, h3.1], ?_⟩
        rw [h3.1, Int.toNat_natCast]; exact h3.2
      · cases h
/-! ### what is needed -/
/-- The steps that are touched alone. -/
def alone (f b : List Int) (p : Nat) : Bool := decide ((tch f b (lifted f b) p b.length).length = 1) && decide (0 < f.getD ((tch f b (lifted f b) p b.length).getD 0 0).toNat 0)
def alones (f b : List Int) (k : Nat) : List Int := (List.range k).flatMap fun p => if alone f b p then [(tch f b (lifted f b) p b.length).getD 0 0] else []
theorem alones_succ (f b : List Int) (k : Nat) : alones f b (k + 1) = alones f b k ++ (if alone f b k then [(tch f b (lifted f b) k b.length).getD 0 0] else []) := by
  simp [alones, List.range_succ, List.flatMap_append]
theorem alones_len (f b : List Int) : ∀ k, (alones f b k).length ≤ k
  | 0 => by simp [alones]
  | k + 1 => by
    have ih := alones_len f b k
    rw [alones_succ]
    split <;> simp <;> omega
theorem only_one {l : List Int} {q : Int} (hn : l.Nodup) (h0 : l ≠ []) (h : ∀ x ∈ l, x = q) : l = [q] := by
  match l, hn, h0, h with
  | [x], _, _, h => rw [h x (List.mem_cons_self ..)]
  | x :: y :: r, hn, _, h =>
    have h1 := h x (List.mem_cons_self ..)
    have h2 := h y (List.mem_cons_of_mem _ (List.mem_cons_self ..))
    rw [List.nodup_cons] at hn
    exact absurd (by rw [h1, h2]; exact List.mem_cons_self ..) hn.1
theorem one_get {l : List Int} (h : l.length = 1) : l = [l.getD 0 0] := by
  match l, h with
  | [x], _ => rfl
theorem ca_stp (g : List Int) (hg : g.length = f.length) (p k : Nat) : ca g ((p : Int) + (k - hw b)) = g.getD (stp f b p k).toNat 0 := by
  unfold ca stp hw
  rw [hg]
include hn hbl in
theorem alone_iff (hb : Rub b) {q : Nat} (hq : q < f.length) (hf0 : 0 < f.getD q 0) : (∃ p, p < f.length ∧ tch f b (lifted f b) p b.length = [(q : Int)]) ↔ lifted (dec f q) b ≠ lifted f b := by
  have hdl := dec_length f q
  have hbd : ∀ p k, 0 ≤ stp f b p k ∧ stp f b p k < f.length := fun p k => emod_bd _ hn
  have hdq : (dec f q).getD q 0 = f.getD q 0 - 1 := by simp [dec, hq]
  have hdo : ∀ r : Nat, r ≠ q → (dec f q).getD r 0 = f.getD r 0 := fun r hr => by simp [dec, List.getElem?_set_ne (Ne.symm hr)]
  have hmax : ∀ p, p < f.length → ∀ k, k < b.length → f.getD (stp f b p k).toNat 0 - b.getD k 0 ≤ (lifted f b).getD p 0 := fun p hp k hk => by
    have := (lift_le (f := f) hn hb).1 (Int.le_refl (ca (lifted f b) p)) k hk
    rw [ca_stp f rfl, ca_nat (by rw [lifted_length]; exact hp)] at this
    exact this
  constructor
  · rintro ⟨p, hp, hT⟩ e
    have h1 : ca (lifted (dec f q) b) p ≤ (lifted f b).getD p 0 - 1 := (lift_le (by omega) hb).2 fun k hk => by
      rw [ca_stp (dec f q) hdl]
      have hm := hmax p hp k hk
      have hb' := hbd p k
      by_cases hs : stp f b p k = q
      · rw [hs, Int.toNat_natCast, hdq]
        rw [hs, Int.toNat_natCast] at hm
        omega
      · rw [hdo _ (by omega)]
        have hne : f.getD (stp f b p k).toNat 0 - b.getD k 0 ≠ (lifted f b).getD p 0 := fun e2 => by
          have : stp f b p k ∈ tch f b (lifted f b) p b.length := (tch_mem b.length).2 ⟨k, hk, rfl, e2⟩
          rw [hT] at this
          exact hs (by simpa using this)
        omega
    rw [e, ca_nat (by rw [lifted_length]; exact hp)] at h1
    omega
  · intro hne
    apply Classical.byContradiction
    intro hno
    apply hne
    apply LE.anti
    · refine lifted_mono (by omega) hb (le_iff.2 ⟨hdl, fun p hp => ?_⟩)
      by_cases e : p = q
      · subst e; rw [hdq]; omega
      · rw [hdo p e]; exact Int.le_refl _
    · rw [le_iff]
      refine ⟨by rw [lifted_length, lifted_length, hdl], fun p hp => ?_⟩
      rw [lifted_length] at hp
      -- another step is touched
      have hex : ∃ x ∈ tch f b (lifted f b) p b.length, x ≠ (q : Int) := by
        apply Classical.byContradiction
        intro hall
        apply hno
        refine ⟨p, hp, only_one (tch_nodup hn hbl _ (Nat.le_refl _)) ?_ fun x hx => Classical.byContradiction fun hx2 => hall ⟨x, hx, hx2⟩⟩
        obtain ⟨j, hj, e⟩ := lift_touch (f := f) hn hb p
        rw [ca_stp f rfl, ca_nat (by rw [lifted_length]; exact hp)] at e
        have : stp f b p j ∈ tch f b (lifted f b) p b.length := (tch_mem b.length).2 ⟨j, hj, rfl, e⟩
        intro h0; rw [h0] at this; cases this
      obtain ⟨x, hx, hxq⟩ := hex
      obtain ⟨k, hk, rfl, e⟩ := (tch_mem b.length).1 hx
      have h2 := (lift_le (f := dec f q) (by omega) hb).1 (Int.le_refl (ca (lifted (dec f q) b) p)) k hk
      rw [ca_stp (dec f q) hdl, hdo _ (by have := hbd p k; omega), ca_nat (by rw [lifted_length, hdl]; exact hp)] at h2
      omega
include hn hbl in
theorem needed_sort (hb : Rub b) (hf : hts f = true) : Lib.compact (msort (alones f b f.length)) = needed f b := by
  obtain ⟨h1, h2⟩ := compact_sorted (msort_le (alones f b f.length))
  have hbd : ∀ p k, 0 ≤ stp f b p k ∧ stp f b p k < f.length := fun p k => emod_bd _ hn
  refine sorted_eq h1 ?_ fun x => ?_
  · unfold needed
    rw [List.pairwise_map]
    exact ((List.pairwise_lt_range (n := f.length)).filter _).imp fun h => by show (_ : Int) < _; simp; omega
  · rw [h2, List.mem_mergeSort]
    unfold needed alones
    simp only [List.mem_map, List.mem_filter, List.mem_range, List.mem_flatMap]
    constructor
    · rintro ⟨p, hp, hx⟩
      split at hx
      · rename_i ha
        simp at hx
        unfold alone at ha
        rw [Bool.and_eq_true, decide_eq_true_eq, decide_eq_true_eq] at ha
        obtain ⟨ha1, ha2⟩ := ha
        have hT := one_get ha1
        have hxm : x ∈ tch f b (lifted f b) p b.length := by rw [hT]; simp [hx]
        obtain ⟨k, hk, hxk, _⟩ := (tch_mem b.length).1 hxm
        have hb' := hbd p k
        have hx2 : (tch f b (lifted f b) p b.length).getD 0 0 = x := by simpa using hx.symm
        rw [hx2] at hT ha2
        have hxz : ((x.toNat : Nat) : Int) = x := by omega
        refine ⟨x.toNat, ⟨by omega, ?_⟩, hxz⟩
        unfold needs
        rw [Bool.and_eq_true, decide_eq_true_eq, Bool.not_eq_true']
        refine ⟨by omega, ?_⟩
        unfold sames
        rw [decide_eq_false_iff_not]
        exact (alone_iff hn hbl hb (by omega) ha2).1 ⟨p, hp, by rw [hxz]; exact hT⟩
      · cases hx
    · rintro ⟨q, ⟨hq, hneed⟩, rfl⟩
      unfold needs at hneed
      rw [Bool.and_eq_true, decide_eq_true_eq, Bool.not_eq_true'] at hneed
      obtain ⟨hq0, hs⟩ := hneed
      have hpos : 0 < f.getD q 0 := by have := hts_at hf q; omega
      have hs : lifted (dec f q) b ≠ lifted f b := by unfold sames at hs; exact of_decide_eq_false hs
      obtain ⟨p, hp, hT⟩ := (alone_iff hn hbl hb hq hpos).2 hs
      refine ⟨p, hp, ?_⟩
      have ha : alone f b p = true := by
        unfold alone
        rw [hT]
        simp [hpos]
        simpa using hpos
      rw [if_pos ha, hT]; simp
end touch
end Go.R03
