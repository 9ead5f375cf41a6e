import Derived.Test.YtgeaklbldhijbaaMat03e
set_option linter.unusedSectionVars false
set_option linter.unusedSimpArgs false
set_option linter.unusedVariables false
/-! Layer 3: counts turn and mirror with the rosette. -/
namespace Go.R03
theorem length_le_of_sub {α : Type} [DecidableEq α] : ∀ (l1 l2 : List α), l1.Nodup → (∀ x ∈ l1, x ∈ l2) → l1.length ≤ l2.length
  | [], _, _, _ => by simp
  | x :: l1, l2, hn, h => by
    have hx := h x (List.mem_cons_self ..)
    have hn' := List.nodup_cons.1 hn
    have ih := length_le_of_sub l1 (l2.erase x) hn'.2 fun y hy => by
      have hne : y ≠ x := fun e => hn'.1 (e ▸ hy)
      exact (List.mem_erase_of_ne hne).2 (h y (List.mem_cons_of_mem _ hy))
    rw [List.length_erase_of_mem hx] at ih
    have : 0 < l2.length := List.length_pos_of_mem hx
    simp only [List.length_cons]; omega
theorem mem_allL : ∀ (n M : Nat) (g : List Int), g ∈ allL n M ↔ g.length = n ∧ ∀ x ∈ g, 0 ≤ x ∧ x ≤ M
  | 0, M, g => by
    simp only [allL, List.mem_singleton]
    constructor
    · rintro rfl; simp
    · rintro ⟨h, _⟩; exact List.eq_nil_of_length_eq_zero h
  | n + 1, M, g => by
    simp only [allL, List.mem_flatMap, List.mem_range, List.mem_map]
    constructor
    · rintro ⟨h, hh, y, hy, rfl⟩
      obtain ⟨h1, h2⟩ := (mem_allL n M y).1 hy
      refine ⟨by simp [h1], fun x hx => ?_⟩
      rcases List.mem_cons.1 hx with rfl | hx
      · simp; omega
      · exact h2 x hx
    · rintro ⟨h1, h2⟩
      cases g with
      | nil => simp at h1
      | cons x g =>
        obtain ⟨h3, h4⟩ := h2 x (List.mem_cons_self ..)
        refine ⟨x.toNat, by omega, g, (mem_allL n M g).2 ⟨by simpa using h1, fun y hy => h2 y (List.mem_cons_of_mem _ hy)⟩, ?_⟩
        simp [Int.toNat_of_nonneg h3]
theorem nodup_flat {β : Type} (F : Nat → List β) (l : List Nat) (hl : l.Nodup) (h1 : ∀ a ∈ l, (F a).Nodup) (h2 : ∀ a ∈ l, ∀ b ∈ l, a ≠ b → ∀ x ∈ F a, x ∉ F b) : (l.flatMap F).Nodup := by
  induction l with
  | nil => simp
  | cons a l ih =>
    have hn := List.nodup_cons.1 hl
    rw [List.flatMap_cons, List.nodup_append]
    refine ⟨h1 a (List.mem_cons_self ..), ih hn.2 (fun b hb => h1 b (List.mem_cons_of_mem _ hb)) (fun b hb c hc => h2 b (List.mem_cons_of_mem _ hb) c (List.mem_cons_of_mem _ hc)), fun x hx y hy e => ?_⟩
    subst e
    obtain ⟨b, hb, hxb⟩ := List.mem_flatMap.1 hy
    exact h2 a (List.mem_cons_self ..) b (List.mem_cons_of_mem _ hb) (fun e => hn.1 (e ▸ hb)) x hx hxb
theorem nodup_allL : ∀ (n M : Nat), (allL n M).Nodup
  | 0, _ => by simp [allL]
  | n + 1, M => by
    unfold allL
    refine nodup_flat _ _ List.nodup_range (fun a _ => ?_) (fun a _ b _ hab x hx hy => ?_)
    · have := nodup_allL n M
      rw [List.nodup_iff_pairwise_ne, List.pairwise_map]
      exact (List.nodup_iff_pairwise_ne.1 this).imp fun h e => h (List.cons.inj e).2
    · obtain ⟨y, _, rfl⟩ := List.mem_map.1 hx
      obtain ⟨z, _, e⟩ := List.mem_map.1 hy
      exact hab (Int.ofNat.inj (List.cons.inj e).1.symm)
/-- A map that carries what is counted here to what is counted there, and back. -/
theorem filter_le {n n' M M' : Nat} {P Q : List Int → Bool} (φ : List Int → List Int) (h1 : ∀ f, f ∈ allL n M → P f = true → φ f ∈ allL n' M' ∧ Q (φ f) = true) (hinj : ∀ f g, f ∈ allL n M → g ∈ allL n M → φ f = φ g → f = g) :
    ((allL n M).filter P).length ≤ ((allL n' M').filter Q).length := by
  rw [← List.length_map (f := φ)]
  apply length_le_of_sub
  · rw [List.nodup_iff_pairwise_ne, List.pairwise_map]
    have := (nodup_allL n M).filter P
    refine (List.nodup_iff_pairwise_ne.1 this).imp_of_mem fun ha hb hne e => hne (hinj _ _ (List.mem_filter.1 ha).1 (List.mem_filter.1 hb).1 e)
  · intro x hx
    obtain ⟨f, hf, rfl⟩ := List.mem_map.1 hx
    obtain ⟨h2, h3⟩ := List.mem_filter.1 hf
    exact List.mem_filter.2 (h1 f h2 h3)
theorem mem_ca {f : List Int} (hn : 1 ≤ f.length) {x : Int} : x ∈ f ↔ ∃ i : Int, ca f i = x := by
  constructor
  · intro h
    obtain ⟨i, hi, rfl⟩ := List.getElem_of_mem h
    exact ⟨i, by rw [ca_nat hi]; simp [hi]⟩
  · rintro ⟨i, rfl⟩
    have h1 := Int.emod_nonneg i (show (f.length : Int) ≠ 0 by omega)
    have h2 := Int.emod_lt_of_pos i (show (0 : Int) < f.length by omega)
    unfold ca
    rw [show f.getD (i % (f.length : Int)).toNat 0 = f[(i % (f.length : Int)).toNat]'(by omega) by simp [show (i % (f.length : Int)).toNat < f.length by omega]]
    exact List.getElem_mem _
theorem mem_moved {f : List Int} (hn : 1 ≤ f.length) (s x : Int) : x ∈ moved f s ↔ x ∈ f := by
  rw [mem_ca (by rw [moved_length]; exact hn), mem_ca hn]
  constructor
  · rintro ⟨i, h⟩; rw [ca_moved hn] at h; exact ⟨_, h⟩
  · rintro ⟨i, h⟩; exact ⟨i + s, by rw [ca_moved hn, show i + s - s = i by omega]; exact h⟩
theorem mem_image {f : List Int} (hn : 1 ≤ f.length) (x : Int) : x ∈ image f ↔ x ∈ f := by
  rw [mem_ca (by rw [image_length]; exact hn), mem_ca hn]
  constructor
  · rintro ⟨i, h⟩; rw [ca_image hn] at h; exact ⟨_, h⟩
  · rintro ⟨i, h⟩; exact ⟨-i, by rw [ca_image hn, show -(-i) = i by omega]; exact h⟩
theorem foldr_max_mem : ∀ (l : List Int), l.foldr max 0 = 0 ∨ l.foldr max 0 ∈ l
  | [] => .inl rfl
  | x :: l => by
    have := foldr_max_mem l
    simp only [List.foldr_cons]
    rcases Int.le_total x (l.foldr max 0) with h | h
    · rw [Int.max_eq_right h]; exact this.imp id (List.mem_cons_of_mem _)
    · rw [Int.max_eq_left h]; exact .inr (List.mem_cons_self ..)
theorem foldr_max_nn : ∀ (l : List Int), 0 ≤ l.foldr max 0
  | [] => by simp
  | x :: l => by have := foldr_max_nn l; simp only [List.foldr_cons]; omega
theorem top_congr {f g : List Int} (h : ∀ x, x ∈ f ↔ x ∈ g) : top f = top g := by
  have key : ∀ f g : List Int, (∀ x, x ∈ f → x ∈ g) → f.foldr max 0 ≤ g.foldr max 0 := fun f g h => by
    rcases foldr_max_mem f with h1 | h1
    · rw [h1]; exact foldr_max_nn g
    · exact le_top2 g _ (h _ h1)
  have h1 := key f g fun x hx => (h x).1 hx
  have h2 := key g f fun x hx => (h x).2 hx
  unfold top
  rw [show f.foldr max 0 = g.foldr max 0 by omega]
theorem moved_moved {f : List Int} (hn : 1 ≤ f.length) (s t : Int) : moved (moved f s) t = moved f (s + t) :=
  ext_ca (by simp [moved_length]) fun i => by rw [ca_moved (by rw [moved_length]; exact hn), ca_moved hn, ca_moved hn]; congr 1; omega
theorem moved_zero {f : List Int} (hn : 1 ≤ f.length) : moved f 0 = f := (moved_self_iff hn).2 fun i => by simp
theorem image_image {f : List Int} (hn : 1 ≤ f.length) : image (image f) = f :=
  ext_ca (by simp [image_length]) fun i => by rw [ca_image (by rw [image_length]; exact hn), ca_image hn]; congr 1; omega
theorem moved_inj {f g : List Int} (hn : 1 ≤ f.length) (hl : f.length = g.length) (s : Int) (h : moved f s = moved g s) : f = g := by
  have h1 := moved_moved hn s (-s)
  have h2 := moved_moved (f := g) (by omega) s (-s)
  rw [show s + -s = 0 by omega, moved_zero (by omega)] at h1 h2
  rw [← h1, ← h2, h]
theorem sols_moved_le {l b : List Int} (hn : 1 ≤ l.length) (hb : Rub b) (s : Int) : sols l b ≤ sols (moved l s) b := by
  unfold sols
  rw [moved_length, top_congr (mem_moved hn s)]
  refine filter_le (fun f => moved f s) (fun f hf hP => ?_) (fun f g hf hg e => ?_)
  · obtain ⟨h1, h2⟩ := (mem_allL _ _ _).1 hf
    have hP := of_decide_eq_true hP
    refine ⟨(mem_allL _ _ _).2 ⟨by rw [moved_length, h1], fun x hx => h2 x ((mem_moved (by omega) s x).1 hx)⟩, decide_eq_true ?_⟩
    rw [lifted_moved (by omega) hb, hP]
  · exact moved_inj (by rw [((mem_allL _ _ _).1 hf).1]; exact hn) (by rw [((mem_allL _ _ _).1 hf).1, ((mem_allL _ _ _).1 hg).1]) s e
theorem sols_moved {l b : List Int} (hn : 1 ≤ l.length) (hb : Rub b) (s : Int) : sols (moved l s) b = sols l b := by
  have h1 := sols_moved_le hn hb s
  have h2 := sols_moved_le (l := moved l s) (by rw [moved_length]; exact hn) hb (-s)
  rw [moved_moved hn, show s + -s = 0 by omega, moved_zero hn] at h2
  omega
theorem sols_image_le {l b : List Int} (hn : 1 ≤ l.length) (hb : Rub b) : sols l b ≤ sols (image l) b.reverse := by
  unfold sols
  rw [image_length, top_congr (mem_image hn)]
  refine filter_le (fun f => image f) (fun f hf hP => ?_) (fun f g hf hg e => ?_)
  · obtain ⟨h1, h2⟩ := (mem_allL _ _ _).1 hf
    have hP := of_decide_eq_true hP
    refine ⟨(mem_allL _ _ _).2 ⟨by rw [image_length, h1], fun x hx => h2 x ((mem_image (by omega) x).1 hx)⟩, decide_eq_true ?_⟩
    rw [lifted_image (by omega) hb, hP]
  · have h1 := ((mem_allL _ _ _).1 hf).1
    have h2 := ((mem_allL _ _ _).1 hg).1
    have e2 : image (image f) = image (image g) := congrArg image e
    rwa [image_image (by omega), image_image (by omega)] at e2
theorem sols_image {l b : List Int} (hn : 1 ≤ l.length) (hb : Rub b) : sols (image l) b.reverse = sols l b := by
  have h1 := sols_image_le hn hb
  have h2 := sols_image_le (l := image l) (b := b.reverse) (by rw [image_length]; exact hn) hb.reverse
  rw [image_image hn, List.reverse_reverse] at h2
  omega
end Go.R03
