import Derived.Test.YtgeaklbldhijbaaMat03h
set_option linter.unusedSectionVars false
set_option linter.unusedSimpArgs false
set_option linter.unusedVariables false
/-! Layer 3: the maps of a count. -/
namespace Go.R03
open Go Go.Abs
def natV : Value → Nat
  | .int _ n => n.toNat
  | _ => 0
theorem mod_step {S S' R o n h V B X : Nat} (hX : (o + n * h) % B = X) (hs : S' + o * V = S + X * V) : (S' + R) % B = (S + n * (h * V) + R) % B := by
  have hd := Nat.div_add_mod (o + n * h) B
  rw [hX] at hd
  obtain ⟨c, hc⟩ : ∃ c, (o + n * h) / B = c := ⟨_, rfl⟩
  rw [hc] at hd
  have e1 : X * V + B * (c * V) = o * V + n * (h * V) := by
    rw [← Nat.mul_assoc, ← Nat.mul_assoc, ← Nat.add_mul, ← Nat.add_mul, ← hd, Nat.add_comm X]
  have e2 : S + n * (h * V) + R = S' + R + B * (c * V) := by omega
  rw [e2, Nat.add_mul_mod_self_left]
theorem nodup_bound : ∀ (N : Nat) (l : List Nat), l.Nodup → (∀ x ∈ l, x < N) → l.length ≤ N
  | 0, l, _, h => by
    cases l with
    | nil => simp
    | cons x l => have := h x (List.mem_cons_self ..); omega
  | N + 1, l, hn, h => by
    have ih := nodup_bound N (l.erase N) (hn.erase N) fun x hx => by
      have h1 := (List.Nodup.mem_erase_iff hn).1 hx
      have := h x h1.2
      have := h1.1
      omega
    rw [List.length_erase] at ih
    split at ih <;> omega
/-- A map of a count: states that fit, numbers below the base. -/
structure OkM (K : Nat) (es : List (KX (Nat × Nat))) (c : Nat) : Prop where
  wf : WfX es c
  val : ∀ e ∈ es, ∃ n : Nat, e.v = .int .u64 n ∧ n < 1000000007
  fst : ∀ e ∈ es, e.k.1 < 2 ^ K
  snd : ∀ e ∈ es, e.k.2 < 2 ^ K
theorem OkM.nil (K c : Nat) : OkM K [] c := ⟨WfX.nil c, fun _ h => (by cases h), fun _ h => (by cases h), fun _ h => (by cases h)⟩
theorem OkM.put {K : Nat} {es : List (KX (Nat × Nat))} {c : Nat} (h : OkM K es c) {t : Nat × Nat} {n : Nat} (hn : n < 1000000007) (h1 : t.1 < 2 ^ K) (h2 : t.2 < 2 ^ K) : OkM K (putX es t (.int .u64 n) c) (clockX es t c) := by
  refine ⟨h.wf.put _ _, fun e he => ?_, fun e he => ?_, fun e he => ?_⟩
  · rcases mem_putX he with ⟨_, g2, _⟩ | g
    · exact ⟨n, g2, hn⟩
    · exact h.val e g
  · rcases mem_putX he with ⟨g1, _, _⟩ | g
    · rw [g1]; exact h1
    · exact h.fst e g
  · rcases mem_putX he with ⟨g1, _, _⟩ | g
    · rw [g1]; exact h2
    · exact h.snd e g
theorem OkM.len {K : Nat} {es : List (KX (Nat × Nat))} {c : Nat} (h : OkM K es c) (hK : K ≤ 6) : es.length ≤ 4096 := by
  have hp : 2 ^ K ≤ 64 := by
    have : 2 ^ K ≤ 2 ^ 6 := Nat.pow_le_pow_right (by omega) hK
    omega
  have := nodup_bound 4096 (es.map fun e => e.k.1 * 64 + e.k.2) ?_ ?_
  · simpa using this
  · have hk := h.wf.keys
    rw [List.nodup_iff_pairwise_ne, List.pairwise_map] at hk ⊢
    refine List.Pairwise.imp_of_mem (fun {a b} ha hb hne => ?_) hk
    intro e
    have a1 := h.fst a ha
    have a2 := h.snd a ha
    have b1 := h.fst b hb
    have b2 := h.snd b hb
    exact hne (Prod.ext (by omega) (by omega))
  · intro x hx
    obtain ⟨e, he, rfl⟩ := List.mem_map.1 hx
    have a1 := h.fst e he
    have a2 := h.snd e he
    omega
theorem sum_le {α : Type} (F : α → Nat) (B : Nat) : ∀ (l : List α), (∀ x ∈ l, F x ≤ B) → (l.map F).sum ≤ l.length * B
  | [], _ => by simp
  | x :: l, h => by
    have ih := sum_le F B l fun y hy => h y (List.mem_cons_of_mem _ hy)
    have := h x (List.mem_cons_self ..)
    simp only [List.map_cons, List.sum_cons, List.length_cons, Nat.add_mul, Nat.one_mul]
    omega
theorem OkM.sum {K : Nat} {es : List (KX (Nat × Nat))} {c : Nat} (h : OkM K es c) (hK : K ≤ 6) : (es.map fun e => natV e.v).sum ≤ 4096000000000000 := by
  have h1 := sum_le (fun e : KX (Nat × Nat) => natV e.v) 1000000007 es fun e he => by
    obtain ⟨n, hv, hn⟩ := h.val e he
    rw [hv]; show (n : Int).toNat ≤ _; omega
  have h2 := h.len hK
  have h3 : es.length * 1000000007 ≤ 4096 * 1000000007 := Nat.mul_le_mul_right _ h2
  omega
section fit
variable (l b g : List Int)
/-- What a map is worth, with r steps to go. -/
def worth (r : Nat) : Nat × Nat → Value → Nat := fun k v => natV v * valN l b g r k.1 k.2
/-- What one way on from a state is worth. -/
def trm (r q full : Nat) (k : Nat × Nat) : Nat := if lft (b.length - 1) (lifL l b g) q k.2 full then hgt g.length g q k.1 full * valN l b g r (aftF (b.length - 1) q k.1 full) (aftS (b.length - 1) k.2 full) else 0
theorem val_trm {r q : Nat} (hq : l.length + (b.length - 1) - (r + 1) = q) (k : Nat × Nat) : valN l b g (r + 1) k.1 k.2 = trm l b g r q 0 k + trm l b g r q 1 k := by
  subst hq; rfl
def leftW (r : Nat) (es : List (KX (Nat × Nat))) (seen : Array Nat) : Nat := ((leftX es seen).map fun e => worth l b g r e.k e.v).sum
end fit
theorem aftS_lt {K s full : Nat} (hs : s < 2 ^ K) (hf : full ≤ 1) : aftS K s full < 2 ^ K := by
  unfold aftS
  rw [or_top hs hf]
  have : full * 2 ^ K ≤ 1 * 2 ^ K := Nat.mul_le_mul_right _ hf
  omega
theorem aftF_lt {K q f full : Nat} (hf : f < 2 ^ K) (h : full ≤ 1) : aftF K q f full < 2 ^ K := by
  unfold aftF
  split
  · rename_i hq
    refine Nat.or_lt_two_pow hf ?_
    have : full * 2 ^ q ≤ 1 * 2 ^ q := Nat.mul_le_mul_right _ h
    have h2 : 2 ^ q < 2 ^ K := Nat.pow_lt_pow_right (by omega) hq
    omega
  · exact hf
end Go.R03
