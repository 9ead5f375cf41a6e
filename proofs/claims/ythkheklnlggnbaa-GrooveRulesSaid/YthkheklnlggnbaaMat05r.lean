import Derived.Test.YthkheklnlggnbaaPro05p
set_option linter.unusedSectionVars false
set_option linter.unusedSimpArgs false
set_option linter.unusedVariables false
/-! Layer 5: the order that is found is one: what must come first comes first. -/
namespace Go.R05
open Go Go.Abs
set_option linter.unusedVariables false
set_option linter.unusedSectionVars false
theorem inc_at (bf : List Int) {b d : Int} (hb : 0 ≤ b) {j : Nat} (hj : j < bf.length) : (inc bf b d).getD j 0 = bf.getD j 0 + (if b = j then d else 0) := by
  unfold inc
  by_cases h : b = j
  · subst h
    simp [hj]
  · have : b.toNat ≠ j := by omega
    rw [if_neg h]
    simp only [List.getD_eq_getElem?_getD]
    rw [List.getElem?_set_ne this]
    simp
theorem cnts_fold : ∀ (rs : List (Int × Int)) (bf : List Int) (j : Nat), (∀ r ∈ rs, 0 ≤ r.2) → j < bf.length → (rs.foldl (fun bf r => inc bf r.2 1) bf).getD j 0 = bf.getD j 0 + (rs.countP fun r => decide (r.2 = (j : Int)))
  | [], bf, j, _, _ => by simp
  | r :: rs, bf, j, h, hj => by
    rw [List.foldl_cons, cnts_fold rs _ j (fun x hx => h x (List.mem_cons_of_mem _ hx)) (by rw [inc_len]; exact hj), inc_at bf (h r List.mem_cons_self) hj, List.countP_cons]
    by_cases e : r.2 = (j : Int)
    · rw [if_pos e]; simp [e]; omega
    · rw [if_neg e]; simp [e]
theorem decs_fold (nx : Int) : ∀ (rs : List (Int × Int)) (bf : List Int) (j : Nat), (∀ r ∈ rs, 0 ≤ r.2) → j < bf.length → (rs.foldl (decS nx) bf).getD j 0 = bf.getD j 0 - (rs.countP fun r => decide (r.1 = nx) && decide (r.2 = (j : Int)))
  | [], bf, j, _, _ => by simp
  | r :: rs, bf, j, h, hj => by
    have hl : (decS nx bf r).length = bf.length := by unfold decS; split <;> simp [inc_len]
    rw [List.foldl_cons, decs_fold nx rs _ j (fun x hx => h x (List.mem_cons_of_mem _ hx)) (by rw [hl]; exact hj), List.countP_cons]
    unfold decS
    by_cases e1 : r.1 = nx
    · rw [if_pos e1, inc_at bf (h r List.mem_cons_self) hj]
      by_cases e : r.2 = (j : Int)
      · rw [if_pos e]; simp [e1, e]; omega
      · rw [if_neg e]; simp [e1, e]
    · rw [if_neg e1]; simp [e1]
/-- What must come before a found one was found before it. -/
def Topo (rs : List (Int × Int)) (acc : List Int) : Prop := ∀ pre b suf, acc = pre ++ b :: suf → ∀ r ∈ rs, r.2 = b → r.1 ∈ pre
/-- The counts: -1 for what was found, and how much is missing for the others. -/
structure OrdI (rs : List (Int × Int)) (n : Nat) (bf acc : List Int) : Prop where
  len : bf.length = 16
  topo : Topo rs acc
  nodup : acc.Nodup
  inn : ∀ a ∈ acc, 0 ≤ a ∧ a < n
  found : ∀ j : Nat, j < n → (j : Int) ∈ acc → bf.getD j 0 = -1
  left : ∀ j : Nat, j < n → (j : Int) ∉ acc → bf.getD j 0 = (rs.countP fun r => decide (r.1 ∉ acc) && decide (r.2 = (j : Int)))
theorem ordI_zero {rs : List (Int × Int)} {n : Nat} (h : okR n rs) (hn : n ≤ 16) : OrdI rs n (cnts rs) [] := by
  refine ⟨cnts_len rs, fun pre b suf e => by simp at e, List.nodup_nil, by simp, by simp, fun j hj _ => ?_⟩
  unfold cnts
  rw [cnts_fold rs _ j (fun r hr => (h r hr).2.1) (by simp; omega)]
  rw [List.getD_eq_getElem?_getD, List.getElem?_replicate, if_pos (by omega)]
  simp
theorem ordI_step {rs : List (Int × Int)} {n : Nat} {bf acc : List Int} (hr : okR n rs) (hn : n ≤ 16) (I : OrdI rs n bf acc) {x : Nat} (hx : x < n) (h0 : bf.getD x 0 = 0) : OrdI rs n (decs rs x (bf.set x (-1))) (acc ++ [(x : Int)]) := by
  have hxa : (x : Int) ∉ acc := fun h => by have := I.found x hx h; omega
  have hc := I.left x hx hxa
  rw [h0] at hc
  have hsrc : ∀ r ∈ rs, r.2 = (x : Int) → r.1 ∈ acc := fun r hrr he => by
    by_cases h : r.1 ∈ acc
    · exact h
    · have : rs.countP (fun r => decide (r.1 ∉ acc) && decide (r.2 = (x : Int))) ≠ 0 := by
        rw [← Nat.pos_iff_ne_zero, List.countP_pos_iff]
        exact ⟨r, hrr, by simp [h, he]⟩
      omega
  have hl : (decs rs x (bf.set x (-1))).length = 16 := decs_len rs x _ (by simp [I.len])
  have hnn : ∀ r ∈ rs, 0 ≤ r.2 := fun r h => (hr r h).2.1
  have at_ : ∀ j : Nat, j < n → (decs rs x (bf.set x (-1))).getD j 0 = (if j = x then -1 else bf.getD j 0) - (rs.countP fun r => decide (r.1 = (x : Int)) && decide (r.2 = (j : Int))) := fun j hj => by
    unfold decs
    rw [decs_fold x rs _ j hnn (by simp [I.len]; omega)]
    congr 1
    by_cases e : j = x
    · subst e; rw [if_pos rfl]
      have : j < bf.length := by rw [I.len]; omega
      simp [this]
    · rw [if_neg e]
      simp only [List.getD_eq_getElem?_getD]
      rw [List.getElem?_set_ne (fun e2 => e e2.symm)]
  have none_ : ∀ j : Nat, (∀ r ∈ rs, r.2 = (j : Int) → r.1 ∈ acc) → (rs.countP fun r => decide (r.1 = (x : Int)) && decide (r.2 = (j : Int))) = 0 := fun j h => by
    rw [List.countP_eq_zero]
    intro r hrr
    simp only [Bool.and_eq_true, decide_eq_true_eq, not_and]
    intro h1 h2
    exact hxa (h1 ▸ h r hrr h2)
  refine ⟨hl, fun pre b suf e r hrr he => ?_, ?_, ?_, fun j hj hja => ?_, fun j hj hja => ?_⟩
  · rcases List.eq_nil_or_concat suf with rfl | ⟨s, y, rfl⟩
    · have := List.append_inj' (show acc ++ [(x : Int)] = pre ++ [b] from e) rfl
      obtain ⟨rfl, hb⟩ := this
      obtain rfl : (x : Int) = b := by simpa using hb
      exact hsrc r hrr he
    · have e2 : acc ++ [(x : Int)] = (pre ++ b :: s) ++ [y] := by rw [e]; simp
      exact I.topo pre b s (List.append_inj' e2 rfl).1 r hrr he
  · rw [List.nodup_append]
    exact ⟨I.nodup, by simp, fun a ha b hb e => by
      obtain rfl := List.mem_singleton.1 hb
      exact hxa (e ▸ ha)⟩
  · intro a ha
    rcases List.mem_append.1 ha with h | h
    · exact I.inn a h
    · obtain rfl := List.mem_singleton.1 h
      omega
  · rw [at_ j hj]
    rcases List.mem_append.1 hja with h | h
    · have hne : j ≠ x := fun e => hxa (e ▸ h)
      rw [if_neg hne, I.found j hj h, none_ j (fun r hrr he => ?_)]
      · rfl
      · obtain ⟨pre, suf, e⟩ := List.append_of_mem h
        have := I.topo pre j suf e r hrr he
        rw [e]; exact List.mem_append_left _ this
    · have : j = x := by have := List.mem_singleton.1 h; omega
      subst this
      rw [if_pos rfl, none_ j hsrc]
      rfl
  · have hj1 : (j : Int) ∉ acc := fun h => hja (List.mem_append_left _ h)
    have hj2 : j ≠ x := fun e => hja (by rw [e]; simp)
    rw [at_ j hj, if_neg hj2, I.left j hj hj1]
    have : ∀ l : List (Int × Int), ((l.countP fun r => decide (r.1 ∉ acc) && decide (r.2 = (j : Int)) : Nat) : Int) - (l.countP fun r => decide (r.1 = (x : Int)) && decide (r.2 = (j : Int)) : Nat) = (l.countP fun r => decide (r.1 ∉ acc ++ [(x : Int)]) && decide (r.2 = (j : Int)) : Nat) := fun l => by
      induction l with
      | nil => rfl
      | cons r l ih =>
        simp only [List.countP_cons, List.mem_append, List.mem_singleton, not_or] at ih ⊢
        by_cases e2 : r.2 = (j : Int)
        · by_cases e1 : r.1 = (x : Int)
          · have : (x : Int) ∉ acc := hxa
            simp [e2, e1, this] at ih ⊢; omega
          · by_cases e3 : r.1 ∈ acc
            · simp [e2, e1, e3] at ih ⊢; omega
            · simp [e2, e1, e3] at ih ⊢; omega
        · simp [e2] at ih ⊢; omega
    exact this rs
theorem idxOf_at (x : Int) : ∀ (zs : List Int) (k : Nat) (i : Nat), idxOf x zs k = ((k + i : Nat) : Int) → zs[i]? = some x
  | [], k, i, h => by unfold idxOf at h; omega
  | z :: zs, k, i, h => by
    unfold idxOf at h
    split at h
    · rename_i e
      obtain rfl : i = 0 := by omega
      rw [e]; rfl
    · have hb := idxOf_bd x zs (k + 1)
      have : 1 ≤ i := by omega
      obtain ⟨j, rfl⟩ : ∃ j, i = j + 1 := ⟨i - 1, by omega⟩
      rw [List.getElem?_cons_succ]
      exact idxOf_at x zs (k + 1) j (by rw [h]; omega)
theorem ordG_spec {rs : List (Int × Int)} {n : Nat} (hr : okR n rs) (hn : n ≤ 16) : ∀ (r : Nat) (bf acc o : List Int), OrdI rs n bf acc → ordG rs n r bf acc = some o → Topo rs o ∧ o.Nodup ∧ o.length = acc.length + r ∧ ∀ a ∈ o, 0 ≤ a ∧ a < n
  | 0, bf, acc, o, I, h => by
    unfold ordG at h
    obtain rfl := Option.some.inj h
    exact ⟨I.topo, I.nodup, rfl, I.inn⟩
  | r + 1, bf, acc, o, I, h => by
    unfold ordG at h
    have hb := idxOf_bd 0 (bf.take n) 0
    have hlen : (bf.take n).length ≤ n := by simp; omega
    split at h
    · cases h
    · rename_i hneg
      obtain ⟨x, hx⟩ : ∃ x : Nat, idxOf 0 (bf.take n) 0 = x := ⟨(idxOf 0 (bf.take n) 0).toNat, by omega⟩
      rw [hx] at h hb
      have hxn : x < n := by omega
      have h0 := idxOf_at 0 (bf.take n) 0 x (by rw [hx]; omega)
      have h0' : bf.getD x 0 = 0 := by
        rw [List.getElem?_take, if_pos hxn] at h0
        rw [List.getD_eq_getElem?_getD, h0]; rfl
      obtain ⟨a1, a2, a3, a4⟩ := ordG_spec hr hn r _ _ o (ordI_step hr hn I hxn h0') h
      exact ⟨a1, a2, by rw [a3]; simp; omega, a4⟩
theorem ordL_spec {rs : List (Int × Int)} {n : Nat} (hr : okR n rs) (hn : n ≤ 16) {o : List Int} (h : ordL rs n = some o) : Topo rs o ∧ o.Nodup ∧ o.length = n ∧ ∀ a ∈ o, 0 ≤ a ∧ a < n := by
  have := ordG_spec hr hn n _ _ o (ordI_zero hr hn) h
  simpa using this
/-- Pairs in order, each once. -/
def Inc2 : List (Int × Int) → Prop
  | [] => True
  | p :: l => (∀ q ∈ l, p.1 < q.1 ∨ (p.1 = q.1 ∧ p.2 < q.2)) ∧ Inc2 l
theorem inc2_app : ∀ {a b : List (Int × Int)}, Inc2 a → Inc2 b → (∀ p ∈ a, ∀ q ∈ b, p.1 < q.1 ∨ (p.1 = q.1 ∧ p.2 < q.2)) → Inc2 (a ++ b)
  | [], b, _, hb, _ => hb
  | p :: a, b, ⟨h1, h2⟩, hb, h => ⟨fun q hq => by
      rcases List.mem_append.1 hq with hq | hq
      · exact h1 q hq
      · exact h p List.mem_cons_self q hq, inc2_app h2 hb (fun x hx q hq => h x (List.mem_cons_of_mem _ hx) q hq)⟩
theorem inc2_at : ∀ {l : List (Int × Int)}, Inc2 l → ∀ {i : Nat}, i + 1 < l.length → (l.getD i (0, 0)).1 < (l.getD (i + 1) (0, 0)).1 ∨ ((l.getD i (0, 0)).1 = (l.getD (i + 1) (0, 0)).1 ∧ (l.getD i (0, 0)).2 < (l.getD (i + 1) (0, 0)).2)
  | p :: q :: l, ⟨h1, _⟩, 0, _ => h1 q List.mem_cons_self
  | p :: l, ⟨_, h2⟩, i + 1, h => by
    have := inc2_at h2 (i := i) (by simpa using h)
    simpa using this
theorem rl1_snoc (k : Wk) (cs : List Ct) (i j : Nat) : rl1 k cs i (j + 1) = rl1 k cs i j ++ (if rul k cs i j = true then [((i : Int), (j : Int))] else []) := by
  unfold rl1
  rw [List.range_succ, List.filter_append, List.map_append]
  congr 1
  by_cases h : rul k cs i j = true <;> simp [h]
theorem rl1_inc (k : Wk) (cs : List Ct) (i : Nat) : ∀ j, Inc2 (rl1 k cs i j) ∧ ∀ p ∈ rl1 k cs i j, p.1 = i ∧ 0 ≤ p.2 ∧ p.2 < j ∧ p.1 ≠ p.2
  | 0 => ⟨trivial, by simp [rl1]⟩
  | j + 1 => by
    obtain ⟨h1, h2⟩ := rl1_inc k cs i j
    rw [rl1_snoc]
    by_cases h : rul k cs i j = true
    · rw [if_pos h]
      have hij : i ≠ j := by
        unfold rul at h
        simp only [Bool.and_eq_true, decide_eq_true_eq] at h
        exact h.1
      refine ⟨inc2_app h1 ⟨by simp, trivial⟩ (fun p hp q hq => ?_), fun p hp => ?_⟩
      · obtain rfl := List.mem_singleton.1 hq
        obtain ⟨e1, e2, e3, _⟩ := h2 p hp
        exact .inr ⟨e1, e3⟩
      · rcases List.mem_append.1 hp with hp | hp
        · obtain ⟨e1, e2, e3, e4⟩ := h2 p hp
          exact ⟨e1, e2, by omega, e4⟩
        · obtain rfl := List.mem_singleton.1 hp
          refine ⟨rfl, ?_, ?_, ?_⟩ <;> simp only <;> omega
    · rw [if_neg h, List.append_nil]
      exact ⟨h1, fun p hp => by obtain ⟨e1, e2, e3, e4⟩ := h2 p hp; exact ⟨e1, e2, by omega, e4⟩⟩
theorem rl0_inc (k : Wk) (cs : List Ct) : ∀ i, Inc2 (rl0 k cs i) ∧ ∀ p ∈ rl0 k cs i, (0 ≤ p.1 ∧ p.1 < i) ∧ (0 ≤ p.2 ∧ p.2 < cs.length) ∧ p.1 ≠ p.2
  | 0 => ⟨trivial, by simp [rl0]⟩
  | i + 1 => by
    obtain ⟨h1, h2⟩ := rl0_inc k cs i
    obtain ⟨g1, g2⟩ := rl1_inc k cs i cs.length
    have e : rl0 k cs (i + 1) = rl0 k cs i ++ rl1 k cs i cs.length := by
      unfold rl0
      rw [List.range_succ, List.flatMap_append]
      simp
    rw [e]
    refine ⟨inc2_app h1 g1 (fun p hp q hq => ?_), fun p hp => ?_⟩
    · obtain ⟨a1, _, _⟩ := h2 p hp
      obtain ⟨b1, _, _, _⟩ := g2 q hq
      left; omega
    · rcases List.mem_append.1 hp with hp | hp
      · obtain ⟨a1, a2, a3⟩ := h2 p hp
        exact ⟨by omega, a2, a3⟩
      · obtain ⟨b1, b2, b3, b4⟩ := g2 p hp
        exact ⟨by omega, ⟨b2, b3⟩, b4⟩
theorem rulesL_inc (k : Wk) (cs : List Ct) : Inc2 (rulesL k cs) ∧ ∀ p ∈ rulesL k cs, (0 ≤ p.1 ∧ p.1 < cs.length) ∧ (0 ≤ p.2 ∧ p.2 < cs.length) ∧ p.1 ≠ p.2 := rl0_inc k cs cs.length
end Go.R05
