import Derived.Test.YtgeaklbldhijbaaMat03d
set_option linter.unusedSectionVars false
set_option linter.unusedSimpArgs false
set_option linter.unusedVariables false
/-! Layer 3: the count, step by step: states are what is high of the last steps. -/
namespace Go.R03
/-- The number that says which of k steps from a on are high. -/
def enc (β : Nat → Bool) (a : Nat) : Nat → Nat
  | 0 => 0
  | k + 1 => enc β a k + (if β (a + k) then 2 ^ k else 0)
theorem enc_congr {β γ : Nat → Bool} {a : Nat} : ∀ k, (∀ i, i < k → β (a + i) = γ (a + i)) → enc β a k = enc γ a k
  | 0, _ => rfl
  | k + 1, h => by unfold enc; rw [enc_congr k fun i hi => h i (by omega), h k (by omega)]
theorem enc_half (β : Nat → Bool) (a : Nat) : ∀ k, enc β a (k + 1) = (if β a then 1 else 0) + 2 * enc β (a + 1) k
  | 0 => by simp [enc]
  | k + 1 => by
    have ih := enc_half β a k
    rw [show enc β a (k + 1 + 1) = enc β a (k + 1) + (if β (a + (k + 1)) then 2 ^ (k + 1) else 0) from rfl, ih,
      show enc β (a + 1) (k + 1) = enc β (a + 1) k + (if β (a + 1 + k) then 2 ^ k else 0) from rfl, show a + (k + 1) = a + 1 + k by omega]
    rw [Nat.pow_succ]
    split <;> split <;> omega
theorem enc_div (β : Nat → Bool) (a k : Nat) : enc β a (k + 1) / 2 = enc β (a + 1) k := by
  rw [enc_half]; split <;> omega
theorem enc_testBit (β : Nat → Bool) : ∀ (k a j : Nat), j < k → (enc β a k).testBit j = β (a + j)
  | 0, _, _, h => by omega
  | k + 1, a, 0, _ => by
    rw [enc_half, Nat.testBit_zero]
    cases β (a + 0) <;> cases h : β a <;> simp_all
  | k + 1, a, j + 1, h => by
    rw [Nat.testBit_succ, enc_div, enc_testBit β k (a + 1) j (by omega)]
    congr 1; omega
def wt (x : Int) (h : Bool) : Nat := if h then 1 else x.toNat
section count
variable (l b g : List Int) (first : Nat)
/-- The rubber, with its middle at p, touches a step that is high, as the bits of a number say. -/
def touN (p : Int) (high : Nat) : Bool := (List.range b.length).any fun j => high.testBit j && decide (ca g (p + (j - hw b)) - b.getD j 0 = ca l p)
def allOf (s : Nat) (h : Bool) : Nat := s + (if h then 2 ^ (b.length - 1) else 0)
def okN (q s : Nat) (h : Bool) : Bool := (decide (q < l.length) || h == first.testBit (q - l.length)) && touN l b g ((q : Int) - hw b) (allOf b s h)
def wq (q : Nat) (h : Bool) : Nat := if q < l.length then wt (g.getD q 0) h else 1
/-- What is still to come, from the state s on, with r steps to go. -/
def comeN : Nat → Nat → Nat
  | 0, s => if s = first then 1 else 0
  | r + 1, s => (if okN l b g first (l.length + (b.length - 1) - (r + 1)) s false then wq l g (l.length + (b.length - 1) - (r + 1)) false * comeN r (allOf b s false / 2) else 0) +
      (if okN l b g first (l.length + (b.length - 1) - (r + 1)) s true then wq l g (l.length + (b.length - 1) - (r + 1)) true * comeN r (allOf b s true / 2) else 0)
def wF : Nat → Nat
  | 0 => 1
  | m + 1 => wF m * wt (g.getD m 0) (first.testBit m)
end count
/-- The steps counted around. -/
def cyc (bs : List Bool) (p : Nat) : Bool := bs.getD (p % bs.length) false
section walk
variable {l b g : List Int} (hb : Rub b) (hgl : g.length = l.length) (hbl : b.length ≤ l.length)
def touQ (l b g : List Int) (bs : List Bool) (q : Nat) : Bool := touN l b g ((q : Int) - hw b) (enc (cyc bs) (q - (b.length - 1)) b.length)
/-- All that is asked of the steps from q on. -/
def allQ (l b g : List Int) (bs : List Bool) (q : Nat) : Bool := (List.range (l.length + (b.length - 1) - q)).all fun i => touQ l b g bs (q + i)
theorem allQ_step {bs : List Bool} {q : Nat} (h : q < l.length + (b.length - 1)) : allQ l b g bs q = (touQ l b g bs q && allQ l b g bs (q + 1)) := by
  unfold allQ
  obtain ⟨r, hr⟩ : ∃ r, l.length + (b.length - 1) - q = r + 1 := ⟨l.length + (b.length - 1) - q - 1, by omega⟩
  rw [hr, show l.length + (b.length - 1) - (q + 1) = r by omega, List.range_succ_eq_map, List.all_cons, List.all_map]
  congr 1
  congr 1
  funext i
  simp only [Function.comp]
  congr 1; omega
theorem allQ_end {bs : List Bool} {q : Nat} (h : l.length + (b.length - 1) ≤ q) : allQ l b g bs q = true := by
  unfold allQ
  rw [show l.length + (b.length - 1) - q = 0 by omega]; rfl
include hb hgl hbl
/-- The second phase: the steps are known. -/
theorem come2 (bs : List Bool) (hbs : bs.length = l.length) : ∀ r, r ≤ b.length - 1 → comeN l b g (enc (cyc bs) 0 (b.length - 1)) r (enc (cyc bs) (l.length - r) (b.length - 1)) = if allQ l b g bs (l.length + (b.length - 1) - r) then 1 else 0
  | 0, _ => by
    have e : enc (cyc bs) (l.length - 0) (b.length - 1) = enc (cyc bs) 0 (b.length - 1) := by
      have : ∀ k, enc (cyc bs) l.length k = enc (cyc bs) 0 k := fun k => by
        induction k with
        | zero => rfl
        | succ k ih => unfold enc; rw [ih]; congr 2; unfold cyc; rw [hbs, Nat.add_mod_left, Nat.zero_add]
      exact this _
    rw [e, allQ_end (by omega)]
    simp [comeN]
  | r + 1, hr => by
    have ih := come2 bs hbs r (by omega)
    have ho := hb.len
    have hq : l.length + (b.length - 1) - (r + 1) = l.length - (r + 1) + (b.length - 1) := by omega
    have hstep := allQ_step (l := l) (b := b) (g := g) (bs := bs) (q := l.length + (b.length - 1) - (r + 1)) (by omega)
    rw [show l.length + (b.length - 1) - (r + 1) + 1 = l.length + (b.length - 1) - r by omega] at hstep
    -- the bit of this step
    have hall : ∀ h : Bool, h = cyc bs (l.length - (r + 1) + (b.length - 1)) → allOf b (enc (cyc bs) (l.length - (r + 1)) (b.length - 1)) h = enc (cyc bs) (l.length - (r + 1)) b.length := fun h hh => by
      have : b.length = b.length - 1 + 1 := by omega
      rw [show enc (cyc bs) (l.length - (r + 1)) b.length = enc (cyc bs) (l.length - (r + 1)) (b.length - 1 + 1) by rw [← this]]
      rw [show enc (cyc bs) (l.length - (r + 1)) (b.length - 1 + 1) = enc (cyc bs) (l.length - (r + 1)) (b.length - 1) + (if cyc bs (l.length - (r + 1) + (b.length - 1)) then 2 ^ (b.length - 1) else 0) from rfl]
      unfold allOf
      rw [hh]
    have hfirst : ∀ h : Bool, (h == (enc (cyc bs) 0 (b.length - 1)).testBit (l.length + (b.length - 1) - (r + 1) - l.length)) = decide (h = cyc bs (l.length - (r + 1) + (b.length - 1))) := fun h => by
      rw [enc_testBit _ _ _ _ (by omega), Nat.zero_add]
      have : cyc bs (l.length + (b.length - 1) - (r + 1) - l.length) = cyc bs (l.length - (r + 1) + (b.length - 1)) := by
        unfold cyc
        rw [hbs]
        congr 1
        rw [show l.length - (r + 1) + (b.length - 1) = l.length + (l.length + (b.length - 1) - (r + 1) - l.length) by omega, Nat.add_mod_left]
      rw [this]
      cases h <;> cases cyc bs (l.length - (r + 1) + (b.length - 1)) <;> rfl
    have hok : ∀ h : Bool, okN l b g (enc (cyc bs) 0 (b.length - 1)) (l.length + (b.length - 1) - (r + 1)) (enc (cyc bs) (l.length - (r + 1)) (b.length - 1)) h =
        (decide (h = cyc bs (l.length - (r + 1) + (b.length - 1))) && touN l b g (((l.length + (b.length - 1) - (r + 1) : Nat) : Int) - hw b) (allOf b (enc (cyc bs) (l.length - (r + 1)) (b.length - 1)) h)) := fun h => by
      unfold okN
      rw [hfirst, decide_eq_false (show ¬ (l.length + (b.length - 1) - (r + 1) < l.length) by omega), Bool.false_or]
    have hw1 : ∀ h : Bool, wq l g (l.length + (b.length - 1) - (r + 1)) h = 1 := fun h => by unfold wq; rw [if_neg (by omega)]
    have hT : touQ l b g bs (l.length + (b.length - 1) - (r + 1)) = touN l b g (((l.length + (b.length - 1) - (r + 1) : Nat) : Int) - hw b) (enc (cyc bs) (l.length - (r + 1)) b.length) := by
      unfold touQ
      rw [show l.length + (b.length - 1) - (r + 1) - (b.length - 1) = l.length - (r + 1) by omega]
    have hdiv : enc (cyc bs) (l.length - (r + 1)) b.length / 2 = enc (cyc bs) (l.length - r) (b.length - 1) := by
      have : b.length = b.length - 1 + 1 := by omega
      rw [this, enc_div, show l.length - (r + 1) + 1 = l.length - r by omega]; rfl
    unfold comeN
    simp only [hok, hw1, Nat.one_mul]
    rw [hstep, hT]
    cases hc : cyc bs (l.length - (r + 1) + (b.length - 1))
    · have ha := hall false hc.symm
      rw [ha, hdiv, ih]
      simp only [decide_true, Bool.true_and, show (true = false) = False by simp, decide_false, Bool.false_and]
      cases touN l b g (((l.length + (b.length - 1) - (r + 1) : Nat) : Int) - hw b) (enc (cyc bs) (l.length - (r + 1)) b.length) <;> simp
    · have ha := hall true hc.symm
      rw [ha, hdiv, ih]
      simp only [decide_true, Bool.true_and, show (false = true) = False by simp, decide_false, Bool.false_and]
      cases touN l b g (((l.length + (b.length - 1) - (r + 1) : Nat) : Int) - hw b) (enc (cyc bs) (l.length - (r + 1)) b.length) <;> simp
/-- The first phase: the first steps are known. -/
theorem come1 : ∀ (r : Nat) (pre : List Bool), pre.length + r = l.length → b.length - 1 ≤ pre.length →
    comeN l b g (enc (fun i => pre.getD i false) 0 (b.length - 1)) (r + (b.length - 1)) (enc (fun i => pre.getD i false) (pre.length - (b.length - 1)) (b.length - 1)) = cntF (g.drop pre.length) fun rest => allQ l b g (pre ++ rest) pre.length
  | 0, pre, h0, h1 => by
    have e1 : g.drop pre.length = [] := List.drop_eq_nil_of_le (by omega)
    have e2 : ∀ a, a + (b.length - 1) ≤ pre.length → enc (fun i => pre.getD i false) a (b.length - 1) = enc (cyc pre) a (b.length - 1) := fun a ha => enc_congr _ fun i hi => by
      unfold cyc; rw [Nat.mod_eq_of_lt (by omega)]
    have ho := hb.len
    rw [e1, e2 0 (by omega), e2 (pre.length - (b.length - 1)) (by omega)]
    have := come2 hb hgl hbl pre (by omega) (b.length - 1) (Nat.le_refl _)
    rw [Nat.zero_add, show pre.length - (b.length - 1) = l.length - (b.length - 1) by omega, this]
    simp only [cntF, List.append_nil]
    rw [show l.length + (b.length - 1) - (b.length - 1) = pre.length by omega]
  | r + 1, pre, h0, h1 => by
    have ho := hb.len
    have ihb : ∀ h : Bool, comeN l b g (enc (fun i => (pre ++ [h]).getD i false) 0 (b.length - 1)) (r + (b.length - 1)) (enc (fun i => (pre ++ [h]).getD i false) (pre.length + 1 - (b.length - 1)) (b.length - 1)) = cntF (g.drop (pre.length + 1)) fun rest => allQ l b g (pre ++ h :: rest) (pre.length + 1) := fun h => by
      have := come1 r (pre ++ [h]) (by simp; omega) (by simp; omega)
      simpa using this
    have hpre : ∀ (h : Bool) (i : Nat), i < pre.length → (pre ++ [h]).getD i false = pre.getD i false := fun h i hi => by simp [List.getElem?_append_left hi]
    have hE0 : ∀ h : Bool, enc (fun i => (pre ++ [h]).getD i false) 0 (b.length - 1) = enc (fun i => pre.getD i false) 0 (b.length - 1) := fun h => enc_congr _ fun i hi => hpre h _ (by omega)
    have hq : l.length + (b.length - 1) - (r + 1 + (b.length - 1)) = pre.length := by omega
    have hall : ∀ h : Bool, allOf b (enc (fun i => pre.getD i false) (pre.length - (b.length - 1)) (b.length - 1)) h = enc (fun i => (pre ++ [h]).getD i false) (pre.length - (b.length - 1)) b.length := fun h => by
      have e : b.length = b.length - 1 + 1 := by omega
      rw [show enc (fun i => (pre ++ [h]).getD i false) (pre.length - (b.length - 1)) b.length = enc (fun i => (pre ++ [h]).getD i false) (pre.length - (b.length - 1)) (b.length - 1 + 1) by rw [← e]]
      unfold allOf
      rw [show enc (fun i => (pre ++ [h]).getD i false) (pre.length - (b.length - 1)) (b.length - 1 + 1) = enc (fun i => (pre ++ [h]).getD i false) (pre.length - (b.length - 1)) (b.length - 1) + (if (pre ++ [h]).getD (pre.length - (b.length - 1) + (b.length - 1)) false then 2 ^ (b.length - 1) else 0) from rfl]
      rw [enc_congr (β := fun i => (pre ++ [h]).getD i false) (γ := fun i => pre.getD i false) _ fun i hi => hpre h _ (by omega)]
      rw [show pre.length - (b.length - 1) + (b.length - 1) = pre.length by omega]
      simp
    have hdiv : ∀ h : Bool, enc (fun i => (pre ++ [h]).getD i false) (pre.length - (b.length - 1)) b.length / 2 = enc (fun i => (pre ++ [h]).getD i false) (pre.length + 1 - (b.length - 1)) (b.length - 1) := fun h => by
      have : b.length = b.length - 1 + 1 := by omega
      rw [this, enc_div, show pre.length - (b.length - 1 + 1 - 1) + 1 = pre.length + 1 - (b.length - 1 + 1 - 1) by omega]; rfl
    have hT : ∀ (h : Bool) (rest : List Bool), rest.length = r → touQ l b g (pre ++ h :: rest) pre.length = touN l b g ((pre.length : Int) - hw b) (enc (fun i => (pre ++ [h]).getD i false) (pre.length - (b.length - 1)) b.length) := fun h rest hr => by
      unfold touQ
      congr 1
      apply enc_congr
      intro i hi
      unfold cyc
      rw [Nat.mod_eq_of_lt (by simp; omega)]
      rw [show pre ++ h :: rest = (pre ++ [h]) ++ rest by simp]
      simp only [List.getD_eq_getElem?_getD]
      rw [List.getElem?_append_left (by simp; omega)]
    have hok : ∀ h : Bool, okN l b g (enc (fun i => pre.getD i false) 0 (b.length - 1)) pre.length (enc (fun i => pre.getD i false) (pre.length - (b.length - 1)) (b.length - 1)) h = touN l b g ((pre.length : Int) - hw b) (enc (fun i => (pre ++ [h]).getD i false) (pre.length - (b.length - 1)) b.length) := fun h => by
      unfold okN
      rw [decide_eq_true (show pre.length < l.length by omega), Bool.true_or, Bool.true_and, hall]
    have hdrop : g.drop pre.length = g.getD pre.length 0 :: g.drop (pre.length + 1) := by
      rw [List.drop_eq_getElem_cons (by omega)]; simp [show pre.length < g.length by omega]
    have hdl : (g.drop (pre.length + 1)).length = r := by simp; omega
    have hside : ∀ h : Bool, cntF (g.drop (pre.length + 1)) (fun rest => allQ l b g (pre ++ h :: rest) pre.length) =
        if touN l b g ((pre.length : Int) - hw b) (enc (fun i => (pre ++ [h]).getD i false) (pre.length - (b.length - 1)) b.length) then
          comeN l b g (enc (fun i => pre.getD i false) 0 (b.length - 1)) (r + (b.length - 1)) (allOf b (enc (fun i => pre.getD i false) (pre.length - (b.length - 1)) (b.length - 1)) h / 2) else 0 := fun h => by
      rw [cntF_congr (Q := fun rest => touN l b g ((pre.length : Int) - hw b) (enc (fun i => (pre ++ [h]).getD i false) (pre.length - (b.length - 1)) b.length) && allQ l b g (pre ++ h :: rest) (pre.length + 1)) _ fun rest hr => by
        rw [allQ_step (by omega), hT h rest (by omega)]]
      rw [cntF_and, ← ihb h, hE0, hall, hdiv]
    rw [show r + 1 + (b.length - 1) = (r + (b.length - 1)) + 1 by omega]
    unfold comeN
    rw [show l.length + (b.length - 1) - (r + (b.length - 1) + 1) = pre.length by omega, hok, hok, hdrop]
    simp only [cntF]
    rw [hside true, hside false]
    have w1 : wq l g pre.length true = 1 := by unfold wq wt; rw [if_pos (by omega)]; rfl
    have w2 : wq l g pre.length false = (g.getD pre.length 0).toNat := by unfold wq wt; rw [if_pos (by omega)]; rfl
    rw [w1, w2]
    cases touN l b g ((pre.length : Int) - hw b) (enc (fun i => (pre ++ [true]).getD i false) (pre.length - (b.length - 1)) b.length) <;>
      cases touN l b g ((pre.length : Int) - hw b) (enc (fun i => (pre ++ [false]).getD i false) (pre.length - (b.length - 1)) b.length) <;> simp <;> omega
end walk
/-- The bits of a number, as a list. -/
def bitsN (first m : Nat) : List Bool := (List.range m).map first.testBit
theorem bitsN_length (first m : Nat) : (bitsN first m).length = m := by simp [bitsN]
theorem bitsN_at {first m i : Nat} (h : i < m) : (bitsN first m).getD i false = first.testBit i := by simp [bitsN, h]
theorem enc_bitsN (first : Nat) : ∀ m, first < 2 ^ m → enc (fun i => first.testBit i) 0 m = first := by
  suffices H : ∀ m, enc (fun i => first.testBit i) 0 m = first % 2 ^ m by
    intro m h; rw [H, Nat.mod_eq_of_lt h]
  intro m
  induction m with
  | zero => simp [enc, Nat.mod_one]
  | succ m ih =>
    rw [show enc (fun i => first.testBit i) 0 (m + 1) = enc (fun i => first.testBit i) 0 m + (if first.testBit (0 + m) then 2 ^ m else 0) from rfl, ih, Nat.zero_add]
    rw [Nat.mod_pow_succ, Nat.testBit_eq_decide_div_mod_eq]
    have h2 : first / 2 ^ m % 2 = 0 ∨ first / 2 ^ m % 2 = 1 := by omega
    rcases h2 with h2 | h2 <;> simp [h2]
theorem wF_congr (g : List Int) {a c : Nat} : ∀ m, (∀ i, i < m → a.testBit i = c.testBit i) → wF g a m = wF g c m
  | 0, _ => rfl
  | m + 1, h => by unfold wF; rw [wF_congr g m fun i hi => h i (by omega), h m (by omega)]
theorem bitsN_succ (first m : Nat) : bitsN first (m + 1) = bitsN first m ++ [first.testBit m] := by simp [bitsN, List.range_succ]
theorem bitsN_congr {a c m : Nat} (h : ∀ i, i < m → a.testBit i = c.testBit i) : bitsN a m = bitsN c m := List.map_congr_left fun i hi => h i (List.mem_range.1 hi)
theorem cnt_split (g : List Int) (P : List Bool → Bool) : ∀ m, m ≤ g.length → cntF g P = ((List.range (2 ^ m)).map fun first => wF g first m * cntF (g.drop m) (fun r => P (bitsN first m ++ r))).sum
  | 0, _ => by simp [wF, bitsN]
  | m + 1, hm => by
    rw [cnt_split g P m (by omega)]
    rw [show 2 ^ (m + 1) = 2 ^ m + 2 ^ m by rw [Nat.pow_succ]; omega, List.range_add, List.map_append, List.sum_append_nat, List.map_map]
    have hdrop : g.drop m = g.getD m 0 :: g.drop (m + 1) := by
      rw [List.drop_eq_getElem_cons (by omega)]; simp [show m < g.length by omega]
    have hsum : ∀ (l : List Nat) (F G H : Nat → Nat), (∀ x ∈ l, F x = G x + H x) → (l.map F).sum = (l.map G).sum + (l.map H).sum := by
      intro l F G H
      induction l with
      | nil => intro _; simp
      | cons x l ih =>
        intro h
        simp only [List.map_cons, List.sum_cons]
        rw [ih fun y hy => h y (List.mem_cons_of_mem _ hy), h x (List.mem_cons_self ..)]
        omega
    apply hsum
    intro x hx
    have hx := List.mem_range.1 hx
    have t0 : x.testBit m = false := Nat.testBit_lt_two_pow hx
    have t1 : (2 ^ m + x).testBit m = true := by rw [Nat.testBit_two_pow_add_eq, t0]; rfl
    have tl : ∀ i, i < m → (2 ^ m + x).testBit i = x.testBit i := fun i hi => Nat.testBit_two_pow_add_gt hi x
    simp only [Function.comp]
    rw [show wF g x (m + 1) = wF g x m * wt (g.getD m 0) (x.testBit m) from rfl, show wF g (2 ^ m + x) (m + 1) = wF g (2 ^ m + x) m * wt (g.getD m 0) ((2 ^ m + x).testBit m) from rfl,
      bitsN_succ, bitsN_succ, t0, t1, wF_congr g m tl, bitsN_congr tl, hdrop]
    simp only [cntF, wt, List.append_assoc, List.singleton_append, if_true, Bool.false_eq_true, if_false, Nat.mul_one]
    rw [Nat.mul_add, Nat.mul_assoc, Nat.add_comm]
theorem okB_allQ {l b g : List Int} (hb : Rub b) (hn : 1 ≤ l.length) (hgl : g.length = l.length) {bs : List Bool} (hbs : bs.length = l.length) : okB l b g bs = allQ l b g bs (b.length - 1) := by
  have ho := hb.len
  -- what is touched from p, counted around
  have hZ : ∀ p q : Int, p % (l.length : Int) = q % (l.length : Int) →
      ((List.range b.length).any fun j => bs.getD ((p + (j - hw b)) % (l.length : Int)).toNat false && decide (ca g (p + (j - hw b)) - b.getD j 0 = ca l p)) =
      ((List.range b.length).any fun j => bs.getD ((q + (j - hw b)) % (l.length : Int)).toNat false && decide (ca g (q + (j - hw b)) - b.getD j 0 = ca l q)) := fun p q h => by
    have hj : ∀ x : Int, (p + x) % (l.length : Int) = (q + x) % (l.length : Int) := fun x => by rw [Int.add_emod p, h, ← Int.add_emod]
    congr 1
    funext j
    rw [hj, ca_congr g (j := q + (j - hw b)) (by rw [hgl]; exact hj _), ca_congr l h]
  have hQ : ∀ i : Nat, touQ l b g bs (b.length - 1 + i) = ((List.range b.length).any fun j => bs.getD (((((i : Int) + hw b)) + (j - hw b)) % (l.length : Int)).toNat false && decide (ca g (((i : Int) + hw b) + (j - hw b)) - b.getD j 0 = ca l ((i : Int) + hw b))) := fun i => by
    unfold touQ touN
    have e : ((b.length - 1 + i : Nat) : Int) - hw b = (i : Int) + hw b := by unfold hw; omega
    rw [e, Nat.add_sub_cancel_left]
    rw [Bool.eq_iff_iff]
    simp only [List.any_eq_true, List.mem_range]
    refine exists_congr fun j => ?_
    refine and_congr_right fun hj => ?_
    rw [enc_testBit _ _ _ _ hj]
    unfold cyc
    have : (((i : Int) + hw b + (j - hw b)) % (l.length : Int)).toNat = (i + j) % bs.length := by
      rw [show (i : Int) + hw b + (j - hw b) = ((i + j : Nat) : Int) by omega, hbs]
      omega
    rw [this]
  unfold okB allQ
  rw [show l.length + (b.length - 1) - (b.length - 1) = l.length by omega, Bool.eq_iff_iff]
  simp only [List.all_eq_true, List.mem_range]
  constructor
  · intro h i hi
    have h1 := Int.emod_nonneg ((i : Int) + hw b) (show (l.length : Int) ≠ 0 by omega)
    have h2 := Int.emod_lt_of_pos ((i : Int) + hw b) (show (0 : Int) < l.length by omega)
    have := h (((i : Int) + hw b) % (l.length : Int)).toNat (by omega)
    rw [hQ, ← this]
    unfold touB
    apply hZ
    rw [Int.toNat_of_nonneg h1, Int.emod_emod_of_dvd _ (Int.dvd_refl _)]
  · intro h p hp
    have h1 := Int.emod_nonneg ((p : Int) - hw b) (show (l.length : Int) ≠ 0 by omega)
    have h2 := Int.emod_lt_of_pos ((p : Int) - hw b) (show (0 : Int) < l.length by omega)
    have := h (((p : Int) - hw b) % (l.length : Int)).toNat (by omega)
    rw [hQ] at this
    rw [← this]
    unfold touB
    apply hZ
    rw [Int.toNat_of_nonneg h1, Int.emod_add_emod, show (p : Int) - hw b + hw b = p by omega]
/-- The count, first steps by first steps. -/
theorem cnt_come {l b g : List Int} (hb : Rub b) (hgl : g.length = l.length) (hbl : b.length ≤ l.length) :
    cntF g (okB l b g) = ((List.range (2 ^ (b.length - 1))).map fun first => wF g first (b.length - 1) * comeN l b g first l.length first).sum := by
  have ho := hb.len
  rw [cnt_split g _ (b.length - 1) (by omega)]
  congr 1
  apply List.map_congr_left
  intro first hf
  have hf := List.mem_range.1 hf
  congr 1
  have h1 := come1 hb hgl hbl (l.length - (b.length - 1)) (bitsN first (b.length - 1)) (by rw [bitsN_length]; omega) (by rw [bitsN_length]; omega)
  rw [bitsN_length, Nat.sub_self, show l.length - (b.length - 1) + (b.length - 1) = l.length by omega] at h1
  have h2 : enc (fun i => (bitsN first (b.length - 1)).getD i false) 0 (b.length - 1) = first := by
    rw [enc_congr (γ := fun i => first.testBit i) _ fun i hi => by simp only [Nat.zero_add]; exact bitsN_at hi]
    exact enc_bitsN _ _ hf
  rw [h2] at h1
  rw [h1]
  apply cntF_congr
  intro r hr
  rw [okB_allQ hb (by omega) hgl (by rw [List.length_append, bitsN_length, hr]; simp; omega)]
end Go.R03
