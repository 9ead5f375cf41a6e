set_option linter.unusedSectionVars false
set_option linter.unusedSimpArgs false
set_option linter.unusedVariables false
/-! Layer 7: pure mathematics: sheets, lines, bands. -/
namespace Go.R07
set_option linter.unusedVariables false
/-- From lo to hi. -/
def ws (n lo hi : Int) : Bool := decide (lo ≤ n) && decide (n ≤ hi)
theorem ws_t {n lo hi : Int} (h : ws n lo hi = true) : lo ≤ n ∧ n ≤ hi := by simpa [ws] using h
theorem ws_f {n lo hi : Int} (h : ws n lo hi = false) : n < lo ∨ hi < n := by
  unfold ws at h
  rcases Bool.and_eq_false_iff.1 h with g | g
  · left; have := of_decide_eq_false g; omega
  · right; have := of_decide_eq_false g; omega
theorem ws_of {n lo hi : Int} (h : lo ≤ n ∧ n ≤ hi) : ws n lo hi = true := by simpa [ws] using h
/-- All from lo to hi. -/
def alls (zs : List Int) (lo hi : Int) : Bool := zs.all fun x => ws x lo hi
/-- A sheet, a screen. -/
structure Sh where
  c : Int
  r : Int
  w : Int
  k : Int
  l : Int
structure Sn where
  p : Int
  f : Int
def okS (s : Sh) : Bool := ws s.c 1 40 && (ws s.r 1 60 && (ws s.w 1 8 && (ws s.k 0 20 && ws s.l 0 8)))
structure GoodS (s : Sh) : Prop where
  c : 1 ≤ s.c ∧ s.c ≤ 40
  r : 1 ≤ s.r ∧ s.r ≤ 60
  w : 1 ≤ s.w ∧ s.w ≤ 8
  k : 0 ≤ s.k ∧ s.k ≤ 20
  l : 0 ≤ s.l ∧ s.l ≤ 8
theorem okS_good {s : Sh} (h : okS s = true) : GoodS s := by
  simp only [okS, Bool.and_eq_true] at h
  exact ⟨ws_t h.1, ws_t h.2.1, ws_t h.2.2.1, ws_t h.2.2.2.1, ws_t h.2.2.2.2⟩
theorem good_okS {s : Sh} (h : GoodS s) : okS s = true := by
  simp only [okS, Bool.and_eq_true]
  exact ⟨ws_of h.c, ws_of h.r, ws_of h.w, ws_of h.k, ws_of h.l⟩
def chkS (s : Sh) : Int := if okS s = true then 0 else 70
abbrev at0 (l : List Int) (i : Nat) : Int := l.getD i 0
abbrev rw0 (b : List (List Int)) (i : Nat) : List Int := b.getD i []
/-- A line of a sheet. -/
def LineP (s : Sh) (l : List Int) : Prop := (l.length : Int) = s.c ∧ (∀ i, i < l.length → 0 ≤ at0 l i ∧ at0 l i ≤ s.r - s.w) ∧ ∀ i, i < l.length - 1 → -s.l ≤ at0 l (i + 1) - at0 l i ∧ at0 l (i + 1) - at0 l i ≤ s.l
instance (s : Sh) (l : List Int) : Decidable (LineP s l) := by unfold LineP; infer_instance
def lineB (s : Sh) (l : List Int) : Bool := decide (LineP s l)
theorem lineB_t {s : Sh} {l : List Int} : lineB s l = true ↔ LineP s l := decide_eq_true_iff
theorem lineB_f {s : Sh} {l : List Int} (h : ¬ LineP s l) : lineB s l = false := decide_eq_false h
/-- The first column from k on in which two lines are nearer than g. -/
def clashAt (g : Int) : List Int → List Int → Nat → Int
  | x :: xs, y :: ys, k => if y - x < g then (k : Int) else clashAt g xs ys (k + 1)
  | _, _, _ => -1
def clashI (s : Sh) (a b : List Int) : Int := clashAt (s.w + s.k) a b 0
theorem clashAt_or (g : Int) : ∀ (a b : List Int) (k : Nat), clashAt g a b k = -1 ∨ (k : Int) ≤ clashAt g a b k
  | [], _, k => .inl rfl
  | _ :: _, [], k => .inl rfl
  | x :: xs, y :: ys, k => by
    unfold clashAt
    split
    · exact .inr (Int.le_refl _)
    · rcases clashAt_or g xs ys (k + 1) with h | h
      · exact .inl h
      · exact .inr (by omega)
theorem clashI_or (s : Sh) (a b : List Int) : clashI s a b = -1 ∨ 0 ≤ clashI s a b := by
  rcases clashAt_or (s.w + s.k) a b 0 with h | h
  · exact .inl h
  · exact .inr (by unfold clashI; simpa using h)
theorem clashAt_no {g : Int} : ∀ {a b : List Int} {k : Nat}, clashAt g a b k = -1 → ∀ i, i < a.length → i < b.length → g ≤ at0 b i - at0 a i
  | [], _, _, _, i, hi, _ => absurd hi (Nat.not_lt_zero _)
  | _ :: _, [], _, _, i, _, hi => absurd hi (Nat.not_lt_zero _)
  | x :: xs, y :: ys, k, h, i, hi, hj => by
    unfold clashAt at h
    split at h
    · omega
    · cases i with
      | zero => show g ≤ y - x; omega
      | succ i => exact clashAt_no h i (by simpa using hi) (by simpa using hj)
theorem clashAt_of {g : Int} : ∀ {a b : List Int} {k : Nat}, (∀ i, i < a.length → i < b.length → g ≤ at0 b i - at0 a i) → clashAt g a b k = -1
  | [], _, _, _ => rfl
  | _ :: _, [], _, _ => rfl
  | x :: xs, y :: ys, k, h => by
    have h0 : g ≤ y - x := h 0 (Nat.zero_lt_succ _) (Nat.zero_lt_succ _)
    unfold clashAt
    rw [if_neg (by omega)]
    exact clashAt_of fun i hi hj => h (i + 1) (Nat.succ_lt_succ hi) (Nat.succ_lt_succ hj)
/-- A clash. -/
structure Cl where
  u : Int
  w : Int
  c : Int
def clN (s : Sh) (b : List (List Int)) (n : Nat) : List Cl := (List.range n).filterMap fun i => if 0 ≤ clashI s (rw0 b i) (rw0 b (i + 1)) then some ⟨i, (i + 1 : Nat), clashI s (rw0 b i) (rw0 b (i + 1))⟩ else none
def cls (s : Sh) (b : List (List Int)) : List Cl := clN s b (b.length - 1)
theorem clN_succ (s : Sh) (b : List (List Int)) (n : Nat) : clN s b (n + 1) = clN s b n ++ (if 0 ≤ clashI s (rw0 b n) (rw0 b (n + 1)) then [⟨n, (n + 1 : Nat), clashI s (rw0 b n) (rw0 b (n + 1))⟩] else []) := by
  unfold clN
  rw [List.range_succ, List.filterMap_append]
  congr 1
  by_cases h : 0 ≤ clashI s (rw0 b n) (rw0 b (n + 1))
  · rw [if_pos h, List.filterMap_cons_some (b := ⟨n, (n + 1 : Nat), clashI s (rw0 b n) (rw0 b (n + 1))⟩) (by rw [if_pos h])]; rfl
  · rw [if_neg h, List.filterMap_cons_none (by rw [if_neg h])]; rfl
theorem clN_len (s : Sh) (b : List (List Int)) (n : Nat) : (clN s b n).length ≤ n := by
  unfold clN
  have := List.length_filterMap_le (fun i => if 0 ≤ clashI s (rw0 b i) (rw0 b (i + 1)) then some (⟨i, (i + 1 : Nat), clashI s (rw0 b i) (rw0 b (i + 1))⟩ : Cl) else none) (List.range n)
  simpa using this
def linesB (s : Sh) (b : List (List Int)) : Bool := b.all (lineB s)
/-- A band of a valid sheet. -/
def bandB (s : Sh) (b : List (List Int)) : Bool := decide (b.length ≤ 12) && (linesB s b && (cls s b).isEmpty)
def clE (s : Sh) (b : List (List Int)) : Int := if okS s = true then (if b.length ≤ 12 then (if linesB s b = true then 0 else 2) else 4) else 70
def clL (s : Sh) (b : List (List Int)) : List Cl := if clE s b = 0 then cls s b else []
def chkB (s : Sh) (b : List (List Int)) : Int := if okS s = true then (if bandB s b = true then 0 else 71) else 70
theorem cls_empty {s : Sh} {b : List (List Int)} : cls s b = [] ↔ ∀ i, i < b.length - 1 → clashI s (rw0 b i) (rw0 b (i + 1)) = -1 := by
  unfold cls clN
  rw [List.filterMap_eq_nil_iff]
  constructor
  · intro h i hi
    have := h i (List.mem_range.2 hi)
    rcases clashI_or s (rw0 b i) (rw0 b (i + 1)) with g | g
    · exact g
    · rw [if_pos g] at this; cases this
  · intro h i hi
    rw [if_neg (by rw [h i (List.mem_range.1 hi)]; decide)]
theorem all_at {α : Type} {p : α → Bool} {l : List α} (d : α) : l.all p = true ↔ ∀ i, i < l.length → p (l.getD i d) = true := by
  rw [List.all_eq_true]
  constructor
  · intro h i hi
    rw [List.getD_eq_getElem?_getD, List.getElem?_eq_getElem hi]
    exact h _ (List.getElem_mem hi)
  · intro h x hx
    obtain ⟨i, hi, e⟩ := List.getElem_of_mem hx
    have := h i hi
    rw [List.getD_eq_getElem?_getD, List.getElem?_eq_getElem hi] at this
    rw [← e]; exact this
theorem all_bad {α : Type} {p : α → Bool} {l : List α} (d : α) {i : Nat} (hi : i < l.length) (h : p (l.getD i d) = false) : l.all p = false := by
  rw [← Bool.not_eq_true]; intro g
  rw [(all_at d).1 g i hi] at h; cases h
/-! ### between two lines -/
def part (t b : List Int) (i d : Int) : List Int := List.zipWith (fun x y => x + (i * (y - x)).tdiv d) t b
def evenN (t b : List Int) (n k : Nat) : List (List Int) := (List.range k).map fun i => part t b (i : Nat) ((n : Int) - 1)
def even (t b : List Int) (n : Nat) : List (List Int) := evenN t b n n
theorem evenN_succ (t b : List Int) (n k : Nat) : evenN t b n (k + 1) = evenN t b n k ++ [part t b k ((n : Int) - 1)] := by simp [evenN, List.range_succ]
theorem evenN_len (t b : List Int) (n k : Nat) : (evenN t b n k).length = k := by simp [evenN]
theorem part_len {t b : List Int} {i d : Int} (h : b.length = t.length) : (part t b i d).length = t.length := by simp [part, h]
def BelowP (t b : List Int) : Prop := ∀ i, i < t.length → at0 t i ≤ at0 b i
instance (t b : List Int) : Decidable (BelowP t b) := by unfold BelowP; infer_instance
def belowB (t b : List Int) : Bool := decide (BelowP t b)
def curB (s : Sh) (t b : List Int) : Bool := lineB s t && (lineB s b && belowB t b)
def curE (s : Sh) (t b : List Int) : Int := if okS s = true then (if curB s t b = true then 0 else 2) else 70
def btE (s : Sh) (t b : List Int) (n : Int) : Int := if curE s t b = 0 then (if ws n 2 12 = true then (if bandB s (even t b n.toNat) = true then 0 else 71) else 2) else curE s t b
def btL (s : Sh) (t b : List Int) (n : Int) : List (List Int) := if btE s t b n = 0 then even t b n.toNat else []
/-- The greatest number of lines, up to n. -/
def mostN (s : Sh) (t b : List Int) : Nat → Nat
  | 0 => 0
  | n + 1 => if 2 ≤ n + 1 ∧ bandB s (even t b (n + 1)) = true then n + 1 else mostN s t b n
def moE (s : Sh) (t b : List Int) : Int := if curE s t b = 0 then (if mostN s t b 12 = 0 then 71 else 0) else curE s t b
def moN (s : Sh) (t b : List Int) : Int := if curE s t b = 0 then (mostN s t b 12 : Nat) else 0
theorem mostN_two (s : Sh) (t b : List Int) : mostN s t b 1 = 0 := by simp [mostN]
/-! ### ink -/
def dotB (s : Sh) (b : List (List Int)) (row : Int) (c : Nat) : Bool := b.any fun l => ws (row - at0 l c) 0 (s.w - 1)
def inkR (s : Sh) (b : List (List Int)) (row : Int) : List Bool := (List.range s.c.toNat).map (dotB s b row)
def inkN (s : Sh) (b : List (List Int)) (n : Nat) : List Bool := (List.range n).flatMap fun r => inkR s b (r : Nat)
theorem inkN_succ (s : Sh) (b : List (List Int)) (n : Nat) : inkN s b (n + 1) = inkN s b n ++ inkR s b (n : Nat) := by simp [inkN, List.range_succ]
theorem inkR_len (s : Sh) (b : List (List Int)) (row : Int) : (inkR s b row).length = s.c.toNat := by simp [inkR]
theorem inkN_len (s : Sh) (b : List (List Int)) : ∀ n, (inkN s b n).length = n * s.c.toNat
  | 0 => by simp [inkN]
  | n + 1 => by rw [inkN_succ, List.length_append, inkN_len s b n, inkR_len, Nat.add_mul, Nat.one_mul]
def inkL (s : Sh) (b : List (List Int)) : List Bool := if chkB s b = 0 then inkN s b s.r.toNat else []
/-! ### screens -/
def okN (c : Sn) : Bool := ws c.p 2 16 && ws c.f 0 (c.p - 1)
theorem okN_good {c : Sn} (h : okN c = true) : (2 ≤ c.p ∧ c.p ≤ 16) ∧ 0 ≤ c.f ∧ c.f ≤ c.p - 1 := by
  simp only [okN, Bool.and_eq_true] at h
  exact ⟨ws_t h.1, ws_t h.2⟩
/-- The lines of a screen, from line i on, at most n. -/
def cnt (s : Sh) (c : Sn) : Nat → Nat → Nat
  | 0, _ => 0
  | n + 1, i => if c.f + ((i : Int) + 1) * c.p ≤ s.r then cnt s c n (i + 1) + 1 else 0
def lns (s : Sh) (c : Sn) : Nat := cnt s c 12 0
theorem cnt_le (s : Sh) (c : Sn) : ∀ n i, cnt s c n i ≤ n
  | 0, _ => Nat.le_refl _
  | n + 1, i => by
    unfold cnt
    split
    · have := cnt_le s c n (i + 1); omega
    · exact Nat.zero_le _
theorem cnt_in {s : Sh} {c : Sn} : ∀ {n i j : Nat}, j < cnt s c n i → c.f + (((i + j : Nat) : Int) + 1) * c.p ≤ s.r
  | 0, _, _, h => absurd h (Nat.not_lt_zero _)
  | n + 1, i, j, h => by
    unfold cnt at h
    split at h
    · rename_i h1
      cases j with
      | zero => simpa using h1
      | succ j =>
        have := cnt_in (s := s) (c := c) (n := n) (i := i + 1) (j := j) (by omega)
        rw [show i + 1 + j = i + (j + 1) by omega] at this
        exact this
    · omega
theorem cnt_out {s : Sh} {c : Sn} : ∀ {n i : Nat}, cnt s c n i < n → s.r < c.f + (((i + cnt s c n i : Nat) : Int) + 1) * c.p
  | 0, _, h => absurd h (Nat.not_lt_zero _)
  | n + 1, i, h => by
    unfold cnt at h ⊢
    split at h
    · rename_i h1
      rw [if_pos h1]
      have := cnt_out (s := s) (c := c) (n := n) (i := i + 1) (by omega)
      rw [show i + (cnt s c n (i + 1) + 1) = i + 1 + cnt s c n (i + 1) by omega]
      exact this
    · rename_i h1
      rw [if_neg h1]
      simpa using h1
theorem lns_le (s : Sh) (c : Sn) : lns s c ≤ 12 := cnt_le s c 12 0
theorem lns_in {s : Sh} {c : Sn} {j : Nat} (h : j < lns s c) : c.f + ((j : Int) + 1) * c.p ≤ s.r := by have := cnt_in (s := s) (c := c) (n := 12) (i := 0) (j := j) h; rwa [Nat.zero_add] at this
theorem lns_out {s : Sh} {c : Sn} (h : lns s c < 12) : s.r < c.f + ((lns s c : Int) + 1) * c.p := by have := cnt_out (s := s) (c := c) (n := 12) (i := 0) h; rwa [Nat.zero_add] at this
def room (s : Sh) (c : Sn) : Int := c.p - s.w - s.k
def roE (s : Sh) (c : Sn) : Int := if okS s = true then (if okN c = true then (if room s c < 0 then 71 else 0) else 2) else 70
def rowAt (c : Sn) (i : Nat) : Int := c.f + (i : Int) * c.p
/-! ### what is seen -/
def seeN (s : Sh) (b : List (List Int)) (c : Sn) (by_ : Int) (n : Nat) : List (List Bool) := (List.range n).map fun i => inkR s b (rowAt c i + by_)
theorem seeN_succ (s : Sh) (b : List (List Int)) (c : Sn) (by_ : Int) (n : Nat) : seeN s b c by_ (n + 1) = seeN s b c by_ n ++ [inkR s b (rowAt c n + by_)] := by simp [seeN, List.range_succ]
def seE (s : Sh) (b : List (List Int)) (c : Sn) (by_ : Int) : Int := if chkB s b = 0 then (if okN c = true then (if ws by_ 0 (c.p - 1) = true then 0 else 2) else 2) else chkB s b
def seL (s : Sh) (b : List (List Int)) (c : Sn) (by_ : Int) : List (List Bool) := if seE s b c by_ = 0 then seeN s b c by_ (lns s c) else []
end Go.R07
