import Derived.Test.YtjepofehaphcnaaMat07d
set_option linter.unusedSectionVars false
set_option linter.unusedSimpArgs false
set_option linter.unusedVariables false
/-! Layer 7: pure mathematics: words and masks. -/
namespace Go.R07
set_option linter.unusedVariables false
abbrev atB (l : List Bool) (i : Nat) : Bool := l.getD i false
/-- A bit of a glyph. -/
def bitN (g r k : Nat) : Bool := decide (g / 2 ^ (14 - 3 * r - k) % 2 = 1)
theorem bit_row {g r k : Nat} (hr : r < 5) (hk : k < 3) : g / 2 ^ (3 * (4 - r)) % 8 / 2 ^ (2 - k) % 2 = g / 2 ^ (14 - 3 * r - k) % 2 := by
  match r, hr, k, hk with
  | 0, _, 0, _ => show g / 4096 % 8 / 4 % 2 = g / 16384 % 2; omega
  | 0, _, 1, _ => show g / 4096 % 8 / 2 % 2 = g / 8192 % 2; omega
  | 0, _, 2, _ => show g / 4096 % 8 / 1 % 2 = g / 4096 % 2; omega
  | 1, _, 0, _ => show g / 512 % 8 / 4 % 2 = g / 2048 % 2; omega
  | 1, _, 1, _ => show g / 512 % 8 / 2 % 2 = g / 1024 % 2; omega
  | 1, _, 2, _ => show g / 512 % 8 / 1 % 2 = g / 512 % 2; omega
  | 2, _, 0, _ => show g / 64 % 8 / 4 % 2 = g / 256 % 2; omega
  | 2, _, 1, _ => show g / 64 % 8 / 2 % 2 = g / 128 % 2; omega
  | 2, _, 2, _ => show g / 64 % 8 / 1 % 2 = g / 64 % 2; omega
  | 3, _, 0, _ => show g / 8 % 8 / 4 % 2 = g / 32 % 2; omega
  | 3, _, 1, _ => show g / 8 % 8 / 2 % 2 = g / 16 % 2; omega
  | 3, _, 2, _ => show g / 8 % 8 / 1 % 2 = g / 8 % 2; omega
  | 4, _, 0, _ => show g / 1 % 8 / 4 % 2 = g / 4 % 2; omega
  | 4, _, 1, _ => show g / 1 % 8 / 2 % 2 = g / 2 % 2; omega
  | 4, _, 2, _ => show g / 1 % 8 / 1 % 2 = g / 1 % 2; omega
/-- A dot of a mask. -/
def mskB (word : List Int) (z r col : Nat) : Bool := decide (r < 5) && (decide (col / z / 4 < word.length) && (decide (col / z % 4 < 3) && bitN (at0 word (col / z / 4)).toNat r (col / z % 4)))
def mskR (word : List Int) (z n r : Nat) : List Bool := (List.range n).map (mskB word z r)
def mskL (word : List Int) (z n k : Nat) : List (List Bool) := (List.range k).map (mskR word z n)
theorem mskL_len (word : List Int) (z n k : Nat) : (mskL word z n k).length = k := by simp [mskL]
theorem mskR_len (word : List Int) (z n r : Nat) : (mskR word z n r).length = n := by simp [mskR]
theorem rgB_at {f : Nat → Bool} {n k : Nat} (h : k < n) : atB ((List.range n).map f) k = f k := by
  rw [atB, List.getD_eq_getElem?_getD, List.getElem?_map, List.getElem?_range h]; rfl
theorem mskR_at {word : List Int} {z n r c : Nat} (h : c < n) : atB (mskR word z n r) c = mskB word z r c := rgB_at h
/-- When t cells are filled in. -/
def mskP (word : List Int) (z n t r : Nat) : List Bool := (List.range n).map fun c => decide (15 * (c / z / 4) + 3 * r + c / z % 4 < t) && mskB word z r c
def mskQ (word : List Int) (z n k t : Nat) : List (List Bool) := (List.range k).map (mskP word z n t)
theorem mskP_len (word : List Int) (z n t r : Nat) : (mskP word z n t r).length = n := by simp [mskP]
theorem mskQ_len (word : List Int) (z n k t : Nat) : (mskQ word z n k t).length = k := by simp [mskQ]
theorem mskP_at {word : List Int} {z n t r c : Nat} (h : c < n) : atB (mskP word z n t r) c = (decide (15 * (c / z / 4) + 3 * r + c / z % 4 < t) && mskB word z r c) := rgB_at h
/-- Places from 'lo' on, n of them, are set. -/
def fillL (b : Bool) (L : List Bool) (lo : Nat) : Nat → List Bool
  | 0 => L
  | n + 1 => (fillL b L lo n).set (lo + n) b
theorem fillL_len (b : Bool) (L : List Bool) (lo : Nat) : ∀ n, (fillL b L lo n).length = L.length
  | 0 => rfl
  | n + 1 => by rw [fillL, List.length_set, fillL_len b L lo n]
theorem fillL_at (b : Bool) (L : List Bool) (lo : Nat) : ∀ (n c : Nat), c < L.length → atB (fillL b L lo n) c = if lo ≤ c ∧ c < lo + n then b else atB L c
  | 0, c, h => by rw [if_neg (by omega)]; rfl
  | n + 1, c, h => by
    have ih := fillL_at b L lo n c h
    rw [fillL, atB, List.getD_eq_getElem?_getD, List.getElem?_set]
    by_cases e : lo + n = c
    · rw [if_pos e, if_pos (by rw [fillL_len]; omega), if_pos (by omega)]; rfl
    · rw [if_neg e]
      rw [atB, List.getD_eq_getElem?_getD] at ih
      rw [ih]
      by_cases h2 : lo ≤ c ∧ c < lo + n
      · rw [if_pos h2, if_pos (by omega)]
      · rw [if_neg h2, if_neg (by omega)]
theorem eqB {a b : List Bool} (hl : a.length = b.length) (h : ∀ i, i < a.length → atB a i = atB b i) : a = b := by
  refine List.ext_getElem hl fun i h1 h2 => ?_
  have := h i h1
  rw [atB, atB, List.getD_eq_getElem?_getD, List.getD_eq_getElem?_getD, List.getElem?_eq_getElem h1, List.getElem?_eq_getElem h2] at this
  exact this
theorem mskP_same {word : List Int} {z n g r k r' : Nat} (hr : r < 5) (hk : k < 3) (hne : r' ≠ r) : mskP word z n (15 * g + 3 * r + k + 1) r' = mskP word z n (15 * g + 3 * r + k) r' := by
  refine eqB (by rw [mskP_len, mskP_len]) fun c hc => ?_
  rw [mskP_len] at hc
  rw [mskP_at hc, mskP_at hc]
  unfold mskB
  by_cases h1 : r' < 5
  · by_cases h2 : c / z % 4 < 3
    · congr 1
      exact decide_eq_decide.2 (by omega)
    · rw [decide_eq_false h2]; simp
  · rw [decide_eq_false h1]; simp
theorem cell_iff {z c q : Nat} (hz : 1 ≤ z) : (z * q ≤ c ∧ c < z * q + z) ↔ c / z = q := by
  constructor
  · intro h
    have h1 : q ≤ c / z := (Nat.le_div_iff_mul_le (by omega)).2 (by rw [Nat.mul_comm]; exact h.1)
    have h2 : c / z < q + 1 := (Nat.div_lt_iff_lt_mul (by omega)).2 (by rw [Nat.add_mul, Nat.one_mul, Nat.mul_comm]; exact h.2)
    omega
  · intro h
    subst h
    have h1 := Nat.div_add_mod c z
    have h2 := Nat.mod_lt c (show z > 0 by omega)
    omega
theorem mskP_fill {word : List Int} {z n g r k : Nat} (hz : 1 ≤ z) (hg : g < word.length) (hr : r < 5) (hk : k < 3) : mskP word z n (15 * g + 3 * r + k + 1) r = fillL (bitN (at0 word g).toNat r k) (mskP word z n (15 * g + 3 * r + k) r) (z * (4 * g + k)) z := by
  refine eqB (by rw [fillL_len, mskP_len, mskP_len]) fun c hc => ?_
  rw [mskP_len] at hc
  rw [fillL_at _ _ _ _ _ (by rw [mskP_len]; exact hc), mskP_at hc, mskP_at hc]
  by_cases h : z * (4 * g + k) ≤ c ∧ c < z * (4 * g + k) + z
  · rw [if_pos h]
    have h1 := (cell_iff hz).1 h
    unfold mskB
    rw [h1, show (4 * g + k) / 4 = g by omega, show (4 * g + k) % 4 = k by omega, decide_eq_true hr, decide_eq_true hg, decide_eq_true hk, decide_eq_true (show 15 * g + 3 * r + k < 15 * g + 3 * r + k + 1 by omega)]
    rfl
  · rw [if_neg h]
    have h1 : c / z ≠ 4 * g + k := fun e => h ((cell_iff hz).2 e)
    unfold mskB
    by_cases h2 : c / z % 4 < 3
    · congr 1
      exact decide_eq_decide.2 (by omega)
    · rw [decide_eq_false h2]; simp
theorem mskP_zero (word : List Int) (z n r : Nat) : mskP word z n 0 r = List.replicate n false := by
  refine eqB (by rw [mskP_len, List.length_replicate]) fun c hc => ?_
  rw [mskP_len] at hc
  rw [mskP_at hc, decide_eq_false (by omega)]
  simp [atB, List.getD_eq_getElem?_getD, hc]
theorem mskP_end (word : List Int) (z n r : Nat) : mskP word z n (15 * word.length) r = mskR word z n r := by
  refine eqB (by rw [mskP_len, mskR_len]) fun c hc => ?_
  rw [mskP_len] at hc
  rw [mskP_at hc, mskR_at hc]
  unfold mskB
  by_cases h1 : r < 5
  · by_cases h2 : c / z / 4 < word.length
    · by_cases h3 : c / z % 4 < 3
      · rw [decide_eq_true (show 15 * (c / z / 4) + 3 * r + c / z % 4 < 15 * word.length by omega)]; simp
      · rw [decide_eq_false h3]; simp
    · rw [decide_eq_false h2]; simp
  · rw [decide_eq_false h1]; simp
theorem rgL_set {f h : Nat → List Bool} {k r : Nat} (hr : r < k) (hne : ∀ j, j ≠ r → h j = f j) : ((List.range k).map f).set r (h r) = (List.range k).map h := by
  refine List.ext_getElem (by simp) fun j h1 h2 => ?_
  simp only [List.getElem_set, List.getElem_map, List.getElem_range]
  by_cases e : r = j
  · subst e; simp
  · rw [if_neg e, hne j (fun q => e q.symm)]
theorem mskQ_step {word : List Int} {z n kk g r k : Nat} (hz : 1 ≤ z) (hg : g < word.length) (hr : r < 5) (hk : k < 3) (hkk : 5 ≤ kk) : (mskQ word z n kk (15 * g + 3 * r + k)).set r (fillL (bitN (at0 word g).toNat r k) (mskP word z n (15 * g + 3 * r + k) r) (z * (4 * g + k)) z) = mskQ word z n kk (15 * g + 3 * r + k + 1) := by
  rw [← mskP_fill hz hg hr hk]
  exact rgL_set (by omega) fun j hj => mskP_same hr hk hj
theorem mskQ_end (word : List Int) (z n k : Nat) : mskQ word z n k (15 * word.length) = mskL word z n k := by
  unfold mskQ mskL
  congr 1
  funext r
  exact mskP_end word z n r
theorem mskQ_zero (word : List Int) (z n k : Nat) : mskQ word z n k 0 = List.replicate k (List.replicate n false) := by
  refine List.eq_replicate_iff.2 ⟨by rw [mskQ_len], fun x hx => ?_⟩
  obtain ⟨r, _, rfl⟩ := List.mem_map.1 hx
  exact mskP_zero word z n r
def wid (z n : Int) : Int := z * (4 * n - 1)
def mkE (word : List Int) (z n k : Int) : Int := if word.length ≤ 8 then (if (alls word 0 32767 && ((ws z 1 40 && ws n 1 40) && ws k 1 12)) = true then (if 5 ≤ k ∧ wid z word.length ≤ n then 0 else 6) else 2) else 4
def mkM (word : List Int) (z n k : Int) : List (List Bool) := if mkE word z n k = 0 then mskL word z.toNat n.toNat k.toNat else []
/-! ### what a mask says -/
def cellL (row : List Bool) (z g k : Nat) : List Bool := (row.drop (z * (4 * g + k))).take z
def mostB (row : List Bool) (z g k : Nat) : Bool := decide (z < 2 * (cellL row z g k).count true)
def spV (mask : List (List Bool)) (z g : Nat) : Nat → Nat
  | 0 => 0
  | t + 1 => 2 * spV mask z g t + if mostB (mask.getD (t / 3) []) z g (t % 3) = true then 1 else 0
theorem spV_lt (mask : List (List Bool)) (z g : Nat) : ∀ t, spV mask z g t < 2 ^ t
  | 0 => Nat.one_pos
  | t + 1 => by
    have ih := spV_lt mask z g t
    rw [spV, Nat.pow_succ]
    split <;> omega
def spL (mask : List (List Bool)) (z n : Nat) : List Int := (List.range n).map fun g => (spV mask z g 15 : Int)
theorem spL_len (mask : List (List Bool)) (z n : Nat) : (spL mask z n).length = n := by simp [spL]
theorem spL_take (mask : List (List Bool)) (z n : Nat) {g : Nat} (h : g < n) : (spL mask z n).take (g + 1) = (spL mask z n).take g ++ [(spV mask z g 15 : Int)] := by
  rw [takeC 0 (by rw [spL_len]; exact h), show (spL mask z n).getD g 0 = (spV mask z g 15 : Int) from by
    unfold spL; rw [List.getD_eq_getElem?_getD, List.getElem?_map, List.getElem?_range h]; rfl]
def longB (z n : Int) (l : List Bool) : Bool := decide (wid z n ≤ (l.length : Int))
def spE (mask : List (List Bool)) (z n : Int) : Int := if (ws z 1 40 && ws n 0 8) = true then (if 5 ≤ mask.length ∧ (mask.take 5).all (longB z n) = true then 0 else 6) else 2
def spM (mask : List (List Bool)) (z n : Int) : List Int := if spE mask z n = 0 then spL mask z.toNat n.toNat else []
theorem count_take {l : List Bool} {n : Nat} (h : n < l.length) : (l.take (n + 1)).count true = (l.take n).count true + if atB l n = true then 1 else 0 := by
  rw [takeC false h, List.count_append]
  show _ + List.count true [atB l n] = _
  cases atB l n <;> rfl
end Go.R07
