import Derived.Test.YtnpdfcfjefbjgaaPro04
set_option linter.unusedSectionVars false
set_option linter.unusedSimpArgs false
set_option linter.unusedVariables false
/-! Layer 4: the program's families. -/
namespace Go.R04
open Go Go.Abs Go.RowKit Go.Proofs Go.R03
set_option maxRecDepth 20000
set_option maxHeartbeats 4000000
attribute [local irreducible] AWp AOps ADr AAny thenQ blockQ retQ asgQ rndQ
set_option linter.unusedVariables false
set_option linter.unusedSectionVars false
theorem szA : (Try.prog.info? 99).map (·.size) = some 13 := by kernel_rfl
theorem q_FF {W : World} {o : Oper} {fr : Fr} {m : Mem} {i B : Nat} {x : Operand} (ho : o.op = .fieldAddr 101 x i) (hx : evalF fr x = .pointer (some ⟨B, 0, Option.none⟩)) (hi : i < 5) : QOp Try.prog W o fr m (.pointer (some ⟨B, i, Option.none⟩)) := by
  match i, hi with
  | 0, _ => have := q_fieldAddrK (P := Try.prog) (W := W) (m := m) (k := 0) ho hx Try.underlying101 rfl szS rfl; simpa using this
  | 1, _ => have := q_fieldAddrK (P := Try.prog) (W := W) (m := m) (k := 0) ho hx Try.underlying101 rfl szI rfl; simpa using this
  | 2, _ => have := q_fieldAddrK (P := Try.prog) (W := W) (m := m) (k := 0) ho hx Try.underlying101 rfl szI rfl; simpa using this
  | 3, _ => have := q_fieldAddrK (P := Try.prog) (W := W) (m := m) (k := 0) ho hx Try.underlying101 rfl szI rfl; simpa using this
  | 4, _ => have := q_fieldAddrK (P := Try.prog) (W := W) (m := m) (k := 12) ho hx Try.underlying101 rfl szA rfl; simpa using this
/-- The array of sums, as far as it is filled. -/
def sumsK (s : List Int) (k : Nat) : List Int := (List.range 13).map fun i => if i ≤ k then pre s i else 0
abbrev fcs (vl : Value) (per th sh : Int) (sums : List Int) : List Value := vl :: .int .i64 per :: .int .i64 th :: .int .i64 sh :: i64s sums
theorem sumsK_at (s : List Int) {k i : Nat} (hi : i ≤ k) (h : i < 13) : (sumsK s k)[i]? = some (pre s i) := by simp [sumsK, h, hi]
theorem sumsK_set (s : List Int) {k : Nat} (h : k + 1 < 13) : (sumsK s k).set (k + 1) (pre s (k + 1)) = sumsK s (k + 1) := by
  apply List.ext_getElem
  · simp [sumsK]
  · intro i h1 h2
    have hi : i < 13 := by simpa [sumsK] using h2
    rw [List.getElem_set]
    simp only [sumsK, List.getElem_map, List.getElem_range]
    by_cases e : k + 1 = i
    · subst e; simp
    · rw [if_neg e]
      by_cases g : i ≤ k
      · rw [if_pos g, if_pos (by omega)]
      · rw [if_neg g, if_neg (by omega)]
theorem fcs_at {vl : Value} {per th sh : Int} {s : List Int} {k i : Nat} (hi : i ≤ k) (h : i < 13) : (fcs vl per th sh (sumsK s k))[4 + (i : Int).toNat]? = some (.int .i64 (pre s i)) := by
  have := sumsK_at s hi h
  rw [show 4 + (i : Int).toNat = i + 1 + 1 + 1 + 1 by omega]
  simp [fcs, this]
theorem fcs_set {vl : Value} {per th sh : Int} {s : List Int} {k : Nat} (h : k + 1 < 13) {x : Int} (hx : x = pre s (k + 1)) : (fcs vl per th sh (sumsK s k)).set (4 + ((k : Int) + 1).toNat) (.int .i64 x) = fcs vl per th sh (sumsK s (k + 1)) := by
  subst hx
  rw [show 4 + ((k : Int) + 1).toNat = (k + 1) + 1 + 1 + 1 + 1 by omega, ← sumsK_set s h]
  simp only [fcs, List.set_cons_succ, i64s, List.map_set]
theorem fcs_len {vl : Value} {per th sh : Int} {s : List Int} {k : Nat} : (fcs vl per th sh (sumsK s k)).length = 17 := by simp [fcs, sumsK]
/-- What a family is, behind its pointer. -/
def FAM (W : World) (m : Mem) (v : Value) (L S : List Int) (per : Nat) (th : Int) : Prop := ∃ (B : Nat) (vl : Value), v = .pointer (some ⟨B, 0, Option.none⟩) ∧ (∀ j u, (fcs vl per th S.length (sumsK S S.length))[j]? = some u → cellAt W m ⟨B, j, Option.none⟩ u) ∧ SL W m 1 vl L.length (i64s L)
theorem FAM.world {W : World} {m : Mem} {v : Value} {L S : List Int} {per : Nat} {th : Int} {w : World} (h : FAM W m v L S per th) (hw : Conc W m w) : FAM w Mem.none v L S per th := by
  obtain ⟨B, vl, e, h1, h2⟩ := h
  exact ⟨B, vl, e, cells_world h1 hw, h2.world hw⟩
theorem FAM.le {W : World} {m m' : Mem} {v : Value} {L S : List Int} {per : Nat} {th : Int} (h : FAM W m v L S per th) (hl : Le m m') : FAM W m' v L S per th := by
  obtain ⟨B, vl, e, h1, h2⟩ := h
  exact ⟨B, vl, e, fun j u hu => (h1 j u hu).le hl, h2.le hl⟩
theorem FAM.at {W : World} {m : Mem} {v : Value} {L S : List Int} {per : Nat} {th : Int} {w : World} (h : FAM W Mem.none v L S per th) (hw : Conc W m w) : FAM w Mem.none v L S per th := (h.le (Le.none m)).world hw
/-- What holds of each family. -/
structure OKF (L S : List Int) (per : Nat) (th : Int) : Prop where
  n : 3 ≤ L.length ∧ L.length ≤ 96
  hts : hts L = true
  per : IsPer L per
  th : 1 ≤ th ∧ th ≤ 16
  len : 1 ≤ S.length ∧ S.length ≤ 12
  all : ∀ x ∈ S, 0 ≤ x ∧ x ≤ (L.length : Int) - 1
theorem OKP.fam {R B S : List Int} {st th ad : Int} (h : OKP R B S st th ad) {per : Nat} (hp : IsPer (lifted R B) per) : OKF (lifted R B) S per th := by
  have hl := lifted_length R B
  obtain ⟨h1, h2, h3, h4, h5, h6, h7, h8⟩ := ask_ok h.ask
  exact ⟨by omega, lifted_hts h3 h7, hp, h.th, h.len, by rw [hl]; exact h.all⟩
theorem OKF.at {L S : List Int} {per : Nat} {th : Int} (h : OKF L S per th) {k : Nat} (hk : k < S.length) : 0 ≤ S.getD k 0 ∧ S.getD k 0 ≤ (L.length : Int) - 1 := h.all (S.getD k 0) (by simp [hk])
theorem OKF.pre {L S : List Int} {per : Nat} {th : Int} (h : OKF L S per th) : ∀ k : Nat, k ≤ S.length → 0 ≤ pre S k ∧ pre S k ≤ 95 * k
  | 0, _ => by simp [Go.R04.pre]
  | k + 1, hk => by
    have h1 := OKF.pre h k (by omega)
    have h2 := h.at (k := k) (by omega)
    have h3 := h.n
    rw [pre_succ S (by omega)]
    omega
theorem fill_fam {a : Option Addr} {n c : Nat} {per th sh : Int} : Instr.fill ((#[(0, 1), (1, 1), (2, 1), (3, 1), (4, 13)] : Array (Nat × Nat))[·]?) (Value.agg #[.slice Option.none 0 0, .int .i64 0, .int .i64 0, .int .i64 0, .int .i64 0, .int .i64 0, .int .i64 0, .int .i64 0, .int .i64 0, .int .i64 0, .int .i64 0, .int .i64 0, .int .i64 0, .int .i64 0, .int .i64 0, .int .i64 0, .int .i64 0]).cells
    [(0, .slice a n c), (1, .int .i64 per), (2, .int .i64 th), (3, .int .i64 sh)] = some (fcs (.slice a n c) per th sh (sumsK [] 0)).toArray := rfl
theorem tF : ∃ i, Try.prog.info? 101 = some i ∧ i.zero = some (.agg #[.slice Option.none 0 0, .int .i64 0, .int .i64 0, .int .i64 0, .int .i64 0, .int .i64 0, .int .i64 0, .int .i64 0, .int .i64 0, .int .i64 0, .int .i64 0, .int .i64 0, .int .i64 0, .int .i64 0, .int .i64 0, .int .i64 0, .int .i64 0]) ∧ i.size = 17 ∧ i.bytes = 152 := info4 (by kernel_rfl)
/-- What familyOf gives. -/
def FAMOF (R B S : List Int) (st th ad : Int) (v : Value) (m : Mem) : Prop := (chkP R B S st th ad ≠ 0 ∧ v = .tuple #[.pointer Option.none, .int .i64 (chkP R B S st th ad)]) ∨
  (OKP R B S st th ad ∧ ∃ (B1 : Nat) (vl : Value) (per : Nat), IsPer (lifted R B) per ∧ v = .tuple #[.pointer (some ⟨B1, 0, Option.none⟩), .int .i64 0] ∧ HP m [.vs 101 B1 (fcs vl per th S.length (sumsK S S.length)), .sl vl 3 1 (lifted R B).length (i64s (lifted R B))])
end Go.R04
