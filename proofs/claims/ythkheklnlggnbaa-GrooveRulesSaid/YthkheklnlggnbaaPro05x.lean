import Derived.Test.YthkheklnlggnbaaPro05w
import Derived.Test.YthkheklnlggnbaaMat05w
set_option linter.unusedSectionVars false
set_option linter.unusedSimpArgs false
set_option linter.unusedVariables false
/-! Layer 5: the program's functions: benches; Walls and Deep. -/
namespace Go.R05
open Go Go.Abs Go.RowKit Go.Proofs
set_option maxRecDepth 20000
set_option maxHeartbeats 4000000
attribute [local irreducible] AWp AOps ADr AAny thenQ blockQ retQ asgQ rndQ retM
set_option linter.unusedVariables false
set_option linter.unusedSectionVars false
theorem fBenchOf : Fun Try.prog 70 := ⟨_, _, Try.func70, rfl, by kernel_rfl⟩
theorem fBreaks : Fun Try.prog 84 := ⟨_, _, Try.func84, rfl, by kernel_rfl⟩
theorem fWalls : Fun Try.prog 45 := ⟨_, _, Try.func45, rfl, by kernel_rfl⟩
theorem tPr : Two Try.prog 55 3 := ⟨⟨_, _, Try.underlying55, rfl, rfl, rfl, rfl⟩, by
  have h : ∃ i, Try.prog.info? 55 = some i ∧ i.zero = some (.agg #[.int .i64 0, .int .i64 0]) ∧ i.size = 2 ∧ i.bytes = 16 := info4 (by kernel_rfl)
  exact h.imp fun _ h => ⟨h.1, h.2.1, h.2.2.1⟩, Try.underlying3, szI⟩
theorem prInfo : ∃ i, Try.prog.info? 55 = some i ∧ i.zero = some (.agg #[.int .i64 0, .int .i64 0]) ∧ i.size = 2 ∧ i.bytes = 16 := info4 (by kernel_rfl)
theorem uLP : Try.prog.underlying 49 = some (.slice 55) := Try.underlying49
theorem uAR : Try.prog.underlying 113 = some (.array 16 3) := Try.underlying113
theorem szAR : (Try.prog.info? 113).map (·.size) = some 16 := by kernel_rfl
theorem q_BF {W : World} {o : Oper} {fr : Fr} {m : Mem} {i B : Nat} {x : Operand} (ho : o.op = .fieldAddr 116 x i) (hx : evalF fr x = .pointer (some ⟨B, 0, Option.none⟩)) (hi : i < 3) : QOp Try.prog W o fr m (.pointer (some ⟨B, [0, 13, 29].getD i 0, Option.none⟩)) := by
  match i, hi with
  | 0, _ => have := q_fieldAddrK (P := Try.prog) (W := W) (m := m) (k := 12) ho hx Try.underlying116 rfl szW rfl; simpa using this
  | 1, _ => have := q_fieldAddrK (P := Try.prog) (W := W) (m := m) (k := 15) ho hx Try.underlying116 rfl szAR rfl; simpa using this
  | 2, _ => have := q_fieldAddrK (P := Try.prog) (W := W) (m := m) (k := 15) ho hx Try.underlying116 rfl szAR rfl; simpa using this
/-- An element of an array behind a pointer. -/
theorem q_AX {W : World} {o : Oper} {fr : Fr} {m : Mem} {x y : Operand} {k : IntKind} {i : Int} {B j : Nat} (ho : o.op = .indexAddr 113 x y) (hx : evalF fr x = .pointer (some ⟨B, j, Option.none⟩)) (hy : evalF fr y = .int k i) (h0 : 0 ≤ i) (hn : i < 16) : QOp Try.prog W o fr m (.pointer (some ⟨B, j + i.toNat, Option.none⟩)) :=
  q_indexArr ho hx hy uAR szI h0 hn
/-- The cells of a bench. -/
def bcs (k : Wk) (vc : Value) (hs rs : List Int) : List Value := wcs k vc ++ (i64s hs ++ i64s rs)
theorem bcs_len {k : Wk} {vc : Value} {hs rs : List Int} (h : hs.length = 16) (g : rs.length = 16) : (bcs k vc hs rs).length = 45 := by simp [bcs, h, g]
theorem bcs_hi {k : Wk} {vc : Value} {hs rs : List Int} (h : hs.length = 16) {i : Nat} (hi : i < 16) : (bcs k vc hs rs)[13 + i]? = some (.int .i64 (hs.getD i 0)) := by
  unfold bcs
  rw [List.getElem?_append_right (by simp), List.getElem?_append_left (by simp; omega)]
  simp [h, hi]
theorem bcs_re {k : Wk} {vc : Value} {hs rs : List Int} (h : hs.length = 16) (g : rs.length = 16) {i : Nat} (hi : i < 16) : (bcs k vc hs rs)[29 + i]? = some (.int .i64 (rs.getD i 0)) := by
  unfold bcs
  rw [List.getElem?_append_right (by simp; omega), List.getElem?_append_right (by simp [h]; omega)]
  simp only [List.length_map, h]
  rw [show 29 + i - (wcs k vc).length - 16 = i by simp; omega]
  simp [g, hi]
theorem bcs_sethi {k : Wk} {vc : Value} {hs rs : List Int} (h : hs.length = 16) {i : Nat} (hi : i < 16) (x : Int) : (bcs k vc hs rs).set (13 + i) (.int .i64 x) = bcs k vc (hs.set i x) rs := by
  unfold bcs
  rw [List.set_append_right _ _ (by simp), List.set_append_left _ _ (by simp [h]; omega)]
  congr 1
  rw [show 13 + i - (wcs k vc).length = i by simp]
  show _ = (hs.set i x).map _ ++ _
  rw [List.map_set]
theorem bcs_setre {k : Wk} {vc : Value} {hs rs : List Int} (h : hs.length = 16) {i : Nat} (hi : i < 16) (x : Int) : (bcs k vc hs rs).set (29 + i) (.int .i64 x) = bcs k vc hs (rs.set i x) := by
  unfold bcs
  rw [List.set_append_right _ _ (by simp; omega), List.set_append_right _ _ (by simp [h]; omega)]
  congr 2
  rw [show 29 + i - (wcs k vc).length - (i64s hs).length = i by simp [h]; omega]
  show _ = (rs.set i x).map _
  rw [List.map_set]
/-- What a bench holds of its cuts. -/
def hiC (k : Wk) (c : Ct) : Int := hiD k.t c.press
def reC (k : Wk) (c : Ct) : Int := sideT k.t (hiD k.t c.press)
abbrev zK : Ct := ⟨[], 0, false⟩
def his (k : Wk) (cs : List Ct) : List Int := pf (fun j => hiC k (cs.getD j zK)) cs.length
def res (k : Wk) (cs : List Ct) : List Int := pf (fun j => reC k (cs.getD j zK)) cs.length
/-- A valid work. -/
structure GoodW (k : Wk) (cs : List Ct) : Prop where
  t : GoodT k.t
  n : cs.length ≤ 16
  wall : 1 ≤ k.wall ∧ k.wall ≤ 1000
  deepest : 0 ≤ k.deepest ∧ k.deepest ≤ 20000
  play : 0 ≤ k.play ∧ k.play ≤ 100
  fx : -1000 ≤ k.fx ∧ k.fx ≤ 1000
  fy : -1000 ≤ k.fy ∧ k.fy ≤ 1000
  fh : 0 ≤ k.fh ∧ k.fh ≤ 1000
  fd : 0 ≤ k.fd ∧ k.fd ≤ 20000
  cut : ∀ c ∈ cs, okLine c.spots = true ∧ 0 ≤ c.press ∧ c.press ≤ 1000
theorem okW_good {k : Wk} {cs : List Ct} (h : okW k cs = true) : GoodW k cs := by
  simp only [okW, okK, Bool.and_eq_true, decide_eq_true_eq, List.all_eq_true] at h
  obtain ⟨h1, h2, ⟨a, b, c, d, e, f, g⟩, h4⟩ := h
  refine ⟨okT_good h1, h2, ws_t a, ws_t b, ws_t c, ws_t d, ws_t e, ws_t f, ws_t g, fun x hx => ?_⟩
  have := h4 x hx
  simp only [okC, Bool.and_eq_true] at this
  exact ⟨this.1, ws_t this.2⟩
theorem hiD_bd {t : Tl} (h : GoodT t) {p : Int} (hp : 0 ≤ p ∧ p ≤ 1000) : 0 ≤ hiD t p ∧ hiD t p ≤ 11000 := by
  have h1 := press_bd h hp
  have h2 := h.slack
  unfold hiD; omega
theorem sideT_bd {t : Tl} (h : GoodT t) {d : Int} (hd : 0 ≤ d ∧ d ≤ 20000) : 0 ≤ sideT t d ∧ sideT t d ≤ 30000 := by
  have h1 := side_bd h hd
  have h2 := h.den
  have h3 := h.tip
  have h4 := h.num
  unfold sideT
  have e : (d * t.num + t.den - 1) / t.den ≤ d + 1 := by
    have : d * t.num ≤ d * t.den := Int.mul_le_mul_of_nonneg_left h4.2 hd.1
    have g : d * t.num + t.den - 1 < (d + 1) * t.den := by rw [Int.add_mul, Int.one_mul]; omega
    have := Int.ediv_lt_of_lt_mul (show 0 < t.den by omega) g
    omega
  have e0 : 0 ≤ (d * t.num + t.den - 1) / t.den := Int.ediv_nonneg (by omega) (by omega)
  omega
theorem fill_bench (k : Wk) (vc : Value) : Instr.fill ((#[(0, 13), (13, 16), (29, 16)] : Array (Nat × Nat))[·]?) (Value.agg #[.int .i64 0, .int .i64 0, .int .i64 0, .int .i64 0, .int .i64 0, .int .i64 0, .int .i64 0, .int .i64 0, .int .i64 0, .int .i64 0, .int .i64 0, .int .i64 0, .slice Option.none 0 0, .int .i64 0, .int .i64 0, .int .i64 0, .int .i64 0, .int .i64 0, .int .i64 0, .int .i64 0, .int .i64 0, .int .i64 0, .int .i64 0, .int .i64 0, .int .i64 0, .int .i64 0, .int .i64 0, .int .i64 0, .int .i64 0, .int .i64 0, .int .i64 0, .int .i64 0, .int .i64 0, .int .i64 0, .int .i64 0, .int .i64 0, .int .i64 0, .int .i64 0, .int .i64 0, .int .i64 0, .int .i64 0, .int .i64 0, .int .i64 0, .int .i64 0, .int .i64 0]).cells [(0, wv k vc)] = some (bcs k vc (List.replicate 16 0) (List.replicate 16 0)).toArray := by
  kernel_rfl
theorem q_bB {W : World} {o : Oper} {fr : Fr} {m : Mem} {x : Operand} {k : Wk} {vc : Value} (ho : o.op = .build 116 #[(0, x)]) (hx : evalF fr x = wv k vc) : QOp Try.prog W o fr m (.agg (bcs k vc (List.replicate 16 0) (List.replicate 16 0)).toArray) := by
  have h : ∃ i, Try.prog.info? 116 = some i ∧ i.zero = some (.agg #[.int .i64 0, .int .i64 0, .int .i64 0, .int .i64 0, .int .i64 0, .int .i64 0, .int .i64 0, .int .i64 0, .int .i64 0, .int .i64 0, .int .i64 0, .int .i64 0, .slice Option.none 0 0, .int .i64 0, .int .i64 0, .int .i64 0, .int .i64 0, .int .i64 0, .int .i64 0, .int .i64 0, .int .i64 0, .int .i64 0, .int .i64 0, .int .i64 0, .int .i64 0, .int .i64 0, .int .i64 0, .int .i64 0, .int .i64 0, .int .i64 0, .int .i64 0, .int .i64 0, .int .i64 0, .int .i64 0, .int .i64 0, .int .i64 0, .int .i64 0, .int .i64 0, .int .i64 0, .int .i64 0, .int .i64 0, .int .i64 0, .int .i64 0, .int .i64 0, .int .i64 0]) ∧ i.size = 45 ∧ i.bytes = 376 := info4 (by kernel_rfl)
  obtain ⟨i, hi, hz, _⟩ := h
  refine q_build (d := .bool) Try.underlying116 hi hz (places := #[(0, 13), (13, 16), (29, 16)]) (by kernel_rfl) ho ?_
  show Instr.fill _ _ [(0, evalF fr x)] = _
  rw [hx]
  clear hi hz
  exact fill_bench k vc
end Go.R05
