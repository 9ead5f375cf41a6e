import Derived.Test.YtoeijgdkoeofpaaAbsTurn
set_option linter.unusedSectionVars false
set_option linter.unusedSimpArgs false
set_option linter.unusedVariables false
/-! Abs: arguments that are structs, slices of structs, and slices within them. -/
namespace Go.Abs
open Go Go.RowKit
section lists
end lists
section opened
open Go.ChangeShapes Go.WideShapes Go.ChangeAt Go.Joins Go.Deep Go.WideElems
variable {H : Type} {enc : TypeId × Value → H} {P : Program} {w : World} {base : Nat} {spare : Nat → Bool} {held : Bool}
/-- A struct that came in, part by part. -/
theorem open_fields {t : TypeId} {fs : Array Field} {n : Nat} {cs : List Value} {y : DataW H × List MemPlace} (hs : P.underlying t = some (.struct fs)) (h : DataW.trod enc P w base spare held n t cs = some y) :
    cs.length = P.cellsOf t ∧ ∀ (i : Nat) (f : Field) (o k : Nat), fs[i]? = some f → f.offset = o → P.cellsOf f.type = k → ∃ m z, DataW.trod enc P w base spare held m f.type ((cs.drop o).take k) = some z := by
  obtain ⟨xs, m, _, _, hl, hlen, hf⟩ := DataW.trod_struct hs h
  refine ⟨hl, fun i f o k hi ho hk => ?_⟩
  subst ho hk
  have hx := hf i f hi
  have hi' : i < xs.length := by
    rw [hlen]
    have := (Array.getElem?_eq_some_iff.1 hi).1
    simpa using this
  rw [List.getElem?_eq_getElem hi'] at hx
  exact ⟨m, _, hx⟩
theorem open_agg {r : Reach} {b0 : Nat} {t : TypeId} {fs : Array Field} {v : Value} {d : DataW H} {p : List MemPlace} (hs : P.underlying t = some (.struct fs)) (hv : Value.okWide P w r b0 t v) (h : DataW.Trod enc P w base spare held t v d p) :
    ∃ (cs : List Value) (n : Nat), v = .agg cs.toArray ∧ DataW.trod enc P w base spare held n t cs = some (d, p) := by
  obtain ⟨cs, rfl, hsz⟩ := okWide_struct hs hv
  obtain ⟨fuel, hf⟩ := h
  exact ⟨cs.toList, fuel, by simp, by simpa [Value.cells] using hf⟩
/-- A struct of two ints. -/
theorem open_pair {t e : TypeId} {f0 f1 : Field} {n : Nat} {cs : List Value} {y : DataW H × List MemPlace} (hs : P.underlying t = some (.struct #[f0, f1])) (h0 : f0.offset = 0 ∧ f0.type = e) (h1 : f1.offset = 1 ∧ f1.type = e) (he : P.underlying e = some (.int .i64)) (hc : P.cellsOf e = 1) (hl : P.cellsOf t = 2)
    (h : DataW.trod enc P w base spare held n t cs = some y) : ∃ a b : Int, cs = [.int .i64 a, .int .i64 b] ∧ (Lit.int .i64 a).wf = true ∧ (Lit.int .i64 b).wf = true := by
  obtain ⟨hlen, hf⟩ := open_fields hs h
  rw [hl] at hlen
  match cs, hlen with
  | [x, y], _ =>
    obtain ⟨m, z, g⟩ := hf 0 f0 0 1 rfl h0.1 (by rw [h0.2]; exact hc)
    obtain ⟨m', z', g'⟩ := hf 1 f1 1 1 rfl h1.1 (by rw [h1.2]; exact hc)
    rw [h0.2] at g
    rw [h1.2] at g'
    obtain ⟨a, rfl, wa⟩ := open_cellInt he (by simpa using g)
    obtain ⟨b, rfl, wb⟩ := open_cellInt he (by simpa using g')
    exact ⟨a, b, rfl, wa, wb⟩
/-- The cells of structs of two ints. -/
def spC (l : List (Int × Int)) : List Value := l.flatMap fun p => [.int .i64 p.1, .int .i64 p.2]
theorem spC_len : ∀ l : List (Int × Int), (spC l).length = l.length * 2
  | [] => rfl
  | p :: l => by have := spC_len l; simp only [spC, List.flatMap_cons, List.length_append, List.length_cons, List.length_nil] at *; omega
theorem spC_cons (p : Int × Int) (l : List (Int × Int)) : spC (p :: l) = .int .i64 p.1 :: .int .i64 p.2 :: spC l := by simp [spC]
theorem spC_append (l r : List (Int × Int)) : spC (l ++ r) = spC l ++ spC r := by simp [spC]
theorem spC_at : ∀ {l : List (Int × Int)} {i : Nat}, i < l.length → (spC l)[i * 2]? = some (.int .i64 (l.getD i (0, 0)).1) ∧ (spC l)[i * 2 + 1]? = some (.int .i64 (l.getD i (0, 0)).2)
  | p :: l, 0, _ => by rw [spC_cons]; exact ⟨rfl, rfl⟩
  | p :: l, i + 1, h => by
    have ih := spC_at (l := l) (i := i) (by simpa using h)
    rw [spC_cons, show (i + 1) * 2 = i * 2 + 1 + 1 by omega, show i * 2 + 1 + 1 + 1 = i * 2 + 1 + 1 + 1 from rfl]
    simpa using ih
end opened
end Go.Abs
namespace Go.Abs
open Go Go.RowKit
section two
variable {P : Program} {W : World} {C : Cls W} {o : Oper} {fr : Fr} {m : Mem} {I T : TypeId}
/-- A struct of two ints. -/
structure Two (P : Program) (T I : TypeId) : Prop where
  str : ∃ f0 f1 : Field, P.underlying T = some (.struct #[f0, f1]) ∧ f0.offset = 0 ∧ f0.type = I ∧ f1.offset = 1 ∧ f1.type = I
  info : ∃ i, P.info? T = some i ∧ i.zero = some (.agg #[.int .i64 0, .int .i64 0]) ∧ i.size = 2
  int : P.underlying I = some (.int .i64)
  sz : (P.info? I).map (·.size) = some 1
theorem Two.size (t : Two P T I) : (P.info? T).map (·.size) = some 2 := by obtain ⟨i, h, _, h2⟩ := t.info; rw [h]; simp [h2]
theorem q_F2 (t : Two P T I) {x : Operand} {i B j : Nat} (ho : o.op = .fieldAddr T x i) (hx : evalF fr x = .pointer (some ⟨B, j, Option.none⟩)) (hi : i < 2) : QOp P W o fr m (.pointer (some ⟨B, j + i, Option.none⟩)) := by
  obtain ⟨f0, f1, hs, a0, b0, a1, b1⟩ := t.str
  match i, hi with
  | 0, _ => exact q_fieldAddrK (f := f0) (k := 0) ho hx hs rfl (by rw [b0]; exact t.sz) a0
  | 1, _ => exact q_fieldAddrK (f := f1) (k := 0) ho hx hs rfl (by rw [b1]; exact t.sz) a1
theorem two_places (t : Two P T I) : ∃ (fs : Array Field) (i : TypeInfo), P.underlying T = some (.struct fs) ∧ P.info? T = some i ∧ i.zero = some (.agg #[.int .i64 0, .int .i64 0]) ∧ fs.toList.map (fun f => (P.info? f.type).map fun j => (f.offset, j.size)) = (#[(0, 1), (1, 1)] : Array (Nat × Nat)).toList.map some := by
  obtain ⟨f0, f1, hs, a0, b0, a1, b1⟩ := t.str
  obtain ⟨i, hi, hz, _⟩ := t.info
  refine ⟨_, i, hs, hi, hz, ?_⟩
  have h := t.sz
  cases hI : P.info? I with
  | none => rw [hI] at h; cases h
  | some inf => rw [hI] at h; simp at h; simp [a0, b0, a1, b1, hI, h]
theorem q_B2 (t : Two P T I) {x y : Operand} {a b : Int} (ho : o.op = .build T #[(0, x), (1, y)]) (hx : evalF fr x = .int .i64 a) (hy : evalF fr y = .int .i64 b) : QOp P W o fr m (.agg #[.int .i64 a, .int .i64 b]) := by
  obtain ⟨fs, i, hs, hi, hz, hp⟩ := two_places t
  refine q_build (d := .bool) hs hi hz hp ho ?_
  simp only [List.map_cons, List.map_nil, hx, hy]
  rfl
theorem q_B0 (t : Two P T I) (ho : o.op = .build T #[]) : QOp P W o fr m (.agg #[.int .i64 0, .int .i64 0]) := by
  obtain ⟨fs, i, hs, hi, hz, hp⟩ := two_places t
  exact q_build (d := .bool) hs hi hz hp ho rfl
/-- One of them is written out; the other one is 0. -/
theorem q_B10 (t : Two P T I) {x : Operand} {a : Int} (ho : o.op = .build T #[(0, x)]) (hx : evalF fr x = .int .i64 a) : QOp P W o fr m (.agg #[.int .i64 a, .int .i64 0]) := by
  obtain ⟨fs, i, hs, hi, hz, hp⟩ := two_places t
  refine q_build (d := .bool) hs hi hz hp ho ?_
  simp only [List.map_cons, List.map_nil, hx]
  rfl
theorem Two.notFlat (t : Two P T I) : ∃ d, P.underlying T = some d ∧ flat d = false := by obtain ⟨f0, f1, hs, _⟩ := t.str; exact ⟨_, hs, rfl⟩
/-- Two cells that follow each other, as such a struct: of a variable of the call's own. -/
theorem q_L2 (t : Two P T I) {T' : TypeId} {x : Operand} {l : List Ent} (k : Nat) {B j : Nat} {cs : List Value} {a b : Value} (H : HP m l) (ho : o.op = .load T x) (hx : evalF fr x = .pointer (some ⟨B, j, Option.none⟩)) (hi : l[k]? = some (.vs T' B cs)) (ha : cs[j]? = some a) (hb : cs[j + 1]? = some b) :
    QOp P W o fr m (.agg #[a, b]) := by
  obtain ⟨d, hd, hf⟩ := t.notFlat
  obtain ⟨i, hi', _, hs⟩ := t.info
  refine q_loadAtS (cs := [a, b]) hd hf hi' hs ho hx rfl (fun l u hu => ?_)
  match l, hu with
  | 0, hu => cases hu; exact H.cellS k j hi ha
  | 1, hu => cases hu; exact H.cellS k (j + 1) hi hb
/-- An element of a slice of such structs. -/
theorem q_E2 (t : Two P T I) {x : Operand} {v : Value} {n : Nat} {l : List (Int × Int)} {j : Nat} (h : SL W m 2 v n (spC l)) (ho : o.op = .load T x) (hx : evalF fr x = ptrAt v (j * 2)) (hj : j < l.length) : QOp P W o fr m (.agg #[.int .i64 (l.getD j (0, 0)).1, .int .i64 (l.getD j (0, 0)).2]) := by
  obtain ⟨d, hd, hf⟩ := t.notFlat
  obtain ⟨i, hi', _, hs⟩ := t.info
  have hc := spC_at hj
  refine q_loadS (cs := [.int .i64 (l.getD j (0, 0)).1, .int .i64 (l.getD j (0, 0)).2]) hd hf hi' hs h ho hx rfl (by decide) (fun l u hu => ?_)
  match l, hu with
  | 0, hu => cases hu; exact hc.1
  | 1, hu => cases hu; exact hc.2
/-- The address of an element. -/
theorem q_X2 (t : Two P T I) {S : TypeId} (hS : P.underlying S = some (.slice T)) {x y : Operand} {k : IntKind} {v : Value} {n : Nat} {xs : List Value} {i : Nat} (h : SL W m 2 v n xs) (ho : o.op = .indexAddr S x y) (hx : evalF fr x = v) (hy : evalF fr y = .int k (i : Int)) (hn : i < n) : QOp P W o fr m (ptrAt v (i * 2)) := by
  obtain ⟨inf, hi', _, hs⟩ := t.info
  have := q_indexAddr (P := P) (W := W) (m := m) hS hi' hs h ho hx hy (by omega) (by omega)
  simpa using this
theorem h_A2 (t : Two P T I) {l : List Ent} {K : Value → Mem → Prop} (H : HP m l) (ho : o.op = .alloc T)
    (h : ∀ B m', HP m' (.vs T B [.int .i64 0, .int .i64 0] :: l) → Le m m' → K (.pointer (some ⟨B, 0, Option.none⟩)) m') : AOp P (gen W) o fr m K := by
  obtain ⟨i, hi, hz, _⟩ := t.info
  exact h_allocS hi hz H ho h
theorem h_S2 (t : Two P T I) {T' : TypeId} {x y : Operand} {l : List Ent} (k : Nat) {B : Nat} {cs : List Value} {a b : Int} {K : Value → Mem → Prop} (H : HP m l) (ho : o.op = .store T x y) (hx : evalF fr x = .pointer (some ⟨B, 0, Option.none⟩)) (hi : l[k]? = some (.vs T' B cs)) (hy : evalF fr y = .agg #[.int .i64 a, .int .i64 b])
    (hl : cs.length = 2) (h : ∀ m', HP m' (l.set k (.vs T' B [.int .i64 a, .int .i64 b])) → K undef m') : AOp P (gen W) o fr m K :=
  h_stA k H ho hx hi hy t.size rfl hl.symm h
/-- A result that is such a struct. -/
theorem res_two (t : Two P T I) {fn : Func} {u : Tmp} (h : fn.results = #[.cell u T]) (ht : u < fn.ntmps) :
    ResM P W fn (fun fr m v => ∃ (B : Nat) (a b : Value), fr u = .pointer (some ⟨B, 0, Option.none⟩) ∧ v = .agg #[a, b] ∧ ∀ j x, [a, b][j]? = some x → cellAt W m ⟨B, j, Option.none⟩ x) := fun fr D a w m v ha hc ⟨B, x, y, h1, h2, h3⟩ => by
  obtain ⟨d, hd, hf⟩ := t.notFlat
  obtain ⟨i, hi', _, hs⟩ := t.info
  exact resMS h ht hd hf hi' fr D a w m v ha hc ⟨B, [x, y], h1, h2, hs.symm, h3⟩
theorem res_two1 (t : Two P T I) {fn : Func} {u u2 : Tmp} (h : fn.results = #[.cell u T, .tmp u2]) (ht : u < fn.ntmps) (ht2 : u2 < fn.ntmps) :
    ResM P W fn (fun fr m v => ∃ (B : Nat) (a b : Value), fr u = .pointer (some ⟨B, 0, Option.none⟩) ∧ v = .tuple #[.agg #[a, b], fr u2] ∧ ∀ j x, [a, b][j]? = some x → cellAt W m ⟨B, j, Option.none⟩ x) := fun fr D a w m v ha hc ⟨B, x, y, h1, h2, h3⟩ => by
  obtain ⟨d, hd, hf⟩ := t.notFlat
  obtain ⟨i, hi', _, hs⟩ := t.info
  exact resMS1 h ht ht2 hd hf hi' fr D a w m v ha hc ⟨B, [x, y], h1, h2, hs.symm, h3⟩
end two
end Go.Abs
namespace Go.Abs
open Go Go.RowKit
section u64
variable {P : Program} {W : World} {C : Cls W} {o : Oper} {fr : Fr} {m : Mem}
end u64
end Go.Abs
