import Derived.Test.YtjepofehaphcnaaAbsTurn
set_option linter.unusedSectionVars false
set_option linter.unusedSimpArgs false
set_option linter.unusedVariables false
/-! Abs: arguments that are structs, slices of structs, and slices within them. -/
namespace Go.Abs
open Go Go.RowKit
section lists
end lists
section opened
open Go.ChangeShapes Go.WideShapes Go.ChangeAt Go.Joins Go.Deep Go.WideElems
variable {H : Type} {enc : TypeId × Value → H} {P : Program} {w : World} {base : Nat} {spare : Nat → Bool} {held : Bool}
end opened
end Go.Abs
namespace Go.Abs
open Go Go.RowKit
section two
variable {P : Program} {W : World} {C : Cls W} {o : Oper} {fr : Fr} {m : Mem} {I T : TypeId}
/-- A struct of two ints. -/
structure Two (P : Program) (T I : TypeId) : Prop where
  str : ∃ f0 f1 : Field, P.underlying T = some (.struct #[f0, f1]) ∧ f0.offset = 0 ∧ f0.type = I ∧ f1.offset = 1 ∧ f1.type = I
  info : ∃ i, P.info? T = some i ∧ i.zero = some (.agg #[.int .i64 0, .int .i64 0]) ∧ i.size = 2
  int : P.underlying I = some (.int .i64)
  sz : (P.info? I).map (·.size) = some 1
theorem Two.size (t : Two P T I) : (P.info? T).map (·.size) = some 2 := by obtain ⟨i, h, _, h2⟩ := t.info; rw [h]; simp [h2]
theorem q_F2 (t : Two P T I) {x : Operand} {i B j : Nat} (ho : o.op = .fieldAddr T x i) (hx : evalF fr x = .pointer (some ⟨B, j, Option.none⟩)) (hi : i < 2) : QOp P W o fr m (.pointer (some ⟨B, j + i, Option.none⟩)) := by
  obtain ⟨f0, f1, hs, a0, b0, a1, b1⟩ := t.str
  match i, hi with
  | 0, _ => exact q_fieldAddrK (f := f0) (k := 0) ho hx hs rfl (by rw [b0]; exact t.sz) a0
  | 1, _ => exact q_fieldAddrK (f := f1) (k := 0) ho hx hs rfl (by rw [b1]; exact t.sz) a1
theorem two_places (t : Two P T I) : ∃ (fs : Array Field) (i : TypeInfo), P.underlying T = some (.struct fs) ∧ P.info? T = some i ∧ i.zero = some (.agg #[.int .i64 0, .int .i64 0]) ∧ fs.toList.map (fun f => (P.info? f.type).map fun j => (f.offset, j.size)) = (#[(0, 1), (1, 1)] : Array (Nat × Nat)).toList.map some := by
  obtain ⟨f0, f1, hs, a0, b0, a1, b1⟩ := t.str
  obtain ⟨i, hi, hz, _⟩ := t.info
  refine ⟨_, i, hs, hi, hz, ?_⟩
  have h := t.sz
  cases hI : P.info? I with
  | none => rw [hI] at h; cases h
  | some inf => rw [hI] at h; simp at h; simp [a0, b0, a1, b1, hI, h]
theorem q_B2 (t : Two P T I) {x y : Operand} {a b : Int} (ho : o.op = .build T #[(0, x), (1, y)]) (hx : evalF fr x = .int .i64 a) (hy : evalF fr y = .int .i64 b) : QOp P W o fr m (.agg #[.int .i64 a, .int .i64 b]) := by
  obtain ⟨fs, i, hs, hi, hz, hp⟩ := two_places t
  refine q_build (d := .bool) hs hi hz hp ho ?_
  simp only [List.map_cons, List.map_nil, hx, hy]
  rfl
theorem Two.notFlat (t : Two P T I) : ∃ d, P.underlying T = some d ∧ flat d = false := by obtain ⟨f0, f1, hs, _⟩ := t.str; exact ⟨_, hs, rfl⟩
theorem h_A2 (t : Two P T I) {l : List Ent} {K : Value → Mem → Prop} (H : HP m l) (ho : o.op = .alloc T)
    (h : ∀ B m', HP m' (.vs T B [.int .i64 0, .int .i64 0] :: l) → Le m m' → K (.pointer (some ⟨B, 0, Option.none⟩)) m') : AOp P (gen W) o fr m K := by
  obtain ⟨i, hi, hz, _⟩ := t.info
  exact h_allocS hi hz H ho h
theorem h_S2 (t : Two P T I) {T' : TypeId} {x y : Operand} {l : List Ent} (k : Nat) {B : Nat} {cs : List Value} {a b : Int} {K : Value → Mem → Prop} (H : HP m l) (ho : o.op = .store T x y) (hx : evalF fr x = .pointer (some ⟨B, 0, Option.none⟩)) (hi : l[k]? = some (.vs T' B cs)) (hy : evalF fr y = .agg #[.int .i64 a, .int .i64 b])
    (hl : cs.length = 2) (h : ∀ m', HP m' (l.set k (.vs T' B [.int .i64 a, .int .i64 b])) → K undef m') : AOp P (gen W) o fr m K :=
  h_stA k H ho hx hi hy t.size rfl hl.symm h
/-- A result that is such a struct. -/
theorem res_two (t : Two P T I) {fn : Func} {u : Tmp} (h : fn.results = #[.cell u T]) (ht : u < fn.ntmps) :
    ResM P W fn (fun fr m v => ∃ (B : Nat) (a b : Value), fr u = .pointer (some ⟨B, 0, Option.none⟩) ∧ v = .agg #[a, b] ∧ ∀ j x, [a, b][j]? = some x → cellAt W m ⟨B, j, Option.none⟩ x) := fun fr D a w m v ha hc ⟨B, x, y, h1, h2, h3⟩ => by
  obtain ⟨d, hd, hf⟩ := t.notFlat
  obtain ⟨i, hi', _, hs⟩ := t.info
  exact resMS h ht hd hf hi' fr D a w m v ha hc ⟨B, [x, y], h1, h2, hs.symm, h3⟩
end two
end Go.Abs
namespace Go.Abs
open Go Go.RowKit
section u64
variable {P : Program} {W : World} {C : Cls W} {o : Oper} {fr : Fr} {m : Mem}
end u64
end Go.Abs
