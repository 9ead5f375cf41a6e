import Derived.Test.YtjepofehaphcnaaAbsTurn
set_option linter.unusedSectionVars false
set_option linter.unusedSimpArgs false
set_option linter.unusedVariables false
/-! Abs: arguments that are structs, slices of structs, and slices within them. -/
namespace Go.Abs
open Go Go.RowKit
section lists
theorem mapM_get {α β : Type} {f : α → Option β} : ∀ {L : List α} {l : List β}, L.mapM f = some l → l.length = L.length ∧ ∀ (i : Nat) (x : α), L[i]? = some x → f x = l[i]?
  | [], l, h => by simp at h; subst h; simp
  | a :: L, l, h => by
    simp only [List.mapM_cons, Option.pure_def, Option.bind_eq_bind, Option.bind_eq_some_iff] at h
    obtain ⟨b, hb, r, hr, he⟩ := h
    cases he
    obtain ⟨h1, h2⟩ := mapM_get hr
    refine ⟨by simp [h1], fun i x hx => ?_⟩
    cases i with
    | zero => simp at hx; subst hx; simpa using hb
    | succ i => simpa using h2 i x (by simpa using hx)
theorem rgf_len {α : Type} {f : Nat → List α} {s : Nat} : ∀ {n : Nat}, (∀ i, i < n → (f i).length = s) → ((List.range n).flatMap f).length = n * s
  | 0, _ => by simp
  | n + 1, h => by
    rw [List.range_succ, List.flatMap_append, List.length_append, rgf_len (fun i hi => h i (by omega))]
    simp [h n (by omega), Nat.add_mul]
theorem rgf_at {α : Type} {f : Nat → List α} {s : Nat} : ∀ {n : Nat}, (∀ i, i < n → (f i).length = s) → ∀ i, i < n → (((List.range n).flatMap f).drop (i * s)).take s = f i
  | 0, _, i, hi => absurd hi (Nat.not_lt_zero _)
  | n + 1, h, i, hi => by
    have hl := rgf_len (fun i hi => h i (by omega) : ∀ i, i < n → (f i).length = s)
    rw [List.range_succ, List.flatMap_append]
    by_cases hin : i < n
    · have hm : (i + 1) * s ≤ n * s := Nat.mul_le_mul_right _ (by omega)
      rw [Nat.add_mul, Nat.one_mul] at hm
      rw [List.drop_append_of_le_length (by rw [hl]; omega), List.take_append_of_le_length (by rw [List.length_drop, hl]; omega)]
      exact rgf_at (fun i hi => h i (by omega)) i hin
    · obtain rfl : i = n := by omega
      rw [← hl, List.drop_left, List.flatMap_singleton]
      exact List.take_of_length_le (by rw [h i (by omega)]; exact Nat.le_refl _)
theorem rgf_get {α : Type} {f : Nat → List α} {s n : Nat} (hs : 1 ≤ s) (h : ∀ i, i < n → (f i).length = s) {j : Nat} (hj : j < n * s) : ((List.range n).flatMap f)[j]? = (f (j / s))[j % s]? := by
  have hi : j / s < n := by rw [Nat.div_lt_iff_lt_mul (by omega)]; exact hj
  have h1 := rgf_at h (j / s) hi
  have hm := Nat.mod_lt j (show s > 0 by omega)
  have hd := Nat.div_add_mod j s
  rw [← h1, List.getElem?_take, if_pos hm, List.getElem?_drop]
  congr 1
  rw [Nat.mul_comm] at hd; omega
theorem chunks_eq {α : Type} {g : Nat → List α} {s : Nat} : ∀ {n : Nat} {xs : List α}, xs.length = n * s → (∀ i, i < n → (xs.drop (i * s)).take s = g i) → xs = (List.range n).flatMap g
  | 0, xs, h, _ => by simpa using h
  | n + 1, xs, h, hg => by
    rw [List.range_succ, List.flatMap_append, List.flatMap_singleton]
    rw [Nat.add_mul, Nat.one_mul] at h
    have h1 := chunks_eq (n := n) (s := s) (xs := xs.take (n * s)) (g := g) (by rw [List.length_take]; omega) (fun i hi => by
      rw [← hg i (by omega)]
      have hm : (i + 1) * s ≤ n * s := Nat.mul_le_mul_right _ (by omega)
      rw [Nat.add_mul, Nat.one_mul] at hm
      rw [List.drop_take, List.take_take]
      congr 1; omega)
    rw [← h1, ← hg n (by omega)]
    rw [List.take_of_length_le (l := xs.drop (n * s)) (by rw [List.length_drop]; omega), List.take_append_drop]
end lists
section opened
open Go.ChangeShapes Go.WideShapes Go.ChangeAt Go.Joins Go.Deep Go.WideElems
variable {H : Type} {enc : TypeId × Value → H} {P : Program} {w : World} {base : Nat} {spare : Nat → Bool} {held : Bool}
theorem cells_get {a : Addr} {n : Nat} {cs : List Value} (h : w.cells? base a n = some cs) : cs.length = n ∧ ∀ j, j < n → w.cell? (a.add j) = cs[j]? := by
  unfold World.cells? at h
  split at h
  · obtain ⟨h1, h2⟩ := mapM_get h
    exact ⟨by simpa using h1, fun j hj => h2 j j (by simp [hj])⟩
  · cases h
theorem addr_plus (B off i j : Nat) : ((⟨B, off, Option.none⟩ : Addr).add i).add j = ⟨B, off + (i + j), Option.none⟩ := by
  have h : ∀ o k : Nat, (⟨B, o, Option.none⟩ : Addr).add k = ⟨B, o + k, Option.none⟩ := fun o k => by unfold Addr.add; split <;> simp_all
  rw [h, h, Nat.add_assoc]
/-- A slice that came in: its cells, and what is told of each element. -/
theorem open_slice {t e : TypeId} {n s : Nat} {c : Value} {y : DataW H × List MemPlace} (ht : P.underlying t = some (.slice e)) (hc : P.cellsOf e = s) (hs : 1 ≤ s) (h : DataW.trod enc P w base spare held n t [c] = some y) :
    ∃ (len : Nat) (xs : List Value), SL w Mem.none s c len xs ∧ ∀ i, i < len → ∃ k z, DataW.trod enc P w base spare held k e ((xs.drop (i * s)).take s) = some z := by
  subst hc
  rcases DataW.trod_slice ht h with ⟨hc, _⟩ | ⟨a, len, cap, elems, rest, k, _, hc, _, hb, hl, hm, hlen, hel, _⟩
  · simp only [List.cons.injEq, and_true] at hc
    subst hc
    exact ⟨0, [], ⟨by simp, .inl ⟨rfl, _, _, rfl⟩⟩, fun i hi => absurd hi (Nat.not_lt_zero _)⟩
  simp only [List.cons.injEq, and_true] at hc
  subst hc
  have hE : ∀ i, i < len → ∃ ci z, w.cells? base (a.add (i * P.cellsOf e)) (P.cellsOf e) = some ci ∧ DataW.trod enc P w base spare held k e ci = some z := fun i hi => by
    have h1 := hel i hi
    rw [List.getElem?_eq_getElem (by omega), Option.bind_eq_some_iff] at h1
    obtain ⟨ci, h2, h3⟩ := h1
    exact ⟨ci, _, h2, h3⟩
  let f : Nat → List Value := fun i => (w.cells? base (a.add (i * P.cellsOf e)) (P.cellsOf e)).getD []
  have hf : ∀ i, i < len → w.cells? base (a.add (i * P.cellsOf e)) (P.cellsOf e) = some (f i) ∧ (f i).length = P.cellsOf e ∧ ∃ z, DataW.trod enc P w base spare held k e (f i) = some z := fun i hi => by
    obtain ⟨ci, z, h1, h2⟩ := hE i hi
    have e1 : f i = ci := by show (w.cells? base _ _).getD [] = ci; rw [h1]; rfl
    rw [e1]
    exact ⟨h1, (cells_get h1).1, z, h2⟩
  refine ⟨len, (List.range len).flatMap f, ⟨rgf_len (fun i hi => (hf i hi).2.1), ?_⟩, fun i hi => ?_⟩
  · by_cases h0 : len = 0
    · subst h0; exact .inl ⟨rfl, _, _, rfl⟩
    · right
      obtain ⟨B, off, spot⟩ := a
      have h1 := (hf 0 (by omega)).1
      rw [Nat.zero_mul] at h1
      have h2 := (cells_get h1).2 0 (by omega)
      have hfl := (hf 0 (by omega)).2.1
      rw [List.getElem?_eq_getElem (by omega)] at h2
      have hspot : spot = Option.none := by simpa [Addr.add] using World.cell?_spot h2
      subst hspot
      refine ⟨B, off, cap, rfl, hl, hm, fun j u hu => ?_⟩
      have hj : j < len * P.cellsOf e := by
        have := (List.getElem?_eq_some_iff.1 hu).1
        rw [rgf_len (fun i hi => (hf i hi).2.1)] at this
        exact this
      rw [rgf_get hs (fun i hi => (hf i hi).2.1) hj] at hu
      have hi : j / P.cellsOf e < len := by rw [Nat.div_lt_iff_lt_mul (by omega)]; exact hj
      have h3 := (cells_get (hf _ hi).1).2 (j % P.cellsOf e) (Nat.mod_lt _ (by omega))
      rw [hu, addr_plus] at h3
      have hd := Nat.div_add_mod j (P.cellsOf e)
      rw [Nat.mul_comm] at hd
      rw [hd] at h3
      exact ⟨rfl, .inl ⟨World.block_lt_of_cell? _ _ h3, h3⟩⟩
  · obtain ⟨_, _, z, hz⟩ := hf i hi
    rw [rgf_at (fun i hi => (hf i hi).2.1) i hi]
    exact ⟨k, z, hz⟩
/-- A struct that came in, part by part. -/
theorem open_fields {t : TypeId} {fs : Array Field} {n : Nat} {cs : List Value} {y : DataW H × List MemPlace} (hs : P.underlying t = some (.struct fs)) (h : DataW.trod enc P w base spare held n t cs = some y) :
    cs.length = P.cellsOf t ∧ ∀ (i : Nat) (f : Field) (o k : Nat), fs[i]? = some f → f.offset = o → P.cellsOf f.type = k → ∃ m z, DataW.trod enc P w base spare held m f.type ((cs.drop o).take k) = some z := by
  obtain ⟨xs, m, _, _, hl, hlen, hf⟩ := DataW.trod_struct hs h
  refine ⟨hl, fun i f o k hi ho hk => ?_⟩
  subst ho hk
  have hx := hf i f hi
  have hi' : i < xs.length := by
    rw [hlen]
    have := (Array.getElem?_eq_some_iff.1 hi).1
    simpa using this
  rw [List.getElem?_eq_getElem hi'] at hx
  exact ⟨m, _, hx⟩
theorem open_agg {r : Reach} {b0 : Nat} {t : TypeId} {fs : Array Field} {v : Value} {d : DataW H} {p : List MemPlace} (hs : P.underlying t = some (.struct fs)) (hv : Value.okWide P w r b0 t v) (h : DataW.Trod enc P w base spare held t v d p) :
    ∃ (cs : List Value) (n : Nat), v = .agg cs.toArray ∧ DataW.trod enc P w base spare held n t cs = some (d, p) := by
  obtain ⟨cs, rfl, hsz⟩ := okWide_struct hs hv
  obtain ⟨fuel, hf⟩ := h
  exact ⟨cs.toList, fuel, by simp, by simpa [Value.cells] using hf⟩
theorem open_cellBool {t : TypeId} {n : Nat} {c : Value} {y : DataW H × List MemPlace} (ht : P.underlying t = some .bool) (h : DataW.trod enc P w base spare held n t [c] = some y) : ∃ b : Bool, c = .bool b := by
  cases n with
  | zero => simp [DataW.trod] at h
  | succ n =>
    cases c <;> simp [DataW.trod, ht] at h
    exact ⟨_, rfl⟩
/-- A struct of two ints. -/
theorem open_pair {t e : TypeId} {f0 f1 : Field} {n : Nat} {cs : List Value} {y : DataW H × List MemPlace} (hs : P.underlying t = some (.struct #[f0, f1])) (h0 : f0.offset = 0 ∧ f0.type = e) (h1 : f1.offset = 1 ∧ f1.type = e) (he : P.underlying e = some (.int .i64)) (hc : P.cellsOf e = 1) (hl : P.cellsOf t = 2)
    (h : DataW.trod enc P w base spare held n t cs = some y) : ∃ a b : Int, cs = [.int .i64 a, .int .i64 b] ∧ (Lit.int .i64 a).wf = true ∧ (Lit.int .i64 b).wf = true := by
  obtain ⟨hlen, hf⟩ := open_fields hs h
  rw [hl] at hlen
  match cs, hlen with
  | [x, y], _ =>
    obtain ⟨m, z, g⟩ := hf 0 f0 0 1 rfl h0.1 (by rw [h0.2]; exact hc)
    obtain ⟨m', z', g'⟩ := hf 1 f1 1 1 rfl h1.1 (by rw [h1.2]; exact hc)
    rw [h0.2] at g
    rw [h1.2] at g'
    obtain ⟨a, rfl, wa⟩ := open_cellInt he (by simpa using g)
    obtain ⟨b, rfl, wb⟩ := open_cellInt he (by simpa using g')
    exact ⟨a, b, rfl, wa, wb⟩
/-- A struct of five ints. -/
theorem open_five {t e : TypeId} {f0 f1 f2 f3 f4 : Field} {n : Nat} {cs : List Value} {y : DataW H × List MemPlace} (hs : P.underlying t = some (.struct #[f0, f1, f2, f3, f4])) (h0 : f0.offset = 0 ∧ f0.type = e) (h1 : f1.offset = 1 ∧ f1.type = e) (h2 : f2.offset = 2 ∧ f2.type = e) (h3 : f3.offset = 3 ∧ f3.type = e) (h4 : f4.offset = 4 ∧ f4.type = e) (he : P.underlying e = some (.int .i64)) (hc : P.cellsOf e = 1) (hl : P.cellsOf t = 5)
    (h : DataW.trod enc P w base spare held n t cs = some y) : ∃ a b c d g : Int, cs = [.int .i64 a, .int .i64 b, .int .i64 c, .int .i64 d, .int .i64 g] := by
  obtain ⟨hlen, hf⟩ := open_fields hs h
  rw [hl] at hlen
  match cs, hlen with
  | [x0, x1, x2, x3, x4], _ =>
    obtain ⟨_, _, g0⟩ := hf 0 f0 0 1 rfl h0.1 (by rw [h0.2]; exact hc)
    obtain ⟨_, _, g1⟩ := hf 1 f1 1 1 rfl h1.1 (by rw [h1.2]; exact hc)
    obtain ⟨_, _, g2⟩ := hf 2 f2 2 1 rfl h2.1 (by rw [h2.2]; exact hc)
    obtain ⟨_, _, g3⟩ := hf 3 f3 3 1 rfl h3.1 (by rw [h3.2]; exact hc)
    obtain ⟨_, _, g4⟩ := hf 4 f4 4 1 rfl h4.1 (by rw [h4.2]; exact hc)
    rw [h0.2] at g0
    rw [h1.2] at g1
    rw [h2.2] at g2
    rw [h3.2] at g3
    rw [h4.2] at g4
    obtain ⟨a0, rfl, _⟩ := open_cellInt he (by simpa using g0)
    obtain ⟨a1, rfl, _⟩ := open_cellInt he (by simpa using g1)
    obtain ⟨a2, rfl, _⟩ := open_cellInt he (by simpa using g2)
    obtain ⟨a3, rfl, _⟩ := open_cellInt he (by simpa using g3)
    obtain ⟨a4, rfl, _⟩ := open_cellInt he (by simpa using g4)
    exact ⟨a0, a1, a2, a3, a4, rfl⟩
end opened
end Go.Abs
namespace Go.Abs
open Go Go.RowKit
section two
variable {P : Program} {W : World} {C : Cls W} {o : Oper} {fr : Fr} {m : Mem} {I T : TypeId}
/-- A struct of two ints. -/
structure Two (P : Program) (T I : TypeId) : Prop where
  str : ∃ f0 f1 : Field, P.underlying T = some (.struct #[f0, f1]) ∧ f0.offset = 0 ∧ f0.type = I ∧ f1.offset = 1 ∧ f1.type = I
  info : ∃ i, P.info? T = some i ∧ i.zero = some (.agg #[.int .i64 0, .int .i64 0]) ∧ i.size = 2
  int : P.underlying I = some (.int .i64)
  sz : (P.info? I).map (·.size) = some 1
theorem Two.size (t : Two P T I) : (P.info? T).map (·.size) = some 2 := by obtain ⟨i, h, _, h2⟩ := t.info; rw [h]; simp [h2]
theorem q_F2 (t : Two P T I) {x : Operand} {i B j : Nat} (ho : o.op = .fieldAddr T x i) (hx : evalF fr x = .pointer (some ⟨B, j, Option.none⟩)) (hi : i < 2) : QOp P W o fr m (.pointer (some ⟨B, j + i, Option.none⟩)) := by
  obtain ⟨f0, f1, hs, a0, b0, a1, b1⟩ := t.str
  match i, hi with
  | 0, _ => exact q_fieldAddrK (f := f0) (k := 0) ho hx hs rfl (by rw [b0]; exact t.sz) a0
  | 1, _ => exact q_fieldAddrK (f := f1) (k := 0) ho hx hs rfl (by rw [b1]; exact t.sz) a1
theorem two_places (t : Two P T I) : ∃ (fs : Array Field) (i : TypeInfo), P.underlying T = some (.struct fs) ∧ P.info? T = some i ∧ i.zero = some (.agg #[.int .i64 0, .int .i64 0]) ∧ fs.toList.map (fun f => (P.info? f.type).map fun j => (f.offset, j.size)) = (#[(0, 1), (1, 1)] : Array (Nat × Nat)).toList.map some := by
  obtain ⟨f0, f1, hs, a0, b0, a1, b1⟩ := t.str
  obtain ⟨i, hi, hz, _⟩ := t.info
  refine ⟨_, i, hs, hi, hz, ?_⟩
  have h := t.sz
  cases hI : P.info? I with
  | none => rw [hI] at h; cases h
  | some inf => rw [hI] at h; simp at h; simp [a0, b0, a1, b1, hI, h]
theorem q_B2 (t : Two P T I) {x y : Operand} {a b : Int} (ho : o.op = .build T #[(0, x), (1, y)]) (hx : evalF fr x = .int .i64 a) (hy : evalF fr y = .int .i64 b) : QOp P W o fr m (.agg #[.int .i64 a, .int .i64 b]) := by
  obtain ⟨fs, i, hs, hi, hz, hp⟩ := two_places t
  refine q_build (d := .bool) hs hi hz hp ho ?_
  simp only [List.map_cons, List.map_nil, hx, hy]
  rfl
theorem Two.notFlat (t : Two P T I) : ∃ d, P.underlying T = some d ∧ flat d = false := by obtain ⟨f0, f1, hs, _⟩ := t.str; exact ⟨_, hs, rfl⟩
theorem h_A2 (t : Two P T I) {l : List Ent} {K : Value → Mem → Prop} (H : HP m l) (ho : o.op = .alloc T)
    (h : ∀ B m', HP m' (.vs T B [.int .i64 0, .int .i64 0] :: l) → Le m m' → K (.pointer (some ⟨B, 0, Option.none⟩)) m') : AOp P (gen W) o fr m K := by
  obtain ⟨i, hi, hz, _⟩ := t.info
  exact h_allocS hi hz H ho h
theorem h_S2 (t : Two P T I) {T' : TypeId} {x y : Operand} {l : List Ent} (k : Nat) {B : Nat} {cs : List Value} {a b : Int} {K : Value → Mem → Prop} (H : HP m l) (ho : o.op = .store T x y) (hx : evalF fr x = .pointer (some ⟨B, 0, Option.none⟩)) (hi : l[k]? = some (.vs T' B cs)) (hy : evalF fr y = .agg #[.int .i64 a, .int .i64 b])
    (hl : cs.length = 2) (h : ∀ m', HP m' (l.set k (.vs T' B [.int .i64 a, .int .i64 b])) → K undef m') : AOp P (gen W) o fr m K :=
  h_stA k H ho hx hi hy t.size rfl hl.symm h
/-- A result that is such a struct. -/
theorem res_two (t : Two P T I) {fn : Func} {u : Tmp} (h : fn.results = #[.cell u T]) (ht : u < fn.ntmps) :
    ResM P W fn (fun fr m v => ∃ (B : Nat) (a b : Value), fr u = .pointer (some ⟨B, 0, Option.none⟩) ∧ v = .agg #[a, b] ∧ ∀ j x, [a, b][j]? = some x → cellAt W m ⟨B, j, Option.none⟩ x) := fun fr D a w m v ha hc ⟨B, x, y, h1, h2, h3⟩ => by
  obtain ⟨d, hd, hf⟩ := t.notFlat
  obtain ⟨i, hi', _, hs⟩ := t.info
  exact resMS h ht hd hf hi' fr D a w m v ha hc ⟨B, [x, y], h1, h2, hs.symm, h3⟩
end two
end Go.Abs
namespace Go.Abs
open Go Go.RowKit
section u64
variable {P : Program} {W : World} {C : Cls W} {o : Oper} {fr : Fr} {m : Mem}
end u64
end Go.Abs
