import Derived.Test.YtjepofehaphcnaaAbsRange
import Derived.Laws.StructEq
set_option linter.unusedSectionVars false
set_option linter.unusedSimpArgs false
set_option linter.unusedVariables false
/-! Abs: values of several cells: structs and arrays; slices of them. -/
namespace Go.Abs
open Go Go.RowKit
section run
variable {P : Program}
theorem run_loadCellsFrom {a : Addr} {w : World} : ∀ (n i : Nat) (acc : Array Value) (cs : List Value), cs.length = n → (∀ j u, cs[j]? = some u → w.cell? (a.add (i + j)) = some u) → (loadCellsFrom a i n acc).run P w = .ok (acc ++ cs.toArray) w
  | 0, i, acc, cs, hl, h => by
    obtain rfl := List.eq_nil_of_length_eq_zero hl
    simp [loadCellsFrom]
  | n + 1, i, acc, c :: cs, hl, h => by
    have h0 : w.cell? (a.add i) = some c := h 0 c rfl
    have hr := run_loadCellsFrom (a := a) (w := w) n (i + 1) (acc.push c) cs (by simpa using hl) fun j u hj => by
      have := h (j + 1) u (by simpa using hj)
      rwa [show i + (j + 1) = i + 1 + j by omega] at this
    have hl : (load (a.add i)).run P w = .ok c w := by simp [load, Sem.run, h0]
    simp only [loadCellsFrom, Sem.run_bind, hl, Result.andThen_ok, hr]
    simp
theorem run_loadAgg {T : TypeId} {d : TypeDesc} {i : TypeInfo} {a : Addr} {cs : List Value} {w : World} (hT : P.underlying T = some d) (hd : flat d = false) (hi : P.info? T = some i) (hs : i.size = cs.length)
    (hc : ∀ j u, cs[j]? = some u → w.cell? (a.add j) = some u) : (loadVar T a).run P w = .ok (.agg cs.toArray) w := by
  have hA : (isAgg T).run P w = .ok true w := by cases d <;> simp_all [isAgg, underlying, flat]
  have hl := run_loadCellsFrom (P := P) (a := a) (w := w) cs.length 0 #[] cs rfl (fun j u hj => by simpa using hc j u hj)
  simp [loadVar, hA, loadCells, sizeOf, typeInfo, hi, hs, hl]
end run
section ops
variable {P : Program} {W : World} {C : Cls W} {o : Oper} {fr : Fr} {m : Mem}
theorem addr_add (B off j : Nat) : (⟨B, off, Option.none⟩ : Addr).add j = ⟨B, off + j, Option.none⟩ := by unfold Addr.add; split <;> simp_all
/-- A variable of several cells. -/
theorem q_loadAtS {T : TypeId} {x : Operand} {d : TypeDesc} {i : TypeInfo} {k : Nat} {B j : Nat} {cs : List Value} (hT : P.underlying T = some d) (hd : flat d = false) (hi : P.info? T = some i) (hk : i.size = k)
    (ho : o.op = .load T x) (hx : evalF fr x = .pointer (some ⟨B, j, Option.none⟩)) (hl : cs.length = k) (hcs : ∀ l u, cs[l]? = some u → cellAt W m ⟨B, j + l, Option.none⟩ u) : QOp P W o fr m (.agg cs.toArray) := q_of_run fun w hw => by
  have hl := run_loadAgg (P := P) (a := ⟨B, j, Option.none⟩) (cs := cs) (w := w) hT hd hi (by omega) fun l u hu => by
    rw [addr_add]; exact (hcs l u hu).cell hw
  simp [execOp, ho, hx, Instr.loadAt, Instr.sureAddr, hl]
/-- The address of a field. -/
theorem run_fieldAt {T : TypeId} {i : Nat} {fs : Array Field} {f : Field} {inf : TypeInfo} {a : Addr} {w : World} (hT : P.underlying T = some (.struct fs)) (hf : fs[i]? = some f) (hi : P.info? f.type = some inf) (h0 : (inf.size == 0) = false) :
    (Instr.fieldAt T (.pointer (some a)) i).run P w = .ok (.pointer (some (a.add f.offset))) w := by
  have h0' : ¬ inf.size = 0 := by simpa using h0
  simp [Instr.fieldAt, run_underlying hT, hf, Instr.sureAddr, fieldPlace, sizeOf, typeInfo, hi, h0']
theorem q_fieldAddr {T : TypeId} {x : Operand} {i : Nat} {fs : Array Field} {f : Field} {inf : TypeInfo} {B j : Nat} (hT : P.underlying T = some (.struct fs)) (hf : fs[i]? = some f) (hi : P.info? f.type = some inf) (h0 : (inf.size == 0) = false)
    (ho : o.op = .fieldAddr T x i) (hx : evalF fr x = .pointer (some ⟨B, j, Option.none⟩)) : QOp P W o fr m (.pointer (some ⟨B, j + f.offset, Option.none⟩)) := q_of_run fun w _ => by
  have := run_fieldAt (a := ⟨B, j, Option.none⟩) (w := w) hT hf hi h0
  rw [addr_add] at this
  simp [execOp, ho, hx, this]
/-! ### Values put together -/
def over (z : Array Value) (off : Nat) : List Value → Array Value
  | [] => z
  | c :: cs => over (z.setIfInBounds off c) (off + 1) cs
theorem over_size : ∀ (cs : List Value) (z : Array Value) (off : Nat), (over z off cs).size = z.size
  | [], _, _ => rfl
  | c :: cs, z, off => by simp [over, over_size cs]
theorem over_get : ∀ (cs : List Value) (z : Array Value) (off i : Nat), off + cs.length ≤ z.size → (over z off cs)[i]? = if off ≤ i ∧ i < off + cs.length then cs[i - off]? else z[i]?
  | [], z, off, i, _ => by
    rw [if_neg (by simp only [List.length_nil]; omega)]; rfl
  | c :: cs, z, off, i, h => by
    simp only [List.length_cons] at h
    simp only [over, List.length_cons]
    rw [over_get cs _ _ i (by simp; omega)]
    by_cases h1 : i = off
    · subst h1
      rw [if_neg (by omega), if_pos (by omega)]
      simp [show i < z.size by omega]
    · by_cases h2 : off + 1 ≤ i ∧ i < off + 1 + cs.length
      · rw [if_pos h2, if_pos (by omega)]
        rw [show i - off = (i - (off + 1)) + 1 by omega]
        simp
      · rw [if_neg h2, if_neg (by omega)]
        rw [Array.getElem?_setIfInBounds_ne (by omega)]
theorem over_foldl (cs : List Value) (z : Array Value) (off k : Nat) : (cs.zipIdx k).foldl (fun acc (x : Value × Nat) => acc.setIfInBounds (off + x.2) x.1) z = over z (off + k) cs := by
  induction cs generalizing z k with
  | nil => rfl
  | cons c cs ih =>
    simp only [List.zipIdx_cons, List.foldl_cons, over]
    rw [ih]; congr 1
theorem fill_cons {place : Nat → Option (Nat × Nat)} {z : Array Value} {i : Nat} {v : Value} {rest : List (Nat × Value)} {off size : Nat} (hp : place i = some (off, size)) (hs : v.cells.size = size) (hz : off + size ≤ z.size) :
    Instr.fill place z ((i, v) :: rest) = Instr.fill place (over z off v.cells.toList) rest := by
  have hf : v.cells.zipIdx.foldl (fun cs (x : Value × Nat) => cs.setIfInBounds (off + x.2) x.1) z = over z off v.cells.toList := by
    rw [← Array.foldl_toList, Array.toList_zipIdx]; exact over_foldl _ _ _ 0
  simp only [Instr.fill, hp]
  rw [if_neg (by simp; omega)]
  exact congrArg (fun t => Instr.fill place t rest) hf
theorem over_all (cs : List Value) (z : Array Value) (h : cs.length = z.size) : over z 0 cs = cs.toArray := by
  apply Array.ext_getElem?
  intro i
  rw [over_get cs z 0 i (by omega)]
  split
  · simp
  · rw [Array.getElem?_eq_none (by omega), Array.getElem?_eq_none (by simp; omega)]
theorem mapM_of {α β : Type} (w : World) (g : α → Sem β) : ∀ (l : List α) (ps : List β), l.length = ps.length → (∀ x p, (x, p) ∈ l.zip ps → (g x).run P w = .ok p w) → (l.mapM g).run P w = .ok ps w
  | [], [], _, _ => by simp
  | x :: l, p :: ps, hl, h => by
    have h1 := h x p (by simp)
    have h2 := mapM_of w g l ps (by simpa using hl) fun y q hy => h y q (by simp [hy])
    rw [List.mapM_cons]
    simp only [Sem.run_bind, h1, Result.andThen_ok, h2, Sem.run_pure]
theorem mapM_places (w : World) (l : List Field) (ps : List (Nat × Nat)) (h : l.map (fun f => (P.info? f.type).map fun j => (f.offset, j.size)) = ps.map some) : (l.mapM (m := Sem) fun f => Functor.map (Prod.mk f.offset) (sizeOf f.type)).run P w = .ok ps w := by
  refine mapM_of w _ l ps (by simpa using congrArg List.length h) fun f p hp => ?_
  have : (P.info? f.type).map (fun j => (f.offset, j.size)) = some p := by
    induction l generalizing ps with
    | nil => simp at hp
    | cons y l ih =>
      cases ps with
      | nil => simp at hp
      | cons q ps =>
        simp only [List.map_cons, List.cons.injEq] at h
        simp only [List.zip_cons_cons, List.mem_cons, Prod.mk.injEq] at hp
        rcases hp with ⟨rfl, rfl⟩ | hp
        · exact h.1
        · exact ih ps h.2 hp
  cases hi : P.info? f.type with
  | none => rw [hi] at this; cases this
  | some j =>
    rw [hi] at this
    simp only [Option.map_some, Option.some.injEq] at this
    subst this
    simp [sizeOf, typeInfo, hi]
/-- A struct or an array written out. -/
theorem q_build {T : TypeId} {d : TypeDesc} {i : TypeInfo} {z : Value} {parts : Array (Nat × Operand)} {fs : Array Field} {places : Array (Nat × Nat)} {cs : Array Value} (hT : P.underlying T = some (.struct fs)) (hi : P.info? T = some i) (hz : i.zero = some z)
    (hp : fs.toList.map (fun f => (P.info? f.type).map fun j => (f.offset, j.size)) = places.toList.map some)
    (ho : o.op = .build T parts) (hf : Instr.fill (places[·]?) z.cells (parts.toList.map fun (j, x) => (j, evalF fr x)) = some cs) : QOp P W o fr m (.agg cs) := q_of_run fun w _ => by
  have hm : (fs.mapM (m := Sem) fun f => Functor.map (Prod.mk f.offset) (sizeOf f.type)).run P w = .ok places w := by
    rw [Array.mapM_eq_mapM_toList, Sem.run_map, mapM_places w _ _ hp]
    rfl
  have hf' : Instr.fill (places[·]?) z.cells (parts.map fun (j, x) => (j, evalF fr x)).toList = some cs := by simpa using hf
  simp [execOp, ho, Instr.build, zeroValue, typeInfo, hi, hz, run_underlying hT, hm] at hf' ⊢
  simp [hf']
/-! ### Structs that are compared -/
theorem run_part1 {T : TypeId} {d : TypeDesc} {cs : Array Value} {off : Nat} {u : Value} {w : World} (hd : P.underlying T = some d) (hf : flat d = true) (hu : cs[off]? = some u) : (part T cs off).run P w = .ok u w := by
  have hA : (isAgg T).run P w = .ok false w := by cases d <;> simp_all [isAgg, underlying, flat]
  simp [part, hA, hu]
/-! ### Stores -/
theorem store1 {w : World} {B k : Nat} {b : Blk} {u : Value} (hw : Conc W m w) (hB : m B = some b) (hk : k < b.cells.length) (h1 : u.oneCell' = true) :
    (store ⟨B, k, Option.none⟩ u).run P w = .ok () (w.setCell ⟨B, k, Option.none⟩ u) ∧ Conc W (m.put B { b with cells := b.cells.set k u }) (w.setCell ⟨B, k, Option.none⟩ u) ∧ Frm m w (m.put B { b with cells := b.cells.set k u }) (w.setCell ⟨B, k, Option.none⟩ u) := by
  obtain ⟨g1, cur, g2, g3, g4⟩ := Conc.blk hw B b hB
  have hkc : k < cur.size := by
    have := congrArg List.length g4
    simp only [List.length_take, Array.length_toList] at this
    omega
  have hcell : w.cell? ⟨B, k, Option.none⟩ = some cur[k] := by simp [World.cell?, g2, hkc]
  have hfz : w.frozen? ⟨B, k, Option.none⟩ = false := by simp [World.frozen?, g2]
  refine ⟨by rw [run_store P w _ u .plain h1, hcell]; simp [hfz], ?_⟩
  have key := Conc.setRow hw hB (cur.setIfInBounds k u) (by simpa using g3) (b.cells.set k u) ?_
  · rw [setCell_row g2]; exact key
  simp only [List.length_set, Array.toList_setIfInBounds]
  conv => rhs; rw [← g4]
  rw [List.take_set]
def overL (xs : List Value) (k : Nat) : List Value → List Value
  | [] => xs
  | u :: us => overL (xs.set k u) (k + 1) us
theorem storeN {B : Nat} : ∀ (us : List Value) (w : World) (m : Mem) (b : Blk) (k i : Nat), Conc W m w → m B = some b → k + i + us.length ≤ b.cells.length → (∀ u ∈ us, u.oneCell' = true) →
    ∃ w', (storeCells ⟨B, k, Option.none⟩ us i).run P w = .ok () w' ∧ Conc W (m.put B { b with cells := overL b.cells (k + i) us }) w' ∧ Frm m w (m.put B { b with cells := overL b.cells (k + i) us }) w'
  | [], w, m, b, k, i, hw, hB, _, _ => by
    have : m.put B b = m := by
      cases m with
      | mk mg mo =>
        unfold Mem.put; congr 1; funext j; dsimp only; split
        · rename_i e; subst e; exact hB.symm
        · rfl
    exact ⟨w, by simp [storeCells], by show Conc W (m.put B b) w; rw [this]; exact hw, by show Frm m w (m.put B b) w; rw [this]; exact Frm.refl _ _⟩
  | u :: us, w, m, b, k, i, hw, hB, hk, h1 => by
    simp only [List.length_cons] at hk
    obtain ⟨r1, c1, f1⟩ := store1 (P := P) (u := u) (k := k + i) hw hB (by omega) (h1 u (by simp))
    obtain ⟨w', r2, c2, f2⟩ := storeN us _ _ { b with cells := b.cells.set (k + i) u } k (i + 1) c1 (Mem.put_at _ _ _) (by simp; omega) (fun x hx => h1 x (by simp [hx]))
    rw [Mem.put_put] at c2 f2
    refine ⟨w', ?_, c2, f1.trans f2⟩
    simp only [storeCells, addr_add, Sem.run_bind, r1, Result.andThen_ok, r2]
/-- A struct or an array is stored. -/
theorem a_storeS {T : TypeId} {i : TypeInfo} {x y : Operand} {B k : Nat} {b : Blk} {cs : Array Value} {K : Value → Mem → Prop} (hT : P.info? T = some i) (hs : i.size = cs.size)
    (ho : o.op = .store T x y) (hx : evalF fr x = .pointer (some ⟨B, k, Option.none⟩)) (hy : (evalF fr y).cells = cs) (h1 : ∀ u ∈ cs.toList, u.oneCell' = true) (hB : m B = some b) (hk : k + cs.size ≤ b.cells.length)
    (h : K undef (m.put B { b with cells := overL b.cells k cs.toList })) : AOp P (gen W) o fr m K := fun w hw => by
  obtain ⟨w', r, c, f⟩ := storeN (P := P) cs.toList w m b k 0 hw hB (by simpa using hk) h1
  have hr : (execOp (evalF fr) o).run P w = .ok .skip w' := by
    simp [execOp, ho, hx, Instr.storeAt, Instr.sureAddr, storeVar, sizeOf, typeInfo, hT, hs, hy, r]
  rw [hr]
  exact ⟨_, c, f, h⟩
end ops
end Go.Abs
