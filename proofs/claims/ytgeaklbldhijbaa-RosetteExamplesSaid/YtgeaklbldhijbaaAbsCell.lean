import Derived.Test.YtgeaklbldhijbaaAbsMap2
set_option linter.unusedSectionVars false
set_option linter.unusedSimpArgs false
set_option linter.unusedVariables false
/-! Abs: bytes and unsigned words; variables of several cells; slices of values of one cell. -/
namespace Go.Abs
open Go Go.RowKit
section arith
variable {P : Program} {W : World} {C : Cls W} {o : Oper} {fr : Fr} {m : Mem}
theorem wrap8 {x : Int} (h : 0 ≤ x ∧ x ≤ 255) : IntKind.u8.wrap x = x := by simp [IntKind.wrap, IntKind.bits, IntKind.signed]; omega
theorem bv8 {a : Nat} (h : a < 256) : (BitVec.ofInt 8 (a : Int)).toNat = a := by
  rw [BitVec.ofInt_natCast, BitVec.toNat_ofNat, Nat.mod_eq_of_lt h]
theorem q_or8 {T yt : TypeId} {x y : Operand} {a b X : Nat} (hX : a ||| b = X) (ho : o.op = .binOp .or T x y yt) (hx : evalF fr x = .int .u8 a) (hy : evalF fr y = .int .u8 b) (ha : a < 256) (hb : b < 256) : QOp P W o fr m (.int .u8 (X : Int)) := by
  subst hX
  refine q_int ho hx hy ?_
  have h : (BitVec.ofInt 8 (a : Int) ||| BitVec.ofInt 8 (b : Int)).toNat = a ||| b := by rw [BitVec.toNat_or, bv8 ha, bv8 hb]
  have h2 : a ||| b < 2 ^ 8 := Nat.or_lt_two_pow ha hb
  show some (Value.int .u8 (IntKind.u8.wrap ((BitVec.ofInt 8 (a : Int) ||| BitVec.ofInt 8 (b : Int)).toNat : Int))) = _
  rw [h, wrap8 (by omega)]
theorem q_and8 {T yt : TypeId} {x y : Operand} {a b X : Nat} (hX : a &&& b = X) (ho : o.op = .binOp .and T x y yt) (hx : evalF fr x = .int .u8 a) (hy : evalF fr y = .int .u8 b) (ha : a < 256) (hb : b < 256) : QOp P W o fr m (.int .u8 (X : Int)) := by
  subst hX
  refine q_int ho hx hy ?_
  have h : (BitVec.ofInt 8 (a : Int) &&& BitVec.ofInt 8 (b : Int)).toNat = a &&& b := by rw [BitVec.toNat_and, bv8 ha, bv8 hb]
  have h2 : a &&& b < 2 ^ 8 := Nat.and_lt_two_pow a hb
  show some (Value.int .u8 (IntKind.u8.wrap ((BitVec.ofInt 8 (a : Int) &&& BitVec.ofInt 8 (b : Int)).toNat : Int))) = _
  rw [h, wrap8 (by omega)]
theorem q_shl8 {T yt : TypeId} {x y : Operand} {yk : IntKind} {b : Int} {a X : Nat} (k : Nat) (hX : a * 2 ^ k = X) (ho : o.op = .binOp .shl T x y yt) (hx : evalF fr x = .int .u8 a) (hy : evalF fr y = .int yk b) (hb : b = k) (hk : k ≤ 7) (h : X ≤ 255) : QOp P W o fr m (.int .u8 (X : Int)) := by
  have := q_shl (P := P) (W := W) (m := m) ho hx hy (by omega)
  have e : (a : Int) * 2 ^ k = (X : Int) := by rw [← hX]; simp
  rwa [show min b.toNat (IntKind.bits .u8) = k by subst hb; show min k 8 = k; omega, e, wrap8 (by omega)] at this
theorem q_shr8 {T yt : TypeId} {x y : Operand} {yk : IntKind} {b : Int} {a X : Nat} (k : Nat) (hX : a / 2 ^ k = X) (ho : o.op = .binOp .shr T x y yt) (hx : evalF fr x = .int .u8 a) (hy : evalF fr y = .int yk b) (hb : b = k) (hk : k ≤ 7) : QOp P W o fr m (.int .u8 (X : Int)) := by
  subst hX
  have := q_shr (P := P) (W := W) (m := m) ho hx hy (by omega)
  rw [show min b.toNat (IntKind.bits .u8) = k by subst hb; show min k 8 = k; omega] at this
  rw [Int.fdiv_eq_ediv_of_nonneg _ (Int.pow_nonneg (by omega))] at this
  rwa [show ((a / 2 ^ k : Nat) : Int) = (a : Int) / 2 ^ k by simp]
theorem q_addU {T yt : TypeId} {x y : Operand} {a b X : Nat} (hX : a + b = X) (ho : o.op = .binOp .add T x y yt) (hx : evalF fr x = .int .u64 a) (hy : evalF fr y = .int .u64 b) (h : X ≤ 18446744073709551615) : QOp P W o fr m (.int .u64 (X : Int)) := by
  refine q_int ho hx hy ?_
  simp only [iop]
  rw [show (a : Int) + b = (X : Int) by omega, IntWalk.u64_in _ (by omega)]
theorem q_mulU {T yt : TypeId} {x y : Operand} {a b X : Nat} (hX : a * b = X) (ho : o.op = .binOp .mul T x y yt) (hx : evalF fr x = .int .u64 a) (hy : evalF fr y = .int .u64 b) (h : X ≤ 18446744073709551615) : QOp P W o fr m (.int .u64 (X : Int)) := by
  refine q_int ho hx hy ?_
  simp only [iop]
  rw [show (a : Int) * b = (X : Int) by rw [← hX]; simp, IntWalk.u64_in _ (by omega)]
theorem q_subU {T yt : TypeId} {x y : Operand} {a b X : Nat} (hX : a = X + b) (ho : o.op = .binOp .sub T x y yt) (hx : evalF fr x = .int .u64 a) (hy : evalF fr y = .int .u64 b) (h : X ≤ 18446744073709551615) : QOp P W o fr m (.int .u64 (X : Int)) := by
  refine q_int ho hx hy ?_
  simp only [iop]
  rw [show (a : Int) - b = (X : Int) by omega, IntWalk.u64_in _ (by omega)]
theorem q_remU {T yt : TypeId} {x y : Operand} {a b X : Nat} (hX : a % b = X) (ho : o.op = .binOp .rem T x y yt) (hx : evalF fr x = .int .u64 a) (hy : evalF fr y = .int .u64 b) (hb : 1 ≤ b) : QOp P W o fr m (.int .u64 (X : Int)) := by
  subst hX
  have := q_rem (P := P) (W := W) (m := m) ho hx hy (by omega)
  rwa [Int.tmod_eq_emod_of_nonneg (by omega), show (a : Int) % b = ((a % b : Nat) : Int) by simp] at this
theorem q_conv8 {S T : TypeId} {x : Operand} {a : Nat} {k : IntKind} {sd : TypeDesc} (hS : P.underlying S = some sd) (hT : P.underlying T = some (.int .u8)) (ho : o.op = .convert S T x) (hx : evalF fr x = .int k a) (h : a ≤ 255) : QOp P W o fr m (.int .u8 (a : Int)) := by
  have := q_conv (P := P) (W := W) (m := m) hS hT ho hx
  rwa [wrap8 (by omega)] at this
theorem q_conv64 {S T : TypeId} {x : Operand} {a : Nat} {k : IntKind} {sd : TypeDesc} (hS : P.underlying S = some sd) (hT : P.underlying T = some (.int .u64)) (ho : o.op = .convert S T x) (hx : evalF fr x = .int k a) (h : a ≤ 18446744073709551615) : QOp P W o fr m (.int .u64 (a : Int)) := by
  have := q_conv (P := P) (W := W) (m := m) hS hT ho hx
  rwa [IntWalk.u64_in _ (by omega)] at this
theorem q_convI {S T : TypeId} {x : Operand} {a : Nat} {k : IntKind} {sd : TypeDesc} (hS : P.underlying S = some sd) (hT : P.underlying T = some (.int .i64)) (ho : o.op = .convert S T x) (hx : evalF fr x = .int k a) (h : a ≤ 9223372036854775807) : QOp P W o fr m (.int .i64 (a : Int)) := by
  have := q_conv (P := P) (W := W) (m := m) hS hT ho hx
  rwa [IntWalk.i64_in _ (by omega)] at this
end arith
section mem
variable {P : Program} {W : World} {C : Cls W} {o : Oper} {fr : Fr} {m : Mem}
/-! ### variables of several cells -/
abbrev Ent.vs (T : TypeId) (B : Nat) (cs : List Value) : Ent := .box B ⟨cs, T, cs.length⟩
theorem h_newS {T : TypeId} {cs : Array Value} {l : List Ent} {K : Value → Mem → Prop} (H : HP m l)
    (hr : ∀ w, (execOp (evalF fr) o).run P w = .ok (.value (.pointer (some ⟨w.heap.size, 0, Option.none⟩))) (w.alloc (.cells cs T)))
    (h : ∀ B m', HP m' (.vs T B cs.toList :: l) → Le m m' → K (.pointer (some ⟨B, 0, Option.none⟩)) m') : AOp P (gen W) o fr m K := fun w hw => by
  rw [hr]
  have := Conc.alloc hw cs T
  have e : cs.size = cs.toList.length := by simp
  rw [e] at this
  refine ⟨_, this.1, this.2.1, h _ _ ((H.keep (Keep.put (Conc.fresh hw) _)).cons (p := .vs T w.heap.size cs.toList) (Mem.put_at _ _ _) fun q hq B hB hqB => ?_) (Le.put (Conc.fresh hw) _)⟩
  obtain rfl : w.heap.size = B := by simpa [Ent.blk] using hB
  exact Ent.known (H.ok q hq) hqB ⟨Conc.fresh hw, Conc.freshO hw⟩
theorem h_boxS {T : TypeId} {x : Operand} {cs : Array Value} {l : List Ent} {K : Value → Mem → Prop} (H : HP m l) (ho : o.op = .box T x) (hx : evalF fr x = .agg cs)
    (h : ∀ B m', HP m' (.vs T B cs.toList :: l) → Le m m' → K (.pointer (some ⟨B, 0, Option.none⟩)) m') : AOp P (gen W) o fr m K :=
  h_newS H (fun w => by simp [execOp, ho, hx, Instr.box, newVar, newRow, Value.cells]) h
theorem h_allocS {T : TypeId} {cs : Array Value} {i : TypeInfo} {l : List Ent} {K : Value → Mem → Prop} (hi : P.info? T = some i) (hz : i.zero = some (.agg cs)) (H : HP m l) (ho : o.op = .alloc T)
    (h : ∀ B m', HP m' (.vs T B cs.toList :: l) → Le m m' → K (.pointer (some ⟨B, 0, Option.none⟩)) m') : AOp P (gen W) o fr m K :=
  h_newS H (fun w => by simp [execOp, ho, Instr.alloc, zeroValue, typeInfo, hi, hz, newVar, newRow, Value.cells]) h
theorem HP.setBox {l : List Ent} (H : HP m l) (i : Nat) {B : Nat} {b : Blk} (b' : Blk) (hi : l[i]? = some (.box B b)) : HP (m.put B b') (l.set i (.box B b')) := by
  have hput : ∀ B' x, B' ≠ B → m B' = some x → (m.put B b') B' = some x := fun B' x hne hb => by simp [Mem.put, hne, hb]
  refine H.turn i hi (p' := .box B b') (Mem.put_at _ _ _) (fun q hq hok => ?_) (fun B' hB' => .inl hB')
  have hq' : q.blk ≠ some B := fun e => hq B e rfl
  cases q with
  | sl vq eq sq nq xq =>
    refine OWN.keepNe (v := .slice (some ⟨B, 0, Option.none⟩) 0 0) (fun B' x hne hb => hput B' x (fun e => hne (by rw [e]; rfl)) hb) hok fun B' h1 h2 => ?_
    have : B = B' := by simpa [blkOf] using h2
    subst this
    exact hq' h1
  | box B' x => exact hput B' x (fun e => hq' (by rw [e]; rfl)) hok
  | obj B' o => exact hok
theorem overL_all : ∀ (us xs pre : List Value), us.length = xs.length → overL (pre ++ xs) pre.length us = pre ++ us
  | [], [], pre, _ => by simp [overL]
  | u :: us, x :: xs, pre, h => by
    simp only [overL]
    have ih := overL_all us xs (pre ++ [u]) (by simpa using h)
    have e : (pre ++ x :: xs).set pre.length u = (pre ++ [u]) ++ xs := by simp
    rw [e]
    simp only [List.length_append, List.length_singleton] at ih
    rw [ih]; simp
theorem overL_all0 {us xs : List Value} (h : us.length = xs.length) : overL xs 0 us = us := by simpa using overL_all us xs [] h
/-- The whole variable is stored. -/
theorem h_setVarS {T T' : TypeId} {inf : TypeInfo} {x y : Operand} {l : List Ent} (i : Nat) {B : Nat} {cs us : List Value} {K : Value → Mem → Prop} (hT : P.info? T = some inf) (hs : inf.size = us.length) (H : HP m l) (hi : l[i]? = some (.vs T' B cs))
    (ho : o.op = .store T x y) (hx : evalF fr x = .pointer (some ⟨B, 0, Option.none⟩)) (hy : evalF fr y = .agg us.toArray) (h1 : us.all (·.oneCell') = true) (hl : us.length = cs.length)
    (h : ∀ m', HP m' (l.set i (.vs T' B us)) → K undef m') : AOp P (gen W) o fr m K := by
  have hB := H.box i hi
  refine a_storeS (cs := us.toArray) hT (by simpa using hs) ho hx (by rw [hy]; rfl) (fun u hu => List.all_eq_true.1 h1 u (by simpa using hu)) hB (by simp [hl]) ?_
  have := H.setBox i (b := ⟨cs, T', cs.length⟩) ⟨us, T', us.length⟩ hi
  have e : ({ cells := overL cs 0 us.toArray.toList, elem := T', size := cs.length } : Blk) = ⟨us, T', us.length⟩ := by simp [overL_all0 hl, hl]
  have hk := h _ this
  rw [← e] at hk
  exact hk
/-- One cell of it is stored. -/
theorem h_setCell {T T' : TypeId} {inf : TypeInfo} {x y : Operand} {l : List Ent} (i j : Nat) {B : Nat} {cs : List Value} {u : Value} {K : Value → Mem → Prop} (hT : P.info? T = some inf) (hs : inf.size = 1) (H : HP m l) (hi : l[i]? = some (.vs T' B cs))
    (ho : o.op = .store T x y) (hx : evalF fr x = .pointer (some ⟨B, j, Option.none⟩)) (hy : evalF fr y = u) (h1 : u.oneCell' = true) (hj : j < cs.length)
    (h : ∀ m', HP m' (l.set i (.vs T' B (cs.set j u))) → K undef m') : AOp P (gen W) o fr m K := by
  have hB := H.box i hi
  refine a_store hT hs ho hx hy h1 hB hj ?_
  have := H.setBox i (b := ⟨cs, T', cs.length⟩) ⟨cs.set j u, T', (cs.set j u).length⟩ hi
  have e : ({ cells := cs.set j u, elem := T', size := cs.length } : Blk) = ⟨cs.set j u, T', (cs.set j u).length⟩ := by simp
  have hk := h _ this
  rw [← e] at hk
  exact hk
theorem HP.cellS {l : List Ent} (H : HP m l) (i j : Nat) {B : Nat} {T : TypeId} {cs : List Value} {u : Value} (hi : l[i]? = some (.vs T B cs)) (hj : cs[j]? = some u) : cellAt W m ⟨B, j, Option.none⟩ u := ⟨rfl, .inr ⟨_, H.box i hi, hj⟩⟩
/-- One cell of it. -/
theorem q_varC {T T' : TypeId} {x : Operand} {d : TypeDesc} {l : List Ent} (i j : Nat) {B : Nat} {cs : List Value} {v : Value} (hT : P.underlying T = some d) (hd : flat d = true) (H : HP m l) (hi : l[i]? = some (.vs T' B cs)) (hj : cs[j]? = some v)
    (ho : o.op = .load T x) (hx : evalF fr x = .pointer (some ⟨B, j, Option.none⟩)) : QOp P W o fr m v := q_loadAt hT hd (H.cellS i j hi hj) ho hx
/-- The whole of it. -/
theorem q_varS {T T' : TypeId} {x : Operand} {d : TypeDesc} {inf : TypeInfo} {l : List Ent} (i : Nat) {B : Nat} {cs : List Value} (hT : P.underlying T = some d) (hd : flat d = false) (hf : P.info? T = some inf) (hs : inf.size = cs.length) (H : HP m l) (hi : l[i]? = some (.vs T' B cs))
    (ho : o.op = .load T x) (hx : evalF fr x = .pointer (some ⟨B, 0, Option.none⟩)) : QOp P W o fr m (.agg cs.toArray) :=
  q_loadAtS hT hd hf hs ho hx rfl fun l u hu => by rw [Nat.zero_add]; exact H.cellS i l hi hu
/-! ### results that lie in several cells -/
theorem resMS {P : Program} {W : World} {fn : Func} {t : Tmp} {T : TypeId} {d : TypeDesc} {inf : TypeInfo} (h : fn.results = #[.cell t T]) (ht : t < fn.ntmps) (hT : P.underlying T = some d) (hd : flat d = false) (hf : P.info? T = some inf) :
    ResM P W fn (fun fr m v => ∃ (B : Nat) (cs : List Value), fr t = .pointer (some ⟨B, 0, Option.none⟩) ∧ v = .agg cs.toArray ∧ cs.length = inf.size ∧ ∀ j u, cs[j]? = some u → cellAt W m ⟨B, j, Option.none⟩ u) := fun fr D a w m v ha hc ⟨B, cs, h1, h2, h3, h4⟩ => by
  have e : a.tmps[t]? = some (.pointer (some ⟨B, 0, Option.none⟩)) := by
    have h5 := ha.at_ t ht
    rw [h1] at h5
    have hs : t < a.tmps.size := by rw [ha.size]; exact ht
    simp [hs] at h5 ⊢
    exact h5
  have hl := run_loadAgg (P := P) (a := ⟨B, 0, Option.none⟩) (cs := cs) (w := w) hT hd hf (by omega) fun l u hu => by
    rw [addr_add, Nat.zero_add]; exact (h4 l u hu).cell hc
  subst h2
  simp [results, h, e, asAddr, hl]
theorem resMS1 {P : Program} {W : World} {fn : Func} {t t2 : Tmp} {T : TypeId} {d : TypeDesc} {inf : TypeInfo} (h : fn.results = #[.cell t T, .tmp t2]) (ht : t < fn.ntmps) (ht2 : t2 < fn.ntmps) (hT : P.underlying T = some d) (hd : flat d = false) (hf : P.info? T = some inf) :
    ResM P W fn (fun fr m v => ∃ (B : Nat) (cs : List Value), fr t = .pointer (some ⟨B, 0, Option.none⟩) ∧ v = .tuple #[.agg cs.toArray, fr t2] ∧ cs.length = inf.size ∧ ∀ j u, cs[j]? = some u → cellAt W m ⟨B, j, Option.none⟩ u) := fun fr D a w m v ha hc ⟨B, cs, h1, h2, h3, h4⟩ => by
  have e : a.tmps[t]? = some (.pointer (some ⟨B, 0, Option.none⟩)) := by
    have h5 := ha.at_ t ht
    rw [h1] at h5
    have hs : t < a.tmps.size := by rw [ha.size]; exact ht
    simp [hs] at h5 ⊢
    exact h5
  have e2 : a.tmps[t2]? = some (fr t2) := by
    have h5 := ha.at_ t2 ht2
    have hs : t2 < a.tmps.size := by rw [ha.size]; exact ht2
    simp [hs] at h5 ⊢
    exact h5
  have hl := run_loadAgg (P := P) (a := ⟨B, 0, Option.none⟩) (cs := cs) (w := w) hT hd hf (by omega) fun l u hu => by
    rw [addr_add, Nat.zero_add]; exact (h4 l u hu).cell hc
  subst h2
  simp [results, h, e, e2, asAddr, hl]
/-! ### arrays -/
theorem q_buildA {T e : TypeId} {len : Nat} {i ie : TypeInfo} {z : Value} {parts : Array (Nat × Operand)} {cs : Array Value} (hT : P.underlying T = some (.array len e)) (hi : P.info? T = some i) (hz : i.zero = some z) (he : P.info? e = some ie) (hs : ie.size = 1)
    (ho : o.op = .build T parts) (hf : Instr.fill (fun j => some (j * 1, 1)) z.cells (parts.toList.map fun (j, x) => (j, evalF fr x)) = some cs) : QOp P W o fr m (.agg cs) := q_of_run fun w _ => by
  have hf' : Instr.fill (fun j => some (j * 1, 1)) z.cells (parts.map fun (j, x) => (j, evalF fr x)).toList = some cs := by simpa using hf
  simp [execOp, ho, Instr.build, zeroValue, typeInfo, hi, hz, run_underlying hT, sizeOf, he, hs] at hf' ⊢
  simp [hf']
theorem q_indexA {T e : TypeId} {len : Nat} {ie : TypeInfo} {d : TypeDesc} {x y : Operand} {k : IntKind} {cs : Array Value} {u : Value} (j : Nat) (hT : P.underlying T = some (.array len e)) (hd : P.underlying e = some d) (hfl : flat d = true) (he : P.info? e = some ie) (hs : ie.size = 1)
    (ho : o.op = .index T x y) (hx : evalF fr x = .agg cs) (hy : evalF fr y = .int k (j : Int)) (hj : j < len) (hu : cs[j]? = some u) : QOp P W o fr m u := q_of_run fun w _ => by
  have hp := run_part1 (P := P) (T := e) (cs := cs) (off := j) (u := u) (w := w) hd hfl hu
  simp [execOp, ho, hx, hy, Instr.index, asIntOf, run_underlying hT, sizeOf, typeInfo, he, hs, hj, hp]
theorem fill_nil {place : Nat → Option (Nat × Nat)} {z : Array Value} : Instr.fill place z [] = some z := rfl
theorem fill_st3 {z : Array Value} {u v t : Value} (hu : u.cells = #[u]) (hv : v.cells = #[v]) (ht : t.cells = #[t]) (hz : z.size = 3) : Instr.fill ((#[(0, 1), (1, 1), (2, 1)] : Array (Nat × Nat))[·]?) z [(0, u), (1, v), (2, t)] = some #[u, v, t] := by
  rw [fill_cons (off := 0) (size := 1) rfl (by rw [hu]; rfl) (by omega), fill_cons (off := 1) (size := 1) rfl (by rw [hv]; rfl) (by rw [over_size]; omega), fill_cons (off := 2) (size := 1) rfl (by rw [ht]; rfl) (by rw [over_size, over_size]; omega)]
  rw [hu, hv, ht]
  simp only [Instr.fill, over]
  congr 1
  obtain ⟨l⟩ := z
  match l, hz with
  | [a, b, c], _ => rfl
/-! ### slices of values of one cell -/
theorem q_ixV {T e : TypeId} {x y : Operand} {k : IntKind} {v : Value} {n : Nat} {xs : List Value} {i : Nat} {inf : TypeInfo} (hT : P.underlying T = some (.slice e)) (he : P.info? e = some inf) (hs : inf.size = 1)
    (h : SL W m 1 v n xs) (ho : o.op = .indexAddr T x y) (hx : evalF fr x = v) (hy : evalF fr y = .int k (i : Int)) (hn : i < n) : QOp P W o fr m (ptrAt v i) := by
  have := q_indexAddr (P := P) (W := W) (m := m) hT he hs h ho hx hy (by omega) (by omega)
  rwa [Nat.mul_one, Int.toNat_natCast] at this
theorem q_ixZ {T e : TypeId} {x y : Operand} {k : IntKind} {v : Value} {n : Nat} {xs : List Value} {i : Int} {inf : TypeInfo} (hT : P.underlying T = some (.slice e)) (he : P.info? e = some inf) (hs : inf.size = 1)
    (h : SL W m 1 v n xs) (ho : o.op = .indexAddr T x y) (hx : evalF fr x = v) (hy : evalF fr y = .int k i) (h0 : 0 ≤ i) (hn : i < n) : QOp P W o fr m (ptrAt v i.toNat) := by
  have := q_indexAddr (P := P) (W := W) (m := m) hT he hs h ho hx hy h0 hn
  rwa [Nat.mul_one] at this
theorem h_setV {E : TypeId} {ie : TypeInfo} (hi3 : P.info? E = some ie) (hs : ie.size = 1) {l : List Ent} (i : Nat) {x y : Operand} {v u : Value} {n j : Nat} {xs : List Value} {K : Value → Mem → Prop} (H : HP m l) (hi : l[i]? = some (.sl v E 1 n xs))
    (ho : o.op = .store E x y) (hx : evalF fr x = ptrAt v j) (hy : evalF fr y = u) (h1 : u.oneCell' = true) (hj : j < n)
    (h : ∀ m', HP m' (l.set i (.sl v E 1 n (xs.set j u))) → K undef m') : AOp P (gen W) o fr m K := by
  have hv := H.sl i hi
  obtain ⟨hl, hv⟩ := hv
  rcases hv with ⟨_, h0⟩ | ⟨B, cap, rfl, h1', h2, h3⟩
  · omega
  · have hp : ptrAt (.slice (some ⟨B, 0, Option.none⟩) n cap) j = .pointer (some ⟨B, j, Option.none⟩) := by unfold ptrAt; dsimp only; rw [addr_add, Nat.zero_add]
    refine a_store hi3 hs ho (hx.trans hp) hy h1 h3 (by simp at hl ⊢; omega) (h _ (H.store i hi ⟨by simpa using hl, .inr ⟨B, cap, rfl, h1', h2, ?_⟩⟩ (fun B' b hne hb => ?_) fun B o ho => ho))
    · rw [Mem.put_at]
    · have : B' ≠ B := fun e => hne (by rw [e]; rfl)
      simp [Mem.put, this, hb]
theorem h_appV {T E : TypeId} {ie : TypeInfo} {z : Value} (hT : P.underlying T = some (.slice E)) (hi3 : P.info? E = some ie) (hz : ie.zero = some z) (hz1 : z.cells.size = 1) (hs : ie.size = 1) {l : List Ent} (i : Nat) {x y : Operand} {v u : Value} {n k : Nat} {xs ys : List Value} {K : Value → Mem → Prop} (H : HP m l) (hi : l[i]? = some (.sl v E 1 n xs))
    (hu : SL W m 1 u k ys) (ho : o.op = .call { callee := .builtin .append, args := #[x, y], argTypes := #[T, T] }) (hx : evalF fr x = v) (hy : evalF fr y = u) (h1 : ∀ u ∈ ys, u.oneCell' = true) (hb : (n + k) * ie.bytes ≤ 140737488355328) (hk : n + k ≤ maxLen)
    (h : ∀ v' m', HP m' (l.set i (.sl v' E 1 (n + k) (xs ++ ys))) → Le m m' → K v' m') : AOp P (gen W) o fr m K :=
  a_append hT hi3 hz hs hz1 (by omega) (H.sl i hi) hu ho hx hy h1 hb hk fun v' m' h1 h2 => h v' m' (H.app i hi h2 h1) h2.le
theorem h_makeV {T E : TypeId} {ie : TypeInfo} {z : Value} (hT : P.underlying T = some (.slice E)) (hi3 : P.info? E = some ie) (hz : ie.zero = some z) (hz1 : z.cells = #[z]) (hs : ie.size = 1) {l : List Ent} {x y : Operand} {kl kc : IntKind} {n : Int} (k : Nat) {K : Value → Mem → Prop} (H : HP m l) (ho : o.op = .makeSlice T x y) (hx : evalF fr x = .int kl n) (hy : evalF fr y = .int kc n) (hn : n = k) (hk : k ≤ 1000000) (hb : ie.bytes ≤ 1000)
    (h : ∀ v' m', HP m' (.sl v' E 1 k (List.replicate k z) :: l) → Le m m' → K v' m') : AOp P (gen W) o fr m K := fun w hw => by
  have hfree : m.free w.heap.size := ⟨Conc.fresh hw, Conc.freshO hw⟩
  have hbb : (ie.bytes : Int) * n ≤ 281474976710656 := by
    have : ie.bytes * k ≤ 1000 * 1000000 := Nat.mul_le_mul hb hk
    have h2 : ((ie.bytes * k : Nat) : Int) ≤ ((1000 * 1000000 : Nat) : Int) := Int.ofNat_le.2 this
    have e2 : ((ie.bytes * k : Nat) : Int) = (ie.bytes : Int) * k := by simp
    rw [hn]; omega
  have hr := run_make (P := P) w T E ie z hT hi3 hz kl kc n n (by omega) (Int.le_refl _) hbb (by omega)
  have hx2 : execOp (evalF fr) o = (do pure (.value (← Instr.makeSlice T (.int kl n) (.int kc n)))) := by
    simp [execOp, ho, hx, hy]
  rw [hx2]
  simp only [Sem.run_bind, hr, Result.andThen_ok, Sem.run_pure]
  have hcells : (madeCells z.cells (n.toNat * ie.size)).toList = List.replicate k z := by
    rw [hs, Nat.mul_one, show n.toNat = k by omega, hz1]
    simp only [madeCells, Array.toList_map, Array.toList_range]
    rw [List.eq_replicate_iff]
    refine ⟨by simp, fun b hb => ?_⟩
    obtain ⟨j, _, rfl⟩ := List.mem_map.1 hb
    simp [Nat.mod_one]
  have hc := Conc.alloc hw (madeCells z.cells (n.toNat * ie.size)) E
  have e : m.put w.heap.size ⟨(madeCells z.cells (n.toNat * ie.size)).toList, E, (madeCells z.cells (n.toNat * ie.size)).size⟩ = m.put w.heap.size ⟨List.replicate k z, E, k⟩ := by
    rw [hcells, size_madeCells, hs, Nat.mul_one, show n.toNat = k by omega]
  rw [e] at hc
  refine ⟨_, hc.1, hc.2.1, h _ _ ((H.keep (Keep.put hfree.1 _)).cons (p := .sl (.slice (some ⟨w.heap.size, 0, Option.none⟩) n.toNat n.toNat) E 1 k (List.replicate k z)) ⟨by simp, .inr ⟨_, k, by rw [show n.toNat = k by omega], Nat.le_refl _, by unfold maxLen; omega, by rw [Mem.put_at]; simp⟩⟩ fun q hq B hB hqB => ?_) (Le.put hfree.1 _)⟩
  obtain rfl : w.heap.size = B := by simpa [Ent.blk, blkOf] using hB
  exact Ent.known (H.ok q hq) hqB hfree
/-! ### variables that hold nothing known yet -/
theorem awp_less {r : Option Nat} {n : Nat} {c : Code} {Q : Post} {m0 : Mem} (hl : Le m0 m) (hf : ∀ B, m.free B → m0.free B) (h : AWp P C r n c Q fr m0) : AWp P C r n c Q fr m := fun mS w0 a w ha => by
  obtain ⟨D, h1, h2⟩ := ha.fr
  exact h mS w0 a w ⟨⟨D, h1, ⟨fun x hx => by obtain ⟨g1, g2, g3⟩ := h2.marks x hx; exact ⟨g1, g2, hf _ g3⟩, fun l e => by obtain ⟨L, g1, g2⟩ := h2.rnd l e; exact ⟨L, g1, hf _ g2⟩, h2.nil⟩⟩, C.forget ha.c hl, ⟨ha.frm.size, fun B hB hfr => ⟨hf _ (ha.frm.old B hB hfr).1, (ha.frm.old B hB hfr).2⟩⟩⟩
theorem store1x {w : World} {B k : Nat} {b : Blk} {u : Value} (hw : Conc W m w) (hB : m B = some b) (hk : k = b.cells.length) (hkb : k < b.size) (h1 : u.oneCell' = true) :
    (store ⟨B, k, Option.none⟩ u).run P w = .ok () (w.setCell ⟨B, k, Option.none⟩ u) ∧ Conc W (m.put B { b with cells := b.cells ++ [u] }) (w.setCell ⟨B, k, Option.none⟩ u) ∧ Frm m w (m.put B { b with cells := b.cells ++ [u] }) (w.setCell ⟨B, k, Option.none⟩ u) := by
  obtain ⟨g1, cur, g2, g3, g4⟩ := Conc.blk hw B b hB
  have hkc : k < cur.size := by omega
  have hcell : w.cell? ⟨B, k, Option.none⟩ = some cur[k] := by simp [World.cell?, g2, hkc]
  have hfz : w.frozen? ⟨B, k, Option.none⟩ = false := by simp [World.frozen?, g2]
  refine ⟨by rw [run_store P w _ u .plain h1, hcell]; simp [hfz], ?_⟩
  have key := Conc.setRow hw hB (cur.setIfInBounds k u) (by simpa using g3) (b.cells ++ [u]) ?_
  · rw [setCell_row g2]; exact key
  simp only [List.length_append, List.length_singleton, Array.toList_setIfInBounds]
  rw [← hk] at g4 ⊢
  rw [List.take_succ_eq_append_getElem (by simpa using hkc), List.take_set_of_le (Nat.le_refl _), g4]
  simp
theorem storeNx {B : Nat} : ∀ (us : List Value) (w : World) (m : Mem) (b : Blk) (k i : Nat), Conc W m w → m B = some b → k + i = b.cells.length → k + i + us.length ≤ b.size → (∀ u ∈ us, u.oneCell' = true) →
    ∃ w', (storeCells ⟨B, k, Option.none⟩ us i).run P w = .ok () w' ∧ Conc W (m.put B { b with cells := b.cells ++ us }) w' ∧ Frm m w (m.put B { b with cells := b.cells ++ us }) w'
  | [], w, m, b, k, i, hw, hB, _, _, _ => by
    have : m.put B { b with cells := b.cells ++ [] } = m := by
      cases m with
      | mk mg mo =>
        unfold Mem.put; congr 1; funext j; dsimp only; split
        · rename_i e; subst e; rw [List.append_nil]; exact hB.symm
        · rfl
    rw [this]
    exact ⟨w, by simp [storeCells], hw, Frm.refl _ _⟩
  | u :: us, w, m, b, k, i, hw, hB, hk, hs, h1 => by
    simp only [List.length_cons] at hs
    obtain ⟨r1, c1, f1⟩ := store1x (P := P) (u := u) (k := k + i) hw hB hk (by omega) (h1 u (by simp))
    obtain ⟨w', r2, c2, f2⟩ := storeNx us _ _ { b with cells := b.cells ++ [u] } k (i + 1) c1 (Mem.put_at _ _ _) (by simp; omega) (by simp; omega) (fun x hx => h1 x (by simp [hx]))
    rw [Mem.put_put] at c2 f2
    simp only [List.append_assoc, List.singleton_append] at c2 f2
    refine ⟨w', ?_, c2, f1.trans f2⟩
    simp only [storeCells, addr_add, Sem.run_bind, r1, Result.andThen_ok, r2]
/-- A variable of which nothing was known is stored: what was known stays known. -/
theorem h_setVarX {T T' : TypeId} {inf : TypeInfo} {x y : Operand} {l : List Ent} (i : Nat) {B n : Nat} {us : List Value} {K : Value → Mem → Prop} (hT : P.info? T = some inf) (hs : inf.size = us.length) (H : HP m l) (hi : l[i]? = some (.box B ⟨[], T', n⟩)) (hn : n = us.length)
    (ho : o.op = .store T x y) (hx : evalF fr x = .pointer (some ⟨B, 0, Option.none⟩)) (hy : evalF fr y = .agg us.toArray) (h1 : us.all (·.oneCell') = true)
    (h : ∀ m', HP m' (l.set i (.vs T' B us)) → Le m m' → K undef m') : AOp P (gen W) o fr m K := fun w hw => by
  subst hn
  have hB := H.box i hi
  obtain ⟨w', r, c, f⟩ := storeNx (P := P) us w m ⟨[], T', us.length⟩ 0 0 hw hB rfl (by simp) (fun u hu => List.all_eq_true.1 h1 u hu)
  have hr : (execOp (evalF fr) o).run P w = .ok .skip w' := by
    simp [execOp, ho, hx, hy, Instr.storeAt, Instr.sureAddr, storeVar, sizeOf, typeInfo, hT, hs, Value.cells, r]
  rw [hr]
  simp only [List.nil_append] at c f
  have hput := H.setBox i (b := ⟨[], T', us.length⟩) ⟨us, T', us.length⟩ hi
  refine ⟨_, c, f, h _ hput ⟨fun B' b' hb' => ?_, fun B' o' ho' => ho'⟩⟩
  by_cases e : B' = B
  · subst e
    rw [hB] at hb'
    obtain rfl := Option.some.inj hb'
    exact ⟨us, by rw [Mem.put_at]; simp⟩
  · exact ⟨[], by simp [Mem.put, e, hb']⟩
/-- What is known of a variable is forgotten. -/
theorem HP.blank {l : List Ent} (H : HP m l) (i : Nat) {B : Nat} {T : TypeId} {cs : List Value} (hi : l[i]? = some (.vs T B cs)) : ∃ m0, HP m0 (l.set i (.box B ⟨[], T, cs.length⟩)) ∧ Le m0 m ∧ ∀ B', m.free B' → m0.free B' := by
  have hB := H.box i hi
  refine ⟨_, H.setBox i (b := ⟨cs, T, cs.length⟩) ⟨[], T, cs.length⟩ hi, ⟨fun B' b' hb' => ?_, fun B' o' ho' => ho'⟩, fun B' hf => ?_⟩
  · by_cases e : B' = B
    · subst e
      rw [Mem.put_at] at hb'
      obtain rfl := Option.some.inj hb'
      exact ⟨cs, by rw [hB]; simp⟩
    · have hb2 : m B' = some b' := by simpa [Mem.put, e] using hb'
      exact ⟨[], by rw [hb2]; simp⟩
  · have e : B' ≠ B := fun e => by have := hf.1; rw [e, hB] at this; cases this
    exact ⟨by simp [Mem.put, e]; exact hf.1, hf.2⟩
end mem
section draw
variable {P : Program} {W : World} {C : Cls W} {r : Option Nat} {n : Nat} {Q : Post} {fr : Fr} {m : Mem} {ops : Array Oper}
theorem adr_uL {i : Nat} {o : Oper} {rs : List (Nat × Bool)} (ho : ops[i]? = some o) (hd : o.dst = none) (hw : Region.wanted o (yieldedF ops fr) = true) (h : AOp P C o fr m (fun _ m' => Le m m' ∧ ADr P C r n ops Q rs fr m')) :
    ADr P C r n ops Q ((i, false) :: rs) fr m := ⟨o, ho, hw, h.mono fun v m' hk => ⟨.inl hk.1, by rw [hd]; exact hk.2⟩⟩
end draw
end Go.Abs
