import Derived.Test.YtjepofehaphcnaaAbsStruct
set_option linter.unusedSectionVars false
set_option linter.unusedSimpArgs false
set_option linter.unusedVariables false
/-! Abs: the call's own memory as one list of entries, no two in one block: slices, boxes (blocks of cells), objects. -/
namespace Go.Abs
open Go Go.RowKit
inductive Ent where
  | sl (v : Value) (e : TypeId) (s n : Nat) (xs : List Value)
  | box (B : Nat) (b : Blk)
  | obj (B : Nat) (o : Obj)
def Ent.blk : Ent → Option Nat
  | .sl v _ _ _ _ => blkOf v
  | .box B _ => some B
  | .obj B _ => some B
def Ent.ok (m : Mem) : Ent → Prop
  | .sl v e s n xs => OWN m e s v n xs
  | .box B b => m B = some b
  | .obj B o => m.obj B = some o
/-- A slice of ints. -/
abbrev Ent.i (I : TypeId) (v : Value) (zs : List Int) : Ent := .sl v I 1 zs.length (i64s zs)
def apartE (p q : Ent) : Prop := ∀ B, p.blk = some B → q.blk ≠ some B
structure HP (m : Mem) (l : List Ent) : Prop where
  ok : ∀ p ∈ l, p.ok m
  apart : l.Pairwise apartE
theorem HP.nil (m : Mem) : HP m [] := ⟨fun _ h => (by cases h), List.Pairwise.nil⟩
theorem Ent.known {m : Mem} {p : Ent} (h : p.ok m) {B : Nat} (hB : p.blk = some B) : ¬ m.free B := by
  intro hf
  cases p with
  | sl v e s n xs => obtain ⟨b, hb⟩ := OWN.blk h hB; rw [hf.1] at hb; cases hb
  | box B' b => obtain rfl : B' = B := by simpa [Ent.blk] using hB
                have h : m B' = some b := h
                rw [hf.1] at h; cases h
  | obj B' o => obtain rfl : B' = B := by simpa [Ent.blk] using hB
                have h : m.obj B' = some o := h
                rw [hf.2] at h; cases h
theorem HP.sl {m : Mem} {l : List Ent} (h : HP m l) (i : Nat) {v : Value} {e : TypeId} {s n : Nat} {xs : List Value} (hi : l[i]? = some (.sl v e s n xs)) : OWN m e s v n xs := h.ok _ (List.mem_of_getElem? hi)
theorem HP.box {m : Mem} {l : List Ent} (h : HP m l) (i : Nat) {B : Nat} {b : Blk} (hi : l[i]? = some (.box B b)) : m B = some b := h.ok _ (List.mem_of_getElem? hi)
theorem HP.obj {m : Mem} {l : List Ent} (h : HP m l) (i : Nat) {B : Nat} {o : Obj} (hi : l[i]? = some (.obj B o)) : m.obj B = some o := h.ok _ (List.mem_of_getElem? hi)
theorem Ent.keep {m m' : Mem} {p : Ent} (h : p.ok m) (k : Keep m m') : p.ok m' := by
  cases p with
  | sl v e s n xs => exact k.own h
  | box B b => exact k.get _ _ h
  | obj B o => exact k.obj _ _ h
theorem HP.keep {m m' : Mem} {l : List Ent} (h : HP m l) (k : Keep m m') : HP m' l := ⟨fun p hp => Ent.keep (h.ok p hp) k, h.apart⟩
/-- Fewer entries. -/
theorem HP.sub {m : Mem} {l l' : List Ent} (h : HP m l) (hs : l'.Sublist l) : HP m l' := ⟨fun p hp => h.ok p (hs.subset hp), h.apart.sublist hs⟩
theorem HP.drop {m : Mem} {l : List Ent} (h : HP m l) (i : Nat) : HP m (l.eraseIdx i) := h.sub (List.eraseIdx_sublist l i)
/-- One more, in a block that was free. -/
theorem HP.cons {m : Mem} {p : Ent} {l : List Ent} (h : HP m l) (hp : p.ok m) (ha : ∀ q ∈ l, apartE p q) : HP m (p :: l) := ⟨fun q hq => by
  rcases List.mem_cons.1 hq with rfl | hq
  · exact hp
  · exact h.ok q hq, List.pairwise_cons.2 ⟨ha, h.apart⟩⟩
/-- A block that is known in the one memory is free in the other. -/
def SepA (m m2 : Mem) : Prop := ∀ B, ¬ m.free B → m2.free B
theorem Conc.sepA {W : World} {m m2 : Mem} {w w' : World} (h : Conc W m w) (h2 : Conc w m2 w') : SepA m m2 := fun B hB => by
  have hlt : B < w.heap.size := by
    cases e : m B with
    | some b => exact h.lt e
    | none =>
      cases e2 : m.obj B with
      | some o => exact h.ltO e2
      | none => exact absurd ⟨e, e2⟩ hB
  refine ⟨?_, ?_⟩
  · cases e : m2 B with
    | none => rfl
    | some b => have := h2.ge e; omega
  · cases e : m2.obj B with
    | none => rfl
    | some o => have := (h2.obj B _ e).1; omega
theorem SepA.keep {m m2 : Mem} (h : SepA m m2) : Keep m (m.union m2) := ⟨fun B b hb => by
    have := (h B (fun hf => by rw [hf.1] at hb; cases hb)).1
    simp [Mem.union, this, hb], fun B b hb => by
    have := (h B (fun hf => by rw [hf.2] at hb; cases hb)).2
    simp [Mem.union, this, hb]⟩
theorem Keep.unionR (m m2 : Mem) : Keep m2 (m.union m2) := ⟨fun B b hb => by simp [Mem.union, hb], fun B b hb => by simp [Mem.union, hb]⟩
/-- What a callee has made is apart from what is known. -/
theorem HP.calls {m m2 : Mem} {l l2 : List Ent} (h : HP m l) (hs : SepA m m2) (h2 : HP m2 l2) : HP (m.union m2) (l2 ++ l) := by
  refine ⟨fun p hp => ?_, List.pairwise_append.2 ⟨h2.apart, h.apart, fun p hp q hq B h1 h3 => ?_⟩⟩
  · rcases List.mem_append.1 hp with hp | hp
    · exact Ent.keep (h2.ok p hp) (Keep.unionR m m2)
    · exact Ent.keep (h.ok p hp) hs.keep
  · exact Ent.known (h2.ok p hp) h1 (hs B (Ent.known (h.ok q hq) h3))
theorem HP.call {m m2 : Mem} {l : List Ent} {p : Ent} (h : HP m l) (hs : SepA m m2) (h2 : p.ok m2) : HP (m.union m2) (p :: l) :=
  h.calls hs (⟨fun q hq => by obtain rfl : q = p := by simpa using hq
                              exact h2, List.pairwise_singleton _ _⟩ : HP m2 [p])
theorem HP.callOnly {m m2 : Mem} {l : List Ent} (h : HP m l) (hs : SepA m m2) : HP (m.union m2) l := h.keep hs.keep
theorem getElem?_split {α : Type} {l : List α} {i : Nat} {a : α} (h : l[i]? = some a) : ∃ l1 l2, l = l1 ++ a :: l2 ∧ l1.length = i := by
  obtain ⟨h1, h2⟩ := List.getElem?_eq_some_iff.1 h
  refine ⟨l.take i, l.drop (i + 1), ?_, by simp; omega⟩
  rw [← h2]
  exact (List.take_append_drop i l).symm.trans (by rw [List.drop_eq_getElem_cons h1])
/-- Entry i turns into another one; what is known of the other blocks stays. -/
theorem HP.turn {m m' : Mem} {l : List Ent} (h : HP m l) (i : Nat) {p p' : Ent} (hi : l[i]? = some p) (hp : p'.ok m')
    (hk : ∀ q : Ent, (∀ B, q.blk = some B → p.blk ≠ some B) → q.ok m → q.ok m') (hf : ∀ B, p'.blk = some B → p.blk = some B ∨ m.free B) : HP m' (l.set i p') := by
  obtain ⟨l1, l2, rfl, rfl⟩ := getElem?_split hi
  rw [List.set_append_right _ _ (Nat.le_refl _), Nat.sub_self, List.set_cons_zero]
  have hap := List.pairwise_append.1 h.apart
  have hap2 := List.pairwise_cons.1 hap.2.1
  have h1 : ∀ q ∈ l1, ∀ B, q.blk = some B → p.blk ≠ some B := fun q hq B hB => hap.2.2 q hq p (List.mem_cons_self ..) B hB
  have h2 : ∀ q ∈ l2, ∀ B, q.blk = some B → p.blk ≠ some B := fun q hq B hB hpB => hap2.1 q hq B hpB hB
  have ok1 : ∀ q ∈ l1, q.ok m := fun q hq => h.ok q (List.mem_append_left _ hq)
  have ok2 : ∀ q ∈ l2, q.ok m := fun q hq => h.ok q (List.mem_append_right _ (List.mem_cons_of_mem _ hq))
  refine ⟨fun q hq => ?_, List.pairwise_append.2 ⟨hap.1, List.pairwise_cons.2 ⟨fun q hq B hB hqB => ?_, hap2.2⟩, fun q hq r hr => ?_⟩⟩
  · rcases List.mem_append.1 hq with hq | hq
    · exact hk q (h1 q hq) (ok1 q hq)
    · rcases List.mem_cons.1 hq with rfl | hq
      · exact hp
      · exact hk q (h2 q hq) (ok2 q hq)
  · rcases hf B hB with h3 | h3
    · exact h2 q hq B hqB h3
    · exact Ent.known (ok2 q hq) hqB h3
  · rcases List.mem_cons.1 hr with rfl | hr
    · intro B hqB hB
      rcases hf B hB with h3 | h3
      · exact h1 q hq B hqB h3
      · exact Ent.known (ok1 q hq) hqB h3
    · exact hap.2.2 q hq r (List.mem_cons_of_mem _ hr)
theorem HP.app {m m' : Mem} {l : List Ent} (h : HP m l) (i : Nat) {v v' : Value} {e : TypeId} {s n n' : Nat} {xs xs' : List Value} (hi : l[i]? = some (.sl v e s n xs)) (ha : AppTo m v m' v') (hv : OWN m' e s v' n' xs') :
    HP m' (l.set i (.sl v' e s n' xs')) := by
  refine h.turn i hi hv (fun q hq hok => ?_) (fun B hB => ?_)
  · cases q with
    | sl vq eq sq nq xq => exact OWN.keepNe ha.keep hok hq
    | box B b => exact ha.keep B b (fun hB => hq B rfl hB) hok
    | obj B o => exact ha.le.obj B o hok
  · rcases ha.fresh B hB with h1 | h1
    · exact .inl h1
    · rcases ha.freshO B hB with h2 | h2
      · exact .inl h2
      · exact .inr ⟨h1, h2⟩
/-- A store into entry i. -/
theorem HP.store {m m' : Mem} {l : List Ent} (h : HP m l) (i : Nat) {v : Value} {e : TypeId} {s n : Nat} {xs xs' : List Value} (hi : l[i]? = some (.sl v e s n xs)) (hv : OWN m' e s v n xs')
    (hk : ∀ B b, blkOf v ≠ some B → m B = some b → m' B = some b) (ho : ∀ B o, m.obj B = some o → m'.obj B = some o) : HP m' (l.set i (.sl v e s n xs')) := by
  refine h.turn i hi hv (fun q hq hok => ?_) (fun B hB => .inl hB)
  cases q with
  | sl vq eq sq nq xq => exact OWN.keepNe hk hok hq
  | box B b => exact hk B b (fun hB => hq B rfl hB) hok
  | obj B o => exact ho B o hok
theorem set_at_self {α : Type} {l : List α} {i : Nat} {a : α} (h : l[i]? = some a) : l.set i a = l := by
  obtain ⟨h1, h2⟩ := List.getElem?_eq_some_iff.1 h
  subst h2; exact List.set_getElem_self h1
section ops
variable {P : Program} {W : World} {C : Cls W} {o : Oper} {fr : Fr} {m : Mem} {I S : TypeId}
theorem h_call {f : FuncId} {xs : Array Operand} {ts : Array TypeId} {args : Array Value} {R : Value → Mem → Prop} {K : Value → Mem → Prop} (hf : Fun P f) (hc : ∀ w, Conc W m w → ACalls P (gen w) f args Mem.none R)
    (ho : o.op = .call { callee := .value (.func f), args := xs, argTypes := ts }) (hx : xs.toList.map (evalF fr) = args.toList)
    (h : ∀ v m2, R v m2 → SepA m m2 → K v (m.union m2)) : AOp P (gen W) o fr m K := fun w hw => by
  rw [calls_op hf ho hx]
  refine (hc w hw w (Conc.start w)).mono fun e w' ⟨v, m2, h1, h2, _, h3⟩ => ?_
  have hu := Conc.union hw h2
  exact ⟨v, _, h1, hu.1, Conc.frmU h2, h v m2 h3 (Conc.sepA hw h2)⟩
theorem fill_ints {z : Array Value} : ∀ (zs : List Int) (k : Nat) (els : List (Nat × Value)), z.size = k + zs.length → els = (zs.zipIdx k).map (fun x => (x.2, Value.int .i64 x.1)) →
    ∀ z', z'.size = z.size → Instr.fill (fun i => some (i * 1, 1)) z' els = some (over z' k (i64s zs))
  | [], k, els, _, he, z', _ => by subst he; simp [Instr.fill, i64s, over]
  | y :: zs, k, els, hz, he, z', hz' => by
    subst he
    simp only [List.zipIdx_cons, List.map_cons]
    rw [fill_cons (off := k) (size := 1) (by simp) rfl (by simp at hz; omega)]
    have := fill_ints (z := z) zs (k + 1) _ (by simp at hz; omega) rfl (over z' k [Value.int .i64 y]) (by rw [over_size]; exact hz')
    rw [show (Value.int .i64 y).cells.toList = [Value.int .i64 y] from rfl, this]
    rfl
theorem HP.own {m m' : Mem} {l : List Ent} {v : Value} {e : TypeId} {s n : Nat} {xs : List Value} (h : HP m l) (hk : Keep m m') (hv : OWN m' e s v n xs) (hf : ∀ B, blkOf v = some B → m.free B) : HP m' (.sl v e s n xs :: l) :=
  (h.keep hk).cons hv fun q hq B hB hqB => Ent.known (h.ok q hq) hqB (hf B hB)
/-- Values of one cell written out as a slice. -/
theorem h_buildS {T e : TypeId} {i : TypeInfo} {z : Value} {n : Nat} {parts : Array (Nat × Operand)} {cs : Array Value} {l : List Ent} {K : Value → Mem → Prop}
    (hT : P.underlying T = some (.slice e)) (hi : P.info? e = some i) (hz : i.zero = some z) (hs : i.size = 1) (H : HP m l) (ho : o.op = .buildSlice T n parts) (hn : n ≤ 16777216)
    (hf0 : ∀ z0 : Array Value, Instr.fill (fun j => some (j * 1, 1)) ((Array.range (n * 1)).map (fun j => z0[j % z0.size]!)) (parts.toList.map fun (j, x) => (j, evalF fr x)) = some cs) (hcs : cs.size = n)
    (h : ∀ v m', HP m' (.sl v e 1 n cs.toList :: l) → Le m m' → K v m') : AOp P (gen W) o fr m K := fun w hw => by
  have hf : ∀ z0 : Array Value, Instr.fill (fun j => some (j * 1, 1)) ((Array.range (n * 1)).map (fun j => z0[j % z0.size]!)) (parts.map fun (j, x) => (j, evalF fr x)).toList = some cs := fun z0 => by
    rw [Array.toList_map]; exact hf0 z0
  have hr : (execOp (evalF fr) o).run P w = .ok (.value (.slice (some ⟨w.heap.size, 0, Option.none⟩) n n)) (w.alloc (.cells cs e)) := by
    by_cases h0 : n = 0
    · subst h0
      have h1 := hf #[]
      simp [execOp, ho, Instr.buildSlice, run_underlying hT, sizeOf, typeInfo, hi, hs] at h1 ⊢
      simp [h1, newRow]
    · have h1 := hf z.cells
      simp [execOp, ho, Instr.buildSlice, run_underlying hT, sizeOf, typeInfo, hi, hs, h0, zeroValue, hz, show ¬ 16777216 < n by omega] at h1 ⊢
      simp [h1, newRow]
  rw [hr]
  have := Conc.alloc hw cs e
  refine ⟨_, this.1, this.2.1, h _ _ (H.own (Keep.put (Conc.fresh hw) _) ⟨by simp [hcs], .inr ⟨w.heap.size, n, rfl, Nat.le_refl _, by unfold maxLen; omega, by rw [Mem.put_at]; simp [hcs]⟩⟩ fun B hB => ?_) (Le.put (Conc.fresh hw) _)⟩
  obtain rfl : w.heap.size = B := by simpa [blkOf] using hB
  exact ⟨Conc.fresh hw, Conc.freshO hw⟩
/-- Ints written out as a slice. -/
theorem h_buildI (t : IntT P I S) {l : List Ent} {els : Array (Nat × Operand)} {k : Nat} (zs : List Int) {K : Value → Mem → Prop} (H : HP m l) (ho : o.op = .buildSlice S k els) (hx : els.toList.map (fun (j, x) => (j, evalF fr x)) = (zs.zipIdx 0).map (fun x => (x.2, Value.int .i64 x.1))) (hk : zs.length = k) (hm : k ≤ 1000000)
    (h : ∀ v' m', HP m' (.i I v' zs :: l) → Le m m' → K v' m') : AOp P (gen W) o fr m K := by
  obtain ⟨i3, hi, hz, hs, _⟩ := t.info
  refine h_buildS (cs := (i64s zs).toArray) t.slice hi hz hs H ho (by omega) (fun z0 => ?_) (by simp [hk]) (fun v m' h2 h3 => h v m' (by rw [← hk] at h2; exact h2) h3)
  rw [fill_ints (z := (Array.range (k * 1)).map (fun j => z0[j % z0.size]!)) zs 0 _ (by simp [hk]) hx _ rfl, over_all _ _ (by simp [hk])]
/-- append of a slice of ints to entry i. -/
theorem h_appI (t : IntT P I S) {l : List Ent} (i : Nat) {x y : Operand} {v u : Value} {n k : Nat} {xs ys : List Int} {K : Value → Mem → Prop} (H : HP m l) (hi : l[i]? = some (.sl v I 1 n (i64s xs)))
    (hu : SL W m 1 u k (i64s ys)) (ho : o.op = .call { callee := .builtin .append, args := #[x, y], argTypes := #[S, S] }) (hx : evalF fr x = v) (hy : evalF fr y = u)
    (hb : n + k ≤ 17592186044416) (h : ∀ v' m', HP m' (l.set i (.i I v' (xs ++ ys))) → Le m m' → K v' m') : AOp P (gen W) o fr m K :=
  a_appI t (H.sl i hi) hu ho hx hy hb fun v' m' h1 h2 => h v' m' (by
    have h3 := H.app i hi h2 h1
    have hl : n + k = (xs ++ ys).length := by have := h1.1; simp at this ⊢; omega
    rwa [hl] at h3) h2.le
/-- A store into entry i. -/
theorem h_setI (t : IntT P I S) {l : List Ent} (i : Nat) {x y : Operand} {v : Value} {n j : Nat} {xs : List Int} {u : Int} {K : Value → Mem → Prop} (H : HP m l) (hi : l[i]? = some (.sl v I 1 n (i64s xs)))
    (ho : o.op = .store I x y) (hx : evalF fr x = ptrAt v j) (hy : evalF fr y = .int .i64 u) (hj : j < n)
    (h : ∀ m', HP m' (l.set i (.sl v I 1 n (i64s (xs.set j u)))) → K undef m') : AOp P (gen W) o fr m K := by
  obtain ⟨i3, hi3, hz, hs, hby⟩ := t.info
  have hv := H.sl i hi
  obtain ⟨hl, hv⟩ := hv
  rcases hv with ⟨_, h0⟩ | ⟨B, cap, rfl, h1, h2, h3⟩
  · omega
  · have hp : ptrAt (.slice (some ⟨B, 0, Option.none⟩) n cap) j = .pointer (some ⟨B, j, Option.none⟩) := by unfold ptrAt; dsimp only; rw [addr_add, Nat.zero_add]
    refine a_store hi3 hs ho (hx.trans hp) hy rfl h3 (by simp at hl ⊢; omega) (h _ (H.store i hi ⟨by simpa using hl, .inr ⟨B, cap, rfl, h1, h2, ?_⟩⟩ (fun B' b hne hb => ?_) fun B o ho => ho))
    · rw [Mem.put_at]; simp [i64s, List.map_set]
    · have : B' ≠ B := fun e => hne (by rw [e]; rfl)
      simp [Mem.put, this, hb]
/-- A slice of the call's own cut to its first elements. -/
theorem OWN.cut {m : Mem} {e : TypeId} {s n k : Nat} {a : Option Addr} {cap : Nat} {xs : List Value} (h : OWN m e s (.slice a n cap) n xs) (hk : k ≤ n) : ∃ m', Le m' m ∧ OWN m' e s (.slice a k cap) k (xs.take (k * s)) ∧ (∀ B b, a.map (·.block) ≠ some B → m B = some b → m' B = some b) ∧ (∀ B o, m.obj B = some o → m'.obj B = some o) := by
  rcases h.2 with ⟨h1, h2⟩ | ⟨B, c, h1, h2, h3, h4⟩
  · injection h1 with e1 e2 e3
    subst e1 e3
    obtain rfl : k = 0 := by omega
    exact ⟨m, Le.refl _, ⟨by simp, .inl ⟨rfl, rfl⟩⟩, fun _ _ _ h => h, fun _ _ h => h⟩
  · injection h1 with e1 e2 e3
    subst e1 e3
    refine ⟨m.put B ⟨xs.take (k * s), e, cap * s⟩, ⟨fun B' b hb => ?_, fun _ _ h => h⟩, ⟨by have hl := h.1; have : k * s ≤ n * s := Nat.mul_le_mul_right _ hk; simp; omega, .inr ⟨B, cap, rfl, by omega, h3, Mem.put_at _ _ _⟩⟩, fun B' b hne hb => ?_, fun _ _ h => h⟩
    · simp only [Mem.put] at hb
      split at hb
      · rename_i e1
        subst e1
        obtain rfl := Option.some.inj hb
        exact ⟨xs.drop (k * s), by rw [h4]; simp⟩
      · exact ⟨[], by rw [hb]; simp⟩
    · have : B' ≠ B := fun e => hne (by rw [e]; rfl)
      simp [Mem.put, this, hb]
/-! ### x[lo:hi] -/
@[irreducible] def cutV (v : Value) (s lo hi : Nat) : Value := match v with | .slice a _ cap => .slice (if cap = lo then a else a.map (·.add (lo * s))) (hi - lo) (cap - lo) | _ => undef
theorem SL.cut {s : Nat} {v : Value} {n : Nat} {xs : List Value} (h : SL W m s v n xs) {lo hi : Nat} (h1 : lo ≤ hi) (h2 : hi ≤ n) : SL W m s (cutV v s lo hi) (hi - lo) ((xs.drop (lo * s)).take ((hi - lo) * s)) := by
  have hl := h.1
  have hmul : lo * s + (hi - lo) * s = hi * s := by rw [← Nat.add_mul]; congr 1; omega
  have hmul2 : hi * s ≤ n * s := Nat.mul_le_mul_right _ h2
  refine ⟨by simp; omega, ?_⟩
  by_cases h0 : hi - lo = 0
  · obtain ⟨a, cap, rfl, _⟩ := h.value
    left
    refine ⟨h0, ?_⟩
    unfold cutV
    exact ⟨_, _, by rw [h0]⟩
  · rcases h.2 with ⟨hn, _⟩ | ⟨B, off, cap, rfl, g1, g2, g3⟩
    · omega
    · right
      refine ⟨B, off + lo * s, cap - lo, ?_, by omega, by omega, fun j u hu => ?_⟩
      · unfold cutV
        simp only [if_neg (show ¬ cap = lo by omega)]
        simp [addr_add]
      · rw [List.getElem?_take] at hu
        split at hu
        · rw [List.getElem?_drop] at hu
          rw [Nat.add_assoc]
          exact g3 _ u hu
        · cases hu
theorem run_cut {T e : TypeId} {i : TypeInfo} {s n cap : Nat} {a : Option Addr} {lo hi : Nat} {w : World} {l h : Option Value} (hT : P.underlying T = some (.slice e)) (hi3 : P.info? e = some i) (hs : i.size = s)
    (hl : (l = none ∧ lo = 0) ∨ ∃ k, l = some (.int k (lo : Int))) (hh : (h = none ∧ hi = n) ∨ ∃ k, h = some (.int k (hi : Int))) (h1 : lo ≤ hi) (h2 : hi ≤ cap) :
    (Instr.sliceAt T (.slice a n cap) l h none).run P w = .ok (.slice (if cap = lo then a else a.map (·.add (lo * s))) (hi - lo) (cap - lo)) w := by
  subst hs
  rcases hl with ⟨rfl, rfl⟩ | ⟨k, rfl⟩ <;> rcases hh with ⟨rfl, rfl⟩ | ⟨k', rfl⟩
  all_goals (first | (have g1 : (lo : Int) ≤ hi := by omega) | skip)
  all_goals (first | (have g2 : (hi : Int) ≤ cap := by omega) | skip)
  all_goals (first | (have g3 : (lo : Int) ≤ n := by omega) | skip)
  all_goals simp_all [Instr.sliceAt, Instr.slice, run_underlying hT, Instr.sliceBounds, Instr.sliceBound, asIntOf, sizeOf, typeInfo]
theorem q_cut {T e : TypeId} {i : TypeInfo} {x y z : Operand} {k1 k2 : IntKind} {s : Nat} {v : Value} {n lo hi : Nat} {xs : List Value} {il ih : Int} (hT : P.underlying T = some (.slice e)) (hi3 : P.info? e = some i) (hs : i.size = s) (h : SL W m s v n xs)
    (ho : o.op = .slice T x (some y) (some z) none) (hx : evalF fr x = v) (hy : evalF fr y = .int k1 il) (hz : evalF fr z = .int k2 ih) (hl : il = lo) (hh : ih = hi) (h1 : lo ≤ hi) (h2 : hi ≤ n) : QOp P W o fr m (cutV v s lo hi) := q_of_run fun w _ => by
  have hv : ∃ a cap, v = .slice a n cap ∧ n ≤ cap := by
    rcases h.2 with ⟨h0, a, cap, rfl⟩ | ⟨B, off, cap, rfl, g1, _⟩
    · exact ⟨a, cap, by rw [h0], by omega⟩
    · exact ⟨_, cap, rfl, g1⟩
  obtain ⟨a, cap, rfl, hc⟩ := hv
  subst hl hh
  have := run_cut (P := P) (w := w) (a := a) (n := n) (cap := cap) (l := some (.int k1 (lo : Int))) (h := some (.int k2 (hi : Int))) hT hi3 hs (.inr ⟨k1, rfl⟩) (.inr ⟨k2, rfl⟩) h1 (by omega)
  simp [execOp, ho, hx, hy, hz, this, cutV]
theorem q_cutLo {T e : TypeId} {i : TypeInfo} {x y : Operand} {k1 : IntKind} {s : Nat} {v : Value} {n lo : Nat} {xs : List Value} {il : Int} (hT : P.underlying T = some (.slice e)) (hi3 : P.info? e = some i) (hs : i.size = s) (h : SL W m s v n xs)
    (ho : o.op = .slice T x (some y) none none) (hx : evalF fr x = v) (hy : evalF fr y = .int k1 il) (hl : il = lo) (h1 : lo ≤ n) : QOp P W o fr m (cutV v s lo n) := q_of_run fun w _ => by
  have hv : ∃ a cap, v = .slice a n cap ∧ n ≤ cap := by
    rcases h.2 with ⟨h0, a, cap, rfl⟩ | ⟨B, off, cap, rfl, g1, _⟩
    · exact ⟨a, cap, by rw [h0], by omega⟩
    · exact ⟨_, cap, rfl, g1⟩
  obtain ⟨a, cap, rfl, hc⟩ := hv
  subst hl
  have := run_cut (P := P) (w := w) (a := a) (n := n) (cap := cap) (hi := n) (l := some (.int k1 (lo : Int))) (h := none) hT hi3 hs (.inr ⟨k1, rfl⟩) (.inl ⟨rfl, rfl⟩) h1 hc
  simp [execOp, ho, hx, hy, this, cutV]
theorem q_cutHi {T e : TypeId} {i : TypeInfo} {x y : Operand} {k1 : IntKind} {s : Nat} {v : Value} {n hi : Nat} {xs : List Value} {ih : Int} (hT : P.underlying T = some (.slice e)) (hi3 : P.info? e = some i) (hs : i.size = s) (h : SL W m s v n xs)
    (ho : o.op = .slice T x none (some y) none) (hx : evalF fr x = v) (hy : evalF fr y = .int k1 ih) (hl : ih = hi) (h1 : hi ≤ n) : QOp P W o fr m (cutV v s 0 hi) := q_of_run fun w _ => by
  have hv : ∃ a cap, v = .slice a n cap ∧ n ≤ cap := by
    rcases h.2 with ⟨h0, a, cap, rfl⟩ | ⟨B, off, cap, rfl, g1, _⟩
    · exact ⟨a, cap, by rw [h0], by omega⟩
    · exact ⟨_, cap, rfl, g1⟩
  obtain ⟨a, cap, rfl, hc⟩ := hv
  subst hl
  have := run_cut (P := P) (w := w) (a := a) (n := n) (cap := cap) (lo := 0) (l := none) (h := some (.int k1 (hi : Int))) hT hi3 hs (.inl ⟨rfl, rfl⟩) (.inr ⟨k1, rfl⟩) (Nat.zero_le _) (by omega)
  simp [execOp, ho, hx, hy, this, cutV]
/-- A cut of a slice of ints. -/
theorem SL.cutI {v : Value} {n : Nat} {zs : List Int} (h : SL W m 1 v n (i64s zs)) {lo hi : Nat} (h1 : lo ≤ hi) (h2 : hi ≤ n) : SL W m 1 (cutV v 1 lo hi) (hi - lo) (i64s ((zs.drop lo).take (hi - lo))) := by
  have := h.cut h1 h2
  simpa [i64s, List.map_take, List.map_drop] using this
/-! ### shifts by small numbers -/
theorem q_shlN {T yt : TypeId} {x y : Operand} {yk : IntKind} {a b X : Int} (k : Nat) (hX : a * 2 ^ k = X) (ho : o.op = .binOp .shl T x y yt) (hx : evalF fr x = .int .i64 a) (hy : evalF fr y = .int yk b) (hb : b = k) (hk : k ≤ 62)
    (h : -9223372036854775808 ≤ X ∧ X ≤ 9223372036854775807) : QOp P W o fr m (.int .i64 X) := by
  subst hX
  have := q_shl (P := P) (W := W) (m := m) ho hx hy (by omega)
  rwa [show min b.toNat (IntKind.bits .i64) = k by subst hb; show min k 64 = k; omega, IntWalk.i64_in _ h] at this
theorem q_shrN {T yt : TypeId} {x y : Operand} {yk : IntKind} {a : Int} {b : Int} (A k : Nat) {X : Nat} (hX : A / 2 ^ k = X) (ho : o.op = .binOp .shr T x y yt) (hx : evalF fr x = .int .i64 a) (hy : evalF fr y = .int yk b) (ha : a = A) (hb : b = k) (hk : k ≤ 62) :
    QOp P W o fr m (.int .i64 (X : Int)) := by
  subst hX
  have := q_shr (P := P) (W := W) (m := m) ho hx hy (by omega)
  rw [show min b.toNat (IntKind.bits .i64) = k by subst hb; show min k 64 = k; omega, ha] at this
  rw [Int.fdiv_eq_ediv_of_nonneg _ (Int.pow_nonneg (by omega))] at this
  rwa [show ((A / 2 ^ k : Nat) : Int) = (A : Int) / 2 ^ k by simp]
/-- make of ints. -/
theorem h_makeI (t : IntT P I S) {l : List Ent} {x y : Operand} {kl kc : IntKind} {n : Int} (k : Nat) {K : Value → Mem → Prop} (H : HP m l) (ho : o.op = .makeSlice S x y) (hx : evalF fr x = .int kl n) (hy : evalF fr y = .int kc n) (hn : n = k) (hk : k ≤ 1000000)
    (h : ∀ v' m', HP m' (.i I v' (List.replicate k 0) :: l) → Le m m' → K v' m') : AOp P (gen W) o fr m K := fun w hw => by
  obtain ⟨i3, hi, hz, hs, hby⟩ := t.info
  have hA : AOp P (gen W) o fr m (fun v m' => ∃ B, m.free B ∧ v = .slice (some ⟨B, 0, Option.none⟩) k k ∧ m' = m.put B ⟨List.replicate k (.int .i64 0), I, k⟩) := fun w hw => by
    have hfree : m.free w.heap.size := ⟨Conc.fresh hw, Conc.freshO hw⟩
    have := a_make (P := P) (W := W) (m := m) (fr := fr) (o := o) (K := fun v m' => ∀ B, B = w.heap.size → v = .slice (some ⟨B, 0, Option.none⟩) k k → m' = m.put B ⟨List.replicate k (.int .i64 0), I, k⟩ → True) t.slice hi hz hs rfl ho hx hy (by omega) (Int.le_refl _) (by rw [hby]; omega) (by omega) (fun _ _ _ _ _ _ _ => trivial)
    have hr := run_make (P := P) w S I i3 (.int .i64 0) t.slice hi hz kl kc n n (by omega) (Int.le_refl _) (by rw [hby]; omega) (by omega)
    have hx2 : execOp (evalF fr) o = (do pure (.value (← Instr.makeSlice S (.int kl n) (.int kc n)))) := by
      simp [execOp, ho, hx, hy]
    rw [hx2]
    simp only [Sem.run_bind, hr, Result.andThen_ok, Sem.run_pure]
    have hcells : (madeCells (Value.int IntKind.i64 0).cells (n.toNat * i3.size)).toList = List.replicate k (.int .i64 0) := by
      rw [hs, Nat.mul_one, show n.toNat = k by omega]
      simp only [madeCells, Array.toList_map, Array.toList_range]
      rw [List.eq_replicate_iff]
      refine ⟨by simp, fun b hb => ?_⟩
      obtain ⟨j, _, rfl⟩ := List.mem_map.1 hb
      simp [Value.cells, Nat.mod_one]
    have hc := Conc.alloc hw (madeCells (Value.int IntKind.i64 0).cells (n.toNat * i3.size)) I
    have e : m.put w.heap.size ⟨(madeCells (Value.int IntKind.i64 0).cells (n.toNat * i3.size)).toList, I, (madeCells (Value.int IntKind.i64 0).cells (n.toNat * i3.size)).size⟩ = m.put w.heap.size ⟨List.replicate k (.int .i64 0), I, k⟩ := by
      rw [hcells, size_madeCells, hs, Nat.mul_one, show n.toNat = k by omega]
    rw [e] at hc
    exact ⟨_, hc.1, hc.2.1, w.heap.size, hfree, by rw [show n.toNat = k by omega], rfl⟩
  refine OpRes.mono ?_ (hA w hw)
  rintro v m' ⟨B, hB, rfl, rfl⟩
  refine h _ _ (H.own (Keep.put hB.1 _) ⟨by simp, .inr ⟨B, k, by simp, by simp, by unfold maxLen; omega, ?_⟩⟩ fun B' hB' => ?_) (Le.put hB.1 _)
  · rw [Mem.put_at]; simp [i64s]
  · obtain rfl : B = B' := by simpa [blkOf] using hB'
    exact hB
end ops
end Go.Abs
