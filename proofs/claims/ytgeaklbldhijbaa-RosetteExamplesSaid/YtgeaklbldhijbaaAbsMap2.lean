import Derived.Test.YtgeaklbldhijbaaAbsMap
import Derived.Test.YtgeaklbldhijbaaAbsStruct
set_option linter.unusedSectionVars false
set_option linter.unusedSimpArgs false
set_option linter.unusedVariables false
/-! Abs: maps of the call's own with keys of any kind that Go compares; ranges over them. -/
namespace Go.Abs
open Go Go.RowKit
structure KX (κ : Type) where
  k : κ
  v : Value
  b : Nat
section keys
variable {κ : Type} [DecidableEq κ]
def KX.e (enc : κ → Value) (x : KX κ) : MapEntry := { key := enc x.k, val := x.v, born := x.b }
def kvx (enc : κ → Value) (l : List (KX κ)) : Array MapEntry := (l.map (KX.e enc)).toArray
def getX : List (KX κ) → κ → Option Value
  | [], _ => none
  | e :: l, x => if e.k = x then some e.v else getX l x
def putX : List (KX κ) → κ → Value → Nat → List (KX κ)
  | [], x, v, c => [⟨x, v, c⟩]
  | e :: l, x, v, c => if e.k = x then ⟨x, v, e.b⟩ :: l else e :: putX l x v c
def clockX (l : List (KX κ)) (x : κ) (c : Nat) : Nat := if (getX l x).isSome then c else c + 1
abbrev Ent.mapx (B : Nat) (enc : κ → Value) (l : List (KX κ)) (c : Nat) : Ent := .obj B (.map (kvx enc l) c)
def idxX : List (KX κ) → κ → Option Nat
  | [], _ => none
  | e :: l, x => if e.k = x then some 0 else (idxX l x).map (· + 1)
structure KeyOk (P : Program) (T : TypeId) (enc : κ → Value) : Prop where
  check : ∀ b x (w : World), (Instr.checkKey b 10000 T (enc x)).run P w = .ok () w
  equal : ∀ x y (w : World), (Op.equal T (enc x) (enc y)).run P w = .ok (decide (x = y)) w
  now : ∃ d, P.underlying T = some d ∧ ∀ u v, Instr.sameNow d u v = none
  bits : ∀ x, Instr.sameBits 10000 (enc x) (enc x) = true
variable {P : Program} {T : TypeId} {enc : κ → Value}
theorem idxX_some {l : List (KX κ)} {x : κ} : (getX l x).isSome = (idxX l x).isSome := by
  induction l with
  | nil => rfl
  | cons e l ih =>
    unfold getX idxX
    by_cases h : e.k = x
    · rw [if_pos h, if_pos h]; rfl
    · rw [if_neg h, if_neg h, ih]; cases idxX l x <;> rfl
theorem findAsking_kvx (hk : KeyOk P T enc) (x : κ) (w : World) : ∀ (l : List (KX κ)) (i : Nat), (Instr.findAsking T (enc x) (l.map (KX.e enc)) i).run P w = .ok (match idxX l x with | some j => some (i + j, (getX l x).getD undef) | none => none) w
  | [], i => by simp [Instr.findAsking, idxX]
  | e :: l, i => by
    have ih := findAsking_kvx hk x w l (i + 1)
    have e1 : (KX.e enc e).key = enc e.k := rfl
    simp only [List.map_cons, Instr.findAsking, e1, Sem.run_bind, hk.equal, Result.andThen_ok]
    by_cases h : x = e.k
    · simp [h, idxX, getX, KX.e]
    · have h' : ¬ e.k = x := fun q => h q.symm
      simp only [h, decide_false, Bool.false_eq_true, if_false, ih, idxX, getX, if_neg h']
      cases idxX l x <;> simp <;> omega
theorem run_findKeyX (hk : KeyOk P T enc) {x : κ} {l : List (KX κ)} {w : World} :
    (Instr.findKey T (enc x) (kvx enc l).toList).run P w = .ok (match idxX l x with | some j => some (j, (getX l x).getD undef) | none => none) w := by
  obtain ⟨d, hd, hn⟩ := hk.now
  simp only [Instr.findKey, Sem.run_bind, run_underlying hd, Result.andThen_ok, kvx, List.toList_toArray]
  cases l with
  | nil => simp [Instr.findNow, idxX]
  | cons e l =>
    have h0 := findAsking_kvx hk x w (e :: l) 0
    simp only [List.map_cons, Instr.findNow, hn] at h0 ⊢
    rw [h0]
    cases idxX (e :: l) x <;> simp
theorem putX_idx {x : κ} {v : Value} {c : Nat} : ∀ {l : List (KX κ)} {j : Nat}, idxX l x = some j → (l.map (KX.e enc)).modify j (fun e => { e with key := enc x, val := v }) = (putX l x v c).map (KX.e enc)
  | [], _, h => by simp [idxX] at h
  | e :: l, j, h => by
    unfold idxX at h
    unfold putX
    by_cases hk : e.k = x
    · rw [if_pos hk] at h ⊢
      obtain rfl := Option.some.inj h
      simp [KX.e]
    · rw [if_neg hk] at h ⊢
      cases hj : idxX l x with
      | none => rw [hj] at h; cases h
      | some i =>
        rw [hj] at h
        obtain rfl := Option.some.inj h
        simp [putX_idx (c := c) hj]
theorem putX_none {x : κ} {v : Value} {c : Nat} : ∀ {l : List (KX κ)}, idxX l x = none → l.map (KX.e enc) ++ [{ key := enc x, val := v, born := c }] = (putX l x v c).map (KX.e enc)
  | [], _ => rfl
  | e :: l, h => by
    unfold idxX at h
    unfold putX
    by_cases hk : e.k = x
    · rw [if_pos hk] at h; cases h
    · rw [if_neg hk] at h ⊢
      cases hj : idxX l x with
      | none => simp [← putX_none (c := c) (v := v) hj]
      | some i => rw [hj] at h; cases h
/-! ### the map as a whole -/
structure WfX (l : List (KX κ)) (c : Nat) : Prop where
  born : ∀ e ∈ l, e.b < c
  stamps : (l.map (·.b)).Nodup
  keys : (l.map (·.k)).Nodup
theorem WfX.nil (c : Nat) : WfX ([] : List (KX κ)) c := ⟨fun _ h => (by cases h), by simp, by simp⟩
theorem getX_none {x : κ} : ∀ {l : List (KX κ)}, getX l x = none → ∀ e ∈ l, e.k ≠ x
  | e :: l, h, e', he => by
    unfold getX at h
    by_cases hk : e.k = x
    · rw [if_pos hk] at h; cases h
    · rw [if_neg hk] at h
      rcases List.mem_cons.1 he with rfl | he
      · exact hk
      · exact getX_none h e' he
theorem mem_putX {x : κ} {v : Value} {c : Nat} : ∀ {l : List (KX κ)} {e : KX κ}, e ∈ putX l x v c → e.k = x ∧ e.v = v ∧ (e.b = c ∨ e.b ∈ l.map (·.b)) ∨ e ∈ l
  | [], e, h => by
    simp only [putX, List.mem_singleton] at h
    subst h; exact .inl ⟨rfl, rfl, .inl rfl⟩
  | a :: l, e, h => by
    unfold putX at h
    by_cases hk : a.k = x
    · rw [if_pos hk] at h
      rcases List.mem_cons.1 h with rfl | h
      · exact .inl ⟨rfl, rfl, .inr (by simp)⟩
      · exact .inr (List.mem_cons_of_mem _ h)
    · rw [if_neg hk] at h
      rcases List.mem_cons.1 h with rfl | h
      · exact .inr (List.mem_cons_self ..)
      · rcases mem_putX h with ⟨h1, h2, h3⟩ | h1
        · exact .inl ⟨h1, h2, h3.imp id fun h => by simp only [List.map_cons]; exact List.mem_cons_of_mem _ h⟩
        · exact .inr (List.mem_cons_of_mem _ h1)
theorem keys_putX {x : κ} {v : Value} {c : Nat} : ∀ (l : List (KX κ)), (putX l x v c).map (·.k) = if (getX l x).isSome then l.map (·.k) else l.map (·.k) ++ [x]
  | [] => by simp [putX, getX]
  | a :: l => by
    have ih := keys_putX (x := x) (v := v) (c := c) l
    unfold putX getX
    by_cases hk : a.k = x
    · rw [if_pos hk, if_pos hk]; simp [hk]
    · rw [if_neg hk, if_neg hk, List.map_cons, ih]
      split <;> simp
theorem stamps_putX {x : κ} {v : Value} {c : Nat} : ∀ (l : List (KX κ)), (putX l x v c).map (·.b) = if (getX l x).isSome then l.map (·.b) else l.map (·.b) ++ [c]
  | [] => by simp [putX, getX]
  | a :: l => by
    have ih := stamps_putX (x := x) (v := v) (c := c) l
    unfold putX getX
    by_cases hk : a.k = x
    · rw [if_pos hk, if_pos hk]; simp
    · rw [if_neg hk, if_neg hk, List.map_cons, ih]
      split <;> simp
theorem WfX.put {l : List (KX κ)} {c : Nat} (h : WfX l c) (x : κ) (v : Value) : WfX (putX l x v c) (clockX l x c) := by
  have hk := keys_putX (x := x) (v := v) (c := c) l
  have hb := stamps_putX (x := x) (v := v) (c := c) l
  unfold clockX
  cases hg : getX l x with
  | some u =>
    rw [hg] at hk hb
    simp only [Option.isSome_some, if_true] at hk hb ⊢
    refine ⟨fun e he => ?_, by rw [hb]; exact h.stamps, by rw [hk]; exact h.keys⟩
    have : e.b ∈ (putX l x v c).map (·.b) := List.mem_map.2 ⟨e, he, rfl⟩
    rw [hb] at this
    obtain ⟨e', he', e2⟩ := List.mem_map.1 this
    rw [← e2]; exact h.born e' he'
  | none =>
    rw [hg] at hk hb
    simp only [Option.isSome_none, Bool.false_eq_true, if_false] at hk hb ⊢
    refine ⟨fun e he => ?_, ?_, ?_⟩
    · have : e.b ∈ (putX l x v c).map (·.b) := List.mem_map.2 ⟨e, he, rfl⟩
      rw [hb] at this
      rcases List.mem_append.1 this with h1 | h1
      · obtain ⟨e', he', e2⟩ := List.mem_map.1 h1
        have := h.born e' he'
        omega
      · simp at h1; omega
    · rw [hb, List.nodup_append]
      refine ⟨h.stamps, by simp, fun a ha b hb' => ?_⟩
      simp at hb'
      obtain ⟨e', he', e2⟩ := List.mem_map.1 ha
      have := h.born e' he'
      omega
    · rw [hk, List.nodup_append]
      refine ⟨h.keys, by simp, fun a ha b hb' => ?_⟩
      simp at hb'
      obtain ⟨e', he', e2⟩ := List.mem_map.1 ha
      rw [hb', ← e2]
      exact getX_none hg e' he'
/-- The sum of what the entries are worth. -/
def sumX (F : κ → Value → Nat) (l : List (KX κ)) : Nat := (l.map fun e => F e.k e.v).sum
theorem sumX_put (F : κ → Value → Nat) {x : κ} {v : Value} {c : Nat} : ∀ (l : List (KX κ)), sumX F (putX l x v c) + (match getX l x with | some u => F x u | none => 0) = sumX F l + F x v
  | [] => by simp [sumX, putX, getX]
  | a :: l => by
    have ih := sumX_put F (x := x) (v := v) (c := c) l
    unfold putX getX
    by_cases hk : a.k = x
    · rw [if_pos hk, if_pos hk]
      simp [sumX, hk]; omega
    · rw [if_neg hk, if_neg hk]
      simp only [sumX, List.map_cons, List.sum_cons] at ih ⊢
      omega
theorem getX_mem {x : κ} {u : Value} : ∀ {l : List (KX κ)}, getX l x = some u → ∃ e ∈ l, e.k = x ∧ e.v = u
  | e :: l, h => by
    unfold getX at h
    by_cases hk : e.k = x
    · rw [if_pos hk] at h
      exact ⟨e, List.mem_cons_self .., hk, Option.some.inj h⟩
    · rw [if_neg hk] at h
      obtain ⟨e', h1, h2⟩ := getX_mem h
      exact ⟨e', List.mem_cons_of_mem _ h1, h2⟩
/-! ### what is left of a range -/
def leftX (l : List (KX κ)) (seen : Array Nat) : List (KX κ) := l.filter fun e => !seen.contains e.b
theorem leftX_nil (l : List (KX κ)) : leftX l #[] = l := by simp [leftX]
theorem leftX_split {l : List (KX κ)} {seen : Array Nat} {e : KX κ} (hn : (l.map (·.b)).Nodup) (he : e ∈ leftX l seen) (F : KX κ → Nat) : ((leftX l seen).map F).sum = F e + ((leftX l (seen.push e.b)).map F).sum := by
  induction l with
  | nil => simp [leftX] at he
  | cons a l ih =>
    simp only [List.map_cons, List.nodup_cons] at hn
    have hmem := he
    simp only [leftX, List.mem_filter, List.mem_cons] at hmem
    obtain ⟨h1, h2⟩ := hmem
    have h2' : seen.contains e.b = false := by simpa using h2
    by_cases hae : a.b = e.b
    · -- it is the head
      have hl : ∀ x ∈ l, ¬ x.b = e.b := fun x hx hxe => hn.1 (List.mem_map.2 ⟨x, hx, by rw [hxe, hae]⟩)
      have hea : a = e := by
        rcases h1 with h1 | h1
        · exact h1.symm
        · exact absurd rfl (hl e h1)
      subst hea
      have e2 : leftX l (seen.push a.b) = leftX l seen := by
        apply List.filter_congr
        intro x hx
        have := hl x hx
        simp [Array.contains_push, this]
      have e3 : leftX (a :: l) seen = a :: leftX l seen := by simp only [leftX, List.filter_cons, h2', Bool.not_false, if_true]
      have e4 : leftX (a :: l) (seen.push a.b) = leftX l (seen.push a.b) := by
        have : (seen.push a.b).contains a.b = true := by simp
        simp only [leftX, List.filter_cons, this, Bool.not_true, Bool.false_eq_true, if_false]
      rw [e3, e4, e2]; simp
    · have he' : e ∈ leftX l seen := by
        rcases h1 with h1 | h1
        · exact absurd (by rw [h1]) hae
        · exact List.mem_filter.2 ⟨h1, by rw [h2']; rfl⟩
      have ih := ih hn.2 he'
      have hc : (seen.push e.b).contains a.b = seen.contains a.b := by simp [Array.contains_push, hae]
      simp only [leftX, List.filter_cons] at ih ⊢
      rw [hc]
      cases seen.contains a.b with
      | true => simpa using ih
      | false => simp only [Bool.not_false, if_true, List.map_cons, List.sum_cons] at ih ⊢; omega
theorem leftX_mem {l : List (KX κ)} {seen : Array Nat} {e : KX κ} (he : e ∈ leftX l seen) : e ∈ l := (List.mem_filter.1 he).1
theorem leftX_len {l : List (KX κ)} {seen : Array Nat} {e : KX κ} (hn : (l.map (·.b)).Nodup) (he : e ∈ leftX l seen) : (leftX l (seen.push e.b)).length < (leftX l seen).length := by
  have := leftX_split hn he (fun _ => 1)
  simp only [List.map_const', List.sum_replicate_nat] at this
  omega
end keys
section ops
variable {κ : Type} [DecidableEq κ] {enc : κ → Value}
variable {P : Program} {W : World} {C : Cls W} {o : Oper} {fr : Fr} {m : Mem}
theorem h_makeMapX {T : TypeId} {l : List Ent} {K : Value → Mem → Prop} (enc : κ → Value) (H : HP m l) (ho : o.op = .makeMap T none)
    (h : ∀ B m', HP m' (.mapx B enc [] 0 :: l) → Le m m' → K (.map (some B)) m') : AOp P (gen W) o fr m K := fun w hw => by
  have hr : (execOp (evalF fr) o).run P w = .ok (.value (.map (some w.heap.size))) (pushed w (.map #[] 0)) := by
    simp [execOp, ho, Instr.makeMap, run_newObj, pushed]
  rw [hr]
  have hf : m.free w.heap.size := hw.freeTop
  have hc : Conc W (m.putO w.heap.size (.map #[] 0)) (pushed w (.map #[] 0)) := Conc.putO (hw.pushed _) (pushed_top _ _) rfl hw.below.size
  have hk : Keep m (m.putO w.heap.size (.map #[] 0)) := ⟨fun B b hb => hb, fun B x hx => by
    have : B ≠ w.heap.size := fun e => by rw [e, hf.2] at hx; cases hx
    simp [Mem.putO, this, hx]⟩
  refine ⟨_, hc, ⟨by rw [pushed_size]; omega, fun B hB hfB => ⟨Mem.free_putO hfB (by omega), pushed_old _ _ hB⟩⟩, h _ _ ((H.keep hk).cons (p := .mapx w.heap.size enc [] 0) (by show (m.putO _ _).obj _ = _; simp [Mem.putO, kvx]) fun q hq B hB hqB => ?_) (Mem.putO_le hf)⟩
  obtain rfl : w.heap.size = B := by simpa [Ent.blk] using hB
  exact Ent.known (H.ok q hq) hqB hf
/-- m[x]: the value, or zero. -/
theorem q_lookupX {T key elem : TypeId} {inf : TypeInfo} {z : Value} {x y : Operand} {l : List Ent} (i : Nat) {B : Nat} {es : List (KX κ)} {c : Nat} {a : κ} {v : Value} (hT : P.underlying T = some (.map key elem)) (hK : KeyOk P key enc) (he : P.info? elem = some inf) (hz : inf.zero = some z)
    (H : HP m l) (hi : l[i]? = some (.mapx B enc es c)) (ho : o.op = .lookup T x y false) (hx : evalF fr x = .map (some B)) (hy : evalF fr y = enc a) (hv : (getX es a).getD z = v) : QOp P W o fr m v := q_of_run fun w hw => by
  have h1 := run_getMap (P := P) H hw i hi
  have h2 : ∀ b, (Instr.checkKey b 10000 key (enc a)).run P w = .ok () w := fun b => hK.check b a w
  have h3 := run_findKeyX (x := a) (l := es) (w := w) hK
  have h4 := idxX_some (l := es) (x := a)
  have hr : (Instr.lookup T (.map (some B)) (enc a) false).run P w = .ok v w := by
    cases e : idxX es a with
    | none =>
      rw [e] at h4 h3
      have h5 : getX es a = none := by cases hg : getX es a with | none => rfl | some u => rw [hg] at h4; cases h4
      rw [h5] at hv
      simp at hv
      simp [Instr.lookup, run_underlying hT, h1, h2, h3, zeroValue, typeInfo, he, hz, hv]
    | some j =>
      rw [e] at h4 h3
      obtain ⟨u, hu⟩ : ∃ u, getX es a = some u := by cases hg : getX es a with | none => rw [hg] at h4; cases h4 | some u => exact ⟨u, rfl⟩
      rw [hu] at hv h3
      simp at hv
      simp [Instr.lookup, run_underlying hT, h1, h2, h3, hv]
  have hx2 : execOp (evalF fr) o = (do pure (.value (← Instr.lookup T (.map (some B)) (enc a) false))) := by simp [execOp, ho, hx, hy]
  rw [hx2]
  simp [hr]
/-- m[x] = v. -/
theorem h_mapUpdateX {T key elem : TypeId} {x y z : Operand} {l : List Ent} (i : Nat) {B : Nat} {es : List (KX κ)} {c : Nat} {a : κ} {v : Value} {K : Value → Mem → Prop} (hT : P.underlying T = some (.map key elem)) (hK : KeyOk P key enc)
    (H : HP m l) (hi : l[i]? = some (.mapx B enc es c)) (ho : o.op = .mapUpdate T x y z ∨ o.op = .insert T x y z) (hx : evalF fr x = .map (some B)) (hy : evalF fr y = enc a) (hz : evalF fr z = v)
    (h : ∀ m', HP m' (l.set i (.mapx B enc (putX es a v c) (clockX es a c))) → K undef m') : AOp P (gen W) o fr m K := fun w hw => by
  have h1 := run_getMap (P := P) H hw i hi
  have h2 : ∀ b, (Instr.checkKey b 10000 key (enc a)).run P w = .ok () w := fun b => hK.check b a w
  have h3 := run_findKeyX (x := a) (l := es) (w := w) hK
  have h4 := idxX_some (l := es) (x := a)
  have hob := H.obj i hi
  have hset : ∀ o', (setObj B o').run P w = .ok () (putObj w B o') := fun o' => by
    obtain ⟨_, h2, _⟩ := Conc.obj hw B _ hob
    simp [setObj, Sem.run, h2, putObj]
  have hr : (execOp (evalF fr) o).run P w = .ok .skip (putObj w B (.map (kvx enc (putX es a v c)) (clockX es a c))) := by
    have hx2 : execOp (evalF fr) o = (do Instr.mapUpdate T (.map (some B)) (enc a) v; pure .skip) := by rcases ho with ho | ho <;> simp [execOp, ho, hx, hy, hz]
    rw [hx2]
    suffices hs : (Instr.mapUpdate T (.map (some B)) (enc a) v).run P w = .ok () (putObj w B (.map (kvx enc (putX es a v c)) (clockX es a c))) by simp [hs]
    cases e : idxX es a with
    | none =>
      rw [e] at h4 h3
      have hc : clockX es a c = c + 1 := by unfold clockX; rw [h4]; rfl
      have hp := putX_none (enc := enc) (v := v) (c := c) e
      have hp2 : (kvx enc es).push { key := enc a, val := v, born := c } = kvx enc (putX es a v c) := by apply Array.toList_inj.1; simpa [kvx] using hp
      simp [Instr.mapUpdate, run_underlying hT, h1, h2, h3, hset, hc, hp2]
    | some j =>
      rw [e] at h4 h3
      have hc : clockX es a c = c := by unfold clockX; rw [h4]; rfl
      have hp := putX_idx (enc := enc) (v := v) (c := c) e
      have hkey : ∀ old : Value, old = enc a → (Instr.keyThatStays old (enc a)).run P w = .ok (enc a) w := fun old ho => by
        subst ho; simp [Instr.keyThatStays, hK.bits]
      have hold : (((kvx enc es)[j]?).map (·.key)).getD (enc a) = enc a := by
        have : ∀ (l : List (KX κ)) (j : Nat), idxX l a = some j → (((l.map (KX.e enc))[j]?).map (·.key)).getD (enc a) = enc a := by
          intro l
          induction l with
          | nil => intro j h; simp [idxX] at h
          | cons e l ih =>
            intro j h
            unfold idxX at h
            by_cases hk : e.k = a
            · rw [if_pos hk] at h
              obtain rfl := Option.some.inj h
              simp [KX.e, hk]
            · rw [if_neg hk] at h
              cases hj : idxX l a with
              | none => rw [hj] at h; cases h
              | some i =>
                rw [hj] at h
                obtain rfl := Option.some.inj h
                simpa using ih i hj
        simpa [kvx] using this es j e
      have hp2 : (kvx enc es).modify j (fun e => { e with key := enc a, val := v }) = kvx enc (putX es a v c) := by apply Array.toList_inj.1; simpa [kvx] using hp
      have hk2 := hkey _ hold
      simp [Instr.mapUpdate, run_underlying hT, h1, h2, h3, hset, hc, hp2, hk2]
  rw [hr]
  have hc := Conc.turnO (o' := .map (kvx enc (putX es a v c)) (clockX es a c)) hw hob rfl
  exact ⟨_, hc.1, hc.2, h _ (H.turnO i hi)⟩
/-- clear(m). -/
theorem h_clearMapX {T : TypeId} {d : TypeDesc} {x : Operand} {l : List Ent} (i : Nat) {B : Nat} {es : List (KX κ)} {c : Nat} {K : Value → Mem → Prop} (hT : P.underlying T = some d)
    (H : HP m l) (hi : l[i]? = some (.mapx B enc es c)) (ho : o.op = .call { callee := .builtin .clear, args := #[x], argTypes := #[T] }) (hx : evalF fr x = .map (some B))
    (h : ∀ v m', HP m' (l.set i (.mapx B enc [] c)) → K v m') : AOp P (gen W) o fr m K := fun w hw => by
  have h1 := run_getMap (P := P) H hw i hi
  have hob := H.obj i hi
  have hset : ∀ o', (setObj B o').run P w = .ok () (putObj w B o') := fun o' => by
    obtain ⟨_, h2, _⟩ := Conc.obj hw B _ hob
    simp [setObj, Sem.run, h2, putObj]
  have hc := Conc.turnO (o' := .map #[] c) hw hob rfl
  have hr : ∃ n, (execOp (evalF fr) o).run P w = .ok n (putObj w B (.map #[] c)) ∧ (n = .skip ∨ ∃ u, n = .value u) := by
    cases d <;> simp [execOp, ho, hx, resolve, invoke, builtin, Builtin.clear_, run_underlying hT, h1, hset]
  obtain ⟨n, hr, hn⟩ := hr
  rw [hr]
  rcases hn with rfl | ⟨u, rfl⟩
  · exact ⟨_, hc.1, hc.2, h _ _ (H.turnO i hi)⟩
  · exact ⟨_, hc.1, hc.2, h _ _ (H.turnO i hi)⟩
/-! ### ranges -/
theorem HP.swap {p q : Ent} {l : List Ent} (H : HP m (p :: q :: l)) : HP m (q :: p :: l) := by
  refine ⟨fun x hx => H.ok x (by simp only [List.mem_cons] at hx ⊢; rcases hx with h | h | h <;> simp [h]), ?_⟩
  obtain ⟨h1, h2⟩ := List.pairwise_cons.1 H.apart
  obtain ⟨h3, h4⟩ := List.pairwise_cons.1 h2
  refine List.pairwise_cons.2 ⟨fun x hx => ?_, List.pairwise_cons.2 ⟨fun x hx => h1 x (List.mem_cons_of_mem _ hx), h4⟩⟩
  rcases List.mem_cons.1 hx with rfl | hx
  · exact fun B hB hp => h1 q (List.mem_cons_self ..) B hp hB
  · exact h3 x hx
/-- How many entries a range has not met. -/
def leftM (es : List (KX κ)) (R : Nat) (m : Mem) : Nat := match m.obj R with | some (.mapIter _ _ seen _) => (leftX es seen).length | _ => 0
theorem leftM_of {es : List (KX κ)} {R : Nat} {a : Option Nat} {b d : Nat} {seen : Array Nat} (h : m.obj R = some (.mapIter a b seen d)) : leftM es R m = (leftX es seen).length := by unfold leftM; rw [h]
theorem h_newObj {ob : Obj} {l : List Ent} {K : Value → Mem → Prop} (H : HP m l) (hno : notCells ob = true)
    (hr : ∀ w, Conc W m w → (execOp (evalF fr) o).run P w = .ok (.value (.pointer (some ⟨w.heap.size, 0, Option.none⟩))) (pushed w ob))
    (h : ∀ B m', HP m' (.obj B ob :: l) → Le m m' → K (.pointer (some ⟨B, 0, Option.none⟩)) m') : AOp P (gen W) o fr m K := fun w hw => by
  rw [hr w hw]
  have hf : m.free w.heap.size := hw.freeTop
  have hc : Conc W (m.putO w.heap.size ob) (pushed w ob) := Conc.putO (hw.pushed _) (pushed_top _ _) hno hw.below.size
  have hk : Keep m (m.putO w.heap.size ob) := ⟨fun B b hb => hb, fun B x hx => by
    have : B ≠ w.heap.size := fun e => by rw [e, hf.2] at hx; cases hx
    simp [Mem.putO, this, hx]⟩
  refine ⟨_, hc, ⟨by rw [pushed_size]; omega, fun B hB hfB => ⟨Mem.free_putO hfB (by omega), pushed_old _ _ hB⟩⟩, h _ _ ((H.keep hk).cons (p := .obj w.heap.size ob) (by show (m.putO _ _).obj _ = _; simp [Mem.putO]) fun q hq B hB hqB => ?_) (Mem.putO_le hf)⟩
  obtain rfl : w.heap.size = B := by simpa [Ent.blk] using hB
  exact Ent.known (H.ok q hq) hqB hf
theorem h_rangeMapX {T key elem : TypeId} {x : Operand} {l : List Ent} (i : Nat) {B : Nat} {es : List (KX κ)} {c : Nat} {K : Value → Mem → Prop} (hT : P.underlying T = some (.map key elem)) (H : HP m l) (hi : l[i]? = some (.mapx B enc es c))
    (ho : o.op = .range T x) (hx : evalF fr x = .map (some B))
    (h : ∀ R m', HP m' (.obj R (.mapIter (some B) c #[] c) :: l) → Le m m' → K (.pointer (some ⟨R, 0, Option.none⟩)) m') : AOp P (gen W) o fr m K :=
  h_newObj H rfl (fun w hw => by
    have h1 := run_getMap (P := P) H hw i hi
    simp [execOp, ho, hx, Instr.range, run_underlying hT, h1, run_newObj, pushed]) h
theorem kvx_left (l : List (KX κ)) (seen : Array Nat) : (kvx enc l).filter (fun e => !seen.contains e.born) = kvx enc (leftX l seen) := by
  apply Array.toList_inj.1
  simp only [Array.toList_filter, kvx, leftX, List.filter_map]
  rfl
theorem run_choose_next {n : Nat} (hn : 0 < n) (w : World) : ∃ (j : Nat) (w1 : World), j < n ∧ Still w w1 ∧ (choose (Question.mapNext n)).run P w = .ok j w1 := by
  by_cases hf : n ≤ 1
  · exact ⟨0, w, by omega, Still.refl w, by simp [choose, Sem.run, Question.forced, hf]⟩
  · exact ⟨w.tape w.drawn (Question.mapNext n) % n, { w with drawn := w.drawn + 1 }, Nat.mod_lt _ (by omega), ⟨rfl, rfl, rfl, rfl⟩, by
      simp only [choose, Sem.run, Question.forced, decide_eq_true_eq, hf, if_false, Question.cut]⟩
/-- A step of a range over a map that the loop leaves alone: whichever entry is left. -/
theorem h_nextMapX {x : Operand} {l : List Ent} (i j : Nat) {B R since last : Nat} {es : List (KX κ)} {c : Nat} {seen : Array Nat} {K : Value → Mem → Prop} (H : HP m l) (hi : l[i]? = some (.mapx B enc es c)) (hj : l[j]? = some (.obj R (.mapIter (some B) since seen last)))
    (hold : ∀ e ∈ es, e.b < since) (hsc : since ≤ last) (ho : o.op = .next x false) (hx : evalF fr x = .pointer (some ⟨R, 0, Option.none⟩))
    (hover : leftX es seen = [] → K (.tuple #[.bool false]) m)
    (hstep : ∀ e ∈ leftX es seen, ∀ m', HP m' (l.set j (.obj R (.mapIter (some B) since (seen.push e.b) c))) → K (.tuple #[.bool true, enc e.k, e.v]) m') : AOp P (gen W) o fr m K := fun w hw => by
  have h1 := run_getMap (P := P) H hw i hi
  have h2 := run_getMap (P := P) H hw j hj
  have hob := H.obj j hj
  have htest : (!seen.isEmpty && !(kvx enc es).isEmpty && (kvx enc es).all (fun x => decide (x.born ≥ last))) = false := by
    cases es with
    | nil => simp [kvx]
    | cons e es =>
      have := hold e (List.mem_cons_self ..)
      have hna : (kvx enc (e :: es)).all (fun x => decide (x.born ≥ last)) = false := by
        rw [Bool.eq_false_iff]
        intro h
        rw [Array.all_eq_true_iff_forall_mem] at h
        have := h (KX.e enc e) (by simp [kvx])
        simp [KX.e] at this
        omega
      rw [hna, Bool.and_false]
  have hL : ∀ e ∈ leftX es seen, e.b < since := fun e he => hold e (leftX_mem he)
  have e1 : (kvx enc (leftX es seen)).filter (fun x => decide (x.born < since)) = kvx enc (leftX es seen) := Array.filter_eq_self.2 fun x hx => by
    simp only [kvx, List.mem_toArray, List.mem_map] at hx
    obtain ⟨e, he, rfl⟩ := hx
    exact decide_eq_true (hL e he)
  have e2 : (kvx enc (leftX es seen)).filter (fun x => decide (x.born ≥ since)) = #[] := by
    rw [Array.filter_eq_empty_iff]
    intro x hx
    simp only [kvx, List.mem_toArray, List.mem_map] at hx
    obtain ⟨e, he, rfl⟩ := hx
    have := hL e he
    simp [KX.e]; omega
  have hrun : (execOp (evalF fr) o).run P w = ((Instr.next (.pointer (some ⟨R, 0, Option.none⟩)) false o.type).run P w).andThen fun v w' => .ok (.value v) w' := by
    simp [execOp, ho, hx]
  rw [hrun]
  cases hLs : leftX es seen with
  | nil =>
    have : (Instr.next (.pointer (some ⟨R, 0, Option.none⟩)) false o.type).run P w = .ok (.tuple #[.bool false]) w := by
      simp only [Instr.next, Sem.run_bind, h2, h1, Result.andThen_ok, htest, Bool.false_eq_true, if_false, kvx_left, e1, e2, Array.append_empty]
      rw [hLs]
      simp [kvx, choose, Sem.run, Question.forced]
    rw [this]
    exact ⟨m, hw, Frm.refl _ _, hover hLs⟩
  | cons a L =>
    have hne : (kvx enc (leftX es seen)).isEmpty = false := by rw [hLs]; simp [kvx]
    have hsz : (kvx enc (leftX es seen)).size = (leftX es seen).length := by simp [kvx]
    obtain ⟨q, w1, hq, hst, hch⟩ := run_choose_next (P := P) (n := (leftX es seen).length) (by rw [hLs]; simp) w
    have hw1 : Conc W m w1 := Conc.still hw hst
    have hset : ∀ o', (setObj R o').run P w1 = .ok () (putObj w1 R o') := fun o' => by
      obtain ⟨_, h2, _⟩ := Conc.obj hw1 R _ hob
      simp [setObj, Sem.run, h2, putObj]
    have hget : ((kvx enc (leftX es seen)).map some)[q]? = some (some (KX.e enc (leftX es seen)[q])) := by
      simp [kvx, hq]
    have : (Instr.next (.pointer (some ⟨R, 0, Option.none⟩)) false o.type).run P w = .ok (.tuple #[.bool true, enc (leftX es seen)[q].k, (leftX es seen)[q].v]) (putObj w1 R (.mapIter (some B) since (seen.push (leftX es seen)[q].b) c)) := by
      simp only [Instr.next, Sem.run_bind, h2, h1, Result.andThen_ok, htest, Bool.false_eq_true, if_false, kvx_left]
      rw [← hsz] at hch
      generalize kvx enc (leftX es seen) = L at hne hget e1 e2 hch ⊢
      simp only [e1, e2, Array.append_empty, hne, Bool.false_eq_true, if_false, Array.empty_append, Array.size_map, hch, Result.andThen_ok, hget]
      simp only [KX.e, Sem.run_bind, hset, Result.andThen_ok, Sem.run_pure]
    rw [this]
    have hc := Conc.turnO (o' := .mapIter (some B) since (seen.push (leftX es seen)[q].b) c) hw1 hob rfl
    refine ⟨_, hc.1, (hst.frm (m := m)).trans hc.2, hstep _ (List.getElem_mem _) _ (H.turnO j hj)⟩
theorem find_stamp {e : KX κ} : ∀ {l : List (KX κ)}, (l.map (·.b)).Nodup → e ∈ l → (l.map (KX.e enc)).find? (fun x => x.born == e.b) = some (KX.e enc e)
  | a :: l, hn, he => by
    simp only [List.map_cons, List.nodup_cons] at hn
    rcases List.mem_cons.1 he with rfl | he
    · simp [KX.e]
    · have : ¬ a.b = e.b := fun h => hn.1 (List.mem_map.2 ⟨e, he, h.symm⟩)
      have h2 : ((KX.e enc a).born == e.b) = false := by simpa [KX.e] using this
      rw [List.map_cons, List.find?_cons, h2]
      exact find_stamp hn.2 he
/-- The round's key and value, read anew. -/
theorem q_entryX {x : Operand} {l : List Ent} (i j : Nat) {B R since : Nat} {es : List (KX κ)} {c : Nat} {seen : Array Nat} {e : KX κ} (H : HP m l) (hi : l[i]? = some (.mapx B enc es c)) (hj : l[j]? = some (.obj R (.mapIter (some B) since (seen.push e.b) c)))
    (hn : (es.map (·.b)).Nodup) (he : e ∈ es) (ho : o.op = .entry x) (hx : evalF fr x = .pointer (some ⟨R, 0, Option.none⟩)) : QOp P W o fr m (.tuple #[enc e.k, e.v]) := q_of_run fun w hw => by
  have h1 := run_getMap (P := P) H hw i hi
  have h2 := run_getMap (P := P) H hw j hj
  have h3 : (kvx enc es).find? (fun x => x.born == e.b) = some (KX.e enc e) := by
    rw [← Array.find?_toList]; simpa [kvx] using find_stamp (enc := enc) hn he
  simp [execOp, ho, hx, Instr.entry, h1, h2, h3, KX.e]
end ops
/-! ### structs as keys -/
theorem run_checkInt {P : Program} {T : TypeId} {k kk : IntKind} {x : Int} {b : Bool} {w : World} (hT : P.underlying T = some (.int k)) (n : Nat) : (Instr.checkKey b (n + 1) T (.int kk x)).run P w = .ok () w := by
  simp [Instr.checkKey, run_underlying hT]
theorem keyOk_two {κ : Type} [DecidableEq κ] {P : Program} {T : TypeId} {f0 f1 : Field} {k0 k1 : IntKind} {A B : κ → Int} (hT : P.underlying T = some (.struct #[f0, f1])) (hp : P.stoodInHeld T = false)
    (h0 : P.underlying f0.type = some (.int k0)) (h1 : P.underlying f1.type = some (.int k1)) (n0 : (f0.name == "_") = false) (n1 : (f1.name == "_") = false) (o0 : f0.offset = 0) (o1 : f1.offset = 1)
    (hinj : ∀ x y, A x = A y → B x = B y → x = y) : KeyOk P T (fun x => .agg #[.int k0 (A x), .int k1 (B x)]) where
  check b x w := by
    have key : ∀ n, (Instr.checkKey b (n + 1 + 1) T (.agg #[.int k0 (A x), .int k1 (B x)])).run P w = .ok () w := fun n => by
      have p0 := run_part1 (P := P) (T := f0.type) (cs := #[.int k0 (A x), .int k1 (B x)]) (off := f0.offset) (u := .int k0 (A x)) (w := w) h0 rfl (by rw [o0]; rfl)
      have p1 := run_part1 (P := P) (T := f1.type) (cs := #[.int k0 (A x), .int k1 (B x)]) (off := f1.offset) (u := .int k1 (B x)) (w := w) h1 rfl (by rw [o1]; rfl)
      have c0 := run_checkInt (P := P) (b := b) (kk := k0) (x := A x) (w := w) h0 n
      have c1 := run_checkInt (P := P) (b := b) (kk := k1) (x := B x) (w := w) h1 n
      have n0' : ¬ f0.name = "_" := by simpa using n0
      have n1' : ¬ f1.name = "_" := by simpa using n1
      rw [Instr.checkKey]
      simp [run_underlying hT, n0', n1', p0, p1, c0, c1]
    exact key 9998
  equal x y w := by
    have := run_eqS (P := P) (T := T) (ds := [(0, .int k0), (1, .int k1)]) (xs := #[.int k0 (A x), .int k1 (B x)]) (ys := #[.int k0 (A y), .int k1 (B y)]) (b := decide (x = y)) (w := w) hT hp (by simp [n0, n1, o0, o1, h0, h1]) ?_
    · exact this
    · have e : decide (x = y) = ((A x == A y) && ((B x == B y) && true)) := by
        rw [Bool.eq_iff_iff]
        simp only [decide_eq_true_eq, Bool.and_eq_true, beq_iff_eq, and_true]
        exact ⟨fun h => by rw [h]; exact ⟨rfl, rfl⟩, fun h => hinj x y h.1 h.2⟩
      rw [e]
      simp [eqDs]
  now := ⟨_, hT, fun u v => rfl⟩
  bits x := by
    have key : ∀ n, Instr.sameBits (n + 1 + 1) (.agg #[.int k0 (A x), .int k1 (B x)]) (.agg #[.int k0 (A x), .int k1 (B x)]) = true := fun n => by
      simp [Instr.sameBits]
    exact key 9998
end Go.Abs
