import Derived.Test.YtoeijgdkoeofpaaAbsMapB
set_option linter.unusedSectionVars false
set_option linter.unusedSimpArgs false
set_option linter.unusedVariables false
/-! Abs: regions whose order is drawn, in which a store that turns memory stands beside operations that read none. -/
namespace Go.Abs
open Go Go.RowKit
section
variable {P : Program} {r : Option Nat} {ops : Array Oper} {Q : Exit → Act → World → Prop} {T : Nat → Bool}
/-- As fixedAt, but for the operations in T. -/
def fixedT (ops : Array Oper) (T : Nat → Bool) (j : Nat) : Bool :=
  (List.range ops.size).all fun k => k == j || reach ops ops.size j k || reach ops ops.size k j || T k
theorem fixedT_not {listed : Array Bool} (hc : Closed ops listed) {i j : Nat} (hi : i ∈ Region.ready .any ops listed) (hj : j ∈ Region.ready .any ops listed) (hne : j ≠ i) (hT : T i = false)
    (hf : fixedT ops T j = true) : False := by
  obtain ⟨hiu, oi, hoi, hie⟩ := mem_ready.1 hi
  obtain ⟨hju, oj, hoj, hje⟩ := mem_ready.1 hj
  have hlt : i < ops.size := (Array.getElem?_eq_some_iff.1 hoi).1
  have := List.all_eq_true.1 hf i (List.mem_range.2 hlt)
  simp only [hT, Bool.or_false, Bool.or_eq_true, beq_iff_eq] at this
  have unl : ∀ k, listed.getD k true = false → listed.getD k false = true → False := fun k h1 h2 => by
    rcases Nat.lt_or_ge k listed.size with h' | h'
    · simp [h'] at h1 h2; rw [h1] at h2; cases h2
    · simp [Array.getElem?_eq_none h'] at h2
  rcases this with (h | h) | h
  · exact hne h.symm
  · exact unl i hiu (reach_listed hc _ j i oj hoj hje h)
  · exact unl j hju (reach_listed hc _ i j oi hoi hie h)
def AnyT (P : Program) (r : Option Nat) (ops : Array Oper) (Q : Exit → Act → World → Prop) (T : Nat → Bool) : Nat → (World → Prop) → Array Bool → Act → Prop
  | 0, S, listed, a => Region.ready .any ops listed = [] ∧ ∀ w, S w → Q .normal a w
  | fuel + 1, S, listed, a => (Region.ready .any ops listed = [] → ∀ w, S w → Q .normal a w) ∧
      ∀ j ∈ Region.ready .any ops listed, ∀ w, S w → wpOpIn (fen r) 0 P ops Q j (fun a' w' => ∃ S' : World → Prop, S' w' ∧ (∀ w x, S' w → Still w x → S' x) ∧
        ((∀ w, S' w → S w) ∨ fixedT ops T j = true) ∧ AnyT P r ops Q T fuel S' (listed.setIfInBounds j true) a') a w
theorem AnyT.any : ∀ (fuel : Nat) (S : World → Prop) (listed : Array Bool) (a : Act), AnyT P r ops Q T fuel S listed a → ∀ w, S w → wpAnyIn (fen r) 0 P .any ops Q fuel listed a w
  | 0, _, _, _, h, w, hw => ⟨h.1, h.2 w hw⟩
  | fuel + 1, _, _, _, h, w, hw => ⟨fun h0 => h.1 h0 w hw, fun j hj => wpOpIn_mono (fun a' w' ⟨S', h1, _, _, h4⟩ => AnyT.any fuel S' _ a' h4 w' h1) (h.2 j hj w hw)⟩
theorem AnyT_first {i : Nat} {oi : Oper} {v : Value} (hi : ops[i]? = some oi) (hsel : ∀ (j : Nat) (o : Oper) cs b, ops[j]? = some o → o.op ≠ .select cs b) (hdf : ∀ (j : Nat) (o : Oper) c, ops[j]? = some o → o.op ≠ .defer c)
    (hQ : ∀ c a w, Q (.panic c) (a.put oi.dst v) w → Q (.panic c) a w) :
    ∀ (fuel : Nat) (S : World → Prop) (listed : Array Bool) (a : Act), Closed ops listed →
      (∀ j oj, ops[j]? = some oj → j ≠ i → listed.getD j true = false → (∀ e ∈ oj.after, Region.binds .any e = true → e.on ≠ i) → oi.apart ops oj = true) →
      i ∈ Region.ready .any ops listed → YieldsQ P ops S oi v a → (T i = true → ∀ S : World → Prop, YieldsQ P ops S oi v a) → (∀ w x, S w → Still w x → S x) →
      AnyT P r ops Q T fuel S (listed.setIfInBounds i true) (a.put oi.dst v) → AnyT P r ops Q T (fuel + 1) S listed a := by
  intro fuel
  induction fuel with
  | zero =>
    intro S listed a hcl _ hr hy _ hd H
    refine ⟨fun h => (by rw [h] at hr; cases hr), fun j hj w hw => ?_⟩
    by_cases hji : j = i
    · subst hji
      exact hy.wpOp hi (fun c => hdf _ oi c hi) hd hw fun w' hw' => ⟨S, hw', hd, .inl fun _ h => h, H⟩
    · have := ready_mono hj hji
      rw [H.1] at this
      cases this
  | succ fuel ih =>
    intro S listed a hcl hfree hr hy hp hd H
    refine ⟨fun h => (by rw [h] at hr; cases hr), fun j hj w hw => ?_⟩
    by_cases hji : j = i
    · subst hji
      exact hy.wpOp hi (fun c => hdf _ oi c hi) hd hw fun w' hw' => ⟨S, hw', hd, .inl fun _ h => h, H⟩
    · have h1 := H.2 j (ready_mono hj hji) w hw
      obtain ⟨hjun, oj, hoj, hall⟩ := mem_ready.1 hj
      have hnot : ∀ e ∈ oj.after, Region.binds .any e = true → e.on ≠ i := fun e he hb heq => by
        have h1 := hall e he hb
        have h0 := (mem_ready.1 hr).1
        rw [heq] at h1
        rcases Nat.lt_or_ge i listed.size with h' | h'
        · simp [h'] at h0 h1; rw [h0] at h1; cases h1
        · simp [Array.getElem?_eq_none h'] at h1
      have h2 := wpOp_putQ hoj (hfree j oj hoj hji hjun hnot) (fun cs b => hsel i oi cs b hi) (fun cs b => hsel j oj cs b hoj) (fun c => hdf j oj c hoj) hQ h1
      have hfree' : ∀ k ok, ops[k]? = some ok → k ≠ i → (listed.setIfInBounds j true).getD k true = false →
          (∀ e ∈ ok.after, Region.binds .any e = true → e.on ≠ i) → oi.apart ops ok = true := fun k ok hk hki hun hno => by
        refine hfree k ok hk hki ?_ hno
        by_cases hjk : j = k
        · subst hjk; exact hjun
        · rw [getD_set_ne true hjk] at hun; exact hun
      refine wpOpIn_mono (fun a' w' h3 => ?_) h2
      obtain ⟨⟨k1, k2⟩, S', hS', hd', hor, h4⟩ := h3
      have hp' : T i = true → ∀ S : World → Prop, YieldsQ P ops S oi v a' := fun ht S2 => by
        have := hp ht S2
        unfold YieldsQ at *
        rw [k1, k2]
        exact this
      have h5 : AnyT P r ops Q T fuel S' ((listed.setIfInBounds j true).setIfInBounds i true) (a'.put oi.dst v) := by
        rw [Array.setIfInBounds_comm _ _ hji]
        exact h4
      rcases hor with hsub | hfix
      · refine ⟨S', hS', hd', .inl hsub, ih S' (listed.setIfInBounds j true) a' (hcl.set hj) hfree' (ready_mono hr (Ne.symm hji)) ?_ hp' hd' h5⟩
        unfold YieldsQ at *
        rw [k1, k2]
        exact hy.imp (fun ⟨x, y⟩ => ⟨x, fun w hw => y w (hsub w hw)⟩) id
      · cases ht : T i
        · exact (fixedT_not hcl hr hj hji ht hfix).elim
        · exact ⟨S', hS', hd', .inr hfix, ih S' (listed.setIfInBounds j true) a' (hcl.set hj) hfree' (ready_mono hr (Ne.symm hji)) (hp' ht S') hp' hd' h5⟩
end
def AAnyT (P : Program) {W : World} (C : Cls W) (r : Option Nat) (n : Nat) (ops : Array Oper) (Q : Post) (T : Nat → Bool) (fuel : Nat) (listed : Array Bool) (fr : Fr) (m : Mem) : Prop :=
  ∀ m0 w0 a D, FR n fr D a → AnyT P r ops (QC C r n Q m0 w0) T fuel (SM C r m0 w0 D m) listed a
/-- An operation that reads no memory. -/
def QPure (P : Program) (o : Oper) (fr : Fr) (v : Value) : Prop := ∀ w : World, (execOp (evalF fr) o).run P w = .ok (.value v) w
section moves
variable {P : Program} {W : World} {C : Cls W} {r : Option Nat} {n : Nat} {Q : Post} {fr : Fr} {m : Mem} {ops : Array Oper} {fuel : Nat} {listed : Array Bool} {T : Nat → Bool}
theorem pure_move {o : Oper} {x : Operand} {v : Value} (ho : o.op = .move x) (hx : evalF fr x = v) : QPure P o fr v := fun w => by simp [execOp, ho, hx]
theorem QPure.q {o : Oper} {v : Value} (h : QPure P o fr v) : QOp P W o fr m v := q_of_run fun w _ => h w
theorem pure_sub {T yt : TypeId} {o : Oper} {x y : Operand} {a b c : Int} (hc : a - b = c) (hb : -9223372036854775808 ≤ c ∧ c ≤ 9223372036854775807) (ho : o.op = .binOp .sub T x y yt) (hx : evalF fr x = .int .i64 a) (hy : evalF fr y = .int .i64 b) : QPure P o fr (.int .i64 c) := fun w => by
  subst hc
  have h := IntWalk.i64_in _ hb
  simp [execOp, ho, hx, hy, eqGuard, binOp, Op.intArith, h]
theorem aanyT_take (i : Nat) {o : Oper} {v : Value} (ho : ops[i]? = some o) (hb : takeB n ops listed i = true) (hT : T i = false) (hw : Region.wanted o (yieldedF ops fr) = true) (hq : QOp P W o fr m v)
    (h : AAnyT P C r n ops Q T fuel (listed.setIfInBounds i true) (putF fr o.dst v) m) : AAnyT P C r n ops Q T (fuel + 1) listed fr m := fun m0 w0 a D ha => by
  obtain ⟨h1, h2, h3, h4, h5, h6⟩ := takeB_spec ho hb
  refine AnyT_first ho (Region.noSelect_spec h1) h2 (fun c a w hp => hp.elim) fuel (SM C r m0 w0 D m) listed a h5 (Region.free_spec ho h3) h4
    (.inl ⟨by rw [ha.wanted h6]; exact hw, fun w hw => by rw [ha.execOp h6]; exact hq w (C.conc hw.c)⟩) (fun ht => by rw [hT] at ht; cases ht) (fun _ _ hw k => hw.still k) (h m0 w0 _ D (ha.put _ _))
theorem aanyT_pure (i : Nat) {o : Oper} {v : Value} (ho : ops[i]? = some o) (hb : takeB n ops listed i = true) (hw : Region.wanted o (yieldedF ops fr) = true) (hq : QPure P o fr v)
    (h : AAnyT P C r n ops Q T fuel (listed.setIfInBounds i true) (putF fr o.dst v) m) : AAnyT P C r n ops Q T (fuel + 1) listed fr m := fun m0 w0 a D ha => by
  obtain ⟨h1, h2, h3, h4, h5, h6⟩ := takeB_spec ho hb
  have hy : ∀ S : World → Prop, YieldsQ P ops S o v a := fun S => .inl ⟨by rw [ha.wanted h6]; exact hw, fun w _ => by rw [ha.execOp h6, hq w]; exact ⟨rfl, rfl⟩⟩
  exact AnyT_first ho (Region.noSelect_spec h1) h2 (fun c a w hp => hp.elim) fuel (SM C r m0 w0 D m) listed a h5 (Region.free_spec ho h3) h4
    (hy _) (fun _ => hy) (fun _ _ hw k => hw.still k) (h m0 w0 _ D (ha.put _ _))
theorem aanyT_step (i : Nat) {o : Oper} (ho : ops[i]? = some o) (hr : Region.ready .any ops listed = [i]) (hok : okOper n ops o = true) (hw : Region.wanted o (yieldedF ops fr) = true)
    (h : AOp P C o fr m (fun v m' => (Le m m' ∨ fixedT ops T i = true) ∧ AAnyT P C r n ops Q T fuel (listed.setIfInBounds i true) (putF fr o.dst v) m')) : AAnyT P C r n ops Q T (fuel + 1) listed fr m := fun m0 w0 a D ha => by
  refine ⟨fun h0 => (by rw [hr] at h0; cases h0), fun j hj w hc => ?_⟩
  rw [hr] at hj
  obtain rfl := List.mem_singleton.1 hj
  unfold wpOpIn
  simp only [ho]
  rw [ha.wanted hok, if_pos hw]
  refine h.wp hc.c (ha.execOp hok) (okOper_spec hok).1.2 fun v m' w' hc' hf hk => ⟨SM C r m0 w0 D m', ⟨hc', hc.frm.trans hf, hc.mks.frm hf⟩, fun _ _ hw k => hw.still k, ?_, hk.2 m0 w0 _ D (ha.put _ _)⟩
  exact hk.1.imp (fun hl _ hw => hw.forget hl) id
theorem aanyT_done (hr : Region.ready .any ops listed = []) (h : Q .normal fr m) : AAnyT P C r n ops Q T fuel listed fr m := fun m0 w0 a D ha => by
  cases fuel with
  | zero => exact ⟨hr, fun w hw => ⟨fr, m, ⟨⟨D, ha, hw.mks⟩, hw.c, hw.frm⟩, h⟩⟩
  | succ fuel => exact ⟨fun _ w hw => ⟨fr, m, ⟨⟨D, ha, hw.mks⟩, hw.c, hw.frm⟩, h⟩, by rw [hr]; simp⟩
theorem awp_region_T {id : Nat} (T : Nat → Bool) (hm : P.follows .mixedOrders = true) (h : AAnyT P C r n ops Q T ops.size (Array.replicate ops.size false) fr m) : AWp P C r n (.region id ops true) Q fr m :=
  fun m0 w0 a w ha => by
    obtain ⟨D, hfr, hmk⟩ := ha.fr
    exact wpIn_region_any hm (AnyT.any _ _ _ _ (h m0 w0 a D hfr) _ (SM.still ⟨ha.c, ha.frm, hmk⟩ (Still.drewN w 1)))
end moves
end Go.Abs
