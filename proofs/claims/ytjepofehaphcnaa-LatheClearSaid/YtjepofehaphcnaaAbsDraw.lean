import Derived.Test.YtjepofehaphcnaaAbsCore
set_option linter.unusedSectionVars false
set_option linter.unusedSimpArgs false
set_option linter.unusedVariables false
/-! Abs: regions that draw their order. 'AAny': whatever order the tape picks; quiet operations are taken first, the others when they alone may come up. -/
namespace Go.Abs
open Go Go.RowKit

/-- Is there a road of binding edges from operation j down to operation k? -/
def reach (ops : Array Oper) : Nat → Nat → Nat → Bool
  | 0, _, _ => false
  | f + 1, j, k => match ops[j]? with
    | none => false
    | some o => o.after.any fun e => Region.binds .any e && (e.on == k || reach ops f e.on k)
/-- Operation j has a fixed place: every other operation comes before it or behind it. -/
def fixedAt (ops : Array Oper) (j : Nat) : Bool :=
  (List.range ops.size).all fun k => k == j || reach ops ops.size j k || reach ops ops.size k j
def Closed (ops : Array Oper) (listed : Array Bool) : Prop :=
  ∀ k o, listed.getD k false = true → ops[k]? = some o → ∀ e ∈ o.after, Region.binds .any e = true → listed.getD e.on false = true
section
variable {P : Program} {r : Option Nat} {ops : Array Oper} {Q : Exit → Act → World → Prop}

theorem reach_listed {listed : Array Bool} (hc : Closed ops listed) : ∀ (f j k : Nat) (o : Oper), ops[j]? = some o →
    (∀ e ∈ o.after, Region.binds .any e = true → listed.getD e.on false = true) → reach ops f j k = true → listed.getD k false = true
  | 0, _, _, _, _, _, h => by simp [reach] at h
  | f + 1, j, k, o, ho, he, h => by
    simp only [reach, ho, Array.any_eq_true, Bool.and_eq_true, Bool.or_eq_true, beq_iff_eq] at h
    obtain ⟨x, hx, hb, hk⟩ := h
    have hl := he _ (Array.getElem_mem hx) hb
    rcases hk with hk | hk
    · rw [← hk]; exact hl
    · cases ho2 : ops[(o.after[x]).on]? with
      | none =>
        exfalso
        cases f with
        | zero => simp [reach] at hk
        | succ f => simp [reach, ho2] at hk
      | some o2 => exact reach_listed hc f _ k o2 ho2 (hc _ o2 hl ho2) hk

theorem fixed_not {listed : Array Bool} (hc : Closed ops listed) {i j : Nat} (hi : i ∈ Region.ready .any ops listed) (hj : j ∈ Region.ready .any ops listed) (hne : j ≠ i)
    (hf : fixedAt ops j = true) : False := by
  obtain ⟨hiu, oi, hoi, hie⟩ := mem_ready.1 hi
  obtain ⟨hju, oj, hoj, hje⟩ := mem_ready.1 hj
  have hlt : i < ops.size := (Array.getElem?_eq_some_iff.1 hoi).1
  have := List.all_eq_true.1 hf i (List.mem_range.2 hlt)
  simp only [Bool.or_eq_true, beq_iff_eq] at this
  have unl : ∀ k, listed.getD k true = false → listed.getD k false = true → False := fun k h1 h2 => by
    rcases Nat.lt_or_ge k listed.size with h' | h'
    · simp [h'] at h1 h2; rw [h1] at h2; cases h2
    · simp [Array.getElem?_eq_none h'] at h2
  rcases this with (h | h) | h
  · exact hne h.symm
  · exact unl i hiu (reach_listed hc _ j i oj hoj hje h)
  · exact unl j hju (reach_listed hc _ i j oi hoi hie h)

/-- Whatever order is picked from here on, in every world that meets S. -/
def AnyS (P : Program) (r : Option Nat) (ops : Array Oper) (Q : Exit → Act → World → Prop) : Nat → (World → Prop) → Array Bool → Act → Prop
  | 0, S, listed, a => Region.ready .any ops listed = [] ∧ ∀ w, S w → Q .normal a w
  | fuel + 1, S, listed, a => (Region.ready .any ops listed = [] → ∀ w, S w → Q .normal a w) ∧
      ∀ j ∈ Region.ready .any ops listed, ∀ w, S w → wpOpIn (fen r) 0 P ops Q j (fun a' w' => ∃ S' : World → Prop, S' w' ∧ (∀ w x, S' w → Still w x → S' x) ∧
        ((∀ w, S' w → S w) ∨ fixedAt ops j = true) ∧ AnyS P r ops Q fuel S' (listed.setIfInBounds j true) a') a w
theorem AnyS.any : ∀ (fuel : Nat) (S : World → Prop) (listed : Array Bool) (a : Act), AnyS P r ops Q fuel S listed a → ∀ w, S w → wpAnyIn (fen r) 0 P .any ops Q fuel listed a w
  | 0, _, _, _, h, w, hw => ⟨h.1, h.2 w hw⟩
  | fuel + 1, _, _, _, h, w, hw => ⟨fun h0 => h.1 h0 w hw, fun j hj => wpOpIn_mono (fun a' w' ⟨S', h1, _, _, h4⟩ => AnyS.any fuel S' _ a' h4 w' h1) (h.2 j hj w hw)⟩

def YieldsQ (P : Program) (ops : Array Oper) (S : World → Prop) (o : Oper) (v : Value) (a : Act) : Prop :=
  (Region.wanted o (yielded ops a.tmps) = true ∧ ∀ w, S w → Oper.quietUpon P (Still w) w v ((execOp a.eval o).run P w)) ∨
  (Region.wanted o (yielded ops a.tmps) = false ∧ v = undef)

/-- An operation oj apart from oi: see Derived/OrdersHeld. -/
theorem wpOp_putQ {j : Nat} {oi oj : Oper} {v : Value} (hj : ops[j]? = some oj) (hap : oi.apart ops oj = true)
    (hsi : ∀ cs b, oi.op ≠ .select cs b) (hsj : ∀ cs b, oj.op ≠ .select cs b) (hdj : ∀ c, oj.op ≠ .defer c)
    (hQ : ∀ c a w, Q (.panic c) (a.put oi.dst v) w → Q (.panic c) a w) {K : Act → World → Prop} {a : Act} {w : World}
    (h : wpOpIn (fen r) 0 P ops Q j K (a.put oi.dst v) w) :
    wpOpIn (fen r) 0 P ops Q j (fun a' w' => (execOp a'.eval oi = execOp a.eval oi ∧ Region.wanted oi (yielded ops a'.tmps) = Region.wanted oi (yielded ops a.tmps)) ∧ K (a'.put oi.dst v) w') a w := by
  obtain ⟨h1, h2, h3⟩ := Oper.apart_spec hap
  have keep : ∀ u, execOp (a.put oj.dst u).eval oi = execOp a.eval oi ∧ Region.wanted oi (yielded ops (a.put oj.dst u).tmps) = Region.wanted oi (yielded ops a.tmps) := fun u =>
    ⟨execOp_put oi hsi a oj.dst u h3, wanted_put oi a oj.dst u h3⟩
  unfold wpOpIn at *
  simp only [hj] at *
  rw [wanted_put oj a oi.dst v h1] at h
  split
  · rename_i hw
    simp only [hw, if_true] at h
    unfold Oper.wpIn at *
    refine ⟨fun f _ => fen_fn r f, ?_⟩
    have h := h.2
    rw [Oper.semAt_eq _ _ _ hdj] at h ⊢
    rw [execOp_put oj hsj a oi.dst v h1] at h
    generalize (execOp a.eval oj).run P w = rr at *
    cases rr with
    | ok n w' =>
      cases n <;> simp only [Oper.uponIn] at h ⊢
      case value u => exact ⟨keep u, by rw [← Act.put_comm a v u h2]; exact h⟩
      case skip => exact ⟨keep _, by rw [← Act.put_comm a v undef h2]; exact h⟩
      case defer d =>
        have keepD : execOp (({ a with defers := d :: a.defers } : Act).put oj.dst undef).eval oi = execOp a.eval oi ∧
            Region.wanted oi (yielded ops (({ a with defers := d :: a.defers } : Act).put oj.dst undef).tmps) = Region.wanted oi (yielded ops a.tmps) :=
          ⟨(execOp_put oi hsi _ oj.dst undef h3).trans rfl, (wanted_put oi _ oj.dst undef h3).trans rfl⟩
        refine ⟨keepD, ?_⟩
        rw [← Act.put_comm _ v undef h2, ← Act.put_defers]
        exact h
      case enter f args =>
        refine ⟨h.1, CallsIn.mono h.2 fun e w'' he => ?_⟩
        cases e with
        | returned u => exact ⟨keep u, by rw [← Act.put_comm a v u h2]; exact he⟩
        | panicked c => exact hQ _ _ _ he
        | outgrown => exact he
      case row row args => exact ⟨h.1, RowsIn.mono h.2 fun u w'' he => ⟨keep u, by rw [← Act.put_comm a v u h2]; exact he⟩⟩
      case round =>
        refine ⟨h.1, RoundIn.mono h.2 fun e w'' he => ?_⟩
        cases e with
        | returned u => exact ⟨keep u, by rw [← Act.put_comm a v u h2]; exact he⟩
        | panicked c => exact hQ _ _ _ he
        | outgrown => exact he
    | halt x w' =>
      cases x <;> simp only [Oper.uponIn] at h ⊢
      case panic u => exact hQ _ _ _ h
  · rename_i hw
    simp only [hw] at h
    exact ⟨fun f _ => fen_fn r f, keep _, by rw [← Act.put_comm a v undef h2]; exact h.2⟩

theorem YieldsQ.wpOp {i : Nat} {o : Oper} {v : Value} {a : Act} {S : World → Prop} (hi : ops[i]? = some o) (hdi : ∀ c, o.op ≠ .defer c) (hy : YieldsQ P ops S o v a) (hd : ∀ w x, S w → Still w x → S x)
    {K : Act → World → Prop} {w : World} (hS : S w) (h : ∀ w', S w' → K (a.put o.dst v) w') : wpOpIn (fen r) 0 P ops Q i K a w := by
  unfold Go.wpOpIn
  simp only [hi]
  rcases hy with ⟨hw, hv⟩ | ⟨hw, rfl⟩
  · simp only [hw, if_true]
    have := hv w hS
    unfold Oper.wpIn
    refine ⟨fun f _ => fen_fn r f, ?_⟩
    rw [Oper.semAt_eq _ _ _ hdi]
    generalize (execOp a.eval o).run P w = rr at *
    cases rr with
    | halt x w => exact this.elim
    | ok n w' =>
      cases n <;> simp only [Oper.quietUpon] at this <;> simp only [Oper.uponIn]
      case value => obtain ⟨rfl, rfl⟩ := this; exact h _ hS
      case skip => obtain ⟨rfl, rfl⟩ := this; exact h _ hS
      case enter =>
        obtain ⟨rfl, hc⟩ := this
        exact ⟨fun h => (by rw [fen_depth] at h; cases h), callsIn_fen (hc.mono fun e w'' ⟨he, hk⟩ => by subst he; exact h _ (hd _ _ hS hk))⟩
  · simp only [hw, Bool.false_eq_true, if_false]; exact ⟨fun f _ => fen_fn r f, h _ hS⟩

theorem Closed.set {listed : Array Bool} (hc : Closed ops listed) {j : Nat} (hj : j ∈ Region.ready .any ops listed) : Closed ops (listed.setIfInBounds j true) := by
  intro k o hk ho e he hb
  obtain ⟨_, oj, hoj, hje⟩ := mem_ready.1 hj
  by_cases hkj : k = j
  · subst hkj
    obtain rfl := Option.some.inj (hoj.symm.trans ho)
    exact getD_set_true (hje e he hb)
  · rw [getD_set_ne false (Ne.symm hkj)] at hk
    exact getD_set_true (hc k o hk ho e he hb)

/-- A quiet operation that may come up now may be taken first. -/
theorem AnyS_first {i : Nat} {oi : Oper} {v : Value} (hi : ops[i]? = some oi) (hsel : ∀ (j : Nat) (o : Oper) cs b, ops[j]? = some o → o.op ≠ .select cs b) (hdf : ∀ (j : Nat) (o : Oper) c, ops[j]? = some o → o.op ≠ .defer c)
    (hQ : ∀ c a w, Q (.panic c) (a.put oi.dst v) w → Q (.panic c) a w) :
    ∀ (fuel : Nat) (S : World → Prop) (listed : Array Bool) (a : Act), Closed ops listed →
      (∀ j oj, ops[j]? = some oj → j ≠ i → listed.getD j true = false → (∀ e ∈ oj.after, Region.binds .any e = true → e.on ≠ i) → oi.apart ops oj = true) →
      i ∈ Region.ready .any ops listed → YieldsQ P ops S oi v a → (∀ w x, S w → Still w x → S x) →
      AnyS P r ops Q fuel S (listed.setIfInBounds i true) (a.put oi.dst v) → AnyS P r ops Q (fuel + 1) S listed a := by
  intro fuel
  induction fuel with
  | zero =>
    intro S listed a hcl _ hr hy hd H
    refine ⟨fun h => (by rw [h] at hr; cases hr), fun j hj w hw => ?_⟩
    by_cases hji : j = i
    · subst hji
      exact hy.wpOp hi (fun c => hdf _ oi c hi) hd hw fun w' hw' => ⟨S, hw', hd, .inl fun _ h => h, H⟩
    · have := ready_mono hj hji
      rw [H.1] at this
      cases this
  | succ fuel ih =>
    intro S listed a hcl hfree hr hy hd H
    refine ⟨fun h => (by rw [h] at hr; cases hr), fun j hj w hw => ?_⟩
    by_cases hji : j = i
    · subst hji
      exact hy.wpOp hi (fun c => hdf _ oi c hi) hd hw fun w' hw' => ⟨S, hw', hd, .inl fun _ h => h, H⟩
    · have h1 := H.2 j (ready_mono hj hji) w hw
      obtain ⟨hjun, oj, hoj, hall⟩ := mem_ready.1 hj
      have hnot : ∀ e ∈ oj.after, Region.binds .any e = true → e.on ≠ i := fun e he hb heq => by
        have h1 := hall e he hb
        have h0 := (mem_ready.1 hr).1
        rw [heq] at h1
        rcases Nat.lt_or_ge i listed.size with h' | h'
        · simp [h'] at h0 h1; rw [h0] at h1; cases h1
        · simp [Array.getElem?_eq_none h'] at h1
      have h2 := wpOp_putQ hoj (hfree j oj hoj hji hjun hnot) (fun cs b => hsel i oi cs b hi) (fun cs b => hsel j oj cs b hoj) (fun c => hdf j oj c hoj) hQ h1
      have hfree' : ∀ k ok, ops[k]? = some ok → k ≠ i → (listed.setIfInBounds j true).getD k true = false →
          (∀ e ∈ ok.after, Region.binds .any e = true → e.on ≠ i) → oi.apart ops ok = true := fun k ok hk hki hun hno => by
        refine hfree k ok hk hki ?_ hno
        by_cases hjk : j = k
        · subst hjk; exact hjun
        · rw [getD_set_ne true hjk] at hun; exact hun
      refine wpOpIn_mono (fun a' w' h3 => ?_) h2
      obtain ⟨⟨k1, k2⟩, S', hS', hd', hor, h4⟩ := h3
      rcases hor with hsub | hfix
      · refine ⟨S', hS', hd', .inl hsub, ih S' (listed.setIfInBounds j true) a' (hcl.set hj) hfree' (ready_mono hr (Ne.symm hji)) ?_ hd' ?_⟩
        · unfold YieldsQ at *
          rw [k1, k2]
          exact hy.imp (fun ⟨x, y⟩ => ⟨x, fun w hw => y w (hsub w hw)⟩) id
        · rw [Array.setIfInBounds_comm _ _ hji]
          exact h4
      · exact (fixed_not hcl hr hj hji hfix).elim
end

def closedB (ops : Array Oper) (listed : Array Bool) : Bool :=
  (List.range ops.size).all fun k => !listed.getD k false || (match ops[k]? with
    | some o => o.after.all fun e => !Region.binds .any e || listed.getD e.on false
    | none => true)
theorem closedB_spec {ops : Array Oper} {listed : Array Bool} (h : closedB ops listed = true) : Closed ops listed := by
  intro k o hk ho e he hb
  have hlt : k < ops.size := (Array.getElem?_eq_some_iff.1 ho).1
  have := List.all_eq_true.1 h k (List.mem_range.2 hlt)
  simp only [hk, ho, Bool.not_true, Bool.false_or, Array.all_eq_true] at this
  obtain ⟨i, hi, rfl⟩ := Array.getElem_of_mem he
  have := this i hi
  simpa [hb] using this

/-- All that is asked, once and for all, of taking number i first. -/
def takeB (n : Nat) (ops : Array Oper) (listed : Array Bool) (i : Nat) : Bool :=
  Region.noSelect ops && ops.all (fun o => match o.op with | .defer _ => false | _ => true) && Region.free .any ops listed i && (Region.ready .any ops listed).contains i && closedB ops listed &&
    (match ops[i]? with | some o => okOper n ops o | none => false)

/-- What is known of the world in the region. -/
structure SM {W : World} (C : Cls W) (r : Option Nat) (m0 : Mem) (w0 : World) (D : List Nat) (m : Mem) (w : World) : Prop where
  c : C.C m w
  frm : Frm m0 w0 m w
  mks : MarksOk r w0 D m w
theorem Le.free {m m' : Mem} (h : Le m m') {B : Nat} (hf : m'.free B) : m.free B := by
  refine ⟨?_, ?_⟩
  · cases e : m B with
    | none => rfl
    | some b => obtain ⟨more, e2⟩ := h.get B b e; rw [hf.1] at e2; cases e2
  · cases e : m.obj B with
    | none => rfl
    | some o => have e2 := h.obj B o e; rw [hf.2] at e2; cases e2
theorem SM.still {W : World} {C : Cls W} {r : Option Nat} {m0 m : Mem} {w0 w w' : World} {D : List Nat} (h : SM C r m0 w0 D m w) (k : Still w w') : SM C r m0 w0 D m w' :=
  ⟨C.still h.c k, h.frm.trans k.frm, h.mks.frm k.frm⟩
theorem SM.forget {W : World} {C : Cls W} {r : Option Nat} {m0 m m' : Mem} {w0 w : World} {D : List Nat} (h : SM C r m0 w0 D m' w) (hl : Le m m') : SM C r m0 w0 D m w :=
  ⟨C.forget h.c hl, ⟨h.frm.size, fun B hB hf => ⟨hl.free (h.frm.old B hB hf).1, (h.frm.old B hB hf).2⟩⟩, ⟨fun r hr => ⟨(h.mks.marks r hr).1, (h.mks.marks r hr).2.1, hl.free (h.mks.marks r hr).2.2⟩, fun l e => (h.mks.rnd l e).imp fun _ x => ⟨x.1, hl.free x.2⟩, h.mks.nil⟩⟩
def AAny (P : Program) {W : World} (C : Cls W) (r : Option Nat) (n : Nat) (ops : Array Oper) (Q : Post) (fuel : Nat) (listed : Array Bool) (fr : Fr) (m : Mem) : Prop :=
  ∀ m0 w0 a D, FR n fr D a → AnyS P r ops (QC C r n Q m0 w0) fuel (SM C r m0 w0 D m) listed a
section moves
variable {P : Program} {W : World} {C : Cls W} {r : Option Nat} {n : Nat} {Q : Post} {fr : Fr} {m : Mem} {ops : Array Oper} {fuel : Nat} {listed : Array Bool}
theorem takeB_spec {i : Nat} {o : Oper} (ho : ops[i]? = some o) (hb : takeB n ops listed i = true) : Region.noSelect ops = true ∧ (∀ (j : Nat) (o : Oper) c, ops[j]? = some o → o.op ≠ .defer c) ∧ Region.free .any ops listed i = true ∧
    i ∈ Region.ready .any ops listed ∧ Closed ops listed ∧ okOper n ops o = true := by
  simp only [takeB, ho, Bool.and_eq_true] at hb
  obtain ⟨⟨⟨⟨⟨h1, h2⟩, h3⟩, h4⟩, h5⟩, h6⟩ := hb
  refine ⟨h1, fun j o c hj e => ?_, h3, by simpa using h4, closedB_spec h5, h6⟩
  have := Array.all_eq_true'.1 h2 o (Array.mem_of_getElem? hj)
  rw [e] at this
  cases this
theorem aany_take (i : Nat) {o : Oper} {v : Value} (ho : ops[i]? = some o) (hb : takeB n ops listed i = true) (hw : Region.wanted o (yieldedF ops fr) = true) (hq : QOp P W o fr m v)
    (h : AAny P C r n ops Q fuel (listed.setIfInBounds i true) (putF fr o.dst v) m) : AAny P C r n ops Q (fuel + 1) listed fr m := fun m0 w0 a D ha => by
  obtain ⟨h1, h2, h3, h4, h5, h6⟩ := takeB_spec ho hb
  refine AnyS_first ho (Region.noSelect_spec h1) h2 (fun c a w hp => hp.elim) fuel (SM C r m0 w0 D m) listed a h5 (Region.free_spec ho h3) h4
    (.inl ⟨by rw [ha.wanted h6]; exact hw, fun w hw => by rw [ha.execOp h6]; exact hq w (C.conc hw.c)⟩) (fun _ _ hw k => hw.still k) (h m0 w0 _ D (ha.put _ _))
theorem aany_no (i : Nat) {o : Oper} (ho : ops[i]? = some o) (hb : takeB n ops listed i = true) (hw : Region.wanted o (yieldedF ops fr) = false)
    (h : AAny P C r n ops Q fuel (listed.setIfInBounds i true) (putF fr o.dst undef) m) : AAny P C r n ops Q (fuel + 1) listed fr m := fun m0 w0 a D ha => by
  obtain ⟨h1, h2, h3, h4, h5, h6⟩ := takeB_spec ho hb
  refine AnyS_first ho (Region.noSelect_spec h1) h2 (fun c a w hp => hp.elim) fuel (SM C r m0 w0 D m) listed a h5 (Region.free_spec ho h3) h4
    (.inr ⟨by rw [ha.wanted h6]; exact hw, rfl⟩) (fun _ _ hw k => hw.still k) (h m0 w0 _ D (ha.put _ _))
/-- The only operation that may come up: it may make memory; one with a fixed place may turn it. -/
theorem aany_step (i : Nat) {o : Oper} (ho : ops[i]? = some o) (hr : Region.ready .any ops listed = [i]) (hok : okOper n ops o = true) (hw : Region.wanted o (yieldedF ops fr) = true)
    (h : AOp P C o fr m (fun v m' => (Le m m' ∨ fixedAt ops i = true) ∧ AAny P C r n ops Q fuel (listed.setIfInBounds i true) (putF fr o.dst v) m')) : AAny P C r n ops Q (fuel + 1) listed fr m := fun m0 w0 a D ha => by
  refine ⟨fun h0 => (by rw [hr] at h0; cases h0), fun j hj w hc => ?_⟩
  rw [hr] at hj
  obtain rfl := List.mem_singleton.1 hj
  unfold wpOpIn
  simp only [ho]
  rw [ha.wanted hok, if_pos hw]
  refine h.wp hc.c (ha.execOp hok) (okOper_spec hok).1.2 fun v m' w' hc' hf hk => ⟨SM C r m0 w0 D m', ⟨hc', hc.frm.trans hf, hc.mks.frm hf⟩, fun _ _ hw k => hw.still k, ?_, hk.2 m0 w0 _ D (ha.put _ _)⟩
  exact hk.1.imp (fun hl _ hw => hw.forget hl) id
theorem aany_done (hr : Region.ready .any ops listed = []) (h : Q .normal fr m) : AAny P C r n ops Q fuel listed fr m := fun m0 w0 a D ha => by
  cases fuel with
  | zero => exact ⟨hr, fun w hw => ⟨fr, m, ⟨⟨D, ha, hw.mks⟩, hw.c, hw.frm⟩, h⟩⟩
  | succ fuel => exact ⟨fun _ w hw => ⟨fr, m, ⟨⟨D, ha, hw.mks⟩, hw.c, hw.frm⟩, h⟩, by rw [hr]; simp⟩
theorem awp_region_draw {id : Nat} (hm : P.follows .mixedOrders = true) (h : AAny P C r n ops Q ops.size (Array.replicate ops.size false) fr m) : AWp P C r n (.region id ops true) Q fr m :=
  fun m0 w0 a w ha => by
    obtain ⟨D, hfr, hmk⟩ := ha.fr
    exact wpIn_region_any hm (AnyS.any _ _ _ _ (h m0 w0 a D hfr) _ (SM.still ⟨ha.c, ha.frm, hmk⟩ (Still.drewN w 1)))
/-- An order of work for a region: which operation, and whether it is taken as a quiet one. -/
def ordB (n : Nat) (ops : Array Oper) : Array Bool → List (Nat × Bool) → Bool
  | listed, [] => (Region.ready .any ops listed).isEmpty
  | listed, (i, true) :: r => takeB n ops listed i && ordB n ops (listed.setIfInBounds i true) r
  | listed, (i, false) :: r => Region.ready .any ops listed == [i] && (match ops[i]? with | some o => okOper n ops o | none => false) && ordB n ops (listed.setIfInBounds i true) r
def ADr (P : Program) {W : World} (C : Cls W) (r : Option Nat) (n : Nat) (ops : Array Oper) (Q : Post) : List (Nat × Bool) → Fr → Mem → Prop
  | [], fr, m => Q .normal fr m
  | (i, true) :: rs, fr, m => ∃ o, ops[i]? = some o ∧ ((Region.wanted o (yieldedF ops fr) = true ∧ ∃ v, QOp P W o fr m v ∧ ADr P C r n ops Q rs (putF fr o.dst v) m) ∨
      (Region.wanted o (yieldedF ops fr) = false ∧ ADr P C r n ops Q rs (putF fr o.dst undef) m))
  | (i, false) :: rs, fr, m => ∃ o, ops[i]? = some o ∧ ((Region.wanted o (yieldedF ops fr) = true ∧ AOp P C o fr m (fun v m' => (Le m m' ∨ fixedAt ops i = true) ∧ ADr P C r n ops Q rs (putF fr o.dst v) m')))
theorem ADr.any : ∀ (ord : List (Nat × Bool)) (listed : Array Bool) (fuel : Nat) (fr : Fr) (m : Mem), ord.length ≤ fuel → ordB n ops listed ord = true → ADr P C r n ops Q ord fr m → AAny P C r n ops Q fuel listed fr m
  | [], listed, fuel, fr, m, _, hb, h => aany_done (by simpa [ordB] using hb) h
  | (i, true) :: rs, listed, fuel, fr, m, hl, hb, h => by
    obtain ⟨o, ho, h⟩ := h
    simp only [ordB, Bool.and_eq_true] at hb
    cases fuel with
    | zero => simp at hl
    | succ fuel =>
      rcases h with ⟨hw, v, hq, h⟩ | ⟨hw, h⟩
      · exact aany_take i ho hb.1 hw hq (ADr.any rs _ fuel _ _ (by simpa using hl) hb.2 h)
      · exact aany_no i ho hb.1 hw (ADr.any rs _ fuel _ _ (by simpa using hl) hb.2 h)
  | (i, false) :: rs, listed, fuel, fr, m, hl, hb, h => by
    obtain ⟨o, ho, hw, h⟩ := h
    simp only [ordB, Bool.and_eq_true, ho, beq_iff_eq] at hb
    cases fuel with
    | zero => simp at hl
    | succ fuel =>
      exact aany_step i ho hb.1.1 hb.1.2 hw (h.mono fun v m' hk => ⟨hk.1, ADr.any rs _ fuel _ _ (by simpa using hl) hb.2 hk.2⟩)
def ordFrom : Nat → Nat → List (Nat × Bool)
  | 0, _ => []
  | k + 1, i => (i, true) :: ordFrom k (i + 1)
theorem ordFrom_length : ∀ k i, (ordFrom k i).length = k
  | 0, _ => rfl
  | k + 1, i => by simp [ordFrom, ordFrom_length k]
/-- A region whose operations are all quiet: in the order of the text. -/
theorem awp_region_q {id : Nat} (hm : P.follows .mixedOrders = true) (hb : ordB n ops (Array.replicate ops.size false) (ordFrom ops.size 0) = true) (h : ADr P C r n ops Q (ordFrom ops.size 0) fr m) : AWp P C r n (.region id ops true) Q fr m :=
  awp_region_draw hm (ADr.any _ _ _ _ _ (by rw [ordFrom_length]; exact Nat.le_refl _) hb h)
theorem awp_region_ord {id : Nat} (ord : List (Nat × Bool)) (hm : P.follows .mixedOrders = true) (hl : ord.length ≤ ops.size) (hb : ordB n ops (Array.replicate ops.size false) ord = true) (h : ADr P C r n ops Q ord fr m) : AWp P C r n (.region id ops true) Q fr m :=
  awp_region_draw hm (ADr.any _ _ _ _ _ hl hb h)
theorem adr_nil (h : Q .normal fr m) : ADr P C r n ops Q [] fr m := h
theorem adr_end {k : Nat} (h : Q .normal fr m) : ADr P C r n ops Q (ordFrom 0 k) fr m := h
theorem adr_q {i : Nat} {o : Oper} {rs : List (Nat × Bool)} {v : Value} {d : Tmp} (ho : ops[i]? = some o) (hq : QOp P W o fr m v) (hd : o.dst = some d) (hw : Region.wanted o (yieldedF ops fr) = true) (h : ADr P C r n ops Q rs (upd fr d v) m) :
    ADr P C r n ops Q ((i, true) :: rs) fr m := ⟨o, ho, .inl ⟨hw, v, hq, by rw [hd]; exact h⟩⟩
theorem adr_no {i : Nat} {o : Oper} {rs : List (Nat × Bool)} {d : Tmp} (ho : ops[i]? = some o) (hw : Region.wanted o (yieldedF ops fr) = false) (hd : o.dst = some d) (h : ADr P C r n ops Q rs (upd fr d undef) m) :
    ADr P C r n ops Q ((i, true) :: rs) fr m := ⟨o, ho, .inr ⟨hw, by rw [hd]; exact h⟩⟩
theorem adr_a {i : Nat} {o : Oper} {rs : List (Nat × Bool)} {d : Tmp} (ho : ops[i]? = some o) (hd : o.dst = some d) (hw : Region.wanted o (yieldedF ops fr) = true) (h : AOp P C o fr m (fun v m' => (Le m m' ∨ fixedAt ops i = true) ∧ ADr P C r n ops Q rs (upd fr d v) m')) :
    ADr P C r n ops Q ((i, false) :: rs) fr m := ⟨o, ho, hw, h.mono fun v m' hk => ⟨hk.1, by rw [hd]; exact hk.2⟩⟩
theorem adr_u {i : Nat} {o : Oper} {rs : List (Nat × Bool)} (ho : ops[i]? = some o) (hd : o.dst = none) (hf : fixedAt ops i = true) (hw : Region.wanted o (yieldedF ops fr) = true) (h : AOp P C o fr m (fun _ m' => ADr P C r n ops Q rs fr m')) :
    ADr P C r n ops Q ((i, false) :: rs) fr m := ⟨o, ho, hw, h.mono fun v m' hk => ⟨.inr hf, by rw [hd]; exact hk⟩⟩
end moves
end Go.Abs
