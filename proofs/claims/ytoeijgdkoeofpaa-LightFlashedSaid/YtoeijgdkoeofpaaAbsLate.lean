import Derived.Test.YtoeijgdkoeofpaaAbsEach
set_option linter.unusedSectionVars false
set_option linter.unusedSimpArgs false
set_option linter.unusedVariables false
/-! Abs: regions whose order is drawn, in which stores stand beside operations that read: what these read lies in entries 'LJ' that stay. -/
namespace Go.Abs
open Go Go.RowKit
section
variable {P : Program} {r : Option Nat} {ops : Array Oper} {Q : Exit → Act → World → Prop} {T : Nat → Bool} {J : World → Prop}
def AnyJ (P : Program) (r : Option Nat) (ops : Array Oper) (Q : Exit → Act → World → Prop) (T : Nat → Bool) (J : World → Prop) : Nat → (World → Prop) → Array Bool → Act → Prop
  | 0, S, listed, a => Region.ready .any ops listed = [] ∧ ∀ w, S w → Q .normal a w
  | fuel + 1, S, listed, a => (Region.ready .any ops listed = [] → ∀ w, S w → Q .normal a w) ∧
      ∀ j ∈ Region.ready .any ops listed, ∀ w, S w → wpOpIn (fen r) 0 P ops Q j (fun a' w' => ∃ S' : World → Prop, S' w' ∧ (∀ w x, S' w → Still w x → S' x) ∧ (∀ w, S' w → J w) ∧
        ((∀ w, S' w → S w) ∨ fixedT ops T j = true) ∧ AnyJ P r ops Q T J fuel S' (listed.setIfInBounds j true) a') a w
theorem AnyJ.any : ∀ (fuel : Nat) (S : World → Prop) (listed : Array Bool) (a : Act), AnyJ P r ops Q T J fuel S listed a → ∀ w, S w → wpAnyIn (fen r) 0 P .any ops Q fuel listed a w
  | 0, _, _, _, h, w, hw => ⟨h.1, h.2 w hw⟩
  | fuel + 1, _, _, _, h, w, hw => ⟨fun h0 => h.1 h0 w hw, fun j hj => wpOpIn_mono (fun a' w' ⟨S', h1, _, _, _, h4⟩ => AnyJ.any fuel S' _ a' h4 w' h1) (h.2 j hj w hw)⟩
theorem AnyJ_first {i : Nat} {oi : Oper} {v : Value} (hi : ops[i]? = some oi) (hsel : ∀ (j : Nat) (o : Oper) cs b, ops[j]? = some o → o.op ≠ .select cs b) (hdf : ∀ (j : Nat) (o : Oper) c, ops[j]? = some o → o.op ≠ .defer c)
    (hQ : ∀ c a w, Q (.panic c) (a.put oi.dst v) w → Q (.panic c) a w) :
    ∀ (fuel : Nat) (S : World → Prop) (listed : Array Bool) (a : Act), Closed ops listed →
      (∀ j oj, ops[j]? = some oj → j ≠ i → listed.getD j true = false → (∀ e ∈ oj.after, Region.binds .any e = true → e.on ≠ i) → oi.apart ops oj = true) →
      i ∈ Region.ready .any ops listed → YieldsQ P ops S oi v a → (T i = true → ∀ S : World → Prop, (∀ w, S w → J w) → YieldsQ P ops S oi v a) → (∀ w x, S w → Still w x → S x) → (∀ w, S w → J w) →
      AnyJ P r ops Q T J fuel S (listed.setIfInBounds i true) (a.put oi.dst v) → AnyJ P r ops Q T J (fuel + 1) S listed a := by
  intro fuel
  induction fuel with
  | zero =>
    intro S listed a hcl _ hr hy _ hd hJ H
    refine ⟨fun h => (by rw [h] at hr; cases hr), fun j hj w hw => ?_⟩
    by_cases hji : j = i
    · subst hji
      exact hy.wpOp hi (fun c => hdf _ oi c hi) hd hw fun w' hw' => ⟨S, hw', hd, hJ, .inl fun _ h => h, H⟩
    · have := ready_mono hj hji
      rw [H.1] at this
      cases this
  | succ fuel ih =>
    intro S listed a hcl hfree hr hy hp hd hJ H
    refine ⟨fun h => (by rw [h] at hr; cases hr), fun j hj w hw => ?_⟩
    by_cases hji : j = i
    · subst hji
      exact hy.wpOp hi (fun c => hdf _ oi c hi) hd hw fun w' hw' => ⟨S, hw', hd, hJ, .inl fun _ h => h, H⟩
    · have h1 := H.2 j (ready_mono hj hji) w hw
      obtain ⟨hjun, oj, hoj, hall⟩ := mem_ready.1 hj
      have hnot : ∀ e ∈ oj.after, Region.binds .any e = true → e.on ≠ i := fun e he hb heq => by
        have h1 := hall e he hb
        have h0 := (mem_ready.1 hr).1
        rw [heq] at h1
        rcases Nat.lt_or_ge i listed.size with h' | h'
        · simp [h'] at h0 h1; rw [h0] at h1; cases h1
        · simp [Array.getElem?_eq_none h'] at h1
      have h2 := wpOp_putQ hoj (hfree j oj hoj hji hjun hnot) (fun cs b => hsel i oi cs b hi) (fun cs b => hsel j oj cs b hoj) (fun c => hdf j oj c hoj) hQ h1
      have hfree' : ∀ k ok, ops[k]? = some ok → k ≠ i → (listed.setIfInBounds j true).getD k true = false →
          (∀ e ∈ ok.after, Region.binds .any e = true → e.on ≠ i) → oi.apart ops ok = true := fun k ok hk hki hun hno => by
        refine hfree k ok hk hki ?_ hno
        by_cases hjk : j = k
        · subst hjk; exact hjun
        · rw [getD_set_ne true hjk] at hun; exact hun
      refine wpOpIn_mono (fun a' w' h3 => ?_) h2
      obtain ⟨⟨k1, k2⟩, S', hS', hd', hJ', hor, h4⟩ := h3
      have hp' : T i = true → ∀ S : World → Prop, (∀ w, S w → J w) → YieldsQ P ops S oi v a' := fun ht S2 hS2 => by
        have := hp ht S2 hS2
        unfold YieldsQ at *
        rw [k1, k2]
        exact this
      have h5 : AnyJ P r ops Q T J fuel S' ((listed.setIfInBounds j true).setIfInBounds i true) (a'.put oi.dst v) := by
        rw [Array.setIfInBounds_comm _ _ hji]
        exact h4
      rcases hor with hsub | hfix
      · refine ⟨S', hS', hd', hJ', .inl hsub, ih S' (listed.setIfInBounds j true) a' (hcl.set hj) hfree' (ready_mono hr (Ne.symm hji)) ?_ hp' hd' hJ' h5⟩
        unfold YieldsQ at *
        rw [k1, k2]
        exact hy.imp (fun ⟨x, y⟩ => ⟨x, fun w hw => y w (hsub w hw)⟩) id
      · cases ht : T i
        · exact (fixedT_not hcl hr hj hji ht hfix).elim
        · exact ⟨S', hS', hd', hJ', .inr hfix, ih S' (listed.setIfInBounds j true) a' (hcl.set hj) hfree' (ready_mono hr (Ne.symm hji)) (hp' ht S' hJ') hp' hd' hJ' h5⟩
end
def AAnyJ (P : Program) {W : World} (C : Cls W) (r : Option Nat) (n : Nat) (ops : Array Oper) (Q : Post) (T : Nat → Bool) (LJ : List Ent) (fuel : Nat) (listed : Array Bool) (fr : Fr) (m : Mem) : Prop :=
  ∀ m0 w0 a D, FR n fr D a → AnyJ P r ops (QC C r n Q m0 w0) T (fun w => ∃ m', C.C m' w ∧ HP m' LJ) fuel (SM C r m0 w0 D m) listed a
section moves
variable {P : Program} {W : World} {C : Cls W} {r : Option Nat} {n : Nat} {Q : Post} {fr : Fr} {m : Mem} {ops : Array Oper} {fuel : Nat} {listed : Array Bool} {T : Nat → Bool} {LJ : List Ent}
theorem aanyJ_take (i : Nat) {o : Oper} {v : Value} {d : Tmp} (hH : HP m LJ) (ho : ops[i]? = some o) (hb : takeB n ops listed i = true) (hT : T i = false) (hd : o.dst = some d) (hw : Region.wanted o (yieldedF ops fr) = true) (hq : QOp P W o fr m v)
    (h : AAnyJ P C r n ops Q T LJ fuel (listed.setIfInBounds i true) (upd fr d v) m) : AAnyJ P C r n ops Q T LJ (fuel + 1) listed fr m := fun m0 w0 a D ha => by
  obtain ⟨h1, h2, h3, h4, h5, h6⟩ := takeB_spec ho hb
  refine AnyJ_first ho (Region.noSelect_spec h1) h2 (fun c a w hp => hp.elim) fuel (SM C r m0 w0 D m) listed a h5 (Region.free_spec ho h3) h4
    (.inl ⟨by rw [ha.wanted h6]; exact hw, fun w hw => by rw [ha.execOp h6]; exact hq w (C.conc hw.c)⟩) (fun ht => by rw [hT] at ht; cases ht) (fun _ _ hw k => hw.still k) (fun w hw => ⟨m, hw.c, hH⟩) (by rw [hd]; exact h m0 w0 _ D (ha.put (some d) v))
/-- One that reads only what stays. -/
theorem aanyJ_free (i : Nat) {o : Oper} {v : Value} {d : Tmp} (hH : HP m LJ) (ho : ops[i]? = some o) (hb : takeB n ops listed i = true) (hd : o.dst = some d) (hw : Region.wanted o (yieldedF ops fr) = true) (hq : ∀ m, HP m LJ → QOp P W o fr m v)
    (h : AAnyJ P C r n ops Q T LJ fuel (listed.setIfInBounds i true) (upd fr d v) m) : AAnyJ P C r n ops Q T LJ (fuel + 1) listed fr m := fun m0 w0 a D ha => by
  obtain ⟨h1, h2, h3, h4, h5, h6⟩ := takeB_spec ho hb
  have hy : ∀ S : World → Prop, (∀ w, S w → ∃ m', C.C m' w ∧ HP m' LJ) → YieldsQ P ops S o v a := fun S hS => .inl ⟨by rw [ha.wanted h6]; exact hw, fun w hw => by
    obtain ⟨m', hc, hH'⟩ := hS w hw
    rw [ha.execOp h6]; exact hq m' hH' w (C.conc hc)⟩
  exact AnyJ_first ho (Region.noSelect_spec h1) h2 (fun c a w hp => hp.elim) fuel (SM C r m0 w0 D m) listed a h5 (Region.free_spec ho h3) h4
    (hy _ (fun w hw => ⟨m, hw.c, hH⟩)) (fun _ => hy) (fun _ _ hw k => hw.still k) (fun w hw => ⟨m, hw.c, hH⟩) (by rw [hd]; exact h m0 w0 _ D (ha.put (some d) v))
def StepJ (P : Program) {W : World} (C : Cls W) (r : Option Nat) (n : Nat) (ops : Array Oper) (Q : Post) (T : Nat → Bool) (LJ : List Ent) (fuel : Nat) (listed : Array Bool) (fr : Fr) (m : Mem) (i : Nat) : Prop :=
  ∃ o, ops[i]? = some o ∧ okOper n ops o = true ∧ Region.wanted o (yieldedF ops fr) = true ∧ AOp P C o fr m (fun v m' => HP m' LJ ∧ (Le m m' ∨ fixedT ops T i = true) ∧ AAnyJ P C r n ops Q T LJ fuel (listed.setIfInBounds i true) (putF fr o.dst v) m')
theorem anyJ_each (rs : List Nat) (hr : Region.ready .any ops listed = rs) (hne : rs.isEmpty = false) (h : ∀ i ∈ rs, StepJ P C r n ops Q T LJ fuel listed fr m i) : AAnyJ P C r n ops Q T LJ (fuel + 1) listed fr m := fun m0 w0 a D ha => by
  refine ⟨fun h0 => (by rw [hr] at h0; subst h0; cases hne), fun j hj w hc => ?_⟩
  rw [hr] at hj
  obtain ⟨o, ho, hok, hw, hA⟩ := h j hj
  unfold wpOpIn
  simp only [ho]
  rw [ha.wanted hok, if_pos hw]
  refine hA.wp hc.c (ha.execOp hok) (okOper_spec hok).1.2 fun v m' w' hc' hf hk => ⟨SM C r m0 w0 D m', ⟨hc', hc.frm.trans hf, hc.mks.frm hf⟩, fun _ _ hw k => hw.still k, fun w hw => ⟨m', hw.c, hk.1⟩, ?_, hk.2.2 m0 w0 _ D (ha.put _ _)⟩
  exact hk.2.1.imp (fun hl _ hw => hw.forget hl) id
theorem stepJ_le {i : Nat} {o : Oper} {d : Tmp} (ho : ops[i]? = some o) (hok : okOper n ops o = true) (hd : o.dst = some d) (hw : Region.wanted o (yieldedF ops fr) = true) (h : AOp P C o fr m (fun v m' => HP m' LJ ∧ Le m m' ∧ AAnyJ P C r n ops Q T LJ fuel (listed.setIfInBounds i true) (upd fr d v) m')) :
    StepJ P C r n ops Q T LJ fuel listed fr m i := ⟨o, ho, hok, hw, h.mono fun v m' hk => ⟨hk.1, .inl hk.2.1, by rw [hd]; exact hk.2.2⟩⟩
theorem stepJ_fix {i : Nat} {o : Oper} (ho : ops[i]? = some o) (hok : okOper n ops o = true) (hd : o.dst = none) (hf : fixedT ops T i = true) (hw : Region.wanted o (yieldedF ops fr) = true) (h : AOp P C o fr m (fun _ m' => HP m' LJ ∧ AAnyJ P C r n ops Q T LJ fuel (listed.setIfInBounds i true) fr m')) :
    StepJ P C r n ops Q T LJ fuel listed fr m i := ⟨o, ho, hok, hw, h.mono fun v m' hk => ⟨hk.1, .inr hf, by rw [hd]; exact hk.2⟩⟩
theorem aanyJ_done (hr : Region.ready .any ops listed = []) (h : Q .normal fr m) : AAnyJ P C r n ops Q T LJ fuel listed fr m := fun m0 w0 a D ha => by
  cases fuel with
  | zero => exact ⟨hr, fun w hw => ⟨fr, m, ⟨⟨D, ha, hw.mks⟩, hw.c, hw.frm⟩, h⟩⟩
  | succ fuel => exact ⟨fun _ w hw => ⟨fr, m, ⟨⟨D, ha, hw.mks⟩, hw.c, hw.frm⟩, h⟩, by rw [hr]; simp⟩
/-- A drawn region, cut off. -/
theorem awp_cut_J {id : Nat} (ts : List Nat) (I : List Value → Mem → Prop) (T : Nat → Bool) (LJ : List Ent) (hm : P.follows .mixedOrders = true) (h : AAnyJ P C r n ops (cutQ ts I) T LJ ops.size (Array.replicate ops.size false) fr m)
    (k : ∀ b vs m', I vs m' → Q .normal (upds b ts vs) m') : AWp P C r n (.region id ops true) Q fr m :=
  awp_cut ts I (fun m0 w0 a w ha => by
    obtain ⟨D, hfr, hmk⟩ := ha.fr
    exact wpIn_region_any hm (AnyJ.any _ _ _ _ (h m0 w0 a D hfr) _ (SM.still ⟨ha.c, ha.frm, hmk⟩ (Still.drewN w 1)))) k
end moves
end Go.Abs
