import Derived.Test.YtjepofehaphcnaaAbsProg
import Derived.Laws.CopyRow
set_option linter.unusedSectionVars false
set_option linter.unusedSimpArgs false
set_option linter.unusedVariables false
/-! Abs: copy, slices of arrays; iterators that keep memory of their own between what they yield. -/
namespace Go.Abs
open Go Go.RowKit
theorem apartE.symm {p q : Ent} (h : apartE p q) : apartE q p := fun B hq hp => h B hp hq
theorem HP.perm {m : Mem} {l l' : List Ent} (h : HP m l) (hp : l.Perm l') : HP m l' := ⟨fun p hq => h.ok p (hp.mem_iff.2 hq), (hp.pairwise_iff (fun h => apartE.symm h)).1 h.apart⟩
section ops
variable {P : Program} {W : World} {C : Cls W} {o : Oper} {fr : Fr} {m : Mem} {I S : TypeId}
end ops
end Go.Abs
namespace Go.Abs
open Go Go.RowKit
/-! ### iterators with memory of their own -/
def Mem.delO (m : Mem) (l : Nat) : Mem := { m with obj := fun j => if j = l then Option.none else m.obj j }
theorem Mem.del_put {m : Mem} {l : Nat} {o : Obj} (h : m.obj l = some o) : (m.delO l).putO l o = m := by
  cases m with
  | mk g ob =>
    unfold Mem.delO Mem.putO
    congr 1
    funext j
    dsimp only
    split
    · rename_i e; subst e; exact h.symm
    · rfl
theorem HP.delObj {m : Mem} {l : Nat} {o : Obj} {rest : List Ent} (h : HP m (.obj l o :: rest)) : HP (m.delO l) rest := by
  have ha := (List.pairwise_cons.1 h.apart)
  refine ⟨fun p hp => ?_, ha.2⟩
  have hok := h.ok p (List.mem_cons_of_mem _ hp)
  have hne := ha.1 p hp
  cases p with
  | sl v e s n xs => exact ⟨hok.1, hok.2⟩
  | box B b => exact hok
  | obj B x =>
    have : B ≠ l := fun e => hne l rfl (by rw [e]; rfl)
    show (if B = l then Option.none else m.obj B) = some x
    rw [if_neg this]; exact hok
theorem HP.consObj {m : Mem} {l : Nat} {o : Obj} {rest : List Ent} (h : HP m rest) (hf : m.free l) : HP (m.putO l o) (.obj l o :: rest) := by
  refine ⟨fun p hp => ?_, List.pairwise_cons.2 ⟨fun q hq B hB hqB => ?_, h.apart⟩⟩
  · rcases List.mem_cons.1 hp with rfl | hp
    · show (if l = l then some o else m.obj l) = some o
      rw [if_pos rfl]
    · have hok := h.ok p hp
      cases p with
      | sl v e s n xs => exact ⟨hok.1, hok.2⟩
      | box B b => exact hok
      | obj B x =>
        have hok : m.obj B = some x := hok
        have : B ≠ l := fun e => by rw [e, hf.2] at hok; cases hok
        show (if B = l then some o else m.obj B) = some x
        rw [if_neg this]; exact hok
  · obtain rfl : l = B := by simpa [Ent.blk] using hB
    exact Ent.known (h.ok q hq) hqB hf
theorem Conc.noGet {W : World} {m : Mem} {w : World} (h : Conc W m w) {l : Nat} {o : Obj} (ho : m.obj l = some o) : m l = Option.none := by
  cases hm : m l with
  | none => rfl
  | some b => have := h.apart hm; rw [ho] at this; cases this
/-- An iterator, over lists of what is known: 'XC' is known to it and to whoever ranges over it and stays; what it yields may bring memory 'LF' along. -/
def IterH (P : Program) (W : World) (f : FuncId) (first cap : Array Value) (N : Nat) (As : Nat → Array Value → List Ent → Prop) (XC : List Ent) : Prop :=
  ∀ (l : Nat) (IC : Nat → List Ent → Prop) (JC : List Ent → Prop),
    (∀ k args LF LC X M, k < N → As k args LF → IC k LC → HP M (LC ++ (LF ++ (XC ++ X))) → Yields P (gen W) l args M (fun v M' => (v = .bool true ∧ ∃ LC', IC (k + 1) LC' ∧ HP M' (LC' ++ (XC ++ X))) ∨ (v = .bool false ∧ ∃ LC', JC LC' ∧ HP M' (LC' ++ (XC ++ X))))) →
    ∀ LC X M, IC 0 LC → HP M (LC ++ (XC ++ X)) → ACalls P (gen W) f (first ++ #[.func (.yield l) #[] #[]] ++ cap) M (fun _ M' => (∃ LC', IC N LC' ∧ HP M' (LC' ++ (XC ++ X))) ∨ (∃ LC', JC LC' ∧ HP M' (LC' ++ (XC ++ X))))
section rng
variable {P : Program} {W : World}
theorem awp_rangeFuncH {r : Option Nat} {n : Nat} {Q : Post} {fr : Fr} {m : Mem} {g : Operand} {ps : Array Tmp} {assign body : Code} {f : FuncId} {first cap : Array Value} {N : Nat} {As : Nat → Array Value → List Ent → Prop} {XC : List Ent}
    (IC : Nat → List Ent → Prop) (J : Exit → List Ent → Prop) (X : List Ent) (hf : Fun P f) (hit : IterH P W f first cap N As XC) (hok : okOpnd n g = true) (hv : evalF fr g = .func (.func f) first cap) (hsz : ∀ k args LF, As k args LF → args.size = ps.size)
    (h0 : ∃ LC, IC 0 LC ∧ HP m (LC ++ (XC ++ X)))
    (round : ∀ l k m1 args LF LC X', k < N → As k args LF → IC k LC → HP m1 (LC ++ (LF ++ (XC ++ X'))) → AWp P (gen W) (some l) n assign (asgQ (fun fr1 m2 => AWp P (gen W) (some l) n body (rndQ (fun m3 => ∃ LC', IC (k + 1) LC' ∧ HP m3 (LC' ++ (XC ++ X'))) (fun x m3 => ∃ LC', J x LC' ∧ HP m3 (LC' ++ (XC ++ X')))) fr1 m2)) (upds fr ps.toList args.toList) m1)
    (hN : ∀ m1 LC, IC N LC → HP m1 (LC ++ (XC ++ X)) → Q .normal fr m1) (hJ : ∀ x m1 LC, J x LC → HP m1 (LC ++ (XC ++ X)) → Q x fr m1) : AWp P (gen W) r n (.rangeFunc g ps assign body) Q fr m := fun m0 w0 a w ha => by
  refine wpIn_rangeFunc fun fn _ => ?_
  obtain ⟨l, Nn, D, L, w1, he, hst, hpe, hpa, htm, has, hbo, hfl, hwl, hWl, hfr, hc1, hf1, hfr1, hl1, hmne, hmk, hrl⟩ := enter_loop (P := P) ha fn ps assign body
  rw [fen_round]
  have hga : a.eval g = .func (.func f) first cap := (hfr.eval hok).trans hv
  obtain ⟨fnc, cc, hff, hbb, hnn⟩ := hf
  have hn' : ¬ fnc.name = "runtime.NumGoroutine" := by simpa using hnn
  refine ⟨l, Nn.map markOf, w1, { target := .fn (.func f) cap, args := first ++ #[.func (.yield l) #[] #[]] }, w1, f, first ++ #[.func (.yield l) #[] #[]] ++ cap, w1, he, ?_, fun f' _ => fen_fn r f', ?_, fun h => (by rw [fen_depth] at h; cases h), ?_⟩
  · have : a.eval (.const (.func (.yield l) #[] #[])) = .func (.yield l) #[] #[] := rfl
    simp [resolve, rangeCall, hga, Deferred.ofValue, this]
  · simp [invoke, callFunc, hff, hbb, hn']
  · obtain ⟨LC0, i0, H0⟩ := h0
    have hI := hit l (fun k LL => ∃ LC, IC k LC ∧ LL = .obj l (.loop L) :: LC)
      (fun LL => ∃ x c LC, codeOf x = some c ∧ J x LC ∧ LL = .obj l (.loop { L with state := .done, pending := some c }) :: LC)
      (fun k args LF LL X' M hk hAs ⟨LC, hIC, hLL⟩ hM => by
        subst hLL
        intro w' hw'
        have hob : M.obj l = some (.loop L) := hM.ok _ (List.mem_cons_self ..)
        have hfree : (M.delO l).free l := ⟨Conc.noGet hw' hob, by simp [Mem.delO]⟩
        have hdel : HP (M.delO l) (LC ++ (LF ++ (XC ++ X'))) := HP.delObj hM
        have hrd := round l k (M.delO l) args LF LC X' hk hAs hIC hdel
        rw [← has, ← hbo, ← hpa] at hrd
        have hfr' : FR n fr D ⟨L.tmps, D.map markOf⟩ := ⟨by rw [htm]; exact hfr.size, rfl, hfr.nodup, by rw [htm]; exact hfr.at_⟩
        have hy := yields_of (W := W) (D := D) hst hpe (by rw [hpa]; exact hsz k args LF hAs) hfree hWl hfr' hrd
        rw [Mem.del_put hob] at hy
        obtain ⟨L', y1, y2, y3⟩ := hy w' hw'
        refine ⟨L', y1, y2, y3.mono fun e w'' ⟨v, m', z1, z2, z3, z4⟩ => ⟨v, m', z1, z2, z3, ?_⟩⟩
        obtain ⟨m2, z5, z6⟩ := z4
        rcases z6 with ⟨z6, z7, LC', z8, z9⟩ | ⟨z6, x, c, z7, z8, LC', z9, z10⟩
        · exact .inl ⟨z6, _, ⟨LC', z8, rfl⟩, by rw [z7]; exact HP.consObj z9 z5⟩
        · exact .inr ⟨z6, _, ⟨x, c, LC', z7, z9, rfl⟩, by rw [z8]; exact HP.consObj z10 z5⟩)
      (.obj l (.loop L) :: LC0) X (m.putO l (.loop L)) ⟨LC0, i0, rfl⟩ (HP.consObj H0 hfl)
    refine callsIn_fen ((hI w1 hc1).mono fun e w3 ⟨v, M', q1, q2, q3, q4⟩ => ?_)
    subst q1
    -- what holds behind the loop
    have fin : ∀ (m' : Mem) (L' : Loop), m'.free l → M' = m'.putO l (.loop L') → (L'.state == .busy) = false →
        (Instr.endLoop l).run P w3 = .ok L'.pending (putObj w3 l (.loop { L' with state := .exhausted })) ∧ At (gen W) r n m0 w0 fr m' { a with defers := Nn.map markOf ++ a.defers } (putObj w3 l (.loop { L' with state := .exhausted })) := by
      intro m' L' k1 k2 k3
      subst k2
      have hl3 : w3.heap[l]? = some (.loop L') := (q2.obj l (.loop L') (by simp [Mem.putO])).2.1
      have hc3 : Conc W m' w3 := Conc.forget q2 (Mem.putO_le k1)
      have hside : ∀ B, B < w1.heap.size → m.free B → B ≠ l → m'.free B ∧ (putObj w3 l (.loop { L' with state := .exhausted })).heap[B]? = w1.heap[B]? := fun B hB hfB hne => by
        obtain ⟨g1, g2⟩ := q3.old B hB (Mem.free_putO hfB hne)
        exact ⟨(Mem.putO_free g1).2, by rw [putObj_ne _ _ hne]; exact g2⟩
      refine ⟨run_endLoop hl3 k3, ⟨⟨Nn ++ D, hfr1, ⟨fun B hB => ?_, fun l0 e => ?_, fun l0 e => hmk.nil l0 e⟩⟩, Conc.other hc3 k1 hWl, ?_⟩⟩
      · obtain ⟨g0, g1, g2⟩ := hmk.marks B hB
        obtain ⟨g3, g4⟩ := hside B (Array.getElem?_eq_some_iff.1 g1).1 g2 (hmne B hB)
        exact ⟨g0, g4.trans g1, g3⟩
      · obtain ⟨L0, g1, g2⟩ := hmk.rnd l0 e
        obtain ⟨g3, g4⟩ := hside l0 (Array.getElem?_eq_some_iff.1 g1).1 g2 (hrl l0 e)
        exact ⟨L0, g4.trans g1, g3⟩
      · refine ha.frm.trans ⟨?_, fun B hB hfB => ?_⟩
        · rw [putObj_size]; exact Nat.le_trans hf1.size q3.size
        · obtain ⟨g1, g2⟩ := hside B (Nat.lt_of_lt_of_le hB hf1.size) hfB (by omega)
          exact ⟨g1, g2.trans (hf1.old B hB hfB).2⟩
    rcases q4 with ⟨LL, ⟨LC, hIC, rfl⟩, hM⟩ | ⟨LL, ⟨x, c, LC, k4, hJC, rfl⟩, hM⟩
    · have hob : M'.obj l = some (.loop L) := hM.ok _ (List.mem_cons_self ..)
      obtain ⟨e1, e2⟩ := fin (M'.delO l) L ⟨Conc.noGet q2 hob, by simp [Mem.delO]⟩ (Mem.del_put hob).symm (by rw [hst]; rfl)
      rw [hpe] at e1 e2
      exact ⟨_, _, e1, fr, _, e2, hN _ LC hIC (HP.delObj hM)⟩
    · have hob : M'.obj l = some (.loop { L with state := .done, pending := some c }) := hM.ok _ (List.mem_cons_self ..)
      obtain ⟨e1, e2⟩ := fin (M'.delO l) _ ⟨Conc.noGet q2 hob, by simp [Mem.delO]⟩ (Mem.del_put hob).symm rfl
      exact ⟨_, _, e1, awp_jump k4 (hJ x _ LC hJC (HP.delObj hM)) m0 w0 _ _ e2⟩
end rng
end Go.Abs
namespace Go.Abs
open Go Go.RowKit
/-- Some of the entries, in another order. -/
theorem HP.picks {m : Mem} {l : List Ent} (h : HP m l) (is : List Nat) (hn : is.Nodup) : HP m (is.filterMap fun i => l[i]?) := by
  refine ⟨fun p hp => ?_, ?_⟩
  · obtain ⟨i, _, hi⟩ := List.mem_filterMap.1 hp
    exact h.ok p (List.mem_of_getElem? hi)
  · rw [List.pairwise_filterMap]
    refine hn.imp fun {i j} hne p hp q hq => ?_
    obtain ⟨hi, rfl⟩ := List.getElem?_eq_some_iff.1 hp
    obtain ⟨hj, rfl⟩ := List.getElem?_eq_some_iff.1 hq
    have hA := List.pairwise_iff_getElem.1 h.apart
    rcases Nat.lt_or_ge i j with c | c
    · exact hA i j hi hj c
    · exact (hA j i hj hi (by omega)).symm
theorem HP.cellM {W : World} {m : Mem} {l : List Ent} (H : HP m l) {B : Nat} {T : TypeId} {v : Value} (hi : Ent.v T B v ∈ l) : cellAt W m ⟨B, 0, Option.none⟩ v := ⟨rfl, .inr ⟨_, H.ok _ hi, rfl⟩⟩
end Go.Abs
