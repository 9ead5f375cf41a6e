import Derived.Test.YtjepofehaphcnaaAbsClear
set_option linter.unusedSectionVars false
set_option linter.unusedSimpArgs false
set_option linter.unusedVariables false
/-! Iterators that read what their caller changes: 'G' is what they know of it. -/
namespace Go.Abs
open Go Go.RowKit
def IterG (P : Program) (W : World) (f : FuncId) (first cap : Array Value) (N : Nat) (As : Nat → Array Value → List Ent → Prop) (XC : List Ent) (G : List Ent → Prop) : Prop :=
  ∀ (l : Nat) (IC : Nat → List Ent → Prop) (JC : List Ent → Prop), (∀ k LC, IC k LC → G LC) →
    (∀ k args LF LC X M, k < N → As k args LF → IC k LC → HP M (LC ++ (LF ++ (XC ++ X))) → Yields P (gen W) l args M (fun v M' => (v = .bool true ∧ ∃ LC', IC (k + 1) LC' ∧ HP M' (LC' ++ (XC ++ X))) ∨ (v = .bool false ∧ ∃ LC', JC LC' ∧ HP M' (LC' ++ (XC ++ X))))) →
    ∀ LC X M, IC 0 LC → HP M (LC ++ (XC ++ X)) → ACalls P (gen W) f (first ++ #[.func (.yield l) #[] #[]] ++ cap) M (fun _ M' => (∃ LC', IC N LC' ∧ HP M' (LC' ++ (XC ++ X))) ∨ (∃ LC', JC LC' ∧ HP M' (LC' ++ (XC ++ X))))
section rng
variable {P : Program} {W : World}
theorem awp_rangeFuncG {r : Option Nat} {n : Nat} {Q : Post} {fr : Fr} {m : Mem} {g : Operand} {ps : Array Tmp} {assign body : Code} {f : FuncId} {first cap : Array Value} {N : Nat} {As : Nat → Array Value → List Ent → Prop} {XC : List Ent}
    (IC : Nat → List Ent → Prop) (J : Exit → List Ent → Prop) (X : List Ent) (G : List Ent → Prop) (hG : ∀ k LC, IC k LC → G LC) (hGc : ∀ p LC, G LC → G (p :: LC)) (hf : Fun P f) (hit : IterG P W f first cap N As XC G) (hok : okOpnd n g = true) (hv : evalF fr g = .func (.func f) first cap) (hsz : ∀ k args LF, As k args LF → args.size = ps.size)
    (h0 : ∃ LC, IC 0 LC ∧ HP m (LC ++ (XC ++ X)))
    (round : ∀ l k m1 args LF LC X', k < N → As k args LF → IC k LC → HP m1 (LC ++ (LF ++ (XC ++ X'))) → AWp P (gen W) (some l) n assign (asgQ (fun fr1 m2 => AWp P (gen W) (some l) n body (rndQ (fun m3 => ∃ LC', IC (k + 1) LC' ∧ HP m3 (LC' ++ (XC ++ X'))) (fun x m3 => ∃ LC', J x LC' ∧ HP m3 (LC' ++ (XC ++ X')))) fr1 m2)) (upds fr ps.toList args.toList) m1)
    (hN : ∀ m1 LC, IC N LC → HP m1 (LC ++ (XC ++ X)) → Q .normal fr m1) (hJ : ∀ x m1 LC, J x LC → HP m1 (LC ++ (XC ++ X)) → Q x fr m1) : AWp P (gen W) r n (.rangeFunc g ps assign body) Q fr m := fun m0 w0 a w ha => by
  refine wpIn_rangeFunc fun fn _ => ?_
  obtain ⟨l, Nn, D, L, w1, he, hst, hpe, hpa, htm, has, hbo, hfl, hwl, hWl, hfr, hc1, hf1, hfr1, hl1, hmne, hmk, hrl⟩ := enter_loop (P := P) ha fn ps assign body
  rw [fen_round]
  have hga : a.eval g = .func (.func f) first cap := (hfr.eval hok).trans hv
  obtain ⟨fnc, cc, hff, hbb, hnn⟩ := hf
  have hn' : ¬ fnc.name = "runtime.NumGoroutine" := by simpa using hnn
  refine ⟨l, Nn.map markOf, w1, { target := .fn (.func f) cap, args := first ++ #[.func (.yield l) #[] #[]] }, w1, f, first ++ #[.func (.yield l) #[] #[]] ++ cap, w1, he, ?_, fun f' _ => fen_fn r f', ?_, fun h => (by rw [fen_depth] at h; cases h), ?_⟩
  · have : a.eval (.const (.func (.yield l) #[] #[])) = .func (.yield l) #[] #[] := rfl
    simp [resolve, rangeCall, hga, Deferred.ofValue, this]
  · simp [invoke, callFunc, hff, hbb, hn']
  · obtain ⟨LC0, i0, H0⟩ := h0
    have hI := hit l (fun k LL => ∃ LC, IC k LC ∧ LL = .obj l (.loop L) :: LC)
      (fun LL => ∃ x c LC, codeOf x = some c ∧ J x LC ∧ LL = .obj l (.loop { L with state := .done, pending := some c }) :: LC)
      (fun k LL ⟨LC, hIC, hLL⟩ => by subst hLL; exact hGc _ _ (hG k LC hIC))
      (fun k args LF LL X' M hk hAs ⟨LC, hIC, hLL⟩ hM => by
        subst hLL
        intro w' hw'
        have hob : M.obj l = some (.loop L) := hM.ok _ (List.mem_cons_self ..)
        have hfree : (M.delO l).free l := ⟨Conc.noGet hw' hob, by simp [Mem.delO]⟩
        have hdel : HP (M.delO l) (LC ++ (LF ++ (XC ++ X'))) := HP.delObj hM
        have hrd := round l k (M.delO l) args LF LC X' hk hAs hIC hdel
        rw [← has, ← hbo, ← hpa] at hrd
        have hfr' : FR n fr D ⟨L.tmps, D.map markOf⟩ := ⟨by rw [htm]; exact hfr.size, rfl, hfr.nodup, by rw [htm]; exact hfr.at_⟩
        have hy := yields_of (W := W) (D := D) hst hpe (by rw [hpa]; exact hsz k args LF hAs) hfree hWl hfr' hrd
        rw [Mem.del_put hob] at hy
        obtain ⟨L', y1, y2, y3⟩ := hy w' hw'
        refine ⟨L', y1, y2, y3.mono fun e w'' ⟨v, m', z1, z2, z3, z4⟩ => ⟨v, m', z1, z2, z3, ?_⟩⟩
        obtain ⟨m2, z5, z6⟩ := z4
        rcases z6 with ⟨z6, z7, LC', z8, z9⟩ | ⟨z6, x, c, z7, z8, LC', z9, z10⟩
        · exact .inl ⟨z6, _, ⟨LC', z8, rfl⟩, by rw [z7]; exact HP.consObj z9 z5⟩
        · exact .inr ⟨z6, _, ⟨x, c, LC', z7, z9, rfl⟩, by rw [z8]; exact HP.consObj z10 z5⟩)
      (.obj l (.loop L) :: LC0) X (m.putO l (.loop L)) ⟨LC0, i0, rfl⟩ (HP.consObj H0 hfl)
    refine callsIn_fen ((hI w1 hc1).mono fun e w3 ⟨v, M', q1, q2, q3, q4⟩ => ?_)
    subst q1
    -- what holds behind the loop
    have fin : ∀ (m' : Mem) (L' : Loop), m'.free l → M' = m'.putO l (.loop L') → (L'.state == .busy) = false →
        (Instr.endLoop l).run P w3 = .ok L'.pending (putObj w3 l (.loop { L' with state := .exhausted })) ∧ At (gen W) r n m0 w0 fr m' { a with defers := Nn.map markOf ++ a.defers } (putObj w3 l (.loop { L' with state := .exhausted })) := by
      intro m' L' k1 k2 k3
      subst k2
      have hl3 : w3.heap[l]? = some (.loop L') := (q2.obj l (.loop L') (by simp [Mem.putO])).2.1
      have hc3 : Conc W m' w3 := Conc.forget q2 (Mem.putO_le k1)
      have hside : ∀ B, B < w1.heap.size → m.free B → B ≠ l → m'.free B ∧ (putObj w3 l (.loop { L' with state := .exhausted })).heap[B]? = w1.heap[B]? := fun B hB hfB hne => by
        obtain ⟨g1, g2⟩ := q3.old B hB (Mem.free_putO hfB hne)
        exact ⟨(Mem.putO_free g1).2, by rw [putObj_ne _ _ hne]; exact g2⟩
      refine ⟨run_endLoop hl3 k3, ⟨⟨Nn ++ D, hfr1, ⟨fun B hB => ?_, fun l0 e => ?_, fun l0 e => hmk.nil l0 e⟩⟩, Conc.other hc3 k1 hWl, ?_⟩⟩
      · obtain ⟨g0, g1, g2⟩ := hmk.marks B hB
        obtain ⟨g3, g4⟩ := hside B (Array.getElem?_eq_some_iff.1 g1).1 g2 (hmne B hB)
        exact ⟨g0, g4.trans g1, g3⟩
      · obtain ⟨L0, g1, g2⟩ := hmk.rnd l0 e
        obtain ⟨g3, g4⟩ := hside l0 (Array.getElem?_eq_some_iff.1 g1).1 g2 (hrl l0 e)
        exact ⟨L0, g4.trans g1, g3⟩
      · refine ha.frm.trans ⟨?_, fun B hB hfB => ?_⟩
        · rw [putObj_size]; exact Nat.le_trans hf1.size q3.size
        · obtain ⟨g1, g2⟩ := hside B (Nat.lt_of_lt_of_le hB hf1.size) hfB (by omega)
          exact ⟨g1, g2.trans (hf1.old B hB hfB).2⟩
    rcases q4 with ⟨LL, ⟨LC, hIC, rfl⟩, hM⟩ | ⟨LL, ⟨x, c, LC, k4, hJC, rfl⟩, hM⟩
    · have hob : M'.obj l = some (.loop L) := hM.ok _ (List.mem_cons_self ..)
      obtain ⟨e1, e2⟩ := fin (M'.delO l) L ⟨Conc.noGet q2 hob, by simp [Mem.delO]⟩ (Mem.del_put hob).symm (by rw [hst]; rfl)
      rw [hpe] at e1 e2
      exact ⟨_, _, e1, fr, _, e2, hN _ LC hIC (HP.delObj hM)⟩
    · have hob : M'.obj l = some (.loop { L with state := .done, pending := some c }) := hM.ok _ (List.mem_cons_self ..)
      obtain ⟨e1, e2⟩ := fin (M'.delO l) _ ⟨Conc.noGet q2 hob, by simp [Mem.delO]⟩ (Mem.del_put hob).symm rfl
      exact ⟨_, _, e1, awp_jump k4 (hJ x _ LC hJC (HP.delObj hM)) m0 w0 _ _ e2⟩
end rng
end Go.Abs
