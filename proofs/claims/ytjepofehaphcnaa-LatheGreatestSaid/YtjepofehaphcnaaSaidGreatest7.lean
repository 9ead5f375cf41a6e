/- For every input: barleycornlaw07.LatheGreatest returns true and leaves what its arguments read as it was. Conditions: none beyond those of the given row. -/
import Derived.Test.YtjepofehaphcnaaLaw07h
import Derived.Test.YtjepofehaphcnaaOpe07
import Derived.Test.YtjepofehaphcnaaWor07
import Derived.Test.YtjepofehaphcnaaRows
import Derived.WalkKit
import Derived.ProofKit
import Derived.OpenShut
import Derived.ShutString
import Derived.ChangeOld
import Derived.Below
/-! The statement on barleycornlaw07.LatheGreatest, over the walk. -/
namespace Go.Proofs.Ytjepofehaphcnaa.latheGreatestDone
open Go Go.Abs Go.ChangeShapes Go.WideShapes Go.ChangeAt Go.RowKit
set_option linter.unusedVariables false
theorem own : ownKnob Try.prog.godebug = Option.none := by kernel_rfl
theorem laidOut : laidOutB Try.prog = true := by kernel_rfl
set_option maxHeartbeats 4000000 in
set_option maxRecDepth 100000 in
theorem atRow (os : Os) (started : os.Started) (H : Type) (enc : TypeId × Value → H) :
    ReturnsInHanded {} Try.checked os 12 .any (Rows.latheGreatestSpec.pre6 enc Try.prog Try.f12 Rows.latheGreatestRow.domain false) (Rows.latheGreatestSpec.post enc Try.prog Try.f12 false true false false) := by
  refine returnsInHanded_of_change (C := Try.checked) own started (by kernel_rfl) Try.func12
    (ChangeSpec.witness6 (enc := enc) (C := Try.checked) false ⟨#[], #[.agg #[.int .i64 0, .int .i64 0, .int .i64 0, .int .i64 0, .int .i64 0], .agg #[.int .i64 0, .int .i64 0], .slice Option.none 0 0, .slice Option.none 0 0, .slice Option.none 0 0], []⟩ 8 (by kernel_rfl) (by kernel_rfl) (by kernel_rfl) (by kernel_rfl)) ?_
  intro W base args ds gs before hval0 hW hcnd _
  have hval : ∀ (j : Nat) t v, Try.f12.params[j]? = some t → args[j]? = some v → Value.okWide Try.prog W .any base t v := hval0
  have hW' := hW
  obtain ⟨p, q, hA0, hV, rfl, hfz, hnd⟩ := hW
  have hA : DataW.TrodAll enc Try.prog W 0 (fun _ => true) true Try.f12.params.toList args.toList ds p := hA0
  rw [Try.params12] at hA hval
  obtain ⟨v0, vs0, d0, ds0, p0, q0, hargs, rfl, rfl, h0, r0⟩ := trodAll_cons hA
  obtain ⟨v1, vs1, d1, ds1, p1, q1, rfl, rfl, rfl, h1, r1⟩ := trodAll_cons r0
  obtain ⟨v2, vs2, d2, ds2, p2, q2, rfl, rfl, rfl, h2, r2⟩ := trodAll_cons r1
  obtain ⟨v3, vs3, d3, ds3, p3, q3, rfl, rfl, rfl, h3, r3⟩ := trodAll_cons r2
  obtain ⟨v4, vs4, d4, ds4, p4, q4, rfl, rfl, rfl, h4, r4⟩ := trodAll_cons r3
  obtain ⟨rfl, rfl, rfl⟩ := trodAll_nil r4
  obtain rfl : args = #[v0, v1, v2, v3, v4] := by cases args; simp_all
  obtain ⟨rfl, rfl⟩ := trodVars_none hV
  have k0 := h0
  have lt0 : ∀ x ∈ p0, x.block < W.heap.size := by obtain ⟨m, hm⟩ := k0; exact DataW.trod_lt m _ _ _ hm
  obtain ⟨cs0, nn0, rfl, hf0⟩ := open_agg Try.underlying29 (hval 0 29 v0 rfl rfl) h0
  obtain ⟨sh0, rfl⟩ := Go.R07.open_sheet hf0
  have k1 := h1
  have lt1 : ∀ x ∈ p1, x.block < W.heap.size := by obtain ⟨m, hm⟩ := k1; exact DataW.trod_lt m _ _ _ hm
  obtain ⟨cs1, nn1, rfl, hf1⟩ := open_agg Try.underlying38 (hval 1 38 v1 rfl rfl) h1
  obtain ⟨qa1, qb1, rfl, qc1, qd1⟩ := open_pair Try.underlying38 ⟨rfl, rfl⟩ ⟨rfl, rfl⟩ Try.underlying3 (by kernel_rfl) (by kernel_rfl) hf1
  have k2 := h2
  have lt2 : ∀ x ∈ p2, x.block < W.heap.size := by obtain ⟨m, hm⟩ := k2; exact DataW.trod_lt m _ _ _ hm
  obtain ⟨a2, len2, cap2, rfl⟩ := okWide_slice Try.underlying23 (hval 2 23 v2 rfl rfl)
  obtain ⟨L2, hs2, hR2⟩ : ∃ (L : List (List Int)) (hs : List Value), Go.R07.ROWS i64s W Mem.none (.slice a2 len2 cap2) L hs := by
    obtain ⟨fuel, hf⟩ := h2
    exact Go.R07.open_rows hf
  have k3 := h3
  have lt3 : ∀ x ∈ p3, x.block < W.heap.size := by obtain ⟨m, hm⟩ := k3; exact DataW.trod_lt m _ _ _ hm
  obtain ⟨a3, len3, cap3, rfl⟩ := okWide_slice Try.underlying23 (hval 3 23 v3 rfl rfl)
  obtain ⟨L3, hs3, hR3⟩ : ∃ (L : List (List Int)) (hs : List Value), Go.R07.ROWS i64s W Mem.none (.slice a3 len3 cap3) L hs := by
    obtain ⟨fuel, hf⟩ := h3
    exact Go.R07.open_rows hf
  have k4 := h4
  have lt4 : ∀ x ∈ p4, x.block < W.heap.size := by obtain ⟨m, hm⟩ := k4; exact DataW.trod_lt m _ _ _ hm
  obtain ⟨a4, len4, cap4, rfl⟩ := okWide_slice Try.underlying24 (hval 4 24 v4 rfl rfl)
  obtain ⟨L4, hs4, hR4⟩ : ∃ (L : List (List Int)) (hs : List Value), Go.R07.ROWS i64s W Mem.none (.slice a4 len4 cap4) L hs := by
    obtain ⟨fuel, hf⟩ := h4
    exact Go.R07.open_band hf
  clear hA0 hval0
  refine ((Go.R07.greatest_law W _ _ _ sh0 ⟨qa1, qb1⟩ L2 L3 L4 hs2 hs3 hs4 hR2 hR3 hR4) W (Conc.start W)).mono fun e W' ⟨v, m', he, hc, _, hv⟩ => ?_
  have bel : Below W.heap.size W W' := hc.below
  subst hv
  subst he
  exact ⟨_, rfl, _, _, _, [], _, [], hW', trodAll_mk1 (shut_bool Try.underlying4 _), (trodAll_cons_mk (Below.trod laidOut (by kernel_rfl) (of_decide_eq_true (by kernel_rfl)) k0 bel lt0) (trodAll_cons_mk (Below.trod laidOut (by kernel_rfl) (of_decide_eq_true (by kernel_rfl)) k1 bel lt1) (trodAll_cons_mk (Below.trod laidOut (by kernel_rfl) (of_decide_eq_true (by kernel_rfl)) k2 bel lt2) (trodAll_cons_mk (Below.trod laidOut (by kernel_rfl) (of_decide_eq_true (by kernel_rfl)) k3 bel lt3) (trodAll_cons_mk (Below.trod laidOut (by kernel_rfl) (of_decide_eq_true (by kernel_rfl)) k4 bel lt4) trodAll_mk0))))), rfl, bel.frame _, fun h => by cases h⟩
set_option maxHeartbeats 4000000 in
set_option maxRecDepth 100000 in
theorem closed : joinedFacts Try.pinned.checked.prog 12 Try.f12 Rows.latheGreatestSpec Rows.latheGreatestRow = true := by
  simp only [joinedFacts, Bool.and_eq_true]
  and_intros
  iterate 25 (· as_aux_lemma => kernel_rfl)
  · exact mWE
  · as_aux_lemma => (rw [mWF]; kernel_rfl)
  · as_aux_lemma => (rw [mWM]; kernel_rfl)
  all_goals (as_aux_lemma => kernel_rfl)
theorem over : Rows.latheGreatestRow.holds Try.pinned (OpenSpec.ofChange Rows.latheGreatestSpec) :=
  OpenClaim.holds_of_wide 12 Try.f12 rfl rfl rfl rfl rfl rfl rfl ⟨rfl, rfl, rfl, rfl, rfl⟩ rfl rfl rfl rfl rfl (by kernel_rfl) Try.func12 closed
    (of_decide_eq_true (by kernel_rfl)) (by unfold Func.isWrapper; first | (rw [if_pos (by decide +kernel)]; kernel_rfl) | (rw [if_neg (by decide +kernel)]; exact ⟨rfl, rfl⟩))
    (fun os started H enc _ => atRow os started H enc)
theorem proved : Rows.LatheGreatestSaid := over
#print axioms proved
end Go.Proofs.Ytjepofehaphcnaa.latheGreatestDone
