/- For every input: barleycornlaw07.LatheClashes returns true and leaves what its arguments read as it was. Conditions: none beyond those of the given row. -/
import Derived.Test.YtjepofehaphcnaaLaw07d
import Derived.Test.YtjepofehaphcnaaOpe07
import Derived.Test.YtjepofehaphcnaaWor07
import Derived.Test.YtjepofehaphcnaaRows
import Derived.WalkKit
import Derived.ProofKit
import Derived.OpenShut
import Derived.ShutString
import Derived.ChangeOld
import Derived.Below
/-! The statement on barleycornlaw07.LatheClashes, over the walk. -/
namespace Go.Proofs.Ytjepofehaphcnaa.latheClashesDone
open Go Go.Abs Go.ChangeShapes Go.WideShapes Go.ChangeAt Go.RowKit
set_option linter.unusedVariables false
theorem own : ownKnob Try.prog.godebug = Option.none := by kernel_rfl
theorem laidOut : laidOutB Try.prog = true := by kernel_rfl
set_option maxHeartbeats 4000000 in
set_option maxRecDepth 100000 in
theorem atRow (os : Os) (started : os.Started) (H : Type) (enc : TypeId × Value → H) :
    ReturnsInHanded {} Try.checked os 10 .any (Rows.latheClashesSpec.pre6 enc Try.prog Try.f10 Rows.latheClashesRow.domain false) (Rows.latheClashesSpec.post enc Try.prog Try.f10 false true false false) := by
  refine returnsInHanded_of_change (C := Try.checked) own started (by kernel_rfl) Try.func10
    (ChangeSpec.witness6 (enc := enc) (C := Try.checked) false ⟨#[], #[.agg #[.int .i64 0, .int .i64 0, .int .i64 0, .int .i64 0, .int .i64 0], .slice Option.none 0 0], []⟩ 8 (by kernel_rfl) (by kernel_rfl) (by kernel_rfl) (by kernel_rfl)) ?_
  intro W base args ds gs before hval0 hW hcnd _
  have hval : ∀ (j : Nat) t v, Try.f10.params[j]? = some t → args[j]? = some v → Value.okWide Try.prog W .any base t v := hval0
  have hW' := hW
  obtain ⟨p, q, hA0, hV, rfl, hfz, hnd⟩ := hW
  have hA : DataW.TrodAll enc Try.prog W 0 (fun _ => true) true Try.f10.params.toList args.toList ds p := hA0
  rw [Try.params10] at hA hval
  obtain ⟨v0, vs0, d0, ds0, p0, q0, hargs, rfl, rfl, h0, r0⟩ := trodAll_cons hA
  obtain ⟨v1, vs1, d1, ds1, p1, q1, rfl, rfl, rfl, h1, r1⟩ := trodAll_cons r0
  obtain ⟨rfl, rfl, rfl⟩ := trodAll_nil r1
  obtain rfl : args = #[v0, v1] := by cases args; simp_all
  obtain ⟨rfl, rfl⟩ := trodVars_none hV
  have k0 := h0
  have lt0 : ∀ x ∈ p0, x.block < W.heap.size := by obtain ⟨m, hm⟩ := k0; exact DataW.trod_lt m _ _ _ hm
  obtain ⟨cs0, nn0, rfl, hf0⟩ := open_agg Try.underlying29 (hval 0 29 v0 rfl rfl) h0
  obtain ⟨sh0, rfl⟩ := Go.R07.open_sheet hf0
  have k1 := h1
  have lt1 : ∀ x ∈ p1, x.block < W.heap.size := by obtain ⟨m, hm⟩ := k1; exact DataW.trod_lt m _ _ _ hm
  obtain ⟨a1, len1, cap1, rfl⟩ := okWide_slice Try.underlying24 (hval 1 24 v1 rfl rfl)
  obtain ⟨L1, hs1, hR1⟩ : ∃ (L : List (List Int)) (hs : List Value), Go.R07.ROWS i64s W Mem.none (.slice a1 len1 cap1) L hs := by
    obtain ⟨fuel, hf⟩ := h1
    exact Go.R07.open_band hf
  clear hA0 hval0
  refine ((Go.R07.clashes_law W _ sh0 L1 hs1 hR1) W (Conc.start W)).mono fun e W' ⟨v, m', he, hc, _, hv⟩ => ?_
  have bel : Below W.heap.size W W' := hc.below
  subst hv
  subst he
  exact ⟨_, rfl, _, _, _, [], _, [], hW', trodAll_mk1 (shut_bool Try.underlying4 _), (trodAll_cons_mk (Below.trod laidOut (by kernel_rfl) (of_decide_eq_true (by kernel_rfl)) k0 bel lt0) (trodAll_cons_mk (Below.trod laidOut (by kernel_rfl) (of_decide_eq_true (by kernel_rfl)) k1 bel lt1) trodAll_mk0)), rfl, bel.frame _, fun h => by cases h⟩
set_option maxHeartbeats 4000000 in
set_option maxRecDepth 100000 in
theorem closed : joinedFacts Try.pinned.checked.prog 10 Try.f10 Rows.latheClashesSpec Rows.latheClashesRow = true := by
  simp only [joinedFacts, Bool.and_eq_true]
  and_intros
  iterate 25 (· as_aux_lemma => kernel_rfl)
  · exact mWE
  · as_aux_lemma => (rw [mWF]; kernel_rfl)
  · as_aux_lemma => (rw [mWM]; kernel_rfl)
  all_goals (as_aux_lemma => kernel_rfl)
theorem over : Rows.latheClashesRow.holds Try.pinned (OpenSpec.ofChange Rows.latheClashesSpec) :=
  OpenClaim.holds_of_wide 10 Try.f10 rfl rfl rfl rfl rfl rfl rfl ⟨rfl, rfl, rfl, rfl, rfl⟩ rfl rfl rfl rfl rfl (by kernel_rfl) Try.func10 closed
    (of_decide_eq_true (by kernel_rfl)) (by unfold Func.isWrapper; first | (rw [if_pos (by decide +kernel)]; kernel_rfl) | (rw [if_neg (by decide +kernel)]; exact ⟨rfl, rfl⟩))
    (fun os started H enc _ => atRow os started H enc)
theorem proved : Rows.LatheClashesSaid := over
#print axioms proved
end Go.Proofs.Ytjepofehaphcnaa.latheClashesDone
