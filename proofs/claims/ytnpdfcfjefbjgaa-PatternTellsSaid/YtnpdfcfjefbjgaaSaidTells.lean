/- For every input: barleycornlaw04.PatternTells returns true and leaves what its arguments read as it was. Conditions: none beyond those of the given row. -/
import Derived.Test.YtnpdfcfjefbjgaaLaw04b
import Derived.Test.YtnpdfcfjefbjgaaRows
import Derived.WalkKit
import Derived.ProofKit
import Derived.OpenShut
import Derived.ShutString
import Derived.ChangeOld
import Derived.Below
/-! The statement on barleycornlaw04.PatternTells, over the walk. -/
namespace Go.Proofs.Ytnpdfcfjefbjgaa.patternTellsDone
open Go Go.Abs Go.ChangeShapes Go.WideShapes Go.ChangeAt Go.RowKit
set_option linter.unusedVariables false
theorem own : ownKnob Try.prog.godebug = Option.none := by kernel_rfl
theorem laidOut : laidOutB Try.prog = true := by kernel_rfl
set_option maxHeartbeats 4000000 in
set_option maxRecDepth 100000 in
theorem atRow (os : Os) (started : os.Started) (H : Type) (enc : TypeId × Value → H) :
    ReturnsInHanded {} Try.checked os 4 .any (Rows.patternTellsSpec.pre6 enc Try.prog Try.f4 Rows.patternTellsRow.domain false) (Rows.patternTellsSpec.post enc Try.prog Try.f4 false true false false) := by
  refine returnsInHanded_of_change (C := Try.checked) own started (by kernel_rfl) Try.func4
    (ChangeSpec.witness6 (enc := enc) (C := Try.checked) false ⟨#[], #[.agg #[.slice Option.none 0 0, .slice Option.none 0 0, .int .i64 0, .int .i64 0, .int .i64 0, .slice Option.none 0 0]], []⟩ 8 (by kernel_rfl) (by kernel_rfl) (by kernel_rfl) (by kernel_rfl)) ?_
  intro W base args ds gs before hval0 hW hcnd _
  have hval : ∀ (j : Nat) t v, Try.f4.params[j]? = some t → args[j]? = some v → Value.okWide Try.prog W .any base t v := hval0
  have hW' := hW
  obtain ⟨p, q, hA0, hV, rfl, hfz, hnd⟩ := hW
  have hA : DataW.TrodAll enc Try.prog W 0 (fun _ => true) true Try.f4.params.toList args.toList ds p := hA0
  rw [Try.params4] at hA hval
  obtain ⟨v0, vs0, d0, ds0, p0, q0, hargs, rfl, rfl, h0, r0⟩ := trodAll_cons hA
  obtain ⟨rfl, rfl, rfl⟩ := trodAll_nil r0
  obtain rfl : args = #[v0] := by cases args; simp_all
  obtain ⟨rfl, rfl⟩ := trodVars_none hV
  have k0 := h0
  have lt0 : ∀ x ∈ p0, x.block < W.heap.size := by obtain ⟨m, hm⟩ := k0; exact DataW.trod_lt m _ _ _ hm
  obtain ⟨c0, c1, c2, c3, c4, c5, nn, rfl, ⟨y0, g0⟩, ⟨y1, g1⟩, ⟨y2, g2⟩, ⟨y3, g3⟩, ⟨y4, g4⟩, ⟨y5, g5⟩⟩ := open_agg6 Try.underlying24 (by kernel_rfl) (by kernel_rfl) (hval 0 24 v0 rfl rfl) h0
  obtain ⟨aR0, lR0, kR0, zR0, rfl, wR0⟩ := open_cellInts Try.underlying22 Try.underlying3 (by kernel_rfl) g0
  obtain ⟨sR00, eR0, _⟩ := wR0.sl
  have sR0 : SL W Mem.none 1 (.slice aR0 lR0 kR0) (zR0.take lR0).length (i64s (zR0.take lR0)) := by rw [eR0]; exact sR00
  obtain ⟨aB0, lB0, kB0, zB0, rfl, wB0⟩ := open_cellInts Try.underlying22 Try.underlying3 (by kernel_rfl) g1
  obtain ⟨sB00, eB0, _⟩ := wB0.sl
  have sB0 : SL W Mem.none 1 (.slice aB0 lB0 kB0) (zB0.take lB0).length (i64s (zB0.take lB0)) := by rw [eB0]; exact sB00
  obtain ⟨aS0, lS0, kS0, zS0, rfl, wS0⟩ := open_cellInts Try.underlying22 Try.underlying3 (by kernel_rfl) g5
  obtain ⟨sS00, eS0, _⟩ := wS0.sl
  have sS0 : SL W Mem.none 1 (.slice aS0 lS0 kS0) (zS0.take lS0).length (i64s (zS0.take lS0)) := by rw [eS0]; exact sS00
  obtain ⟨st0, rfl, _⟩ := open_cellInt Try.underlying3 g2
  obtain ⟨th0, rfl, _⟩ := open_cellInt Try.underlying3 g3
  obtain ⟨ad0, rfl, _⟩ := open_cellInt Try.underlying3 g4
  have pr0 : Go.R04.PR W Mem.none _ _ _ _ _ _ := ⟨sR0, sB0, sS0⟩
  clear hA0 hval0
  refine ((Go.R04.tells_law W _ _ _ _ _ _ _ _ _ pr0) W (Conc.start W)).mono fun e W' ⟨v, m', he, hc, _, hv⟩ => ?_
  have bel : Below W.heap.size W W' := hc.below
  subst hv
  subst he
  exact ⟨_, rfl, _, _, _, [], _, [], hW', trodAll_mk1 (shut_bool Try.underlying4 _), (trodAll_cons_mk (Below.trod laidOut (by kernel_rfl) (of_decide_eq_true (by kernel_rfl)) k0 bel lt0) trodAll_mk0), rfl, bel.frame _, fun h => by cases h⟩
set_option maxHeartbeats 4000000 in
set_option maxRecDepth 100000 in
theorem closed : joinedFacts Try.pinned.checked.prog 4 Try.f4 Rows.patternTellsSpec Rows.patternTellsRow = true := by
  simp only [joinedFacts, Bool.and_eq_true]
  and_intros <;> (as_aux_lemma => kernel_rfl)
theorem over : Rows.patternTellsRow.holds Try.pinned (OpenSpec.ofChange Rows.patternTellsSpec) :=
  OpenClaim.holds_of_wide 4 Try.f4 rfl rfl rfl rfl rfl rfl rfl ⟨rfl, rfl, rfl, rfl, rfl⟩ rfl rfl rfl rfl rfl (by kernel_rfl) Try.func4 closed
    (of_decide_eq_true (by kernel_rfl)) (by unfold Func.isWrapper; first | (rw [if_pos (by decide +kernel)]; kernel_rfl) | (rw [if_neg (by decide +kernel)]; exact ⟨rfl, rfl⟩))
    (fun os started H enc _ => atRow os started H enc)
theorem proved : Rows.PatternTellsSaid := over
#print axioms proved
end Go.Proofs.Ytnpdfcfjefbjgaa.patternTellsDone
