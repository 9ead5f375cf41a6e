/- For every input: barleycornlaw04.PatternPairs returns true and leaves what its arguments read as it was. Conditions: none beyond those of the given row. -/
import Derived.Test.YtnpdfcfjefbjgaaLaw04c
import Derived.Test.YtnpdfcfjefbjgaaRows
import Derived.WalkKit
import Derived.ProofKit
import Derived.OpenShut
import Derived.ShutString
import Derived.ChangeOld
import Derived.Below
/-! The statement on barleycornlaw04.PatternPairs, over the walk. -/
namespace Go.Proofs.Ytnpdfcfjefbjgaa.patternPairsDone
open Go Go.Abs Go.ChangeShapes Go.WideShapes Go.ChangeAt Go.RowKit
set_option linter.unusedVariables false
theorem own : ownKnob Try.prog.godebug = Option.none := by kernel_rfl
theorem laidOut : laidOutB Try.prog = true := by kernel_rfl
set_option maxHeartbeats 4000000 in
set_option maxRecDepth 100000 in
theorem atRow (os : Os) (started : os.Started) (H : Type) (enc : TypeId × Value → H) :
    ReturnsInHanded {} Try.checked os 5 .any (Rows.patternPairsSpec.pre6 enc Try.prog Try.f5 Rows.patternPairsRow.domain false) (Rows.patternPairsSpec.post enc Try.prog Try.f5 false true false false) := by
  refine returnsInHanded_of_change (C := Try.checked) own started (by kernel_rfl) Try.func5
    (ChangeSpec.witness6 (enc := enc) (C := Try.checked) false ⟨#[], #[.agg #[.slice Option.none 0 0, .slice Option.none 0 0, .int .i64 0, .int .i64 0, .int .i64 0, .slice Option.none 0 0], .agg #[.slice Option.none 0 0, .slice Option.none 0 0, .int .i64 0, .int .i64 0, .int .i64 0, .slice Option.none 0 0]], []⟩ 8 (by kernel_rfl) (by kernel_rfl) (by kernel_rfl) (by kernel_rfl)) ?_
  intro W base args ds gs before hval0 hW hcnd _
  have hval : ∀ (j : Nat) t v, Try.f5.params[j]? = some t → args[j]? = some v → Value.okWide Try.prog W .any base t v := hval0
  have hW' := hW
  obtain ⟨p, q, hA0, hV, rfl, hfz, hnd⟩ := hW
  have hA : DataW.TrodAll enc Try.prog W 0 (fun _ => true) true Try.f5.params.toList args.toList ds p := hA0
  rw [Try.params5] at hA hval
  obtain ⟨v0, vs0, d0, ds0, p0, q0, hargs, rfl, rfl, h0, r0⟩ := trodAll_cons hA
  obtain ⟨v1, vs1, d1, ds1, p1, q1, rfl, rfl, rfl, h1, r1⟩ := trodAll_cons r0
  obtain ⟨rfl, rfl, rfl⟩ := trodAll_nil r1
  obtain rfl : args = #[v0, v1] := by cases args; simp_all
  obtain ⟨rfl, rfl⟩ := trodVars_none hV
  have k0 := h0
  have lt0 : ∀ x ∈ p0, x.block < W.heap.size := by obtain ⟨m, hm⟩ := k0; exact DataW.trod_lt m _ _ _ hm
  obtain ⟨c0, c1, c2, c3, c4, c5, nn, rfl, ⟨y0, g0⟩, ⟨y1, g1⟩, ⟨y2, g2⟩, ⟨y3, g3⟩, ⟨y4, g4⟩, ⟨y5, g5⟩⟩ := open_agg6 Try.underlying24 (by kernel_rfl) (by kernel_rfl) (hval 0 24 v0 rfl rfl) h0
  obtain ⟨aR0, lR0, kR0, zR0, rfl, wR0⟩ := open_cellInts Try.underlying22 Try.underlying3 (by kernel_rfl) g0
  obtain ⟨sR00, eR0, _⟩ := wR0.sl
  have sR0 : SL W Mem.none 1 (.slice aR0 lR0 kR0) (zR0.take lR0).length (i64s (zR0.take lR0)) := by rw [eR0]; exact sR00
  obtain ⟨aB0, lB0, kB0, zB0, rfl, wB0⟩ := open_cellInts Try.underlying22 Try.underlying3 (by kernel_rfl) g1
  obtain ⟨sB00, eB0, _⟩ := wB0.sl
  have sB0 : SL W Mem.none 1 (.slice aB0 lB0 kB0) (zB0.take lB0).length (i64s (zB0.take lB0)) := by rw [eB0]; exact sB00
  obtain ⟨aS0, lS0, kS0, zS0, rfl, wS0⟩ := open_cellInts Try.underlying22 Try.underlying3 (by kernel_rfl) g5
  obtain ⟨sS00, eS0, _⟩ := wS0.sl
  have sS0 : SL W Mem.none 1 (.slice aS0 lS0 kS0) (zS0.take lS0).length (i64s (zS0.take lS0)) := by rw [eS0]; exact sS00
  obtain ⟨st0, rfl, _⟩ := open_cellInt Try.underlying3 g2
  obtain ⟨th0, rfl, _⟩ := open_cellInt Try.underlying3 g3
  obtain ⟨ad0, rfl, _⟩ := open_cellInt Try.underlying3 g4
  have pr0 : Go.R04.PR W Mem.none _ _ _ _ _ _ := ⟨sR0, sB0, sS0⟩
  have k1 := h1
  have lt1 : ∀ x ∈ p1, x.block < W.heap.size := by obtain ⟨m, hm⟩ := k1; exact DataW.trod_lt m _ _ _ hm
  obtain ⟨c0, c1, c2, c3, c4, c5, nn, rfl, ⟨y0, g0⟩, ⟨y1, g1⟩, ⟨y2, g2⟩, ⟨y3, g3⟩, ⟨y4, g4⟩, ⟨y5, g5⟩⟩ := open_agg6 Try.underlying24 (by kernel_rfl) (by kernel_rfl) (hval 1 24 v1 rfl rfl) h1
  obtain ⟨aR1, lR1, kR1, zR1, rfl, wR1⟩ := open_cellInts Try.underlying22 Try.underlying3 (by kernel_rfl) g0
  obtain ⟨sR10, eR1, _⟩ := wR1.sl
  have sR1 : SL W Mem.none 1 (.slice aR1 lR1 kR1) (zR1.take lR1).length (i64s (zR1.take lR1)) := by rw [eR1]; exact sR10
  obtain ⟨aB1, lB1, kB1, zB1, rfl, wB1⟩ := open_cellInts Try.underlying22 Try.underlying3 (by kernel_rfl) g1
  obtain ⟨sB10, eB1, _⟩ := wB1.sl
  have sB1 : SL W Mem.none 1 (.slice aB1 lB1 kB1) (zB1.take lB1).length (i64s (zB1.take lB1)) := by rw [eB1]; exact sB10
  obtain ⟨aS1, lS1, kS1, zS1, rfl, wS1⟩ := open_cellInts Try.underlying22 Try.underlying3 (by kernel_rfl) g5
  obtain ⟨sS10, eS1, _⟩ := wS1.sl
  have sS1 : SL W Mem.none 1 (.slice aS1 lS1 kS1) (zS1.take lS1).length (i64s (zS1.take lS1)) := by rw [eS1]; exact sS10
  obtain ⟨st1, rfl, _⟩ := open_cellInt Try.underlying3 g2
  obtain ⟨th1, rfl, _⟩ := open_cellInt Try.underlying3 g3
  obtain ⟨ad1, rfl, _⟩ := open_cellInt Try.underlying3 g4
  have pr1 : Go.R04.PR W Mem.none _ _ _ _ _ _ := ⟨sR1, sB1, sS1⟩
  clear hA0 hval0
  refine ((Go.R04.pairs_law W _ _ _ _ _ _ _ _ _ _ _ _ _ _ _ _ _ _ pr0 pr1) W (Conc.start W)).mono fun e W' ⟨v, m', he, hc, _, hv⟩ => ?_
  have bel : Below W.heap.size W W' := hc.below
  subst hv
  subst he
  exact ⟨_, rfl, _, _, _, [], _, [], hW', trodAll_mk1 (shut_bool Try.underlying4 _), (trodAll_cons_mk (Below.trod laidOut (by kernel_rfl) (of_decide_eq_true (by kernel_rfl)) k0 bel lt0) (trodAll_cons_mk (Below.trod laidOut (by kernel_rfl) (of_decide_eq_true (by kernel_rfl)) k1 bel lt1) trodAll_mk0)), rfl, bel.frame _, fun h => by cases h⟩
set_option maxHeartbeats 4000000 in
set_option maxRecDepth 100000 in
theorem closed : joinedFacts Try.pinned.checked.prog 5 Try.f5 Rows.patternPairsSpec Rows.patternPairsRow = true := by
  simp only [joinedFacts, Bool.and_eq_true]
  and_intros <;> (as_aux_lemma => kernel_rfl)
theorem over : Rows.patternPairsRow.holds Try.pinned (OpenSpec.ofChange Rows.patternPairsSpec) :=
  OpenClaim.holds_of_wide 5 Try.f5 rfl rfl rfl rfl rfl rfl rfl ⟨rfl, rfl, rfl, rfl, rfl⟩ rfl rfl rfl rfl rfl (by kernel_rfl) Try.func5 closed
    (of_decide_eq_true (by kernel_rfl)) (by unfold Func.isWrapper; first | (rw [if_pos (by decide +kernel)]; kernel_rfl) | (rw [if_neg (by decide +kernel)]; exact ⟨rfl, rfl⟩))
    (fun os started H enc _ => atRow os started H enc)
theorem proved : Rows.PatternPairsSaid := over
#print axioms proved
end Go.Proofs.Ytnpdfcfjefbjgaa.patternPairsDone
