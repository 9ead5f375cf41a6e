import Derived.Test.YtkahddncdoamiaaAbsSort
set_option linter.unusedSectionVars false
set_option linter.unusedSimpArgs false
set_option linter.unusedVariables false
/-! Abs: a row that is made with room and no cells, one that is shortened, and calls of function values over memory of the call's own. -/
namespace Go.Abs
open Go Go.RowKit
section tr
variable {P : Program} {W : World} {m : Mem} {fr : Fr} {o : Oper} {I S : TypeId}
theorem cut_head {B n cap k : Nat} : cutV (.slice (some ⟨B, 0, Option.none⟩) n cap) 1 0 k = .slice (some ⟨B, 0, Option.none⟩) k cap := by
  unfold cutV
  simp [Addr.add]
/-- A row of one's own is shortened: what lies behind is forgotten. -/
theorem HP.shrinkI {l : List Ent} (i : Nat) {v : Value} {n k : Nat} {xs : List Int} (H : HP m l) (hi : l[i]? = some (.sl v I 1 n (i64s xs))) (hk : k ≤ n) :
    ∃ m', Le m' m ∧ (∀ B, m.free B → m'.free B) ∧ HP m' (l.set i (.i I (cutV v 1 0 k) (xs.take k))) := by
  obtain ⟨hlen, ⟨rfl, rfl⟩ | ⟨B, cap, rfl, h1, h2, h3⟩⟩ := H.sl i hi
  · obtain rfl : k = 0 := by omega
    have hx : xs = [] := by simpa [i64s] using hlen
    subst hx
    refine ⟨m, Le.refl m, fun _ h => h, ?_⟩
    have e : cutV (.slice Option.none 0 0) 1 0 0 = .slice Option.none 0 0 := by unfold cutV; simp
    rw [e]
    have := set_at_self hi
    show HP m (l.set i (.sl (.slice Option.none 0 0) I 1 0 (i64s [])))
    rw [this]; exact H
  · have hn : n = xs.length := by simpa [i64s] using hlen.symm
    have hl : Le (m.put B ⟨i64s (xs.take k), I, cap * 1⟩) m := ⟨fun B' b' hb' => by
      by_cases e : B' = B
      · subst e
        rw [Mem.put_at] at hb'
        obtain rfl := Option.some.inj hb'
        exact ⟨i64s (xs.drop k), by rw [h3]; simp only [i64s]; rw [← List.map_append, List.take_append_drop]⟩
      · have hb2 : m B' = some b' := by simpa [Mem.put, e] using hb'
        exact ⟨[], by rw [hb2]; simp⟩, fun B' o' ho' => ho'⟩
    refine ⟨_, hl, fun B' hf => ?_, ?_⟩
    · have e : B' ≠ B := fun e => by have := hf.1; rw [e, h3] at this; cases this
      exact ⟨by simp [Mem.put, e]; exact hf.1, hf.2⟩
    · rw [cut_head]
      have := H.putRow (n' := k) (ys := i64s (xs.take k)) i hi ⟨i64s (xs.take k), I, cap * 1⟩ ⟨by simp [i64s]; omega, .inr ⟨B, cap, rfl, by omega, h2, by rw [Mem.put_at]⟩⟩
      have e : (xs.take k).length = k := by simp; omega
      show HP _ (l.set i (.sl _ I 1 (xs.take k).length (i64s (xs.take k))))
      rw [e]; exact this
/-- Less may be known of memory behind an operation. -/
theorem AOp.less {C : Cls W} {K : Value → Mem → Prop} (h : AOp P C o fr m (fun v m' => ∃ m'', Le m'' m' ∧ (∀ B, m'.free B → m''.free B) ∧ K v m'')) : AOp P C o fr m K := fun w hw => by
  have hr := h w hw
  revert hr
  generalize (execOp (evalF fr) o).run P w = r
  intro hr
  have fr' : ∀ {m' m'' : Mem} {w' : World}, Frm m w m' w' → (∀ B, m'.free B → m''.free B) → Frm m w m'' w' := fun h2 f => ⟨h2.size, fun B hB hf => ⟨f _ (h2.old B hB hf).1, (h2.old B hB hf).2⟩⟩
  cases r with
  | halt x w => exact hr
  | ok n w =>
    cases n <;> simp only [OpRes] at hr ⊢
    case value => obtain ⟨m', h1, h2, m'', l, f, h3⟩ := hr; exact ⟨m'', C.forget h1 l, fr' h2 f, h3⟩
    case skip => obtain ⟨m', h1, h2, m'', l, f, h3⟩ := hr; exact ⟨m'', C.forget h1 l, fr' h2 f, h3⟩
    case enter => exact hr.mono fun e w'' ⟨v, m', h1, h2, h3, m'', l, f, h4⟩ => ⟨v, m'', h1, C.forget h2 l, fr' h3 f, h4⟩
    case round => exact hr.mono fun e w'' ⟨v, m', h1, h2, h3, m'', l, f, h4⟩ => ⟨v, m'', h1, C.forget h2 l, fr' h3 f, h4⟩
/-- A row with room, and no cells yet. -/
theorem h_makeRoomI (t : IntT P I S) {l : List Ent} {x y : Operand} {kl kc : IntKind} {n : Int} (k : Nat) {K : Value → Mem → Prop} (H : HP m l) (ho : o.op = .makeSlice S x y) (hx : evalF fr x = .int kl 0) (hy : evalF fr y = .int kc n) (hn : n = k) (hk : k ≤ 1000000)
    (h : ∀ v' m', HP m' (.i I v' [] :: l) → Le m m' → K v' m') : AOp P (gen W) o fr m K := by
  obtain ⟨i3, hi, hz, hs, hby⟩ := t.info
  intro w hw
  have hA : AOp P (gen W) o fr m (fun v m' => ∃ B, m.free B ∧ v = .slice (some ⟨B, 0, Option.none⟩) 0 k ∧ m' = m.put B ⟨[], I, k⟩) := fun w hw => by
    have hfree : m.free w.heap.size := ⟨Conc.fresh hw, Conc.freshO hw⟩
    have hr := run_make (P := P) w S I i3 (.int .i64 0) t.slice hi hz kl kc 0 n (by omega) (by omega) (by rw [hby]; omega) (by omega)
    have hx2 : execOp (evalF fr) o = (do pure (.value (← Instr.makeSlice S (.int kl 0) (.int kc n)))) := by
      simp [execOp, ho, hx, hy]
    rw [hx2]
    simp only [Sem.run_bind, hr, Result.andThen_ok, Sem.run_pure]
    have hc := Conc.alloc hw (madeCells (Value.int IntKind.i64 0).cells (n.toNat * i3.size)) I
    have hsz : (madeCells (Value.int IntKind.i64 0).cells (n.toNat * i3.size)).size = k := by
      rw [size_madeCells, hs, Nat.mul_one]; omega
    rw [hsz] at hc
    have hle : Le (m.put w.heap.size ⟨[], I, k⟩) (m.put w.heap.size ⟨(madeCells (Value.int IntKind.i64 0).cells (n.toNat * i3.size)).toList, I, k⟩) := ⟨fun B' b' hb' => by
      by_cases e : B' = w.heap.size
      · subst e
        rw [Mem.put_at] at hb'
        obtain rfl := Option.some.inj hb'
        exact ⟨_, by rw [Mem.put_at]; rfl⟩
      · have hb2 : m B' = some b' := by simpa [Mem.put, e] using hb'
        exact ⟨[], by simp [Mem.put, e, hb2]⟩, fun B' o' ho' => ho'⟩
    refine ⟨_, hc.1.forget hle, ⟨hc.2.1.size, fun B' hB' hf => ⟨?_, (hc.2.1.old B' hB' hf).2⟩⟩, w.heap.size, hfree, by rw [show n.toNat = k by omega]; rfl, rfl⟩
    have g := (hc.2.1.old B' hB' hf).1
    have e : B' ≠ w.heap.size := fun e => by have := g.1; rw [e, Mem.put_at] at this; cases this
    exact ⟨by have := g.1; simp [Mem.put, e] at this ⊢; exact this, hf.2⟩
  refine OpRes.mono ?_ (hA w hw)
  rintro v m' ⟨B, hB, rfl, rfl⟩
  refine h _ _ (H.own (Keep.put hB.1 _) ⟨by simp [i64s], .inr ⟨B, k, by simp, by simp, by unfold maxLen; omega, ?_⟩⟩ fun B' hB' => ?_) (Le.put hB.1 _)
  · rw [Mem.put_at]; simp [i64s]
  · obtain rfl : B = B' := by simpa [blkOf] using hB'
    exact hB
end tr
end Go.Abs
