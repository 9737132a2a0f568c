/- CHAPTER 9, impl: walk's iterator tells the visits of a stack. -/
import Derived.Test.YtlgooejoohcmfaaWkT
import Derived.Test.YtlgooejoohcmfaaWkV
import Derived.Sort.LoopGhostIn
set_option linter.unusedVariables false
set_option linter.unusedSimpArgs false
namespace Go.Proofs.Ytlgooejoohcmfaa
open Go.RowKit Go.Shelf
attribute [local go_sem] Oper.semAt_some
set_option maxRecDepth 100000

section
variable {F : Fence} {n : Nat} {P : Program} {ops : Array Oper} {rest : List Oper} {o : Oper} {a : Act} {w : World} {Q : Exit → Act → World → Prop}
theorem wpListIn_lookup_run (hgd : o.guard = none) (t : TypeId) (m x : Operand) (ho : o.op = .lookup t m x false) (vm vx v : Value) (hm : a.eval m = vm) (hx : a.eval x = vx)
    (hr : (Instr.lookup t vm vx false).run P w = .ok v w) (h : wpListIn F n P ops Q rest (a.put o.dst v) w) : wpListIn F n P ops Q (o :: rest) a w := by
  refine wpListIn_plain hgd fun K hK => ?_
  unfold Oper.wpIn
  refine ⟨by simp [Oper.about, ho], ?_⟩
  rw [Oper.semAt_plain F _ _ (by rw [ho]; intro c hc'; cases hc')]
  simp [execOp, ho, hm, hx, hr, Result.andThen]
  exact hK _ _ h
theorem wpListIn_update_run {w' : World} (hgd : o.guard = none) (t : TypeId) (m x y : Operand) (ho : o.op = .mapUpdate t m x y) (vm vx v : Value) (hm : a.eval m = vm) (hx : a.eval x = vx) (hy : a.eval y = v)
    (hr : (Instr.mapUpdate t vm vx v).run P w = .ok () w') (h : wpListIn F n P ops Q rest (a.put o.dst undef) w') : wpListIn F n P ops Q (o :: rest) a w := by
  refine wpListIn_plain hgd fun K hK => ?_
  unfold Oper.wpIn
  refine ⟨by simp [Oper.about, ho], ?_⟩
  rw [Oper.semAt_plain F _ _ (by rw [ho]; intro c hc'; cases hc')]
  simp [execOp, ho, hm, hx, hy, hr, Result.andThen]
  exact hK _ _ h
theorem wpListIn_delete_run {w' : World} (hgd : o.guard = none) (t k : TypeId) (m x : Operand) (ho : o.op = Op.call { callee := Callee.builtin Builtin.delete, args := #[m, x], argTypes := #[t, k] }) (vm vx : Value) (hm : a.eval m = vm) (hx : a.eval x = vx)
    (hr : (Builtin.delete_ #[t, k] o.type #[vm, vx]).run P w = .ok (.tuple #[]) w') (h : wpListIn F n P ops Q rest (a.put o.dst (.tuple #[])) w') : wpListIn F n P ops Q (o :: rest) a w := by
  refine wpListIn_plain hgd fun K hK => ?_
  unfold Oper.wpIn
  refine ⟨by simp [Oper.about, ho, resolve, Target.leads, Sem.run_pure], ?_⟩
  rw [Oper.semAt_plain F _ _ (by rw [ho]; intro c hc'; cases hc')]
  simp [execOp, ho, resolve, invoke, builtin, hm, hx, hr, Result.andThen]
  exact hK _ _ h
end
theorem PSet.same {w w' : World} {b : Nat} {l : List Addr} (h : PSet w b l) (hs : w'.heap[b]? = w.heap[b]?) : PSet w' b l := by
  obtain ⟨es, ck, h1, h2, h3⟩ := h
  exact ⟨es, ck, hs.trans h1, h2, h3⟩
abbrev ItS := It ScX
/-- a slice of kids -/
def KidsV (n₀ : Nat) (w0 : World) (v : Value) (ks : List ItS) : Prop :=
  ∃ A cap, v = .slice A ks.length cap ∧ ∀ j (hj : j < ks.length), ∃ a r, A = some a ∧ a.block < n₀ ∧ ks[j].a = a.add (j * 19) ∧ Nl w0 ks[j].a r ∧ Blk w0 ks[j].a
def zeroScR : ScR := ⟨0, ⟨#[]⟩, ⟨0, .slice none 0 0, .slice none 0 0, ⟨#[]⟩, ⟨#[]⟩⟩, .slice none 0 0, .slice none 0 0, ⟨#[]⟩, false, false, false, false, 0, 0, .slice none 0 0, .slice none 0 0, .slice none 0 0⟩
theorem KidsV.at {n₀ : Nat} {w0 W : World} {v : Value} {ks : List ItS} (h : KidsV n₀ w0 v ks) (hs : ∀ b, b < n₀ → W.heap[b]? = w0.heap[b]?) :
    ∃ A cap, v = .slice A ks.length cap ∧ ∃ R : Nat → ScR, ∀ j (hj : j < (ks.map (·.a)).length), ∃ a, A = some a ∧ a.block < n₀ ∧ (ks.map (·.a))[j] = a.add (j * 19) ∧ Nl W (ks.map (·.a))[j] (R j) ∧ Blk W (ks.map (·.a))[j] := by
  obtain ⟨A, cap, h1, h2⟩ := h
  refine ⟨A, cap, h1, ?_⟩
  have h3 : ∀ j, ∃ r : ScR, ∀ (hj : j < ks.length), ∃ a, A = some a ∧ a.block < n₀ ∧ ks[j].a = a.add (j * 19) ∧ Nl w0 ks[j].a r ∧ Blk w0 ks[j].a := fun j => by
    by_cases hj : j < ks.length
    · obtain ⟨a, r, h⟩ := h2 j hj
      exact ⟨r, fun _ => ⟨a, h⟩⟩
    · exact ⟨zeroScR, fun h => absurd h hj⟩
  refine ⟨fun j => Classical.choose (h3 j), fun j hj => ?_⟩
  have hj' : j < ks.length := by simpa using hj
  obtain ⟨a, e1, e2, e3, e4, cs, t, e5⟩ := Classical.choose_spec (h3 j) hj'
  have hb : ks[j].a.block < n₀ := by rw [e3, addr_blk]; exact e2
  simp only [List.getElem_map]
  exact ⟨a, e1, e2, e3, e4.at (hs _ hb), cs, t, (hs _ hb).trans e5⟩
/-- a visit, as the round is handed it -/
def encV (x : ItS × Bool) : Array Value := #[.pointer (some x.1.a), .bool x.2]
/-- the blocks that the walk keeps for itself -/
def OwnW (b4 b5 bm : Nat) (v : Value) (b : Nat) : Prop := b = b4 ∨ b = b5 ∨ b = bm ∨ v.ownBlock = some b
/-- the walk's variables while the stack is st -/
structure WS (n₀ B : Nat) (w0 : World) (b4 b5 bm : Nat) (st : List ItS) (v : Value) (wr : World) : Prop where
  ah : Ahead wr b4 v
  ar : Boxed wr b5 76 (.map (some bm))
  ps : PSet wr bm (opens st).reverse
  row : RowA B wr v (st.reverse.map (·.a))
  wi : WInv st
  gd : ∀ i ∈ st, i.a.block < n₀ ∧ Blk w0 i.a
section
variable {n₀ B b4 b5 bm : Nat} {w0 wr w' : World} {st : List ItS} {v : Value}
theorem WS.same (h : WS n₀ B w0 b4 b5 bm st v wr) (hs : ∀ b, OwnW b4 b5 bm v b → w'.heap[b]? = wr.heap[b]?) : WS n₀ B w0 b4 b5 bm st v w' :=
  ⟨(hs _ (.inl rfl)).trans h.ah, (hs _ (.inr (.inl rfl))).trans h.ar, h.ps.same (hs _ (.inr (.inr (.inl rfl)))), rowR_frame h.row fun b e => hs b (.inr (.inr (.inr e))), h.wi, h.gd⟩
theorem WS.lt (h : WS n₀ B w0 b4 b5 bm st v wr) {b : Nat} (hb : OwnW b4 b5 bm v b) : b < wr.heap.size := by
  rcases hb with rfl | rfl | rfl | e
  · exact h.ah.lt
  · exact h.ar.lt
  · obtain ⟨es, ck, h1, _⟩ := h.ps; exact (Array.getElem?_eq_some_iff.1 h1).1
  · exact (RowR.lt h.row e).2
theorem WS.map_ne (h : WS n₀ B w0 b4 b5 bm st v wr) : bm ≠ b4 ∧ bm ≠ b5 ∧ v.ownBlock ≠ some bm ∧ b5 ≠ b4 := by
  obtain ⟨es, ck, h1, _⟩ := h.ps
  refine ⟨fun e => ?_, fun e => ?_, fun e => ?_, fun e => ?_⟩
  · rw [e] at h1; have := (show wr.heap[b4]? = _ from h.ah).symm.trans h1; simp at this
  · rw [e] at h1; have := (show wr.heap[b5]? = _ from h.ar).symm.trans h1; simp at this
  · rcases h.row.2 with ⟨rfl, _⟩ | ⟨g, cp, cur', rfl, _, hgb, _⟩
    · simp [Value.ownBlock] at e
    · obtain rfl : g = bm := by simpa [Value.ownBlock] using e
      have := hgb.symm.trans h1; simp at this
  · have h5 := h.ar; rw [e] at h5; have := (show wr.heap[b4]? = _ from h.ah).symm.trans h5; simp at this
end
end Go.Proofs.Ytlgooejoohcmfaa
