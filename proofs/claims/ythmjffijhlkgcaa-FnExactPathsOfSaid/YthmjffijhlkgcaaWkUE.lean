/- CHAPTER 8, 9, impl: walk's iterator tells the visits of a stack. PRINTED by tools/gen_wkE.py. -/
import Derived.Test.YthmjffijhlkgcaaWkTE
import Derived.Test.YthmjffijhlkgcaaWkV
import Derived.Test.YthmjffijhlkgcaaWkU
import Derived.Sort.LoopGhostIn
set_option linter.unusedVariables false
set_option linter.unusedSimpArgs false
namespace Go.Proofs.Ythmjffijhlkgcaa
open Go.RowKit Go.Shelf
attribute [local go_sem] Oper.semAt_some
set_option maxRecDepth 100000

abbrev ItSE := It ExX
/-- a slice of kids -/
def KidsVE (n₀ : Nat) (w0 : World) (v : Value) (ks : List ItSE) : Prop :=
  ∃ A cap, v = .slice A ks.length cap ∧ ∀ j (hj : j < ks.length), ∃ a r, A = some a ∧ a.block < n₀ ∧ ks[j].a = a.add (j * 7) ∧ NlE w0 ks[j].a r ∧ Blk w0 ks[j].a
def zeroExR : ExR := ⟨0, 0, ⟨#[]⟩, false, 0, .slice none 0 0, .slice none 0 0⟩
theorem KidsVE.at {n₀ : Nat} {w0 W : World} {v : Value} {ks : List ItSE} (h : KidsVE n₀ w0 v ks) (hs : ∀ b, b < n₀ → W.heap[b]? = w0.heap[b]?) :
    ∃ A cap, v = .slice A ks.length cap ∧ ∃ R : Nat → ExR, ∀ j (hj : j < (ks.map (·.a)).length), ∃ a, A = some a ∧ a.block < n₀ ∧ (ks.map (·.a))[j] = a.add (j * 7) ∧ NlE W (ks.map (·.a))[j] (R j) ∧ Blk W (ks.map (·.a))[j] := by
  obtain ⟨A, cap, h1, h2⟩ := h
  refine ⟨A, cap, h1, ?_⟩
  have h3 : ∀ j, ∃ r : ExR, ∀ (hj : j < ks.length), ∃ a, A = some a ∧ a.block < n₀ ∧ ks[j].a = a.add (j * 7) ∧ NlE w0 ks[j].a r ∧ Blk w0 ks[j].a := fun j => by
    by_cases hj : j < ks.length
    · obtain ⟨a, r, h⟩ := h2 j hj
      exact ⟨r, fun _ => ⟨a, h⟩⟩
    · exact ⟨zeroExR, fun h => absurd h hj⟩
  refine ⟨fun j => Classical.choose (h3 j), fun j hj => ?_⟩
  have hj' : j < ks.length := by simpa using hj
  obtain ⟨a, e1, e2, e3, e4, cs, t, e5⟩ := Classical.choose_spec (h3 j) hj'
  have hb : ks[j].a.block < n₀ := by rw [e3, addr_blk]; exact e2
  simp only [List.getElem_map]
  exact ⟨a, e1, e2, e3, e4.at (hs _ hb), cs, t, (hs _ hb).trans e5⟩
/-- a visit, as the round is handed it -/
def encVE (x : ItSE × Bool) : Array Value := #[.pointer (some x.1.a), .bool x.2]
/-- the blocks that the walk keeps for itself -/
def OwnWE (b4 b5 bm : Nat) (v : Value) (b : Nat) : Prop := b = b4 ∨ b = b5 ∨ b = bm ∨ v.ownBlock = some b
/-- the walk's variables while the stack is st -/
structure WSE (n₀ B : Nat) (w0 : World) (b4 b5 bm : Nat) (st : List ItSE) (v : Value) (wr : World) : Prop where
  ah : AheadE wr b4 v
  ar : Boxed wr b5 50 (.map (some bm))
  ps : PSet wr bm (opens st).reverse
  row : RowAE B wr v (st.reverse.map (·.a))
  wi : WInv st
  gd : ∀ i ∈ st, i.a.block < n₀ ∧ Blk w0 i.a
section
variable {n₀ B b4 b5 bm : Nat} {w0 wr w' : World} {st : List ItSE} {v : Value}
theorem WSE.same (h : WSE n₀ B w0 b4 b5 bm st v wr) (hs : ∀ b, OwnWE b4 b5 bm v b → w'.heap[b]? = wr.heap[b]?) : WSE n₀ B w0 b4 b5 bm st v w' :=
  ⟨(hs _ (.inl rfl)).trans h.ah, (hs _ (.inr (.inl rfl))).trans h.ar, h.ps.same (hs _ (.inr (.inr (.inl rfl)))), rowR_frame h.row fun b e => hs b (.inr (.inr (.inr e))), h.wi, h.gd⟩
theorem WSE.lt (h : WSE n₀ B w0 b4 b5 bm st v wr) {b : Nat} (hb : OwnWE b4 b5 bm v b) : b < wr.heap.size := by
  rcases hb with rfl | rfl | rfl | e
  · exact h.ah.lt
  · exact h.ar.lt
  · obtain ⟨es, ck, h1, _⟩ := h.ps; exact (Array.getElem?_eq_some_iff.1 h1).1
  · exact (RowR.lt h.row e).2
theorem WSE.map_ne (h : WSE n₀ B w0 b4 b5 bm st v wr) : bm ≠ b4 ∧ bm ≠ b5 ∧ v.ownBlock ≠ some bm ∧ b5 ≠ b4 := by
  obtain ⟨es, ck, h1, _⟩ := h.ps
  refine ⟨fun e => ?_, fun e => ?_, fun e => ?_, fun e => ?_⟩
  · rw [e] at h1; have := (show wr.heap[b4]? = _ from h.ah).symm.trans h1; simp at this
  · rw [e] at h1; have := (show wr.heap[b5]? = _ from h.ar).symm.trans h1; simp at this
  · rcases h.row.2 with ⟨rfl, _⟩ | ⟨g, cp, cur', rfl, _, hgb, _⟩
    · simp [Value.ownBlock] at e
    · obtain rfl : g = bm := by simpa [Value.ownBlock] using e
      have := hgb.symm.trans h1; simp at this
  · have h5 := h.ar; rw [e] at h5; have := (show wr.heap[b4]? = _ from h.ah).symm.trans h5; simp at this
end
end Go.Proofs.Ythmjffijhlkgcaa
