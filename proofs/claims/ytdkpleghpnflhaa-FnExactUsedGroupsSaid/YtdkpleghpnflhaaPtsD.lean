/- CHAPTER 8: copies of paths: slices.Clone at tests and steps. -/
import Derived.Test.YtdkpleghpnflhaaPtsC
import Derived.Test.YtdkpleghpnflhaaCpy
set_option linter.unusedVariables false
set_option linter.unusedSimpArgs false
namespace Go.Proofs.Ytdkpleghpnflhaa
open Go.RowKit NumP

/-- a list of steps that is read, no list of tests in it without an array but with room -/
def HasSN (w : World) (v : Value) (l : List Stp) : Prop := NilOk v ∧ ∃ R : List StR, HasR StR.enc 2 w v R ∧ R.length = l.length ∧ ∀ i (h : i < R.length) (h' : i < l.length), (R[i].n = l[i].n ∧ HasX w R[i].tv l[i].ts) ∧ NilOk R[i].tv
theorem HasSN.below {w w' : World} {v : Value} {l : List Stp} (h : HasSN w v l) (hb : Below w.heap.size w w') : HasSN w' v l := by
  obtain ⟨h0, R, h1, h2, h3⟩ := h
  exact ⟨h0, R, HasR.below h1 hb, h2, fun i a b => ⟨⟨(h3 i a b).1.1, HasR.below (h3 i a b).1.2 hb⟩, (h3 i a b).2⟩⟩
theorem OwnS.hasN {B : Nat} {w : World} {v : Value} {l : List Stp} {S : Nat → Prop} (h : OwnS B w v l S) : HasSN w v l := by
  obtain ⟨R, K, hm, _⟩ := h.mkJ
  exact ⟨RowR.nilOk hm.row, R, RowR.has StR.enc_len hm.row, hm.len, fun i a b => ⟨⟨(hm.ts i a b).1, RowR.hasX (hm.ts i a b).2.1⟩, RowR.nilOk (hm.ts i a b).2.1⟩⟩
theorem oneX : ∀ x : Tst, ∀ u ∈ Tst.enc x, u.oneCell' = true := fun x u hu => by simp [Tst.enc] at hu; rcases hu with rfl | rfl <;> rfl
/-- records of steps that are read are of one cell each -/
theorem oneS {w : World} {R : List StR} {l : List Stp} (h : ∀ i (h : i < R.length) (h' : i < l.length), (R[i].n = l[i].n ∧ HasX w R[i].tv l[i].ts) ∧ NilOk R[i].tv) (hl : R.length = l.length) : ∀ x ∈ R, ∀ u ∈ StR.enc x, u.oneCell' = true := fun x hx u hu => by
  obtain ⟨i, hi, rfl⟩ := List.getElem_of_mem hx
  obtain ⟨A, c, e, _⟩ := (h i hi (by rw [← hl]; exact hi)).1.2
  simp [StR.enc] at hu
  rcases hu with rfl | rfl
  · rfl
  · rw [e]; rfl
end Go.Proofs.Ytdkpleghpnflhaa
