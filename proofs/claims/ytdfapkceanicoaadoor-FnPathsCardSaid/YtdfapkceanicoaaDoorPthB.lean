/- CHAPTER 7: laws.toPath (and what it calls). -/
import Derived.Test.YtdfapkceanicoaaDoorPthA
import Derived.Test.YtdfapkceanicoaaDoorNumQ
set_option linter.unusedVariables false
set_option linter.unusedSimpArgs false
namespace Go.Proofs.YtdfapkceanicoaaDoor
open Go.RowKit

theorem infoTst : (Tryd.prog.info? 52).map (fun i => (i.zero, i.size, i.bytes)) = some (some (.agg #[.string ⟨#[]⟩, .string ⟨#[]⟩]), 2, 32) := by kernel_rfl
theorem infoStp : (Tryd.prog.info? 50).map (fun i => (i.zero, i.size, i.bytes)) = some (some (.agg #[.string ⟨#[]⟩, .slice none 0 0]), 2, 40) := by kernel_rfl
theorem set_fillX {α : Type} {l : List α} {k : Nat} (hk : k < l.length) (m : Nat) (z : α) (hm : m = l.length - k) : (l.take k ++ List.replicate m z).set k l[k] = l.take (k + 1) ++ List.replicate (m - 1) z := by
  subst hm
  obtain ⟨m, hm⟩ : ∃ m, l.length - k = m + 1 := ⟨l.length - k - 1, by omega⟩
  rw [hm, List.replicate_succ, List.set_append_right _ _ (by simp only [List.length_take]; exact Nat.min_le_left _ _), List.length_take, Nat.min_eq_left (by omega), Nat.sub_self, List.set_cons_zero, Nat.add_sub_cancel, List.take_succ_eq_append_getElem hk, List.append_assoc]
  rfl
theorem alloc_new_at' (w : World) (o : Obj) {b : Nat} (h : b = w.heap.size) : (w.alloc o).heap[b]? = some o := by rw [h]; exact heap_alloc_new w o
theorem tstCells {B g n cap : Nat} {w : World} {L : List Tst} (h : RowX B w (.slice (some ⟨g, 0, none⟩) n cap) L) {i : Nat} (hi : i < L.length) :
    (w.cell? ⟨g, i * 2, none⟩ = some (.string L[i].n) ∧ w.cell? ⟨g, i * 2 + 1, none⟩ = some (.string L[i].v)) ∧ w.frozen? ⟨g, i * 2, none⟩ = false ∧ w.frozen? ⟨g, i * 2 + 1, none⟩ = false :=
  ⟨⟨RowR.cell Tst.enc_len h hi (j := 0) rfl, RowR.cell Tst.enc_len h hi (j := 1) rfl⟩, RowR.frozen h _, RowR.frozen h _⟩
theorem RowX.put {B g n cap : Nat} {w : World} {L : List Tst} (h : RowX B w (.slice (some ⟨g, 0, none⟩) n cap) L) {i : Nat} (hi : i < L.length) (x : Tst) :
    RowX B ((w.setCell ⟨g, i * 2, none⟩ (.string x.n)).setCell ⟨g, i * 2 + 1, none⟩ (.string x.v)) (.slice (some ⟨g, 0, none⟩) n cap) (L.set i x) ∧
    w.grownBy ((w.setCell ⟨g, i * 2, none⟩ (.string x.n)).setCell ⟨g, i * 2 + 1, none⟩ (.string x.v)) (some g) := by
  have h0 := RowR.set1 Tst.enc_len h hi 0 (by omega) (.string x.n) ⟨x.n, L[i].v⟩ rfl
  have h1 := RowR.set1 Tst.enc_len h0.1 (i := i) (by simpa using hi) 1 (by omega) (.string x.v) x (by simp [Tst.enc])
  refine ⟨?_, h0.2.trans h1.2⟩
  have := h1.1
  simpa [List.set_set] using this
theorem StR.enc_len (r : StR) : r.enc.length = 2 := rfl
abbrev RowT7 (B : Nat) (w : World) (v : Value) (R : List StR) : Prop := RowR StR.enc 2 50 B w v R
theorem stCells {B g n cap : Nat} {w : World} {L : List StR} (h : RowT7 B w (.slice (some ⟨g, 0, none⟩) n cap) L) {i : Nat} (hi : i < L.length) :
    (w.cell? ⟨g, i * 2, none⟩ = some (.string L[i].n) ∧ w.cell? ⟨g, i * 2 + 1, none⟩ = some L[i].tv) ∧ w.frozen? ⟨g, i * 2, none⟩ = false ∧ w.frozen? ⟨g, i * 2 + 1, none⟩ = false :=
  ⟨⟨RowR.cell StR.enc_len h hi (j := 0) rfl, RowR.cell StR.enc_len h hi (j := 1) rfl⟩, RowR.frozen h _, RowR.frozen h _⟩
theorem RowT7.put {B g n cap : Nat} {w : World} {L : List StR} (h : RowT7 B w (.slice (some ⟨g, 0, none⟩) n cap) L) {i : Nat} (hi : i < L.length) (x : StR) :
    RowT7 B ((w.setCell ⟨g, i * 2, none⟩ (.string x.n)).setCell ⟨g, i * 2 + 1, none⟩ x.tv) (.slice (some ⟨g, 0, none⟩) n cap) (L.set i x) ∧
    w.grownBy ((w.setCell ⟨g, i * 2, none⟩ (.string x.n)).setCell ⟨g, i * 2 + 1, none⟩ x.tv) (some g) := by
  have h0 := RowR.set1 StR.enc_len h hi 0 (by omega) (.string x.n) ⟨x.n, L[i].tv⟩ rfl
  have h1 := RowR.set1 StR.enc_len h0.1 (i := i) (by simpa using hi) 1 (by omega) x.tv x (by simp [StR.enc])
  refine ⟨?_, h0.2.trans h1.2⟩
  have := h1.1
  simpa [List.set_set] using this
/-- the first k of the records R hold the steps l, each with tests of its own -/
structure Part (B : Nat) (w : World) (g : Nat) (R : List StR) (l : List Stp) (k : Nat) : Prop where
  len : R.length = l.length
  at' : ∀ i (h : i < R.length) (h' : i < l.length), i < k → R[i].n = l[i].n ∧ RowX B w R[i].tv l[i].ts ∧ R[i].tv.ownBlock ≠ some g
  apart : ∀ i j (h : i < R.length) (h' : j < R.length), i < k → j < k → i ≠ j → ∀ b, R[i].tv.ownBlock = some b → R[j].tv.ownBlock ≠ some b
theorem Part.below {B g k : Nat} {w w' : World} {R : List StR} {l : List Stp} (h : Part B w g R l k) (hb : Below w.heap.size w w') : Part B w' g R l k :=
  ⟨h.len, fun i h1 h2 h3 => ⟨(h.at' i h1 h2 h3).1, RowR.below (h.at' i h1 h2 h3).2.1 hb, (h.at' i h1 h2 h3).2.2⟩, h.apart⟩
theorem Part.grown {B g k : Nat} {w w' : World} {R : List StR} {l : List Stp} (h : Part B w g R l k) (hb : w.grownBy w' (some g)) : Part B w' g R l k :=
  ⟨h.len, fun i h1 h2 h3 => ⟨(h.at' i h1 h2 h3).1, RowR.other (u := .slice (some ⟨g, 0, none⟩) 0 0) (h.at' i h1 h2 h3).2.1 hb (fun j hj e => (h.at' i h1 h2 h3).2.2 (hj.trans e.symm)), (h.at' i h1 h2 h3).2.2⟩, h.apart⟩
theorem Part.next {B g k : Nat} {w : World} {R : List StR} {l : List Stp} (h : Part B w g R l k) (hk : k < l.length) {r : StR} (hn : r.n = l[k].n) (hr : RowX B w r.tv l[k].ts) (hg : r.tv.ownBlock ≠ some g)
    (hd : ∀ i (hi : i < R.length), i < k → ∀ b, R[i].tv.ownBlock = some b → r.tv.ownBlock ≠ some b) : Part B w g (R.set k r) l (k + 1) := by
  have hkR : k < R.length := by rw [h.len]; exact hk
  refine ⟨by rw [List.length_set]; exact h.len, fun i h1 h2 h3 => ?_, fun i j h1 h2 h3 h4 hne b hb => ?_⟩
  · by_cases e : i = k
    · subst e; rw [List.getElem_set_self]; exact ⟨hn, hr, hg⟩
    · rw [List.getElem_set_ne (by omega)]
      exact h.at' i (by simpa using h1) h2 (by omega)
  · have h1' : i < R.length := by simpa using h1
    have h2' : j < R.length := by simpa using h2
    by_cases ei : i = k
    · subst ei
      rw [List.getElem_set_self] at hb
      rw [List.getElem_set_ne (by omega)]
      intro e
      exact hd j h2' (by omega) b e hb
    · rw [List.getElem_set_ne (by omega)] at hb
      by_cases ej : j = k
      · subst ej
        rw [List.getElem_set_self]
        exact hd i h1' (by omega) b hb
      · rw [List.getElem_set_ne (by omega)]
        exact h.apart i j h1' h2' (by omega) (by omega) hne b hb
/-- all of them: the steps are owned -/
theorem Part.own {B g cap : Nat} {w : World} {R : List StR} {l : List Stp} {n : Nat} (h : Part B w g R l l.length) (hr : RowT7 B w (.slice (some ⟨g, 0, none⟩) n cap) R) : ∃ S, OwnS B w (.slice (some ⟨g, 0, none⟩) n cap) l S := by
  refine ⟨fun b => (some g = some b) ∨ ∃ i, i < R.length ∧ ∃ h : i < R.length, R[i].tv.ownBlock = some b, ?_⟩
  refine ⟨R, fun i b => ∃ h : i < R.length, R[i].tv.ownBlock = some b, hr, by rw [List.length_map]; exact h.len, fun i h1 h2 => ?_, fun i j b h1 h2 h3 h4 => ?_, fun i b h1 h2 => ?_, fun b => Iff.rfl⟩
  · rw [List.length_map] at h2
    have := h.at' i h1 h2 h2
    refine ⟨fun b => R[i].tv.ownBlock = some b, fun _ => False, ⟨⟨?_, ?_⟩, fun b => Iff.rfl⟩, ?_, fun b _ hb => hb, fun b => ?_⟩
    · rw [List.getElem_map]; exact this.1
    · rw [List.getElem_map]; exact this.2.1
    · rw [List.getElem_map]; exact ⟨rfl, ⟨by simp, .inl ⟨rfl, rfl⟩⟩, fun b => by simp [stK, Value.ownBlock]⟩
    · exact ⟨fun ⟨_, hh⟩ => .inl hh, fun hh => ⟨h1, hh.elim id False.elim⟩⟩
  · obtain ⟨_, h3⟩ := h3
    obtain ⟨_, h4⟩ := h4
    by_cases e : i = j
    · exact e
    · exact absurd h4 (h.apart i j h1 h2 (by rw [← h.len]; exact h1) (by rw [← h.len]; exact h2) e b h3)
  · obtain ⟨_, h2⟩ := h2
    intro e
    have := (h.at' i h1 (by rw [← h.len]; exact h1) (by rw [← h.len]; exact h1)).2.2
    exact this (h2.trans e.symm)
end Go.Proofs.YtdfapkceanicoaaDoor
