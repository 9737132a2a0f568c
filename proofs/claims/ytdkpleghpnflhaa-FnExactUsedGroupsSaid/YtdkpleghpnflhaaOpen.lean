/- MERGED for a claim: Rec Open. -/
import Derived.Test.YtdkpleghpnflhaaBase
import Derived.OwnWalk
import Derived.Laws.AppendOwn
import Derived.Deep.AppendLies
import Derived.Deep.Onto
import Derived.Deep.Light
import Derived.Deep.QuietTactic
import Derived.BigQuiet
import Derived.RegionTactic
import Derived.Deep.Slices
import Derived.Deep.Strs
import Derived.Lib.SmallJoins
set_option linter.unusedVariables false
set_option linter.unusedSimpArgs false
/- LISTS OF RECORDS: a slice that is read ('HasR'), a slice of the call's own ('RowR'), each element z cells. No function is spoken of. -/
namespace Go.Proofs.Ytdkpleghpnflhaa
open Go.RowKit

theorem addr_blk (a : Addr) (j : Nat) : (a.add j).block = a.block := by unfold Addr.add; split <;> rfl
theorem addr_zero (g j : Nat) : (⟨g, 0, none⟩ : Addr).add j = ⟨g, j, none⟩ := by
  unfold Addr.add; split
  · subst_vars; rfl
  · simp
theorem addr_at (g i j : Nat) : (⟨g, i, none⟩ : Addr).add j = ⟨g, i + j, none⟩ := by
  unfold Addr.add; split
  · subst_vars; simp
  · rfl
section
variable {α : Type}
/-- the value v is a slice that holds the records l, each of them the cells enc, z of them -/
def HasR (enc : α → List Value) (z : Nat) (w : World) (v : Value) (l : List α) : Prop :=
  ∃ (A : Option Addr) (cap : Nat), v = .slice A l.length cap ∧ l.length ≤ 9223372036854775807 ∧ ∀ i (h : i < l.length), ∃ a, A = some a ∧ a.block < w.heap.size ∧ ∀ j x, (enc l[i])[j]? = some x → w.cell? ((a.add (i * z)).add j) = some x
/-- the slice v is the call's own (its block is from B on) and holds the records l -/
def RowR (enc : α → List Value) (z E B : Nat) (w : World) (v : Value) (l : List α) : Prop := w.ownsRow B E z v l.length (l.flatMap enc)
variable {enc : α → List Value} {z E B B' : Nat} {w w' : World} {v u : Value} {l : List α}
theorem HasR.below (h : HasR enc z w v l) (hb : Below w.heap.size w w') : HasR enc z w' v l := by
  obtain ⟨A, cap, hv, hn, h⟩ := h
  refine ⟨A, cap, hv, hn, fun i hi => ?_⟩
  obtain ⟨a, h1, h2, h3⟩ := h i hi
  exact ⟨a, h1, Nat.lt_of_lt_of_le h2 hb.size, fun j x hx => by rw [hb.cell (by rw [addr_blk, addr_blk]; exact h2)]; exact h3 j x hx⟩
theorem hasR_nil (w : World) : HasR enc z w (.slice none 0 0) [] := ⟨none, 0, rfl, by simp, fun i hi => absurd hi (by simp)⟩
theorem flat_get (hz : ∀ x, (enc x).length = z) {i j : Nat} (hi : i < l.length) {x : Value} (hx : (enc l[i])[j]? = some x) : (l.flatMap enc)[i * z + j]? = some x := by
  induction l generalizing i with
  | nil => cases hi
  | cons y r ih =>
    rw [List.flatMap_cons]
    cases i with
    | zero =>
      have hj : j < (enc y).length := (List.getElem?_eq_some_iff.1 hx).1
      rw [Nat.zero_mul, Nat.zero_add, List.getElem?_append_left hj]; exact hx
    | succ i =>
      rw [List.getElem?_append_right (by rw [hz, Nat.succ_mul]; omega), hz, show (i + 1) * z + j - z = i * z + j by rw [Nat.succ_mul]; omega]
      exact ih (by simpa using hi) (by simpa using hx)
theorem flat_len (hz : ∀ x, (enc x).length = z) (l : List α) : (l.flatMap enc).length = l.length * z := by
  induction l with
  | nil => simp
  | cons y r ih => rw [List.flatMap_cons, List.length_append, hz, ih, List.length_cons, Nat.succ_mul]; omega
theorem RowR.cell (hz : ∀ x, (enc x).length = z) {g cap n : Nat} (h : RowR enc z E B w (.slice (some ⟨g, 0, none⟩) n cap) l) {i j : Nat} (hi : i < l.length) {x : Value} (hx : (enc l[i])[j]? = some x) : w.cell? ⟨g, i * z + j, none⟩ = some x := by
  have := h.cells (g := g) rfl (i * z + j) x (flat_get hz hi hx)
  rwa [addr_zero] at this
theorem RowR.len (h : RowR enc z E B w v l) : l.length ≤ 9223372036854775807 := by
  rcases h.2 with ⟨_, h0⟩ | ⟨g, cap, cur, _, _, _, h1, h2, _, _⟩
  · omega
  · unfold maxLen at h2; omega
theorem RowR.form (h : RowR enc z E B w v l) : (v = .slice none 0 0 ∧ l = []) ∨ ∃ g cap, v = .slice (some ⟨g, 0, none⟩) l.length cap ∧ B ≤ g ∧ g < w.heap.size := by
  rcases h.2 with ⟨h1, h0⟩ | ⟨g, cap, cur, h1, h2, h3, _⟩
  · exact .inl ⟨h1, List.length_eq_zero_iff.1 h0⟩
  · exact .inr ⟨g, cap, h1, h2, (Array.getElem?_eq_some_iff.1 h3).1⟩
theorem RowR.has (hz : ∀ x, (enc x).length = z) (h : RowR enc z E B w v l) : HasR enc z w v l := by
  rcases h.form with ⟨rfl, rfl⟩ | ⟨g, cap, rfl, _, hg⟩
  · exact ⟨none, 0, rfl, by simp, fun i hi => absurd hi (by simp)⟩
  · exact ⟨_, cap, rfl, h.len, fun i hi => ⟨_, rfl, hg, fun j x hx => by rw [addr_zero, addr_at]; exact h.cell hz hi hx⟩⟩
theorem RowR.alloc (h : RowR enc z E B w v l) (o : Obj) : RowR enc z E B (w.alloc o) v l := World.ownsRow.alloc h o
theorem RowR.below (h : RowR enc z E B w v l) (hb : Below w.heap.size w w') : RowR enc z E B w' v l :=
  h.kept (row := none) ⟨hb.os, hb.tape, hb.output, hb.size, fun k hk _ => hb.block k hk⟩ (by
    rcases h.form with ⟨rfl, _⟩ | ⟨g, cap, rfl, _, _⟩ <;> simp [Value.ownBlock])
theorem RowR.other (h : RowR enc z E B w v l) (hg : w.grownBy w' u.ownBlock) (hne : ∀ k, v.ownBlock = some k → u.ownBlock ≠ some k) : RowR enc z E B w' v l :=
  h.kept hg (by
    cases e : v.ownBlock with
    | none => exact .inl rfl
    | some k => exact .inr fun e' => hne k e e'.symm)
theorem RowR.mono (h : RowR enc z E B w v l) (hb : B' ≤ B) : RowR enc z E B' w v l := World.ownsRow.mono h hb
theorem RowR.lt (h : RowR enc z E B w v l) {k : Nat} (hk : v.ownBlock = some k) : B ≤ k ∧ k < w.heap.size := World.ownsRow.lt h k hk
theorem RowR.cap' {g cap n : Nat} (h : RowR enc z E B w (.slice (some ⟨g, 0, none⟩) n cap) l) : n = l.length := by
  rcases h.2 with ⟨h', _⟩ | ⟨g', cap', cur, h', _⟩
  · cases h'
  · cases h'; rfl
theorem RowR.cap {g cap n : Nat} (h : RowR enc z E B w (.slice (some ⟨g, 0, none⟩) n cap) l) : n ≤ cap := by
  rcases h.2 with ⟨h', _⟩ | ⟨g', cap', cur, h', _, _, h5, _⟩
  · cases h'
  · cases h'; exact h5
theorem RowR.frozen {g cap n : Nat} (h : RowR enc z E B w (.slice (some ⟨g, 0, none⟩) n cap) l) (i : Nat) : w.frozen? ⟨g, i, none⟩ = false := by
  obtain rfl := h.cap'; exact World.ownsRow.frozenAt h i
theorem rowR_empty {b : Nat} {W : World} (hb : W.heap[b]? = some (.cells #[] E)) (hB : B ≤ b) : RowR enc z E B W (.slice (some ⟨b, 0, none⟩) 0 0) [] := ⟨by simp, .inr ⟨b, 0, #[], rfl, hB, hb, by simp, by simp, by simp, by simp⟩⟩
theorem flat_set1 (hz : ∀ x, (enc x).length = z) {i j : Nat} (hi : i < l.length) (hj : j < z) {u : Value} {y : α} (hy : enc y = (enc l[i]).set j u) : (l.flatMap enc).set (i * z + j) u = (l.set i y).flatMap enc := by
  induction l generalizing i with
  | nil => cases hi
  | cons c r ih =>
    cases i with
    | zero =>
      rw [List.flatMap_cons, List.set_cons_zero, List.flatMap_cons, Nat.zero_mul, Nat.zero_add, List.set_append_left _ _ (by rw [hz]; exact hj), hy]; rfl
    | succ i =>
      rw [List.flatMap_cons, List.set_cons_succ, List.flatMap_cons, List.set_append_right _ _ (by rw [hz, Nat.succ_mul]; omega), hz, show (i + 1) * z + j - z = i * z + j by rw [Nat.succ_mul]; omega]
      rw [ih (by simpa using hi) (by simpa using hy)]
/-- a cell of the i-th record turned -/
theorem RowR.set1 (hz : ∀ x, (enc x).length = z) {g cap n : Nat} (h : RowR enc z E B w (.slice (some ⟨g, 0, none⟩) n cap) l) {i : Nat} (hi : i < l.length) (j : Nat) (hj : j < z) (u : Value) (y : α) (hy : enc y = (enc l[i]).set j u) :
    RowR enc z E B (w.setCell ⟨g, i * z + j, none⟩ u) (.slice (some ⟨g, 0, none⟩) n cap) (l.set i y) ∧ w.grownBy (w.setCell ⟨g, i * z + j, none⟩ u) (some g) := by
  obtain rfl := h.cap'
  have := World.ownsRow.stored h (i * z + j) u
  refine ⟨?_, this.2⟩
  unfold RowR
  rw [List.length_set, ← flat_set1 hz hi hj hy]
  exact this.1
theorem made_flat (hz : ∀ x, (enc x).length = z) (h0 : 0 < z) (c : Array Value) (y : α) (hc : c.toList = enc y) (n : Nat) : (madeCells c (n * z)).toList = (List.replicate n y).flatMap enc := by
  have hcs : c.size = z := by rw [← hz y, ← hc]; simp
  apply List.ext_getElem?
  intro j
  by_cases hj : j < n * z
  · have hd : j / z < n := (Nat.div_lt_iff_lt_mul h0).2 hj
    have hm : j % z < z := Nat.mod_lt _ h0
    have hx : (enc ((List.replicate n y)[j / z]'(by simpa using hd)))[j % z]? = some (c[j % z]!) := by
      rw [List.getElem_replicate, ← hc, Array.getElem?_toList, Array.getElem?_eq_getElem (by rw [hcs]; exact hm)]
      simp [hcs, hm]
    have := flat_get (l := List.replicate n y) hz (by simpa using hd) hx
    rw [show j / z * z + j % z = j by rw [Nat.mul_comm]; exact Nat.div_add_mod j z] at this
    rw [this]
    simp [madeCells, hj, hcs]
  · rw [List.getElem?_eq_none (by simp [madeCells]; omega), List.getElem?_eq_none (by rw [flat_len hz, List.length_replicate]; omega)]
end
end Go.Proofs.Ytdkpleghpnflhaa

/- ARGUMENTS OPENED: a slice of records, whatever they are. No function is spoken of. -/
namespace Go.Proofs.Ytdkpleghpnflhaa
open Go.RowKit Go.ChangeShapes Go.WideShapes Go.Deep

theorem block_of_cell {w : World} {p : Addr} {v : Value} (h : w.cell? p = some v) : p.block < w.heap.size := by
  rcases Nat.lt_or_ge p.block w.heap.size with hlt | hge
  · exact hlt
  · unfold World.cell? at h; rw [Array.getElem?_eq_none hge] at h; cases h
section
variable {H : Type} {en : TypeId × Value → H} {P : Program} {w : World} {base : Nat} {spare : Nat → Bool} {held : Bool}
theorem open_rows {α : Type} {enc : α → List Value} {z : Nat} {good : α → Prop} {t e : TypeId} {fuel : Nat} {cs : List Value} {x : DataW H × List MemPlace}
    (ht : P.underlying t = some (.slice e)) (hC : P.cellsOf e = z) (h0 : 0 < z)
    (hel : ∀ n cs' y, DataW.trod en P w base spare held n e cs' = some y → ∃ x : α, cs' = enc x ∧ good x)
    (h : DataW.trod en P w base spare held fuel t cs = some x) : ∃ (A : Option Addr) (len cap : Nat) (l : List α), cs = [.slice A len cap] ∧ HasR enc z w (.slice A len cap) l ∧ ∀ x ∈ l, good x := by
  rcases open_slice ht h with ⟨h1, _⟩ | ⟨a, len, cap, m, n, D, Pl, hcs, _, hl, hm, hmm, _, hi⟩
  · exact ⟨none, 0, 0, [], h1, hasR_nil w, by simp⟩
  · have hlm : len ≤ m := by rw [hmm]; split <;> omega
    have he : ∀ i, i < len → ∃ x : α, (∀ j y, (enc x)[j]? = some y → w.cell? ((a.add (i * z)).add j) = some y) ∧ good x ∧ a.block < w.heap.size := fun i hil => by
      obtain ⟨cs', hc, ht'⟩ := hi i (by omega)
      obtain ⟨x, rfl, hg⟩ := hel n cs' _ ht'
      rw [hC] at hc
      obtain ⟨_, hcl, hat⟩ := World.cells?_some hc
      refine ⟨x, fun j y hy => ?_, hg, ?_⟩
      · have hj : j < z := by rw [← hcl]; exact (List.getElem?_eq_some_iff.1 hy).1
        rw [hat j hj, hy]
      · have h2 := hat 0 h0
        rw [List.getElem?_eq_getElem (by omega)] at h2
        have := block_of_cell h2
        rwa [addr_blk, addr_blk] at this
    have hls : ∃ l : List α, l.length = len ∧ ∀ i (h : i < l.length), (∀ j y, (enc l[i])[j]? = some y → w.cell? ((a.add (i * z)).add j) = some y) ∧ good l[i] ∧ a.block < w.heap.size := by
      refine ⟨(List.range len).attach.map fun i => Classical.choose (he i.1 (List.mem_range.1 i.2)), by simp, fun i h => ?_⟩
      simp only [List.getElem_map, List.getElem_attach, List.getElem_range]
      exact Classical.choose_spec (he i (by simpa using h))
    obtain ⟨l, hll, hp⟩ := hls
    refine ⟨some a, len, cap, l, hcs, ⟨some a, cap, by rw [hll], by unfold maxLen at hm; omega, fun i h => ⟨a, rfl, (hp i h).2.2, (hp i h).1⟩⟩, fun x hx => ?_⟩
    obtain ⟨i, hi', rfl⟩ := List.getElem_of_mem hx
    exact (hp i hi').2.1
end
end Go.Proofs.Ytdkpleghpnflhaa
