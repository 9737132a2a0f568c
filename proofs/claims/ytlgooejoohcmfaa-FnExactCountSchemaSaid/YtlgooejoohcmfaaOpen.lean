/- ARGUMENTS OPENED: a slice of records, whatever they are. No function is spoken of. -/
import Derived.Test.YtlgooejoohcmfaaRec
import Derived.Deep.Slices
import Derived.Deep.Strs
import Derived.Lib.SmallJoins
set_option linter.unusedVariables false
set_option linter.unusedSimpArgs false
namespace Go.Proofs.Ytlgooejoohcmfaa
open Go.RowKit Go.ChangeShapes Go.WideShapes Go.Deep

theorem block_of_cell {w : World} {p : Addr} {v : Value} (h : w.cell? p = some v) : p.block < w.heap.size := by
  rcases Nat.lt_or_ge p.block w.heap.size with hlt | hge
  · exact hlt
  · unfold World.cell? at h; rw [Array.getElem?_eq_none hge] at h; cases h
section
variable {H : Type} {en : TypeId × Value → H} {P : Program} {w : World} {base : Nat} {spare : Nat → Bool} {held : Bool}
theorem open_rows {α : Type} {enc : α → List Value} {z : Nat} {good : α → Prop} {t e : TypeId} {fuel : Nat} {cs : List Value} {x : DataW H × List MemPlace}
    (ht : P.underlying t = some (.slice e)) (hC : P.cellsOf e = z) (h0 : 0 < z)
    (hel : ∀ n cs' y, DataW.trod en P w base spare held n e cs' = some y → ∃ x : α, cs' = enc x ∧ good x)
    (h : DataW.trod en P w base spare held fuel t cs = some x) : ∃ (A : Option Addr) (len cap : Nat) (l : List α), cs = [.slice A len cap] ∧ HasR enc z w (.slice A len cap) l ∧ ∀ x ∈ l, good x := by
  rcases open_slice ht h with ⟨h1, _⟩ | ⟨a, len, cap, m, n, D, Pl, hcs, _, hl, hm, hmm, _, hi⟩
  · exact ⟨none, 0, 0, [], h1, hasR_nil w, by simp⟩
  · have hlm : len ≤ m := by rw [hmm]; split <;> omega
    have he : ∀ i, i < len → ∃ x : α, (∀ j y, (enc x)[j]? = some y → w.cell? ((a.add (i * z)).add j) = some y) ∧ good x ∧ a.block < w.heap.size := fun i hil => by
      obtain ⟨cs', hc, ht'⟩ := hi i (by omega)
      obtain ⟨x, rfl, hg⟩ := hel n cs' _ ht'
      rw [hC] at hc
      obtain ⟨_, hcl, hat⟩ := World.cells?_some hc
      refine ⟨x, fun j y hy => ?_, hg, ?_⟩
      · have hj : j < z := by rw [← hcl]; exact (List.getElem?_eq_some_iff.1 hy).1
        rw [hat j hj, hy]
      · have h2 := hat 0 h0
        rw [List.getElem?_eq_getElem (by omega)] at h2
        have := block_of_cell h2
        rwa [addr_blk, addr_blk] at this
    have hls : ∃ l : List α, l.length = len ∧ ∀ i (h : i < l.length), (∀ j y, (enc l[i])[j]? = some y → w.cell? ((a.add (i * z)).add j) = some y) ∧ good l[i] ∧ a.block < w.heap.size := by
      refine ⟨(List.range len).attach.map fun i => Classical.choose (he i.1 (List.mem_range.1 i.2)), by simp, fun i h => ?_⟩
      simp only [List.getElem_map, List.getElem_attach, List.getElem_range]
      exact Classical.choose_spec (he i (by simpa using h))
    obtain ⟨l, hll, hp⟩ := hls
    refine ⟨some a, len, cap, l, hcs, ⟨some a, cap, by rw [hll], by unfold maxLen at hm; omega, fun i h => ⟨a, rfl, (hp i h).2.2, (hp i h).1⟩⟩, fun x hx => ?_⟩
    obtain ⟨i, hi', rfl⟩ := List.getElem_of_mem hx
    exact (hp i hi').2.1
end
end Go.Proofs.Ytlgooejoohcmfaa
