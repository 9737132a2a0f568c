/- LISTS OF RECORDS SORTED BY THE LIBRARY: a row of the call's own in the words of the sort's contract and back. No function is spoken of. -/
import Derived.Test.YtdmccopggmienaaGreatRec
import Derived.Shelf.SlSortCmp.WholeK
set_option linter.unusedVariables false
set_option linter.unusedSimpArgs false
namespace Go.Proofs.YtdmccopggmienaaGreat
open Go.RowKit Go.Sort Go.Shelf

section
variable {α : Type} [Inhabited α] {enc : α → List Value} {z E B g c n : Nat} {w : World} {l : List α}
theorem flatK_list (hz : ∀ x, (enc x).length = z) (h0 : 0 < z) (l : List α) : (flatK enc z l.toArray).toList = l.flatMap enc := by
  apply List.ext_getElem?
  intro j
  by_cases hj : j < l.length * z
  · have hd : j / z < l.length := (Nat.div_lt_iff_lt_mul h0).2 hj
    have hm : j % z < z := Nat.mod_lt _ h0
    have hx : (enc (l[j / z]'hd))[j % z]? = some ((enc (l[j / z]'hd))[j % z]'(by rw [hz]; exact hm)) := List.getElem?_eq_getElem _
    have h1 := flat_get (l := l) hz hd hx
    rw [show j / z * z + j % z = j by rw [Nat.mul_comm]; exact Nat.div_add_mod j z] at h1
    rw [h1]
    simp [flatK, hj, hd, hz, hm]
  · rw [List.getElem?_eq_none (by simp; omega), List.getElem?_eq_none (by rw [flat_len hz]; omega)]
theorem RowR.holdsK (hz : ∀ x, (enc x).length = z) (h0 : 0 < z) (h : RowR enc z E B w (.slice (some ⟨g, 0, none⟩) n c) l) : HoldsK enc z w g 0 l.toArray := by
  intro j hj
  rw [size_flatK] at hj
  have hd : j / z < l.length := (Nat.div_lt_iff_lt_mul h0).2 (by simpa using hj)
  have hm : j % z < z := Nat.mod_lt _ h0
  have hx : (enc (l[j / z]'hd))[j % z]? = some ((enc (l[j / z]'hd))[j % z]'(by rw [hz]; exact hm)) := List.getElem?_eq_getElem _
  have h1 := h.cell hz hd hx
  rw [show j / z * z + j % z = j by rw [Nat.mul_comm]; exact Nat.div_add_mod j z] at h1
  rw [Nat.zero_add]
  refine ⟨?_, h.frozen j⟩
  rw [h1, get_flatK _ _ _ _ (by simpa using hj)]
  simp [hd, hz, hm]
theorem heap_sortedK {m : Nat} {os : Array Obj} {cur : Array Value} {e : TypeId} {fr : Nat × Nat} (d : Array α) (hb : w.heap[g]? = some (.cells cur e fr)) :
    (sortWorldK enc z w g 0 m d os).heap[g]? = some (.cells (putCells id 0 (flatK enc z d) cur) e fr) := by
  have hg : g < w.heap.size := (Array.getElem?_eq_some_iff.1 hb).1
  unfold sortWorldK putRowK
  rw [heap_grow_old _ _ (by simpa using hg)]
  simp [putRow, mapBlock, Sort.ahead, Array.getElem?_modify, hb, onCells]
theorem grownBy_sortedK {m : Nat} {os : Array Obj} (d : Array α) : w.grownBy (sortWorldK enc z w g 0 m d os) (some g) := by
  unfold sortWorldK putRowK
  refine ⟨rfl, rfl, rfl, by simp, fun k hk hne => ?_⟩
  rw [heap_grow_old _ _ (by simpa using hk)]
  have : g ≠ k := fun e => hne (by rw [e])
  simp [putRow, mapBlock, Sort.ahead, Array.getElem?_modify, this]
theorem RowR.sortedK (hz : ∀ x, (enc x).length = z) (h0 : 0 < z) (h : RowR enc z E B w (.slice (some ⟨g, 0, none⟩) n c) l) {m : Nat} {os : Array Obj} (l' : List α) (hl : l'.length = l.length) :
    RowR enc z E B (sortWorldK enc z w g 0 m l'.toArray os) (.slice (some ⟨g, 0, none⟩) n c) l' := by
  obtain rfl := h.cap'
  rcases h.2 with ⟨h', _⟩ | ⟨g', c', cur, h', h1, h2, h3, h4, h5, h6⟩
  · cases h'
  · cases h'
    refine ⟨by rw [flat_len hz, hl], .inr ⟨g, c, _, by rw [hl], h1, heap_sortedK _ h2, by rw [hl]; exact h3, h4, by simp [putCells, h5], ?_⟩⟩
    rw [← flatK_list hz h0, hl]
    have hle : l.length * z ≤ cur.size := by rw [h5]; exact Nat.mul_le_mul_right _ h3
    apply List.ext_getElem?
    intro j
    by_cases hj : j < l.length * z
    · rw [List.getElem?_take_of_lt hj, Array.getElem?_toList, Array.getElem?_toList]
      have hs : (flatK enc z l'.toArray).size = l.length * z := by simp [hl]
      simp [putCells, hs, hj, show j < cur.size by omega]
    · rw [List.getElem?_take_eq_none (by omega), List.getElem?_eq_none (by simp [hl]; omega)]
theorem sortedK_list {lt : α → α → Bool} {d' : Array α} (hp : PermIn 0 l.toArray.size l.toArray d') (hs : SortedIn lt 0 l.toArray.size d') :
    d'.toList.length = l.length ∧ d'.toList.Perm l ∧ d'.toList.Pairwise (fun x y => lt y x = false) := by
  obtain ⟨h1, _, h3⟩ := hp
  have hsz : d'.size = l.length := by rw [h1]; simp
  refine ⟨by simpa using hsz, ?_, ?_⟩
  · have e1 : d'.extract 0 l.toArray.size = d' := by rw [← h1]; simp
    have e2 : l.toArray.extract 0 l.toArray.size = l.toArray := by simp
    rw [e1, e2] at h3
    exact h3
  · refine List.pairwise_iff_getElem.2 fun i j hi hj hij => ?_
    have := hs i j (Nat.zero_le _) hij (by simp at hj ⊢; omega)
    simp at hi hj
    simpa [hi, hj] using this
end
end Go.Proofs.YtdmccopggmienaaGreat
