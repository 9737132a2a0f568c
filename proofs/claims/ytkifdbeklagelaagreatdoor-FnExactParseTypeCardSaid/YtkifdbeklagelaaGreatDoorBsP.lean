/- BYTES SORTED, PLAIN MATHEMATICS: the letters of a class, sorted and each once. No function is spoken of. -/
import Derived.Test.YtkifdbeklagelaaGreatDoorPatP
import Derived.Sort.AssemblyPlain
import Derived.Lib.SlicesCompact
set_option linter.unusedVariables false
set_option linter.unusedSimpArgs false
namespace Go.Proofs.YtkifdbeklagelaaGreatDoor
open Go.RowKit Go.Sort

def numL (l : List UInt8) : List Int := l.map fun c => (c.toNat : Int)
/-- ascending lists with the same members are the same -/
theorem inc_unique : ∀ (l m : List Int), l.Pairwise (· < ·) → m.Pairwise (· < ·) → (∀ x, x ∈ l ↔ x ∈ m) → l = m
  | [], [], _, _, _ => rfl
  | [], y :: m, _, _, h => absurd ((h y).2 (by simp)) (by simp)
  | x :: l, [], _, _, h => absurd ((h x).1 (by simp)) (by simp)
  | x :: l, y :: m, h1, h2, h => by
    rw [List.pairwise_cons] at h1 h2
    have e : x = y := by
      rcases List.mem_cons.1 ((h x).1 (by simp)) with e | hx
      · exact e
      · rcases List.mem_cons.1 ((h y).2 (by simp)) with e | hy
        · exact e.symm
        · have a := h1.1 y hy
          have b := h2.1 x hx
          omega
    subst e
    rw [inc_unique l m h1.2 h2.2 fun z => ?_]
    constructor
    · intro hz
      rcases List.mem_cons.1 ((h z).1 (List.mem_cons_of_mem _ hz)) with e | hz'
      · have := h1.1 z hz; omega
      · exact hz'
    · intro hz
      rcases List.mem_cons.1 ((h z).2 (List.mem_cons_of_mem _ hz)) with e | hz'
      · have := h2.1 z hz; omega
      · exact hz'
theorem asc_at {d : Array Int} (hs : SortedIn ltInt 0 d.size d) {i j : Nat} (hij : i ≤ j) (hj : j < d.size) : d[i]! ≤ d[j]! := by
  by_cases e : i = j
  · subst e; exact Int.le_refl _
  · have := hs i j (Nat.zero_le _) (by omega) hj
    unfold ltInt at this
    simpa using this
theorem keeps_iff {d : Array Int} {i : Nat} : Lib.keeps d i = true ↔ i = 0 ∨ d[i]! ≠ d[i - 1]! := by unfold Lib.keeps; simp
theorem compact_asc {d : Array Int} (hs : SortedIn ltInt 0 d.size d) : (Lib.compactUpTo d d.size).Pairwise (· < ·) := by
  unfold Lib.compactUpTo
  rw [List.pairwise_map]
  refine List.Pairwise.imp_of_mem ?_ (List.Pairwise.filter _ (List.pairwise_lt_range (n := d.size)))
  intro i j hi hj hij
  have hj1 := (List.mem_filter.1 hj)
  have hjn : j < d.size := List.mem_range.1 hj1.1
  have hk := keeps_iff.1 hj1.2
  have h1 := asc_at hs (i := i) (j := j - 1) (by omega) (by omega)
  have h2 := asc_at hs (i := j - 1) (j := j) (by omega) hjn
  rcases hk with hk | hk
  · omega
  · show d[i]! < d[j]!
    omega
theorem compact_mem {d : Array Int} {x : Int} : x ∈ Lib.compactUpTo d d.size ↔ x ∈ d.toList := by
  unfold Lib.compactUpTo
  rw [List.mem_map]
  constructor
  · rintro ⟨i, hi, rfl⟩
    have hin : i < d.size := List.mem_range.1 (List.mem_filter.1 hi).1
    rw [getElem!_pos d i hin]
    simp
  · intro hx
    obtain ⟨i, hi, hix⟩ := List.getElem_of_mem hx
    have hin : i < d.size := by simpa using hi
    have key : ∀ k, k < d.size → d[k]! = x → ∃ j, j ∈ (List.range d.size).filter (Lib.keeps d) ∧ d[j]! = x := by
      intro k
      induction k with
      | zero => intro h1 h2; exact ⟨0, List.mem_filter.2 ⟨List.mem_range.2 h1, keeps_iff.2 (.inl rfl)⟩, h2⟩
      | succ k ih =>
        intro h1 h2
        by_cases e : d[k + 1]! = d[k]!
        · exact ih (by omega) (by rw [← e]; exact h2)
        · exact ⟨k + 1, List.mem_filter.2 ⟨List.mem_range.2 h1, keeps_iff.2 (.inr (by simpa using e))⟩, h2⟩
    exact key i hin (by rw [getElem!_pos d i hin, ← hix]; simp)
theorem cls_asc (l : List UInt8) : (numL (clsL l)).Pairwise (· < ·) := by
  unfold numL clsL
  rw [List.pairwise_map]
  refine List.Pairwise.filter _ ?_
  rw [List.pairwise_map]
  refine List.Pairwise.imp_of_mem ?_ (List.pairwise_lt_range (n := 256))
  intro a b ha hb hab
  have := List.mem_range.1 ha
  have := List.mem_range.1 hb
  simp only [UInt8.toNat_ofNat']
  omega
theorem cls_mem {l : List UInt8} {c : UInt8} : c ∈ clsL l ↔ c ∈ l := by
  unfold clsL
  rw [List.mem_filter]
  constructor
  · intro h; simpa using h.2
  · intro h
    refine ⟨List.mem_map.2 ⟨c.toNat, List.mem_range.2 c.toNat_lt, by simp⟩, by simpa using h⟩
/-- sorted, then each once: the class's letters -/
theorem compact_cls {l : List UInt8} {d : Array Int} (hp : d.toList.Perm (numL l)) (hs : SortedIn ltInt 0 d.size d) : Lib.compactUpTo d d.size = numL (clsL l) := by
  refine inc_unique _ _ (compact_asc hs) (cls_asc l) fun x => ?_
  rw [compact_mem, hp.mem_iff]
  unfold numL
  rw [List.mem_map, List.mem_map]
  constructor
  · rintro ⟨c, h1, h2⟩; exact ⟨c, cls_mem.2 h1, h2⟩
  · rintro ⟨c, h1, h2⟩; exact ⟨c, cls_mem.1 h1, h2⟩
end Go.Proofs.YtkifdbeklagelaaGreatDoor
