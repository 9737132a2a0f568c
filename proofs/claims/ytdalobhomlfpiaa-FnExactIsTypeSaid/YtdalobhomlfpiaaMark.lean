/- THE MARKS OF THE LAWS: markText, and a list of texts marked and found as marked. -/
import Derived.Test.YtdalobhomlfpiaaDig
import Derived.Test.YtdalobhomlfpiaaStrs
import Derived.Deep.RegionHeld3
namespace Go.Proofs.Ytdalobhomlfpiaa
open Go.RowKit NumP

/-- the k-th mark -/
def markS (k : Nat) : ByteArray := ⟨(109 :: dec k).toArray⟩
/-- n marks from the k-th on -/
def marks (k n : Nat) : List ByteArray := (List.range n).map fun i => markS (k + i)
theorem marks_length (k n : Nat) : (marks k n).length = n := by simp [marks]
theorem marks_get (k n i : Nat) (h : i < (marks k n).length) : (marks k n)[i] = markS (k + i) := by simp [marks]
theorem marks_step {l : List ByteArray} {k i n : Nat} (hi : i < n) (hn : n = l.length) : (marks k i ++ l.drop i).set i (markS (k + i)) = marks k (i + 1) ++ l.drop (i + 1) := by
  subst hn
  rw [List.set_append_right _ _ (by rw [marks_length]; exact Nat.le_refl _), marks_length, Nat.sub_self, List.drop_eq_getElem_cons hi, List.set_cons_zero]
  unfold marks
  rw [List.range_succ, List.map_append, List.append_assoc]; rfl

theorem held_step {w w1 w2 : World} {p : Addr} {v : Option Value} (k : Below w1.heap.size w1 w2) (h : w1.cell? p = v ∧ Below w.heap.size w w1) (hp : p.block < w.heap.size) : w2.cell? p = v ∧ Below w.heap.size w w2 :=
  ⟨by rw [k.cell (Nat.lt_of_lt_of_le hp h.2.size)]; exact h.1, below_step h.2 k⟩
end Go.Proofs.Ytdalobhomlfpiaa
