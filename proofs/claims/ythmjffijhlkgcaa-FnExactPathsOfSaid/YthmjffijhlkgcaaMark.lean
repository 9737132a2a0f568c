/- THE MARKS OF THE LAWS: markText, and a list of texts marked and found as marked. -/
import Derived.Test.YthmjffijhlkgcaaDig
import Derived.Test.YthmjffijhlkgcaaPth
import Derived.Deep.RegionHeld3
set_option linter.unusedVariables false
set_option linter.unusedSimpArgs false
namespace Go.Proofs.Ythmjffijhlkgcaa
open Go.RowKit NumP

/-- the k-th mark -/
def markS (k : Nat) : ByteArray := ⟨(109 :: dec k).toArray⟩
set_option maxRecDepth 100000 in
set_option maxHeartbeats 1000000 in
theorem mark_any (m : Nat) (h0 : 0 < m) (hh : m ≤ 4611686018427387904) (w : World) :
    Calls Try.prog 32 #[.int .i64 m] w fun e w' => e = .returned (.string (markS m)) ∧ Below w.heap.size w w' := by
  go_enter Try.func32, Try.ntmps32
  go_wp2
  go_loopw [0, 3] (fun x s wr => ∃ (q : Nat) (l : List UInt8), q ≤ 4611686018427387904 ∧ l.length ≤ 20 ∧ x = .int .i64 q ∧ s = .string ⟨l.toArray⟩ ∧ SF m q l ∧ Below w.heap.size w wr) (fun x _ _ => (intOf x).toNat)
  case atStart => exact ⟨m, [], by omega, by simp, rfl, rfl, ⟨fun h => by omega, fun _ => by simp⟩, Below.refl _ _⟩
  case round =>
    obtain ⟨q, l, hq, hll, rfl, rfl, hsf, hbel⟩ := hrel
    by_cases hq0 : 0 < q
    · obtain ⟨b, hb⟩ : ∃ b, b = UInt8.ofNat (48 + q % 10) := ⟨_, rfl⟩
      have hcv := conv_one wr b
      have hs := SF_step (by omega) hq0 hsf
      rw [hb, digit_byte, ← hb] at hcv
      rw [← hb] at hs
      clear hb
      go_wp2
      go_roundw
      case rel =>
        exact ⟨q / 10, _, by omega, hs.2, by go_num, val_str (str_cons _ _), hs.1, hbel.alloc hbel.size _⟩
      case measure => simp [intOf]; omega
    · go_wp2
      go_ret
      exact ⟨ret_str (by unfold markS; rw [← hsf.1 (by omega)]; exact ByteArray.mk_append_mk [109] _), hbel⟩

/-- n marks from the k-th on -/
def marks (k n : Nat) : List ByteArray := (List.range n).map fun i => markS (k + i)
theorem marks_length (k n : Nat) : (marks k n).length = n := by simp [marks]
theorem marks_get (k n i : Nat) (h : i < (marks k n).length) : (marks k n)[i] = markS (k + i) := by simp [marks]
theorem marks_step {l : List ByteArray} {k i n : Nat} (hi : i < n) (hn : n = l.length) : (marks k i ++ l.drop i).set i (markS (k + i)) = marks k (i + 1) ++ l.drop (i + 1) := by
  subst hn
  rw [List.set_append_right _ _ (by rw [marks_length]; exact Nat.le_refl _), marks_length, Nat.sub_self, List.drop_eq_getElem_cons hi, List.set_cons_zero]
  unfold marks
  rw [List.range_succ, List.map_append, List.append_assoc]; rfl

theorem held_step {w w1 w2 : World} {p : Addr} {v : Option Value} (k : Below w1.heap.size w1 w2) (h : w1.cell? p = v ∧ Below w.heap.size w w1) (hp : p.block < w.heap.size) : w2.cell? p = v ∧ Below w.heap.size w w2 :=
  ⟨by rw [k.cell (Nat.lt_of_lt_of_le hp h.2.size)]; exact h.1, below_step h.2 k⟩
end Go.Proofs.Ythmjffijhlkgcaa
