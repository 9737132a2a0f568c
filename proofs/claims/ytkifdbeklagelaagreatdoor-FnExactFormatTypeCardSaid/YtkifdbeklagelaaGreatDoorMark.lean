/- THE MARKS OF THE LAWS: markText, and a list of texts marked and found as marked. -/
import Derived.Test.YtkifdbeklagelaaGreatDoorDig
import Derived.Test.YtkifdbeklagelaaGreatDoorStrs
import Derived.Deep.RegionHeld3
set_option linter.unusedVariables false
set_option linter.unusedSimpArgs false
namespace Go.Proofs.YtkifdbeklagelaaGreatDoor
open Go.RowKit NumP

/-- the k-th mark -/
def markS (k : Nat) : ByteArray := ⟨(109 :: dec k).toArray⟩
set_option maxRecDepth 100000 in
set_option maxHeartbeats 1000000 in
theorem mark_any (m : Nat) (h0 : 0 < m) (hh : m ≤ 4611686018427387904) (w : World) :
    Calls Tryz.prog 77 #[.int .i64 m] w fun e w' => e = .returned (.string (markS m)) ∧ Below w.heap.size w w' := by
  go_enter Tryz.func77, Tryz.ntmps77
  go_wp2
  go_loopw [0, 3] (fun x s wr => ∃ (q : Nat) (l : List UInt8), q ≤ 4611686018427387904 ∧ l.length ≤ 20 ∧ x = .int .i64 q ∧ s = .string ⟨l.toArray⟩ ∧ SF m q l ∧ Below w.heap.size w wr) (fun x _ _ => (intOf x).toNat)
  case atStart => exact ⟨m, [], by omega, by simp, rfl, rfl, ⟨fun h => by omega, fun _ => by simp⟩, Below.refl _ _⟩
  case round =>
    obtain ⟨q, l, hq, hll, rfl, rfl, hsf, hbel⟩ := hrel
    by_cases hq0 : 0 < q
    · obtain ⟨b, hb⟩ : ∃ b, b = UInt8.ofNat (48 + q % 10) := ⟨_, rfl⟩
      have hcv := conv_one wr b
      have hs := SF_step (by omega) hq0 hsf
      rw [hb, digit_byte, ← hb] at hcv
      rw [← hb] at hs
      clear hb
      go_wp2
      go_roundw
      case rel =>
        exact ⟨q / 10, _, by omega, hs.2, by go_num, val_str (str_cons _ _), hs.1, hbel.alloc hbel.size _⟩
      case measure => simp [intOf]; omega
    · go_wp2
      go_ret
      exact ⟨ret_str (by unfold markS; rw [← hsf.1 (by omega)]; exact ByteArray.mk_append_mk [109] _), hbel⟩

/-- n marks from the k-th on -/
def marks (k n : Nat) : List ByteArray := (List.range n).map fun i => markS (k + i)
theorem marks_length (k n : Nat) : (marks k n).length = n := by simp [marks]
theorem marks_get (k n i : Nat) (h : i < (marks k n).length) : (marks k n)[i] = markS (k + i) := by simp [marks]
theorem marks_step {l : List ByteArray} {k i n : Nat} (hi : i < n) (hn : n = l.length) : (marks k i ++ l.drop i).set i (markS (k + i)) = marks k (i + 1) ++ l.drop (i + 1) := by
  subst hn
  rw [List.set_append_right _ _ (by rw [marks_length]; exact Nat.le_refl _), marks_length, Nat.sub_self, List.drop_eq_getElem_cons hi, List.set_cons_zero]
  unfold marks
  rw [List.range_succ, List.map_append, List.append_assoc]; rfl

set_option maxRecDepth 100000 in
set_option maxHeartbeats 1000000 in
theorem markStrs_any (B : Nat) (v : Value) (l : List ByteArray) (k : Nat) (w : World) (hv : Row B w v l) (hn : l.length ≤ 1048576) (hk0 : 0 < k) (hk : k ≤ 1073741824) :
    Calls Tryz.prog 39 #[v, .int .i64 k] w fun e w' => e = .returned (.int .i64 ((k : Int) + (l.length : Int))) ∧ Row B w' v (marks k l.length) ∧ w.grownBy w' v.ownBlock := by
  have hB : ∀ j, v.ownBlock = some j → B ≤ j ∧ j < w.heap.size := fun j hj => hv.lt hj
  rcases hv.form with ⟨rfl, rfl⟩ | ⟨g, cap, rfl, hg0, hg⟩
  · go_enter Tryz.func39, Tryz.ntmps39
    go_wp2
    go_loopw [1, 5] (fun x i wr => x = .int .i64 k ∧ i = .int .i64 0 ∧ wr = w) (fun _ _ _ => 0)
    case atStart => exact ⟨rfl, rfl, rfl⟩
    case round =>
      obtain ⟨rfl, rfl, rfl⟩ := hrel
      go_wp2
      go_ret
      exact ⟨ret_int (by simp), hv, ⟨rfl, rfl, rfl, Nat.le_refl _, fun _ _ _ => rfl⟩⟩
  · obtain ⟨n, hnn⟩ : ∃ n, n = l.length := ⟨_, rfl⟩
    have HN : Hid (n = l.length) := Lib.hid hnn
    have hv0 : Row B w (.slice (some ⟨g, 0, none⟩) n cap) (marks k 0 ++ l.drop 0) := by rw [hnn]; simpa [marks] using hv
    rw [← hnn] at hn ⊢
    clear hv hnn hB
    go_enter Tryz.func39, Tryz.ntmps39
    go_wp2
    go_loopw [1, 5] (fun x i wr => ∃ j : Nat, j ≤ n ∧ x = .int .i64 ((k : Int) + (j : Int)) ∧ i = .int .i64 j ∧ Row B wr (.slice (some ⟨g, 0, none⟩) n cap) (marks k j ++ l.drop j) ∧ w.grownBy wr (some g)) (fun _ i _ => n - (intOf i).toNat)
    case atStart => exact ⟨0, Nat.zero_le _, by go_num, rfl, hv0, ⟨rfl, rfl, rfl, Nat.le_refl _, fun _ _ _ => rfl⟩⟩
    case round =>
      obtain ⟨j, hj, rfl, rfl, hrow, hgr⟩ := hrel
      by_cases hlt : j < n
      · have hm := fun w' => mark_any (k + j) (by omega) (by omega) w'
        go_wp2_with (go_at_call 77; refine (mark_any (k + j) (by omega) (by omega) _).mono ?_; rintro e w1 ⟨rfl, hb1⟩; have hrow1 := hrow.below hb1; have hgr1 := hgr.trans (grown_below hb1); have hfr := hrow1.frozen (by have := HN.out; simp [marks_length]; omega) j; have hcell2 := hrow1.cell (i := j) (by have := HN.out; simp [marks_length]; omega); have HST := Lib.hid (hrow1.set (by have := HN.out; simp [marks_length]; omega) j (markS (k + j))); clear hrow hgr hb1)
        go_roundw
        case rel =>
          refine ⟨j + 1, by omega, by go_num, by go_num, ?_, hgr1.trans HST.out.2⟩
          have h := HST.out.1
          rwa [marks_step hlt HN.out] at h
        case measure => simp [intOf]; omega
      · go_wp2
        go_ret
        have e : j = n := by omega
        subst e
        rw [List.drop_of_length_le (by have := HN.out; omega), List.append_nil] at hrow
        exact ⟨rfl, hrow, hgr⟩
theorem markStrs1 (B : Nat) (v : Value) (l : List ByteArray) (w : World) (hv : Row B w v l) (hn : l.length ≤ 1048576) :
    Calls Tryz.prog 39 #[v, .int .i64 1] w fun e w' => e = .returned (.int .i64 (1 + (l.length : Int))) ∧ Row B w' v (marks 1 l.length) ∧ w.grownBy w' v.ownBlock :=
  markStrs_any B v l 1 w hv hn (by omega) (by omega)
theorem held_step {w w1 w2 : World} {p : Addr} {v : Option Value} (k : Below w1.heap.size w1 w2) (h : w1.cell? p = v ∧ Below w.heap.size w w1) (hp : p.block < w.heap.size) : w2.cell? p = v ∧ Below w.heap.size w w2 :=
  ⟨by rw [k.cell (Nat.lt_of_lt_of_le hp h.2.size)]; exact h.1, below_step h.2 k⟩
set_option maxRecDepth 100000 in
set_option maxHeartbeats 1000000 in
theorem heldStrs_any (v : Value) (k n : Nat) (w : World) (hv : Has w v (marks k n)) (hn : n ≤ 1048576) (hk0 : 0 < k) (hk : k ≤ 1073741824) :
    Calls Tryz.prog 41 #[v, .int .i64 k] w fun e w' => e = .returned (.int .i64 ((k : Int) + (n : Int))) ∧ Below w.heap.size w w' := by
  obtain ⟨A, cap, rfl, hn', hc⟩ := hv
  have hc1 : ∀ i, i < n → ∃ a, A = some a ∧ a.block < w.heap.size ∧ w.cell? (a.add i) = some (.string (markS (k + i))) := fun i hi => by
    obtain ⟨a, h1, h2, h3⟩ := hc i (by rw [marks_length]; exact hi)
    exact ⟨a, h1, h2, by rw [h3, marks_get]⟩
  clear hc
  rw [marks_length] at hn' ⊢
  go_enter Tryz.func41, Tryz.ntmps41
  go_wp2
  go_loopw [1, 5] (fun x i wr => ∃ j : Nat, j ≤ n ∧ x = .int .i64 ((k : Int) + (j : Int)) ∧ i = .int .i64 j ∧ Below w.heap.size w wr) (fun _ i _ => n - (intOf i).toNat)
  case atStart => exact ⟨0, Nat.zero_le _, by go_num, rfl, Below.refl _ _⟩
  case round =>
    obtain ⟨j, hj, rfl, rfl, hbel⟩ := hrel
    by_cases hlt : j < n
    · obtain ⟨a, rfl, hab, hcell0⟩ := hc1 j hlt
      have hcell : wr.cell? (a.add j) = some (.string (markS (k + j))) := by rw [hbel.cell (by rw [add_blk]; exact hab)]; exact hcell0
      have hab1 : (a.add j).block < w.heap.size := by rw [add_blk]; exact hab
      have hkj0 : 0 < k + j := by omega
      have hkj1 : k + j ≤ 4611686018427387904 := by omega
      go_wp2
      go_region_held3 (fun w' => w'.cell? (a.add j) = some (.string (markS (k + j))) ∧ Below w.heap.size w w') (first | exact ⟨hcell, hbel.drew⟩ | exact held_step hbm (by assumption) hab1 | go_keep)
        (first | (go_at_call 77; refine (mark_any (k + j) hkj0 hkj1 _).mono ?_; rintro e w1 ⟨rfl, hbm⟩))
      go_wp2
      go_roundw
      case rel => exact ⟨j + 1, by omega, by go_num, by go_num, (by assumption : _ ∧ Below _ _ _).2⟩
      case measure => simp [intOf]; omega
    · go_wp2
      go_ret
      exact ⟨ret_int (by omega), hbel⟩
theorem heldStrs1 (v : Value) (n : Nat) (w : World) (hv : Has w v (marks 1 n)) (hn : n ≤ 1048576) :
    Calls Tryz.prog 41 #[v, .int .i64 1] w fun e w' => e = .returned (.int .i64 (1 + (n : Int))) ∧ Below w.heap.size w w' :=
  heldStrs_any v 1 n w hv hn (by omega) (by omega)
end Go.Proofs.YtkifdbeklagelaaGreatDoor
