/- THE MARKS OF THE LAWS: a list of tokens marked and found as marked. -/
import Derived.Test.YthediljoioahpaaDoorMark
import Derived.Test.YthediljoioahpaaDoorToks
namespace Go.Proofs.YthediljoioahpaaDoor
open Go.RowKit NumP

/-- the token that is marked from the q-th mark on; n of them -/
def mT (q : Nat) : Tok := ⟨q, markS (q + 1), (q : Int) + 2⟩
def marksT (k n : Nat) : List Tok := (List.range n).map fun i => mT (k + 3 * i)
theorem marksT_length (k n : Nat) : (marksT k n).length = n := by simp [marksT]
theorem marksT_get (k n i : Nat) (h : i < (marksT k n).length) : (marksT k n)[i] = mT (k + 3 * i) := by simp [marksT]
theorem marksT_step {l : List Tok} {k i n : Nat} (hi : i < n) (hn : n = l.length) : (marksT k i ++ l.drop i).set i (mT (k + 3 * i)) = marksT k (i + 1) ++ l.drop (i + 1) := by
  subst hn
  rw [List.set_append_right _ _ (by rw [marksT_length]; exact Nat.le_refl _), marksT_length, Nat.sub_self, List.drop_eq_getElem_cons hi, List.set_cons_zero]
  unfold marksT
  rw [List.range_succ, List.map_append, List.append_assoc]; rfl
theorem mark_next (q : Nat) (hq : q + 1 ≤ 4611686018427387904) (w : World) :
    Calls Tryd.prog 27 #[.int .i64 ((q : Int) + 1)] w fun e w' => e = .returned (.string (markS (q + 1))) ∧ Below w.heap.size w w' := by
  have h := mark_any (q + 1) (by omega) hq w
  rwa [Int.natCast_add] at h
theorem RowT.put_mk {B g n cap : Nat} {w w1 : World} {L : List Tok} {i : Nat} {k p : Int} {t : ByteArray} (h : RowT B w (.slice (some ⟨g, 0, none⟩) n cap) L) (hi : i < L.length) (hb : Below (w.setCell ⟨g, i * 3, none⟩ (.int .i64 k)).heap.size (w.setCell ⟨g, i * 3, none⟩ (.int .i64 k)) w1) :
    RowT B ((w1.setCell ⟨g, i * 3 + 1, none⟩ (.string t)).setCell ⟨g, i * 3 + 2, none⟩ (.int .i64 p)) (.slice (some ⟨g, 0, none⟩) n cap) (L.set i ⟨k, t, p⟩) ∧
    w.grownBy ((w1.setCell ⟨g, i * 3 + 1, none⟩ (.string t)).setCell ⟨g, i * 3 + 2, none⟩ (.int .i64 p)) (some g) ∧
    (w1.cell? ⟨g, i * 3, none⟩ = some (.int .i64 k) ∧ w1.cell? ⟨g, i * 3 + 1, none⟩ = some (.string L[i].t) ∧ w1.cell? ⟨g, i * 3 + 2, none⟩ = some (.int .i64 L[i].p)) ∧
    w1.frozen? ⟨g, i * 3, none⟩ = false ∧ w1.frozen? ⟨g, i * 3 + 1, none⟩ = false ∧ w1.frozen? ⟨g, i * 3 + 2, none⟩ = false := by
  have h0 := RowT.put0 h hi k
  have h0' := RowR.below h0.1 hb
  have hi' : i < (L.set i { L[i] with k := k }).length := by simpa using hi
  have h1 := RowT.put1 h0' hi' t
  have h2 := RowT.put2 h1.1 (i := i) (by simpa using hi) p
  have hc := RowT.cells h0' hi'
  have hg : (w.setCell ⟨g, i * 3, none⟩ (.int .i64 k)).grownBy w1 (some g) := ⟨hb.os, hb.tape, hb.output, hb.size, fun k hk _ => hb.block k hk⟩
  refine ⟨?_, ((h0.2.trans hg).trans h1.2).trans h2.2, ?_, hc.2⟩
  · have := h2.1
    simpa [List.set_set] using this
  · have := hc.1
    simpa using this

set_option maxHeartbeats 1000000 in
theorem markToks_any (B : Nat) (v : Value) (l : List Tok) (k : Nat) (w : World) (hv : RowT B w v l) (hn : l.length ≤ 1048576) (hk0 : 0 < k) (hk : k ≤ 1073741824) :
    Calls Tryd.prog 12 #[v, .int .i64 k] w fun e w' => e = .returned (.int .i64 ((k + 3 * l.length : Nat) : Int)) ∧ RowT B w' v (marksT k l.length) ∧ w.grownBy w' v.ownBlock := by
  rcases RowR.form hv with ⟨rfl, rfl⟩ | ⟨g, cap, rfl, hg0, hg⟩
  · go_enter Tryd.func12, Tryd.ntmps12
    go_wp2
    go_loopw [1, 5] (fun x i wr => x = .int .i64 k ∧ i = .int .i64 0 ∧ wr = w) (fun _ _ _ => 0)
    case atStart => exact ⟨rfl, rfl, rfl⟩
    case round =>
      obtain ⟨rfl, rfl, rfl⟩ := hrel
      go_wp2
      go_ret
      exact ⟨ret_int (by simp), hv, ⟨rfl, rfl, rfl, Nat.le_refl _, fun _ _ _ => rfl⟩⟩
  · obtain ⟨n, hnn⟩ : ∃ n, n = l.length := ⟨_, rfl⟩
    have HN : Hid (n = l.length) := Lib.hid hnn
    have hv0 : RowT B w (.slice (some ⟨g, 0, none⟩) n cap) (marksT k 0 ++ l.drop 0) := by rw [hnn]; simpa [marksT] using hv
    rw [← hnn] at hn ⊢
    clear hv hnn
    go_enter Tryd.func12, Tryd.ntmps12
    go_wp2
    go_loopw [1, 5] (fun x i wr => ∃ j q : Nat, j ≤ n ∧ Hid (q = k + 3 * j) ∧ q ≤ 2147483648 ∧ x = .int .i64 q ∧ i = .int .i64 j ∧ RowT B wr (.slice (some ⟨g, 0, none⟩) n cap) (marksT k j ++ l.drop j) ∧ w.grownBy wr (some g)) (fun _ i _ => n - (intOf i).toNat)
    case atStart => exact ⟨0, k, Nat.zero_le _, Lib.hid (by omega), by omega, rfl, rfl, hv0, ⟨rfl, rfl, rfl, Nat.le_refl _, fun _ _ _ => rfl⟩⟩
    case round =>
      obtain ⟨j, q, hj, HQ, hq, rfl, rfl, hrow, hgr⟩ := hrel
      by_cases hlt : j < n
      · have hL : j < (marksT k j ++ l.drop j).length := by have := HN.out; simp [marksT_length]; omega
        have hq1 : q + 1 ≤ 4611686018427387904 := by omega
        obtain ⟨⟨e0, e1, e2⟩, f0, f1, f2⟩ := RowT.cells hrow hL
        go_wp2_with (go_at_call 27; refine (mark_next q hq1 _).mono ?_; rintro e w1 ⟨rfl, hb1⟩; have hp := RowT.put_mk (t := markS (q + 1)) (p := (q : Int) + 2) hrow hL hb1; obtain ⟨hp1, hp2, ⟨c0, c1, c2⟩, d0, d1, d2⟩ := hp; have HP := Lib.hid hp1; have HG := Lib.hid hp2; clear hrow hb1 hp1 hp2)
        go_roundw
        case rel =>
          refine ⟨j + 1, q + 3, by omega, Lib.hid (by have := HQ.out; omega), by have := HQ.out; omega, by go_num, by go_num, ?_, hgr.trans HG.out⟩
          have h := HP.out
          have e : (⟨(q : Int), markS (q + 1), (q : Int) + 2⟩ : Tok) = mT (k + 3 * j) := by rw [← HQ.out]; rfl
          rw [e, marksT_step hlt HN.out] at h
          exact h
        case measure => simp [intOf]; omega
      · go_wp2
        go_ret
        have e : j = n := by omega
        subst e
        rw [List.drop_of_length_le (by have := HN.out; omega), List.append_nil] at hrow
        exact ⟨ret_int (by rw [HQ.out]), hrow, hgr⟩
theorem markToks1 (B : Nat) (v : Value) (l : List Tok) (w : World) (hv : RowT B w v l) (hn : l.length ≤ 1048576) :
    Calls Tryd.prog 12 #[v, .int .i64 1] w fun e w' => e = .returned (.int .i64 ((1 + 3 * l.length : Nat) : Int)) ∧ RowT B w' v (marksT 1 l.length) ∧ w.grownBy w' v.ownBlock :=
  markToks_any B v l 1 w hv hn (by omega) (by omega)
set_option maxHeartbeats 1000000 in
theorem heldToks_any (v : Value) (k n : Nat) (w : World) (hv : HasT w v (marksT k n)) (hn : n ≤ 1048576) (hk0 : 0 < k) (hk : k ≤ 1073741824) :
    Calls Tryd.prog 13 #[v, .int .i64 k] w fun e w' => e = .returned (.int .i64 ((k + 3 * n : Nat) : Int)) ∧ Below w.heap.size w w' := by
  obtain ⟨A, cap, rfl, hn', hc⟩ := hv
  have hc1 : ∀ i, i < n → ∃ a, A = some a ∧ (a.add (i * 3)).block < w.heap.size ∧ Tk w (a.add (i * 3)) (mT (k + 3 * i)) := fun i hi => by
    obtain ⟨a, h1, h2, h3⟩ := HasT.tk hc i (by rw [marksT_length]; exact hi)
    exact ⟨a, h1, h2, by rw [← marksT_get k n i (by rw [marksT_length]; exact hi)]; exact h3⟩
  clear hc
  rw [marksT_length] at hn' ⊢
  go_enter Tryd.func13, Tryd.ntmps13
  go_wp2
  go_loopw [1, 5] (fun x i wr => ∃ j q : Nat, j ≤ n ∧ Hid (q = k + 3 * j) ∧ q ≤ 2147483648 ∧ x = .int .i64 q ∧ i = .int .i64 j ∧ Below w.heap.size w wr) (fun _ i _ => n - (intOf i).toNat)
  case atStart => exact ⟨0, k, Nat.zero_le _, Lib.hid (by omega), by omega, rfl, rfl, Below.refl _ _⟩
  case round =>
    obtain ⟨j, q, hj, HQ, hq, rfl, rfl, hbel⟩ := hrel
    by_cases hlt : j < n
    · obtain ⟨a, rfl, hab, hcell⟩ := hc1 j hlt
      rw [← HQ.out] at hcell
      obtain ⟨c0, c1, c2⟩ := hcell.below hbel hab
      have hq1 : q + 1 ≤ 4611686018427387904 := by omega
      have hab' : (a.add (j * 3)).block < wr.heap.size := Nat.lt_of_lt_of_le hab hbel.size
      clear hcell
      simp only [mT] at c0 c1 c2
      go_wp2
      go_region_held3 (fun w' => w'.cell? ⟨(a.add (j * 3)).block, (a.add (j * 3)).off + 1, none⟩ = some (.string (markS (q + 1))) ∧ Below wr.heap.size wr w') (first | exact ⟨c1, (Below.refl _ _).drew⟩ | exact held_step hbm (by assumption) hab' | go_keep)
        (first | (go_at_call 27; refine (mark_next q hq1 _).mono ?_; rintro e w1 ⟨rfl, hbm⟩))
      have hS := (by assumption : _ ∧ Below wr.heap.size wr _)
      have hB2 := below_step hbel hS.2
      have c2' := (hS.2.cell (p := ⟨(a.add (j * 3)).block, (a.add (j * 3)).off + 2, none⟩) hab').trans c2
      clear hS
      go_wp2
      go_roundw
      case rel => exact ⟨j + 1, q + 3, by omega, Lib.hid (by have := HQ.out; omega), by have := HQ.out; omega, by go_num, by go_num, hB2⟩
      case measure => simp [intOf]; omega
    · go_wp2
      go_ret
      have e : j = n := by omega
      subst e
      exact ⟨ret_int (by rw [HQ.out]), hbel⟩
theorem heldToks1 (v : Value) (n : Nat) (w : World) (hv : HasT w v (marksT 1 n)) (hn : n ≤ 1048576) :
    Calls Tryd.prog 13 #[v, .int .i64 1] w fun e w' => e = .returned (.int .i64 ((1 + 3 * n : Nat) : Int)) ∧ Below w.heap.size w w' :=
  heldToks_any v 1 n w hv hn (by omega) (by omega)
end Go.Proofs.YthediljoioahpaaDoor
