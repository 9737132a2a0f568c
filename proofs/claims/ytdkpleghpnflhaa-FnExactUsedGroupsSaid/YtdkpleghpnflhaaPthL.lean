/- MERGED for a claim: PthK PthL. -/
import Derived.Test.YtdkpleghpnflhaaPthE
import Derived.Test.YtdkpleghpnflhaaMark
import Derived.Deep.RegionHeld3
set_option linter.unusedVariables false
set_option linter.unusedSimpArgs false
/- CHAPTER 7: the marks of tests. -/
namespace Go.Proofs.Ytdkpleghpnflhaa
open Go.RowKit NumP

/-- the test that is marked from the q-th mark on; n of them -/
def mX (q : Nat) : Tst := ⟨markS q, markS (q + 1)⟩
def marksX (k n : Nat) : List Tst := (List.range n).map fun i => mX (k + 2 * i)
theorem marksX_length (k n : Nat) : (marksX k n).length = n := by simp [marksX]
theorem marksX_get (k n i : Nat) (h : i < (marksX k n).length) : (marksX k n)[i] = mX (k + 2 * i) := by simp [marksX]
theorem marksX_step {l : List Tst} {k i n : Nat} (hi : i < n) (hn : n = l.length) : (marksX k i ++ l.drop i).set i (mX (k + 2 * i)) = marksX k (i + 1) ++ l.drop (i + 1) := by
  subst hn
  rw [List.set_append_right _ _ (by rw [marksX_length]; exact Nat.le_refl _), marksX_length, Nat.sub_self, List.drop_eq_getElem_cons hi, List.set_cons_zero]
  unfold marksX
  rw [List.range_succ, List.map_append, List.append_assoc]; rfl
theorem mark_nextX (q : Nat) (hq : q + 1 ≤ 4611686018427387904) (w : World) :
    Calls Try.prog 30 #[.int .i64 ((q : Int) + 1)] w fun e w' => e = .returned (.string (markS (q + 1))) ∧ Below w.heap.size w w' := by
  have h := mark_any (q + 1) (by omega) hq w
  rwa [Int.natCast_add] at h
theorem RowX.put_mk {B g n cap : Nat} {w w1 : World} {L : List Tst} {i : Nat} {x y : ByteArray} (h : RowX B w (.slice (some ⟨g, 0, none⟩) n cap) L) (hi : i < L.length) (hb : Below (w.setCell ⟨g, i * 2, none⟩ (.string x)).heap.size (w.setCell ⟨g, i * 2, none⟩ (.string x)) w1) :
    RowX B (w1.setCell ⟨g, i * 2 + 1, none⟩ (.string y)) (.slice (some ⟨g, 0, none⟩) n cap) (L.set i ⟨x, y⟩) ∧
    w.grownBy (w1.setCell ⟨g, i * 2 + 1, none⟩ (.string y)) (some g) ∧
    w1.cell? ⟨g, i * 2 + 1, none⟩ = some (.string L[i].v) ∧ w1.frozen? ⟨g, i * 2 + 1, none⟩ = false := by
  have h0 := RowR.set1 Tst.enc_len h hi 0 (by omega) (.string x) ⟨x, L[i].v⟩ rfl
  have h0' := RowR.below h0.1 hb
  have hi' : i < (L.set i ⟨x, L[i].v⟩).length := by simpa using hi
  have h1 := RowR.set1 Tst.enc_len h0' hi' 1 (by omega) (.string y) ⟨x, y⟩ (by simp [Tst.enc])
  have hc := tstCells h0' hi'
  have hg : (w.setCell ⟨g, i * 2, none⟩ (.string x)).grownBy w1 (some g) := ⟨hb.os, hb.tape, hb.output, hb.size, fun k hk _ => hb.block k hk⟩
  refine ⟨?_, (h0.2.trans hg).trans h1.2, ?_, hc.2.2⟩
  · have := h1.1
    simpa [List.set_set] using this
  · have := hc.1.2
    simpa using this
set_option maxRecDepth 100000 in
set_option maxHeartbeats 1000000 in
theorem markTsts_any (B : Nat) (v : Value) (l : List Tst) (k : Nat) (w : World) (hv : RowX B w v l) (hn : l.length ≤ 1048576) (hk0 : 0 < k) (hk : k ≤ 4000000000000000000) :
    Calls Try.prog 58 #[v, .int .i64 k] w fun e w' => e = .returned (.int .i64 ((k + 2 * l.length : Nat) : Int)) ∧ RowX B w' v (marksX k l.length) ∧ w.grownBy w' v.ownBlock := by
  rcases RowR.form hv with ⟨rfl, rfl⟩ | ⟨g, cap, rfl, hg0, hg⟩
  · go_enter Try.func58, Try.ntmps58
    go_wp2
    go_loopw [1, 5] (fun x i wr => x = .int .i64 k ∧ i = .int .i64 0 ∧ wr = w) (fun _ _ _ => 0)
    case atStart => exact ⟨rfl, rfl, rfl⟩
    case round =>
      obtain ⟨rfl, rfl, rfl⟩ := hrel
      go_wp2
      go_ret
      exact ⟨ret_int (by simp), hv, ⟨rfl, rfl, rfl, Nat.le_refl _, fun _ _ _ => rfl⟩⟩
  · obtain ⟨n, hnn⟩ : ∃ n, n = l.length := ⟨_, rfl⟩
    have HN : Hid (n = l.length) := Lib.hid hnn
    have hv0 : RowX B w (.slice (some ⟨g, 0, none⟩) n cap) (marksX k 0 ++ l.drop 0) := by rw [hnn]; simpa [marksX] using hv
    rw [← hnn] at hn ⊢
    clear hv hnn
    go_enter Try.func58, Try.ntmps58
    go_wp2
    go_loopw [1, 5] (fun x i wr => ∃ j q : Nat, j ≤ n ∧ Hid (q = k + 2 * j) ∧ (0 < q ∧ q ≤ 4000000000008796093) ∧ x = .int .i64 q ∧ i = .int .i64 j ∧ RowX B wr (.slice (some ⟨g, 0, none⟩) n cap) (marksX k j ++ l.drop j) ∧ w.grownBy wr (some g)) (fun _ i _ => n - (intOf i).toNat)
    case atStart => exact ⟨0, k, Nat.zero_le _, Lib.hid (by omega), by omega, rfl, rfl, hv0, ⟨rfl, rfl, rfl, Nat.le_refl _, fun _ _ _ => rfl⟩⟩
    case round =>
      obtain ⟨j, q, hj, HQ, ⟨hq0, hq⟩, rfl, rfl, hrow, hgr⟩ := hrel
      by_cases hlt : j < n
      · have hL : j < (marksX k j ++ l.drop j).length := by have := HN.out; simp [marksX_length]; omega
        have hq1 : q + 1 ≤ 4611686018427387904 := by omega
        have hq2 : q ≤ 4611686018427387904 := by omega
        go_wp2_with (first
          | (go_at_call 30; ((with_reducible refine (mark_any q hq0 hq2 _).mono ?_)); rintro e w1 ⟨rfl, hb1⟩; have hrow1 := RowR.below hrow hb1; have HG1 := Lib.hid (hgr.trans (grown_below hb1)); obtain ⟨⟨e0, e1⟩, f0, f1⟩ := tstCells hrow1 hL; clear hrow hgr hb1)
          | (go_at_call 30; ((with_reducible refine (mark_nextX q hq1 _).mono ?_)); rintro e w2 ⟨rfl, hb2⟩; obtain ⟨hp1, hp2, c1, d1⟩ := RowX.put_mk (y := markS (q + 1)) hrow1 hL hb2; have HP := Lib.hid hp1; have HG := Lib.hid (HG1.out.trans hp2); clear hrow1 hb2 hp1 hp2))
        go_roundw
        case rel =>
          refine ⟨j + 1, q + 2, by omega, Lib.hid (by have := HQ.out; omega), by have := HQ.out; omega, by go_num, by go_num, ?_, HG.out⟩
          have h := HP.out
          have e : (⟨markS q, markS (q + 1)⟩ : Tst) = mX (k + 2 * j) := by rw [← HQ.out]; rfl
          rw [e, marksX_step hlt HN.out] at h
          exact h
        case measure => simp [intOf]; omega
      · go_wp2
        go_ret
        have e : j = n := by omega
        subst e
        rw [List.drop_of_length_le (by have := HN.out; omega), List.append_nil] at hrow
        exact ⟨ret_int (by rw [HQ.out]), hrow, hgr⟩
end Go.Proofs.Ytdkpleghpnflhaa

/- CHAPTER 7: the marks of steps without tests. -/
namespace Go.Proofs.Ytdkpleghpnflhaa
open Go.RowKit NumP

/-- the step that bears the q-th mark; n of them from the k-th on -/
def mS (q : Nat) : StR := ⟨markS q, .slice none 0 0⟩
def marksS (k n : Nat) : List StR := (List.range n).map fun i => mS (k + i)
theorem marksS_length (k n : Nat) : (marksS k n).length = n := by simp [marksS]
theorem marksS_get (k n i : Nat) (h : i < (marksS k n).length) : (marksS k n)[i] = mS (k + i) := by simp [marksS]
theorem marksS_step {l : List StR} {k i n : Nat} (hi : i < n) (hn : n = l.length) : (marksS k i ++ l.drop i).set i (mS (k + i)) = marksS k (i + 1) ++ l.drop (i + 1) := by
  subst hn
  rw [List.set_append_right _ _ (by rw [marksS_length]; exact Nat.le_refl _), marksS_length, Nat.sub_self, List.drop_eq_getElem_cons hi, List.set_cons_zero]
  unfold marksS
  rw [List.range_succ, List.map_append, List.append_assoc]; rfl
theorem marksS_at {l : List Stp} {k j i : Nat} (hi : i < (marksS k j ++ (l.map plR).drop j).length) : (marksS k j ++ (l.map plR).drop j)[i].tv = .slice none 0 0 := by
  rw [List.getElem_append]
  split
  · rw [marksS_get]; rfl
  · rw [List.getElem_drop, List.getElem_map]; rfl
set_option maxRecDepth 100000 in
theorem markTsts_nil (x : Int) (w : World) : Calls Try.prog 58 #[.slice none 0 0, .int .i64 x] w fun e w' => e = .returned (.int .i64 x) ∧ w = w' := by
  go_enter Try.func58, Try.ntmps58
  go_wp2
  go_loopw [1, 5] (fun y i wr => y = .int .i64 x ∧ i = .int .i64 0 ∧ w = wr) (fun _ _ _ => 0)
  case atStart => exact ⟨rfl, rfl, rfl⟩
  case round =>
    obtain ⟨rfl, rfl, rfl⟩ := hrel
    go_wp2
    go_ret
    exact ⟨rfl, rfl⟩
set_option maxRecDepth 100000 in
set_option maxHeartbeats 1000000 in
theorem markStps0 (B : Nat) (v : Value) (l : List Stp) (w : World) (hv : RowT7 B w v (l.map plR)) (hn : l.length ≤ 1048576) :
    Calls Try.prog 50 #[v, .int .i64 1] w fun e w' => e = .returned (.int .i64 ((1 + l.length : Nat) : Int)) ∧ RowT7 B w' v (marksS 1 l.length) ∧ w.grownBy w' v.ownBlock := by
  rcases RowR.form hv with ⟨rfl, hl⟩ | ⟨g, cap, rfl, hg0, hg⟩
  · obtain rfl : l = [] := by simpa using hl
    go_enter Try.func50, Try.ntmps50
    go_wp2
    go_loopw [1, 5] (fun x i wr => x = .int .i64 1 ∧ i = .int .i64 0 ∧ wr = w) (fun _ _ _ => 0)
    case atStart => exact ⟨rfl, rfl, rfl⟩
    case round =>
      obtain ⟨rfl, rfl, rfl⟩ := hrel
      go_wp2
      go_ret
      exact ⟨ret_int (by simp), hv, ⟨rfl, rfl, rfl, Nat.le_refl _, fun _ _ _ => rfl⟩⟩
  · obtain ⟨n, hnn⟩ : ∃ n, n = l.length := ⟨_, rfl⟩
    have HN : Hid (n = (l.map plR).length) := Lib.hid (by rw [hnn]; simp)
    have hv0 : RowT7 B w (.slice (some ⟨g, 0, none⟩) n cap) (marksS 1 0 ++ (l.map plR).drop 0) := by rw [hnn]; simpa [marksS] using hv
    rw [List.length_map]
    rw [← hnn] at hn ⊢
    clear hv hnn
    go_enter Try.func50, Try.ntmps50
    go_wp2
    go_loopw [1, 5] (fun x i wr => ∃ j q : Nat, j ≤ n ∧ Hid (q = 1 + j) ∧ (0 < q ∧ q ≤ 2147483648) ∧ x = .int .i64 q ∧ i = .int .i64 j ∧ RowT7 B wr (.slice (some ⟨g, 0, none⟩) n cap) (marksS 1 j ++ (l.map plR).drop j) ∧ w.grownBy wr (some g)) (fun _ i _ => n - (intOf i).toNat)
    case atStart => exact ⟨0, 1, Nat.zero_le _, Lib.hid (by omega), by omega, rfl, rfl, hv0, ⟨rfl, rfl, rfl, Nat.le_refl _, fun _ _ _ => rfl⟩⟩
    case round =>
      obtain ⟨j, q, hj, HQ, ⟨hq0, hq⟩, rfl, rfl, hrow, hgr⟩ := hrel
      by_cases hlt : j < n
      · have hL : j < (marksS 1 j ++ (l.map plR).drop j).length := by have := HN.out; rw [List.length_append, marksS_length, List.length_drop]; omega
        have hq2 : q ≤ 4611686018427387904 := by omega
        have htv := marksS_at hL
        go_wp2_with (first
          | (go_at_call 30; refine (mark_any q hq0 hq2 _).mono ?_; rintro e w1 ⟨rfl, hb1⟩; have hrow1 := RowR.below hrow hb1; have HG1 := Lib.hid (hgr.trans (grown_below hb1)); obtain ⟨⟨e0, e1⟩, f0, f1⟩ := stCells hrow1 hL; rw [htv] at e1; have HP := Lib.hid (RowR.set1 StR.enc_len hrow1 hL 0 (by omega) (.string (markS q)) (mS q) (by simp [StR.enc, mS, htv])); clear hrow hgr hb1 hrow1)
          | (go_at_call 58; refine (markTsts_nil _ _).mono ?_; rintro e w2 ⟨rfl, rfl⟩))
        go_roundw
        case rel =>
          refine ⟨j + 1, q + 1, by omega, Lib.hid (by have := HQ.out; omega), by have := HQ.out; omega, by go_num, by go_num, ?_, HG1.out.trans HP.out.2⟩
          have h := HP.out.1
          rw [show mS q = mS (1 + j) by rw [HQ.out], marksS_step hlt HN.out] at h
          exact h
        case measure => simp [intOf]; omega
      · go_wp2
        go_ret
        have e : j = n := by omega
        subst e
        rw [List.drop_of_length_le (by have := HN.out; omega), List.append_nil] at hrow
        exact ⟨ret_int (by rw [HQ.out]), hrow, hgr⟩
end Go.Proofs.Ytdkpleghpnflhaa
