/- CHAPTER 7: the marks of steps without tests. -/
import Derived.Test.YthmjffijhlkgcaaPthJ
import Derived.Test.YthmjffijhlkgcaaPthK
set_option linter.unusedVariables false
set_option linter.unusedSimpArgs false
namespace Go.Proofs.Ythmjffijhlkgcaa
open Go.RowKit NumP

/-- the step that bears the q-th mark; n of them from the k-th on -/
def mS (q : Nat) : StR := ⟨markS q, .slice none 0 0⟩
def marksS (k n : Nat) : List StR := (List.range n).map fun i => mS (k + i)
theorem marksS_length (k n : Nat) : (marksS k n).length = n := by simp [marksS]
theorem marksS_get (k n i : Nat) (h : i < (marksS k n).length) : (marksS k n)[i] = mS (k + i) := by simp [marksS]
theorem marksS_step {l : List StR} {k i n : Nat} (hi : i < n) (hn : n = l.length) : (marksS k i ++ l.drop i).set i (mS (k + i)) = marksS k (i + 1) ++ l.drop (i + 1) := by
  subst hn
  rw [List.set_append_right _ _ (by rw [marksS_length]; exact Nat.le_refl _), marksS_length, Nat.sub_self, List.drop_eq_getElem_cons hi, List.set_cons_zero]
  unfold marksS
  rw [List.range_succ, List.map_append, List.append_assoc]; rfl
theorem marksS_at {l : List Stp} {k j i : Nat} (hi : i < (marksS k j ++ (l.map plR).drop j).length) : (marksS k j ++ (l.map plR).drop j)[i].tv = .slice none 0 0 := by
  rw [List.getElem_append]
  split
  · rw [marksS_get]; rfl
  · rw [List.getElem_drop, List.getElem_map]; rfl
set_option maxRecDepth 100000 in
theorem markTsts_nil (x : Int) (w : World) : Calls Try.prog 33 #[.slice none 0 0, .int .i64 x] w fun e w' => e = .returned (.int .i64 x) ∧ w = w' := by
  go_enter Try.func33, Try.ntmps33
  go_wp2
  go_loopw [1, 5] (fun y i wr => y = .int .i64 x ∧ i = .int .i64 0 ∧ w = wr) (fun _ _ _ => 0)
  case atStart => exact ⟨rfl, rfl, rfl⟩
  case round =>
    obtain ⟨rfl, rfl, rfl⟩ := hrel
    go_wp2
    go_ret
    exact ⟨rfl, rfl⟩
set_option maxRecDepth 100000 in
theorem heldTsts_nil (x : Int) (w : World) : Calls Try.prog 34 #[.slice none 0 0, .int .i64 x] w fun e w' => e = .returned (.int .i64 x) ∧ w = w' := by
  go_enter Try.func34, Try.ntmps34
  go_wp2
  go_loopw [1, 5] (fun y i wr => y = .int .i64 x ∧ i = .int .i64 0 ∧ w = wr) (fun _ _ _ => 0)
  case atStart => exact ⟨rfl, rfl, rfl⟩
  case round =>
    obtain ⟨rfl, rfl, rfl⟩ := hrel
    go_wp2
    go_ret
    exact ⟨rfl, rfl⟩
set_option maxRecDepth 100000 in
set_option maxHeartbeats 1000000 in
theorem markStps0 (B : Nat) (v : Value) (l : List Stp) (w : World) (hv : RowT7 B w v (l.map plR)) (hn : l.length ≤ 1048576) :
    Calls Try.prog 24 #[v, .int .i64 1] w fun e w' => e = .returned (.int .i64 ((1 + l.length : Nat) : Int)) ∧ RowT7 B w' v (marksS 1 l.length) ∧ w.grownBy w' v.ownBlock := by
  rcases RowR.form hv with ⟨rfl, hl⟩ | ⟨g, cap, rfl, hg0, hg⟩
  · obtain rfl : l = [] := by simpa using hl
    go_enter Try.func24, Try.ntmps24
    go_wp2
    go_loopw [1, 5] (fun x i wr => x = .int .i64 1 ∧ i = .int .i64 0 ∧ wr = w) (fun _ _ _ => 0)
    case atStart => exact ⟨rfl, rfl, rfl⟩
    case round =>
      obtain ⟨rfl, rfl, rfl⟩ := hrel
      go_wp2
      go_ret
      exact ⟨ret_int (by simp), hv, ⟨rfl, rfl, rfl, Nat.le_refl _, fun _ _ _ => rfl⟩⟩
  · obtain ⟨n, hnn⟩ : ∃ n, n = l.length := ⟨_, rfl⟩
    have HN : Hid (n = (l.map plR).length) := Lib.hid (by rw [hnn]; simp)
    have hv0 : RowT7 B w (.slice (some ⟨g, 0, none⟩) n cap) (marksS 1 0 ++ (l.map plR).drop 0) := by rw [hnn]; simpa [marksS] using hv
    rw [List.length_map]
    rw [← hnn] at hn ⊢
    clear hv hnn
    go_enter Try.func24, Try.ntmps24
    go_wp2
    go_loopw [1, 5] (fun x i wr => ∃ j q : Nat, j ≤ n ∧ Hid (q = 1 + j) ∧ (0 < q ∧ q ≤ 2147483648) ∧ x = .int .i64 q ∧ i = .int .i64 j ∧ RowT7 B wr (.slice (some ⟨g, 0, none⟩) n cap) (marksS 1 j ++ (l.map plR).drop j) ∧ w.grownBy wr (some g)) (fun _ i _ => n - (intOf i).toNat)
    case atStart => exact ⟨0, 1, Nat.zero_le _, Lib.hid (by omega), by omega, rfl, rfl, hv0, ⟨rfl, rfl, rfl, Nat.le_refl _, fun _ _ _ => rfl⟩⟩
    case round =>
      obtain ⟨j, q, hj, HQ, ⟨hq0, hq⟩, rfl, rfl, hrow, hgr⟩ := hrel
      by_cases hlt : j < n
      · have hL : j < (marksS 1 j ++ (l.map plR).drop j).length := by have := HN.out; rw [List.length_append, marksS_length, List.length_drop]; omega
        have hq2 : q ≤ 4611686018427387904 := by omega
        have htv := marksS_at hL
        go_wp2_with (first
          | (go_at_call 32; refine (mark_any q hq0 hq2 _).mono ?_; rintro e w1 ⟨rfl, hb1⟩; have hrow1 := RowR.below hrow hb1; have HG1 := Lib.hid (hgr.trans (grown_below hb1)); obtain ⟨⟨e0, e1⟩, f0, f1⟩ := stCells hrow1 hL; rw [htv] at e1; have HP := Lib.hid (RowR.set1 StR.enc_len hrow1 hL 0 (by omega) (.string (markS q)) (mS q) (by simp [StR.enc, mS, htv])); clear hrow hgr hb1 hrow1)
          | (go_at_call 33; refine (markTsts_nil _ _).mono ?_; rintro e w2 ⟨rfl, rfl⟩))
        go_roundw
        case rel =>
          refine ⟨j + 1, q + 1, by omega, Lib.hid (by have := HQ.out; omega), by have := HQ.out; omega, by go_num, by go_num, ?_, HG1.out.trans HP.out.2⟩
          have h := HP.out.1
          rw [show mS q = mS (1 + j) by rw [HQ.out], marksS_step hlt HN.out] at h
          exact h
        case measure => simp [intOf]; omega
      · go_wp2
        go_ret
        have e : j = n := by omega
        subst e
        rw [List.drop_of_length_le (by have := HN.out; omega), List.append_nil] at hrow
        exact ⟨ret_int (by rw [HQ.out]), hrow, hgr⟩
set_option maxRecDepth 100000 in
set_option maxHeartbeats 1000000 in
theorem heldStps0 (v : Value) (n : Nat) (w : World) (hv : HasR StR.enc 2 w v (marksS 1 n)) (hn : n ≤ 1048576) :
    Calls Try.prog 25 #[v, .int .i64 1] w fun e w' => e = .returned (.int .i64 ((1 + n : Nat) : Int)) ∧ Below w.heap.size w w' := by
  obtain ⟨A, cap, rfl, hn', hc⟩ := hv
  have hc1 : ∀ i, i < n → ∃ a, A = some a ∧ (a.add (i * 2)).block < w.heap.size ∧ Sk w (a.add (i * 2)) (mS (1 + i)) := fun i hi => by
    obtain ⟨a, h1, h2, h3⟩ := HasSR.sk hc i (by rw [marksS_length]; exact hi)
    exact ⟨a, h1, h2, by rw [← marksS_get 1 n i (by rw [marksS_length]; exact hi)]; exact h3⟩
  clear hc
  rw [marksS_length] at hn' ⊢
  go_enter Try.func25, Try.ntmps25
  go_wp2
  go_loopw [1, 5] (fun x i wr => ∃ j q : Nat, j ≤ n ∧ Hid (q = 1 + j) ∧ (0 < q ∧ q ≤ 2147483648) ∧ x = .int .i64 q ∧ i = .int .i64 j ∧ Below w.heap.size w wr) (fun _ i _ => n - (intOf i).toNat)
  case atStart => exact ⟨0, 1, Nat.zero_le _, Lib.hid (by omega), by omega, rfl, rfl, Below.refl _ _⟩
  case round =>
    obtain ⟨j, q, hj, HQ, ⟨hq0, hq⟩, rfl, rfl, hbel⟩ := hrel
    by_cases hlt : j < n
    · obtain ⟨a, rfl, hab, hcell⟩ := hc1 j hlt
      rw [← HQ.out] at hcell
      have HCL : Hid (∀ W, Below w.heap.size w W → W.cell? (a.add (j * 2)) = some (.string (markS q)) ∧ W.cell? ⟨(a.add (j * 2)).block, (a.add (j * 2)).off + 1, none⟩ = some (.slice none 0 0)) := Lib.hid fun W hb => hcell.below hb hab
      obtain ⟨c0, -⟩ := HCL.out _ hbel
      have hq2 : q ≤ 4611686018427387904 := by omega
      clear hcell hc1
      go_wp2
      go_region_held3 (fun w' => w'.cell? (a.add (j * 2)) = some (.string (markS q)) ∧ Below w.heap.size w w') (first | exact ⟨c0, hbel.drew⟩ | exact held_step hbm (by assumption) hab | go_keep)
        (first | (go_at_call 32; refine (mark_any q hq0 hq2 _).mono ?_; rintro e w1 ⟨rfl, hbm⟩))
      have hB2 := (by assumption : _ ∧ Below w.heap.size w w1).2
      obtain ⟨-, c1⟩ := HCL.out _ hB2
      clear c0 hbel
      have hq3 : decide ((q : Int) + 1 < 0) = false := by simp; omega
      have hq4 : ¬ ((q : Int) + 1 < 0) := by omega
      go_wp2_with (go_at_call 34; refine (heldTsts_nil _ _).mono ?_; rintro e w2 ⟨rfl, rfl⟩)
      go_roundw
      case rel => exact ⟨j + 1, q + 1, by omega, Lib.hid (by have := HQ.out; omega), by have := HQ.out; omega, by go_num, by go_num, hB2⟩
      case measure => simp [intOf]; omega
    · go_wp2
      go_ret
      have e : j = n := by omega
      subst e
      exact ⟨ret_int (by rw [HQ.out]), hbel⟩
set_option maxRecDepth 100000 in
theorem markPth0 (B : Nat) (v : PthV) (l : List Stp) (w : World) (hv : RowT7 B w v.sv (l.map plR)) (hn : l.length ≤ 1048576) :
    Calls Try.prog 22 #[v.val, .int .i64 1] w fun e w' => e = .returned (.int .i64 ((1 + l.length : Nat) : Int)) ∧ RowT7 B w' v.sv (marksS 1 l.length) ∧ TurnsAt (fun b => v.sv.ownBlock = some b) w w' := by
  obtain ⟨r, u, sv⟩ := v
  dsimp only at hv ⊢
  obtain ⟨A, m, c, rfl⟩ : ∃ A n c, sv = .slice A n c := by obtain ⟨A, c, hv', _⟩ := RowR.has StR.enc_len hv; exact ⟨A, _, c, hv'⟩
  have HV := Lib.hid (markStps0 B _ l _ (RowR.alloc hv (.cells #[.bool r, .int .i64 u, .slice A m c] 33)) hn)
  clear hv
  go_enter Try.func22, Try.ntmps22
  go_wp2_with fail
  refine (HV.out).mono ?_
  rintro e w1 ⟨rfl, h1, h2⟩
  have hb := (below_turns (S := fun b => (Value.slice A m c).ownBlock = some b) (below_al (Below.refl w.heap.size w) (.cells #[.bool r, .int .i64 u, .slice A m c] 33))).trans (grown_turns h2 (fun b e => e))
  clear h2
  go_wp2
  go_ret
  exact ⟨rfl, h1, hb⟩
end Go.Proofs.Ythmjffijhlkgcaa
