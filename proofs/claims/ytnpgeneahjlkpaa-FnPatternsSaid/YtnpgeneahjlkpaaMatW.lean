/- CHAPTER 5, spec: l5Ends of chars (made by tools/genmat.py). -/
import Derived.Test.YtnpgeneahjlkpaaMatU
set_option linter.unusedVariables false
set_option linter.unusedSimpArgs false
namespace Go.Proofs.Ytnpgeneahjlkpaa
open Go.RowKit

set_option maxRecDepth 100000 in
set_option maxHeartbeats 4000000 in
theorem ends_chars (s : ByteArray) (d : Nat) (t : Pat) (h2 : t.x.op = 1) : EndsC s d t := by
  intro Ak m ck v A w hK hm hA hl hs ht hmm
  obtain ⟨i0, hi0, hz0, hz1, hz2⟩ := info_parts infoBool
  rw [h2]
  obtain ⟨n1, hn1⟩ : ∃ n1, n1 = s.size + 1 := ⟨_, rfl⟩
  have hnz : (s.size : Int) + 1 = (n1 : Int) := by omega
  have hn9 : n1 ≤ 1048577 := by omega
  have hs9 : s.size ≤ 9223372036854775807 := by omega
  have HN1 := Lib.hid hn1
  rw [← hn1] at hl
  obtain ⟨Av, cv, rfl⟩ := hA.form
  rw [hl] at hA ⊢
  have HAl := Lib.hid hl
  have HA := Lib.hid hA
  have HK := Lib.hid hK
  have HM := Lib.hid hm
  have hn0 : 0 < n1 := by omega
  have hb2 : i0.bytes * n1 ≤ 281474976710656 := by rw [hz2]; omega
  have hb3 : n1 ≤ maxLen := by unfold maxLen; omega
  clear hz2 hK hm hA hl hn1
  have HSZ : Hid (∀ o : Obj, (w.alloc o).heap.size = w.heap.size + 1) := Lib.hid (fun o => by simp)
  go_enter Try.func56, Try.ntmps56
  go_wp2_with (first
    | (at_make; refine wpList_make_full _ rfl _ _ 94 rfl (w.heap.size + 1) 4 i0 (.bool false) 1 Try.underlying94 hi0 hz0 hz1 _ _ _ _ n1 rfl rfl (by first | rfl | exact hnz) (by first | rfl | exact hnz) hb2 hb3 (by simp) ?_; intro w1 hown1 hg1; have hbel1 : Below w.heap.size w w1 := (below_al (Below.refl _ _) _).grown hg1 (by simp) (by simp); have hq1 : w1.heap[w.heap.size]? = some (.cells #[.int .i64 1, .string t.x.text, .slice Ak m ck] 56 (0, 0)) := (hg1.block _ (by simp) (by simp)).trans (heap_alloc_new w _); have HQ1 := Lib.hid hq1; have HZ1 : Hid (w.heap.size + 1 ≤ w1.heap.size) := Lib.hid (by have := hg1.size; simpa using this); have c0 : w1.cell? ⟨w.heap.size, 0, none⟩ = some (.int .i64 1) := (by rw [cell_of_row _ w.heap.size 0 _ _ _ hq1]; rfl); have c1 : w1.cell? ⟨w.heap.size, 1, none⟩ = some (.string t.x.text) := (by rw [cell_of_row _ w.heap.size 1 _ _ _ hq1]; rfl); have c2 : w1.cell? ⟨w.heap.size, 2, none⟩ = some (.slice Ak m ck) := (by rw [cell_of_row _ w.heap.size 2 _ _ _ hq1]; rfl); have hrow1 : RowB (w.heap.size + 1) w1 (.slice (some ⟨w.heap.size + 1, 0, none⟩) n1 n1) (List.replicate n1 false) := (by have h := rowB_made hown1; rw [HSZ.out] at h; exact h); clear hq1 hown1 hg1))
  go_loopw [8] (fun i wr => ∃ (k : Nat) (O : List Bool), k ≤ s.size ∧ i = .int .i64 k ∧ O.length = n1 ∧ Hid (RowB (w.heap.size + 1) wr (.slice (some ⟨w.heap.size + 1, 0, none⟩) n1 n1) O) ∧ Hid (∀ j, On O j ↔ ∃ i, i < k ∧ j = i + 1 ∧ On A i ∧ ChAt s t.x.text i) ∧ Hid (wr.heap[w.heap.size]? = some (.cells #[.int .i64 1, .string t.x.text, .slice Ak m ck] 56 (0, 0))) ∧ Below w.heap.size w wr) (fun i _ => s.size - (intOf i).toNat)
  case atStart => exact ⟨0, _, Nat.zero_le _, rfl, List.length_replicate, Lib.hid hrow1, Lib.hid (fun j => ⟨fun h => absurd h (on_rep _ _), fun ⟨i, h, _⟩ => absurd h (by omega)⟩), HQ1, hbel1⟩
  case round =>
    clear hrow1 hbel1 HQ1 c0 c1 c2
    obtain ⟨k, O, hk, rfl, hO, HR, HE, HQ, hbel⟩ := hrel
    by_cases hlt : k < s.size
    · have hkz : (k : Int) < (s.size : Int) := by omega
      have hkA : k < A.length := by rw [HAl.out]; omega
      obtain ⟨aA, cA, eA, hAb, hAc⟩ := HasB.cell HA.out hkA
      rw [HAl.out] at eA
      cases eA
      have HGA : Hid (On A k ↔ A[k] = true) := Lib.hid (on_get hkA)
      generalize A[k] = ax at hAc HGA
      have HC0 : Hid (∀ h : k < s.size, True) := Lib.hid fun _ => trivial
      obtain ⟨k1, hk1⟩ : ∃ k1, k1 = k + 1 := ⟨_, rfl⟩
      have e1 : ((k : Int) + 1).toNat = k1 := by omega
      have e2 : (0 : Int) ≤ (k : Int) + 1 := by omega
      have e3 : (k : Int) + 1 < (n1 : Int) := by omega
      have e4 : IntKind.i64.wrap ((k : Int) + 1) = (k : Int) + 1 := by rw [IntKind.wrap_i64]; omega
      have hk1n : k1 < n1 := by omega
      have HK1 := Lib.hid hk1
      clear hkA hk1
      go_wp2
      go_loopw [9] (fun v9 wq => ∃ (q : Nat) (U : List Bool), v9 = .int .i64 q ∧ q ≤ t.x.text.size ∧ U.length = n1 ∧ Hid (RowB (w.heap.size + 1) wq (.slice (some ⟨w.heap.size + 1, 0, none⟩) n1 n1) U) ∧ Hid (∀ j, On U j ↔ On O j ∨ (j = k1 ∧ Tru ax ∧ ∃ r, ∃ h : r < t.x.text.size, r < q ∧ t.x.text[r] = s[k])) ∧ Hid (ax = false → q = 0) ∧ Hid (wq.heap[w.heap.size]? = some (.cells #[.int .i64 1, .string t.x.text, .slice Ak m ck] 56 (0, 0))) ∧ Below w.heap.size w wq) (fun v9 _ => t.x.text.size - (intOf v9).toNat)
      case atStart => exact ⟨0, O, rfl, Nat.zero_le _, hO, HR, Lib.hid (fun j => ⟨fun h => .inl h, fun h => h.elim id (fun ⟨_, _, r, _, h, _⟩ => absurd h (by omega))⟩), Lib.hid (fun _ => rfl), HQ, hbel⟩
      case round =>
        clear HR HQ hbel
        obtain ⟨q, U, rfl, hq, hU, HR, HEU, H0, HQ, hbel⟩ := hrel
        have c1 : wr.cell? ⟨w.heap.size, 1, none⟩ = some (.string t.x.text) := by rw [cell_of_row _ w.heap.size 1 _ _ _ HQ.out]; rfl
        have cA : wr.cell? (aA.add k) = some (.bool ax) := by rw [hbel.cell (by rw [addr_blk]; exact hAb)]; exact hAc
        have HNXT : Hid (q = t.x.text.size ∨ ax = false → ∀ j, On U j ↔ ∃ i, i < k + 1 ∧ j = i + 1 ∧ On A i ∧ ChAt s t.x.text i) := Lib.hid (fun hfin j => by
          rw [HEU.out j, HE.out j]
          exact ch_fin HGA.out HK1.out hlt hfin)
        by_cases hqt : q < t.x.text.size
        · have hqz : (q : Int) < (t.x.text.size : Int) := by omega
          have hqd : decide (q < t.x.text.size) = true := by simp; omega
          cases ax with
          | true =>
            have hkU : k1 < U.length := by rw [hU]; exact hk1n
            have hfz := RowR.frozen HR.out k1
            have HPUT := Lib.hid (fun u => RowB.put HR.out hkU u)
            have HSE : Hid (∀ b j, On (U.set k1 b) j ↔ (j = k1 ∧ b = true) ∨ (j ≠ k1 ∧ On U j)) := Lib.hid fun b j => on_set hkU b
            have hcell := RowB.at HR.out hkU
            have HUG : Hid (On U k1 ↔ U[k1] = true) := Lib.hid (on_get hkU)
            generalize U[k1] = vb at hcell HUG
            clear hkU
            cases vb with
            | true =>
              go_wp2_with fail
              go_region
              have hbel2 := below_set (j := k1) (u := .bool true) hbel (show w.heap.size ≤ w.heap.size + 1 by omega)
              have HQ2 : Hid ((wr.setCell ⟨w.heap.size + 1, k1, none⟩ (.bool true)).heap[w.heap.size]? = some (.cells #[.int .i64 1, .string t.x.text, .slice Ak m ck] 56 (0, 0))) := Lib.hid ((Below.heap_setCell wr ⟨w.heap.size + 1, k1, none⟩ _ w.heap.size (by simp)).trans HQ.out)
              have HR2 := Lib.hid (HPUT.out true).1
              go_wp2
              go_roundw
              case rel =>
                refine ⟨q + 1, U.set k1 true, by go_num, by omega, by rw [List.length_set]; exact hU, Lib.hid HR2.out, Lib.hid ?_, Lib.hid (fun h => by cases h), Lib.hid HQ2.out, by first | exact hbel2 | exact below_drewN hbel2 1⟩
                intro j
                rw [HSE.out true j, HEU.out j]
                exact ch_on (HUG.out.2 (by simp)) (HEU.out k1)
              case measure => simp [intOf]; omega
            | false =>
              by_cases heq : t.x.text[q] = s[k]
              · have hbq : ((t.x.text[q].toNat : Int) == (s[k].toNat : Int)) = true := by rw [heq]; simp
                have HEQ := Lib.hid heq
                clear heq
                go_wp2_with fail
                go_region
                have hbel2 := below_set (j := k1) (u := .bool true) hbel (show w.heap.size ≤ w.heap.size + 1 by omega)
                have HQ2 : Hid ((wr.setCell ⟨w.heap.size + 1, k1, none⟩ (.bool true)).heap[w.heap.size]? = some (.cells #[.int .i64 1, .string t.x.text, .slice Ak m ck] 56 (0, 0))) := Lib.hid ((Below.heap_setCell wr ⟨w.heap.size + 1, k1, none⟩ _ w.heap.size (by simp)).trans HQ.out)
                have HR2 := Lib.hid (HPUT.out true).1
                go_wp2
                go_roundw
                case rel =>
                  refine ⟨q + 1, U.set k1 true, by go_num, by omega, by rw [List.length_set]; exact hU, Lib.hid HR2.out, Lib.hid ?_, Lib.hid (fun h => by cases h), Lib.hid HQ2.out, by first | exact hbel2 | exact below_drewN hbel2 1⟩
                  intro j
                  rw [HSE.out true j, HEU.out j]
                  exact ch_hit hqt HEQ.out
                case measure => simp [intOf]; omega
              · have hbq : ((t.x.text[q].toNat : Int) == (s[k].toNat : Int)) = false := byte_ne heq
                have HEQ := Lib.hid heq
                clear heq
                go_wp2_with fail
                go_region
                have hbel2 := below_set (j := k1) (u := .bool false) hbel (show w.heap.size ≤ w.heap.size + 1 by omega)
                have HQ2 : Hid ((wr.setCell ⟨w.heap.size + 1, k1, none⟩ (.bool false)).heap[w.heap.size]? = some (.cells #[.int .i64 1, .string t.x.text, .slice Ak m ck] 56 (0, 0))) := Lib.hid ((Below.heap_setCell wr ⟨w.heap.size + 1, k1, none⟩ _ w.heap.size (by simp)).trans HQ.out)
                have HR2 := Lib.hid (HPUT.out false).1
                go_wp2
                go_roundw
                case rel =>
                  refine ⟨q + 1, U.set k1 false, by go_num, by omega, by rw [List.length_set]; exact hU, Lib.hid HR2.out, Lib.hid ?_, Lib.hid (fun h => by cases h), Lib.hid HQ2.out, by first | exact hbel2 | exact below_drewN hbel2 1⟩
                  intro j
                  rw [HSE.out false j, HEU.out j]
                  exact ch_miss hqt HEQ.out (fun h => absurd (HUG.out.1 h) (by simp)) (HEU.out k1)
                case measure => simp [intOf]; omega
          | false =>
            have HNX := Lib.hid (HNXT.out (.inr rfl))
            go_wp2
            go_roundw
            case rel => exact ⟨k + 1, U, by omega, by go_num, hU, HR, Lib.hid (HNX.out), HQ, hbel⟩
            case measure => simp [intOf]; omega
        · have hqz : ¬ (q : Int) < (t.x.text.size : Int) := by omega
          have hqd : decide (q < t.x.text.size) = false := by simp; omega
          have HNX := Lib.hid (HNXT.out (.inl (by omega)))
          go_wp2
          go_roundw
          case rel => exact ⟨k + 1, U, by omega, by go_num, hU, HR, Lib.hid (HNX.out), HQ, hbel⟩
          case measure => simp [intOf]; omega
    · have hkz : ¬ (k : Int) < (s.size : Int) := by omega
      go_wp2
      go_ret
      exact ⟨_, O, rfl, Lib.hid (RowR.mono HR.out (by omega)), by rw [hO]; exact HN1.out, Lib.hid (by
        intro j hj
        rw [HE.out j]
        constructor
        · rintro ⟨i, h1, h3, h4, h5⟩; exact ⟨i, h4, by unfold StepM; rw [h2, if_pos rfl]; exact ⟨h5, h3⟩⟩
        · rintro ⟨i, h4, h5⟩
          unfold StepM at h5
          rw [h2, if_pos rfl] at h5
          exact ⟨i, by obtain ⟨h6, _⟩ := h5.1; omega, h5.2, h4, h5.1⟩), Lib.hid hbel⟩
end Go.Proofs.Ytnpgeneahjlkpaa
