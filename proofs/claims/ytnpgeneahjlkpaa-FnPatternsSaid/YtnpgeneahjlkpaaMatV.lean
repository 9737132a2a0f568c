/- CHAPTER 5, spec: l5Ends of star (made by tools/genmat.py). -/
import Derived.Test.YtnpgeneahjlkpaaMatU
set_option linter.unusedVariables false
set_option linter.unusedSimpArgs false
namespace Go.Proofs.Ytnpgeneahjlkpaa
open Go.RowKit

set_option maxRecDepth 100000 in
set_option maxHeartbeats 4000000 in
theorem ends_of_star (s : ByteArray) (d : Nat) (t : Pat) (h2 : t.x.op = 4) : EndsC s d t := by
  intro Ak m ck v A w hK hm hA hl hs ht hmm
  obtain ⟨i0, hi0, hz0, hz1, hz2⟩ := info_parts infoBool
  rw [h2]
  obtain ⟨n1, hn1⟩ : ∃ n1, n1 = s.size + 1 := ⟨_, rfl⟩
  have hnz : (s.size : Int) + 1 = (n1 : Int) := by omega
  have hn9 : n1 ≤ 1048577 := by omega
  have hs9 : s.size ≤ 9223372036854775807 := by omega
  have HN1 := Lib.hid hn1
  rw [← hn1] at hl
  obtain ⟨Av, cv, rfl⟩ := hA.form
  rw [hl] at hA ⊢
  have HAl := Lib.hid hl
  have HA := Lib.hid hA
  have HK := Lib.hid hK
  have HM := Lib.hid hm
  have hn0 : 0 < n1 := by omega
  have hb2 : i0.bytes * n1 ≤ 281474976710656 := by rw [hz2]; omega
  have hb3 : n1 ≤ maxLen := by unfold maxLen; omega
  clear hz2 hK hm hA hl hn1
  have HSZ : Hid (∀ o : Obj, (w.alloc o).heap.size = w.heap.size + 1) := Lib.hid (fun o => by simp)
  go_enter Try.func56, Try.ntmps56
  go_wp2_with (first
    | (at_make; refine wpList_make_full _ rfl _ _ 94 rfl (w.heap.size + 1) 4 i0 (.bool false) 1 Try.underlying94 hi0 hz0 hz1 _ _ _ _ n1 rfl rfl (by first | rfl | exact hnz) (by first | rfl | exact hnz) hb2 hb3 (by simp) ?_; intro w1 hown1 hg1; have hbel1 : Below w.heap.size w w1 := (below_al (Below.refl _ _) _).grown hg1 (by simp) (by simp); have hq1 : w1.heap[w.heap.size]? = some (.cells #[.int .i64 4, .string t.x.text, .slice Ak m ck] 56 (0, 0)) := (hg1.block _ (by simp) (by simp)).trans (heap_alloc_new w _); have HQ1 := Lib.hid hq1; have HZ1 : Hid (w.heap.size + 1 ≤ w1.heap.size) := Lib.hid (by have := hg1.size; simpa using this); have c0 : w1.cell? ⟨w.heap.size, 0, none⟩ = some (.int .i64 4) := (by rw [cell_of_row _ w.heap.size 0 _ _ _ hq1]; rfl); have c1 : w1.cell? ⟨w.heap.size, 1, none⟩ = some (.string t.x.text) := (by rw [cell_of_row _ w.heap.size 1 _ _ _ hq1]; rfl); have c2 : w1.cell? ⟨w.heap.size, 2, none⟩ = some (.slice Ak m ck) := (by rw [cell_of_row _ w.heap.size 2 _ _ _ hq1]; rfl); have hrow1 : RowB (w.heap.size + 1) w1 (.slice (some ⟨w.heap.size + 1, 0, none⟩) n1 n1) (List.replicate n1 false) := (by have h := rowB_made hown1; rw [HSZ.out] at h; exact h); clear hq1 hown1 hg1)
    | ((with_reducible show wpList _ _ _ ((⟨_, .call { callee := .builtin .copy, args := _, argTypes := _ }, _, _, _, _⟩ : Oper) :: _) _ _); go_loud (refine wpList_copy_bools rfl _ _ rfl (w.heap.size + 1) (w.heap.size + 1) n1 n1 (List.replicate n1 false) A rfl hrow1 _ rfl (HasR.below HA.out hbel1) HAl.out hn0 ?_); intro w2 hrow2 hg2 z2; have hbel2 : Below w.heap.size w w2 := hbel1.grown hg2 hbel1.size (fun q hq => by cases hq; omega); have hq2 : w2.heap[w.heap.size]? = some (.cells #[.int .i64 4, .string t.x.text, .slice Ak m ck] 56 (0, 0)) := (hg2.block _ (by have := HZ1.out; omega) (by simp)).trans HQ1.out; have HQ2 := Lib.hid hq2; have c0 : w2.cell? ⟨w.heap.size, 0, none⟩ = some (.int .i64 4) := (by rw [cell_of_row _ w.heap.size 0 _ _ _ hq2]; rfl); have c2 : w2.cell? ⟨w.heap.size, 2, none⟩ = some (.slice Ak m ck) := (by rw [cell_of_row _ w.heap.size 2 _ _ _ hq2]; rfl); have HROW := Lib.hid hrow2; clear hq2 hrow2 hg2 hrow1 hbel1))
  by_cases hm1 : m = 1
  · obtain ⟨k0, hk0⟩ : ∃ k0, t.kids = [k0] := List.length_eq_one_iff.1 (by rw [← HM.out]; exact hm1)
    have hK0 := HK.out 0 (by rw [hk0]; simp)
    obtain ⟨a, x, rfl, hab, hx, hcall⟩ := hK0
    have hkk : t.kids[0]'(by rw [hk0]; simp) = k0 := by simp [hk0]
    rw [hkk] at hcall
    have HX := Lib.hid hx
    have HCALL := Lib.hid hcall
    have HK0 := Lib.hid hk0
    have hmz : ((m : Int) == 1) = true := by rw [hm1]; rfl
    have hmp : (0 : Int) < (m : Int) := by omega
    clear hx hcall hkk hk0 hm1
    go_simp
    go_loopg [7] (n1 + 1) (fun G o wr => ∃ (O : List Bool), n1 + 1 - cntB O ≤ G ∧ O.length = n1 ∧ Hid (RowB (w.heap.size + 1) wr o O) ∧ Hid (Sofar (kidM s d k0) A O) ∧ Hid (4 = 5 → O = A) ∧ Hid (wr.heap[w.heap.size]? = some (.cells #[.int .i64 4, .string t.x.text, .slice (some a) m ck] 56 (0, 0))) ∧ Below w.heap.size w wr)
    case atStart => exact ⟨A, by omega, HAl.out, HROW, Lib.hid (sofar_start _ A), Lib.hid (fun _ => rfl), HQ2, hbel2⟩
    case round =>
      clear HROW hbel2 HQ2 c0 c2
      obtain ⟨O, hG, hO, HR, HS, H5, HQ, hbel⟩ := hrel
      have c0 : wr.cell? ⟨w.heap.size, 0, none⟩ = some (.int .i64 4) := by rw [cell_of_row _ w.heap.size 0 _ _ _ HQ.out]; rfl
      have c2 : wr.cell? ⟨w.heap.size, 2, none⟩ = some (.slice (some a) m ck) := by rw [cell_of_row _ w.heap.size 2 _ _ _ HQ.out]; rfl
      obtain ⟨Ao, co, rfl⟩ := HasB.form (RowR.has bE_len HR.out)
      have HO := Lib.hid hO
      rw [hO] at HR ⊢
      have hz : a.add (0 * 3) = a := by unfold Addr.add; rfl
      have hx' := HX.out
      rw [hz] at hab hx'
      obtain ⟨d0, d1, d2⟩ := hx'.below hbel hab
      have HC := Lib.hid (HCALL.out (.slice Ao n1 co) O wr hbel (RowR.has bE_len HR.out) (by rw [hO]; exact HN1.out))
      have HB := Lib.hid hbel
      clear hx' hO hbel
      go_wp2_with (first
        | (go_at_call 56; (refine (HC.out).mono ?_); rintro e w4 ⟨o2, O2, rfl, HR2, hl2, HE2, HB2⟩; have HL2 := Lib.hid (hl2.trans HN1.out.symm); have HRo := Lib.hid (RowR.below HR.out HB2.out); clear hl2)
        | (go_at_call 92; (refine (sboth_any (.slice Ao n1 co) o2 O O2 w4 (RowR.has bE_len HRo.out) (RowR.has bE_len HR2.out) (by rw [HO.out, HL2.out]) (by rw [HO.out]; omega)).mono ?_); rintro e w5 ⟨o3, rfl, HR3, HB3⟩; have HRp := Lib.hid (RowR.below HRo.out HB3.out)))
      obtain ⟨Au, cu, rfl⟩ := HasB.form (RowR.has bE_len HR3.out)
      have HU : Hid ((orL O O2).length = n1) := Lib.hid (by rw [orL_len (by rw [HO.out, HL2.out])]; exact HO.out)
      rw [HU.out] at HR3 ⊢
      have hBw := Lib.hid (below_step HB.out (below_step HB2.out HB3.out))
      have HQ5 : Hid (w5.heap[w.heap.size]? = some (.cells #[.int .i64 4, .string t.x.text, .slice (some a) m ck] 56 (0, 0))) := Lib.hid (((below_step HB2.out HB3.out).block _ (Array.getElem?_eq_some_iff.1 HQ.out).1).trans HQ.out)
      have HUO : Hid (∀ i, On (orL O O2) i ↔ On O i ∨ On O2 i) := Lib.hid fun i => on_or (by rw [HO.out, HL2.out]) i
      have hz4 : Hid (w.heap.size + 1 ≤ w4.heap.size) := Lib.hid (by have := HB2.out.size; have := (Array.getElem?_eq_some_iff.1 HQ.out).1; omega)
      obtain ⟨U, hU⟩ : ∃ U, U = orL O O2 := ⟨_, rfl⟩
      rw [← hU] at HR3 HU HUO
      clear hU c0 c2 d0 d1 d2 HRo HR HC
      go_loopw [13, 14] (fun v13 v14 wq => ∃ (k : Nat) (q : Bool), v13 = .bool q ∧ v14 = .int .i64 k ∧ k ≤ n1 ∧ Hid (Tru q ↔ ∃ i, i < k ∧ U[i]? ≠ O[i]?) ∧ Below w5.heap.size w5 wq) (fun _ v14 _ => n1 - (intOf v14).toNat)
      case atStart => exact ⟨0, false, rfl, rfl, Nat.zero_le _, Lib.hid ⟨fun h => absurd (show false = true from h) (by simp), fun ⟨i, h, _⟩ => absurd h (by omega)⟩, Below.refl _ _⟩
      case round =>
        obtain ⟨k, q, rfl, rfl, hk, HIFF, hbq⟩ := hrel
        by_cases hlt : k < n1
        · have hkz : (k : Int) < (n1 : Int) := by omega
          have hkU : k < U.length := by rw [HU.out]; exact hlt
          have hkO : k < O.length := by rw [HO.out]; exact hlt
          obtain ⟨au, cu2, eu, hub, huc⟩ := HasB.cell (HasR.below (RowR.has bE_len HR3.out) hbq) hkU
          obtain ⟨ao, co2, eo, hob, hoc⟩ := HasB.cell (HasR.below (RowR.has bE_len HRp.out) hbq) hkO
          rw [HU.out] at eu
          rw [HO.out] at eo
          cases eu
          cases eo
          have HGU : Hid (U[k]? = some U[k]) := Lib.hid (List.getElem?_eq_getElem hkU)
          have HGO : Hid (O[k]? = some O[k]) := Lib.hid (List.getElem?_eq_getElem hkO)
          generalize U[k] = ux at huc HGU
          generalize O[k] = ox at hoc HGO
          clear hkU hkO
          cases q
          · cases ux
            all_goals
              cases ox
              all_goals
                go_wp2_with fail
                go_quiet (fail)
                have hbq2 : Below w5.heap.size w5 (wr.drewN nq) := below_drewN hbq _
                go_wp2
                go_roundw
                case rel =>
                  exact ⟨k + 1, _, rfl, by go_num, by omega, Lib.hid (iff_step HIFF.out HGU.out HGO.out), hbq2⟩
                case measure => simp [intOf]; omega
          · go_wp2_with fail
            go_quiet (fail)
            have hbq2 : Below w5.heap.size w5 (wr.drewN nq) := below_drewN hbq _
            go_wp2
            go_roundw
            case rel =>
              refine ⟨k + 1, true, rfl, by go_num, by omega, Lib.hid ?_, hbq2⟩
              obtain ⟨i, hi, hne⟩ := HIFF.out.1 rfl
              exact ⟨fun _ => ⟨i, by omega, hne⟩, fun _ => rfl⟩
            case measure => simp [intOf]; omega
        · have hkz : ¬ (k : Int) < (n1 : Int) := by omega
          have hkn : k = n1 := by omega
          have HEND : Hid (q = false → U = O) := Lib.hid (by
            intro hq
            apply List.ext_getElem?
            intro i
            by_cases hi : i < n1
            · by_cases e : U[i]? = O[i]?
              · exact e
              · exact absurd (show q = true from HIFF.out.2 ⟨i, by omega, e⟩) (by rw [hq]; simp)
            · rw [List.getElem?_eq_none (by rw [HU.out]; omega), List.getElem?_eq_none (by rw [HO.out]; omega)])
          have HMORE : Hid (q = true → U ≠ O) := Lib.hid (by
            intro hq e
            obtain ⟨i, _, hne⟩ := HIFF.out.1 hq
            exact hne (by rw [e]))
          have cq : wr.cell? ⟨w.heap.size, 0, none⟩ = some (.int .i64 4) := by rw [cell_of_row _ w.heap.size 0 _ _ _ ((hbq.block _ (Array.getElem?_eq_some_iff.1 HQ5.out).1).trans HQ5.out)]; rfl
          have HQq : Hid (wr.heap[w.heap.size]? = some (.cells #[.int .i64 4, .string t.x.text, .slice (some a) m ck] 56 (0, 0))) := Lib.hid ((hbq.block _ (Array.getElem?_eq_some_iff.1 HQ5.out).1).trans HQ5.out)
          have HRq := Lib.hid (RowR.mono (RowR.below HR3.out hbq) hz4.out)
          have HBq := Lib.hid (below_step hBw.out hbq)
          clear hkn hbq HIFF
          cases q
          · have HUE := Lib.hid (HEND.out rfl)
            go_wp2
            go_ret
            exact ⟨_, U, rfl, Lib.hid (RowR.mono HRq.out (by omega)), by rw [HU.out]; exact HN1.out, Lib.hid (by
              have h := Sofar.done HS.out HE2.out HUO.out HUE.out HO.out HL2.out HAl.out (by rw [HN1.out]; exact kid_bd s d k0)
              rw [HUE.out]
              exact EndsOf.congr h (fun i j => by unfold StepM; rw [HK0.out]; simp [h2])), HBq⟩
          · have hne := HMORE.out rfl
            have HGR : Hid (cntB O < cntB U) := Lib.hid (cnt_grows (by rw [HO.out, HU.out]) (fun i h => (HUO.out i).2 (.inl h)) (fun e => hne e.symm))
            have HCN : Hid (cntB U ≤ n1) := Lib.hid (by have := cntB_le U; rw [HU.out] at this; exact this)
            clear hne
            go_wp2
            go_roundg (n1 + 1 - cntB U)
            case measure => have h1 := HGR.out; have h2 := HCN.out; omega
            case rel => exact ⟨U, Nat.le_refl _, HU.out, HRq, Lib.hid (Sofar.more HS.out HE2.out HUO.out), Lib.hid (fun h => absurd h (by decide)), HQq, HBq.out⟩
  · have hmz : ((m : Int) == 1) = false := by rw [beq_eq_false_iff_ne]; omega
    have HST : Hid (∀ i j, StepM s (kidM s d) t i j ↔ i = j) := Lib.hid fun i j => step_idle (.inl h2) (by rw [← HM.out]; exact hm1) i j
    go_simp
    go_loopg [7] 0 (fun G o wr => o = .slice (some ⟨w.heap.size + 1, 0, none⟩) n1 n1 ∧ wr = w2)
    case atStart => exact ⟨rfl, rfl⟩
    case round =>
      obtain ⟨rfl, rfl⟩ := hrel
      go_wp2
      go_ret
      exact ⟨_, A, rfl, Lib.hid (RowR.mono HROW.out (by omega)), by rw [HAl.out]; exact HN1.out, Lib.hid (EndsOf.congr (ends_self A) (fun i j => (HST.out i j).symm)), Lib.hid hbel2⟩
end Go.Proofs.Ytnpgeneahjlkpaa
