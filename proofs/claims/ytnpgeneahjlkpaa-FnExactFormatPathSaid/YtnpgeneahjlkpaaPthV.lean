/- CHAPTER 7: FormatPath of both. -/
import Derived.Test.YtnpgeneahjlkpaaPthU
set_option linter.unusedVariables false
set_option linter.unusedSimpArgs false
namespace Go.Proofs.Ytnpgeneahjlkpaa
open Go.RowKit
set_option maxRecDepth 100000

noncomputable def fmtA (p : Pth) : ByteArray := if dB (PthOk p) = true then fmtP p else ⟨#[]⟩
theorem app_nil (s : ByteArray) : s ++ ⟨#[]⟩ = s := by apply ByteArray.ext; simp
theorem nil_app (s : ByteArray) : (⟨#[]⟩ : ByteArray) ++ s = s := by apply ByteArray.ext; simp
theorem joinW_le {xs : List ByteArray} (h : ∀ x ∈ xs, x.size ≤ 16777216) (hn : xs.length ≤ 18) : (joinW xs).size ≤ 301990000 := joinW_size h hn
theorem parts_take {c k : Nat} {l : List Stp} (hz : ∀ s ∈ l, StpSz s ∧ s.ts.length ≤ 3) (hc : c ≤ 8) (hl : l.length ≤ 10) : (joinW (partsL c (l.take k))).size ≤ 301990000 :=
  joinW_le (parts_size fun s hs => hz s (List.mem_of_mem_take hs)) (by rw [partsL_len, List.length_take]; omega)
theorem join_first {pre t : ByteArray} {xs : List ByteArray} (h : t = pre ++ joinW xs) (hx : xs = []) (y : ByteArray) : t ++ y = pre ++ joinW (xs ++ [y]) := by
  subst hx
  rw [h, joinW_one, joinW_nil, app_nil]
theorem join_more {pre t : ByteArray} {xs : List ByteArray} (h : t = pre ++ joinW xs) (hx : xs ≠ []) (y : ByteArray) : t ++ ⟨#[47]⟩ ++ y = pre ++ joinW (xs ++ [y]) := by
  rw [h, joinW_snoc hx, ByteArray.append_assoc, ByteArray.append_assoc, ByteArray.append_assoc]
set_option maxHeartbeats 4000000 in
theorem iFmt_any (v : PthV) (p : Pth) (w : World) (h : HasP7 w v p) (hsc : HasSC w v.sv p.st) (hz : PthSz p) :
    Calls Try.prog 22 #[v.val] w fun e w' => e = .returned (.string (fmtA p)) ∧ Below w.heap.size w w' := by
  have HV := Lib.hid (fun W (hb : Below w.heap.size w W) => iPth_any v p W (h.below hb) (hsc.below hb) hz)
  have HP := Lib.hid (fun (hok : PthOk p) W (hb : Below w.heap.size w W) => parts_any v p W (h.below hb) hok hz)
  have HJS := Lib.hid (fun (hok : PthOk p) => parts_size (c := p.ups.toNat) (pthOk_st hok hz))
  have HJN := Lib.hid (fun (hok : PthOk p) => (show (partsL p.ups.toNat p.st).length ≤ 18 by rw [partsL_len]; have := hok.1; have := hok.2.1; omega))
  obtain ⟨A, n, c, hsl⟩ : ∃ A n c, v.sv = .slice A n c := by obtain ⟨A, c, hv, _⟩ := h.st.at; exact ⟨A, _, c, hv⟩
  obtain ⟨Z, hZ⟩ : ∃ Z, Z = fmtA p := ⟨_, rfl⟩
  have hr : v.root = p.root := h.root
  obtain ⟨b, hb⟩ : ∃ b, b = dB (PthOk p) := ⟨_, rfl⟩
  rw [← hb] at HV
  rw [← hZ]
  have HF : Hid (b = false → Z = ⟨#[]⟩) := Lib.hid fun h => by rw [hZ]; unfold fmtA; rw [← hb, h]; rfl
  have HT : Hid (b = true → PthOk p ∧ Z = (if v.root = true then ⟨#[47]⟩ else ⟨#[]⟩) ++ joinW (partsL p.ups.toNat p.st)) := Lib.hid fun h => ⟨dB_true (hb.symm.trans h), by rw [hZ]; unfold fmtA; rw [← hb, if_pos h]; unfold fmtP; rw [hr]⟩
  obtain ⟨ro, up, sv⟩ := v
  dsimp only at hsl
  subst hsl
  have HB0 := Lib.hid (below_al (Below.refl w.heap.size w) (.cells #[.bool ro, .int .i64 up, .slice A n c] 32))
  have HX0 : Hid (∀ W, Below (w.alloc (.cells #[.bool ro, .int .i64 up, .slice A n c] 32)).heap.size (w.alloc (.cells #[.bool ro, .int .i64 up, .slice A n c] 32)) W → W.heap[w.heap.size]? = some (.cells #[.bool ro, .int .i64 up, .slice A n c] 32 (0, 0))) := Lib.hid fun W hb => (hb.block _ (by simp)).trans (heap_alloc_new w _)
  clear h hsc hz hr hZ hb
  cases b
  · obtain rfl := HF.out rfl
    clear HF HT
    go_enter Try.func22, Try.ntmps22
    go_wp2_with fail
    refine (HV.out _ HB0.out).mono ?_
    rintro e w1 ⟨rfl, hb1⟩
    have HB1 := Lib.hid (below_step HB0.out hb1)
    clear hb1
    go_wp2
    go_ret
    exact ⟨rfl, HB1.out⟩
  · obtain ⟨hok, rfl⟩ := HT.out rfl
    have HP := Lib.hid (HP.out hok)
    have HJS := Lib.hid (HJS.out hok)
    have HJN := Lib.hid (HJN.out hok)
    have HLN : Hid (p.ups.toNat + p.st.length = (partsL p.ups.toNat p.st).length) := Lib.hid (partsL_len _ _).symm
    generalize p.ups.toNat + p.st.length = m at HP HLN
    generalize partsL p.ups.toNat p.st = xs at *
    have hjl := joinW_le HJS.out HJN.out
    clear HF HT hok
    go_enter Try.func22, Try.ntmps22
    go_wp2_with fail
    refine (HV.out _ HB0.out).mono ?_
    rintro e w1 ⟨rfl, hb1⟩
    have HB1 := Lib.hid (below_step HB0.out hb1)
    have HBX := Lib.hid (HX0.out w1 hb1)
    have HW1 := Lib.hid hb1
    obtain ⟨b0, b1, b2⟩ := three_cells' HBX.out
    clear hb1
    go_wp2_with fail
    refine (HP.out _ HB1.out).mono ?_
    rintro e w2 ⟨g, c', rfl, hrow, hb2⟩
    have HB2 := Lib.hid (below_step HB1.out hb2)
    have HBX2 := Lib.hid ((hb2.block _ (Array.getElem?_eq_some_iff.1 HBX.out).1).trans HBX.out)
    have hJ := Try.strings_Join g 0 c' xs ⟨#[47]⟩ w2 (fun j x hx => by
      obtain ⟨hj, rfl⟩ := List.getElem?_eq_some_iff.1 hx
      rw [Nat.zero_add]; exact hrow.cell hj) (hrow.lt rfl).2 (by have := HJN.out; omega) (by have := hrow.cap; have := HLN.out; omega) (by have := joinW_size HJS.out HJN.out; exact Nat.le_trans this (by omega))
    rw [← HLN.out] at hJ
    have HJ : Hid (Calls Try.prog 52 #[.slice (some ⟨g, 0, none⟩) m c', .string ⟨#[47]⟩] w2 fun e w' => e = .returned (.string (joinW xs)) ∧ Below w2.heap.size w2 w') := Lib.hid hJ
    clear hrow hb2 b0 b1 b2 hJ
    go_wp2_with fail
    refine HJ.out.mono ?_
    rintro e w3 ⟨rfl, hb3⟩
    have HB3 := Lib.hid (below_step HB2.out hb3)
    obtain ⟨b0, b1, b2⟩ := three_cells' ((hb3.block _ (Array.getElem?_eq_some_iff.1 HBX2.out).1).trans HBX2.out)
    clear hb3
    cases ro
    · go_wp2
      go_ret
      exact ⟨by rw [nil_app]; rfl, HB3.out⟩
    · go_wp2
      go_ret
      exact ⟨rfl, HB3.out⟩
set_option maxHeartbeats 4000000 in
theorem sFmt_any (v : PthV) (p : Pth) (w : World) (h : HasP7 w v p) (hz : PthSz p) :
    Calls Try.prog 20 #[v.val] w fun e w' => e = .returned (.string (fmtA p)) ∧ Below w.heap.size w w' := by
  have HV := Lib.hid (fun W (hb : Below w.heap.size w W) => sIsPth_any v p W (h.below hb) hz)
  obtain ⟨b, hb⟩ : ∃ b, b = dB (PthOk p) := ⟨_, rfl⟩
  obtain ⟨Z, hZ⟩ : ∃ Z, Z = fmtA p := ⟨_, rfl⟩
  rw [← hb] at HV
  rw [← hZ]
  have HF : Hid (b = false → Z = ⟨#[]⟩) := Lib.hid fun h => by rw [hZ]; unfold fmtA; rw [← hb, h]; rfl
  have HT : Hid (b = true → PthOk p ∧ Z = fmtP p) := Lib.hid fun h => ⟨dB_true (hb.symm.trans h), by rw [hZ]; unfold fmtA; rw [← hb, if_pos h]⟩
  obtain ⟨r, u, l⟩ := p
  obtain ⟨r', u', sv⟩ := v
  obtain ⟨rfl, rfl, hs⟩ := h
  dsimp only at hs HT HV ⊢
  obtain ⟨A, cap, rfl, hn', hc⟩ := hs.at
  obtain ⟨n, hnn⟩ : ∃ n, n = l.length := ⟨_, rfl⟩
  have HN : Hid (n = l.length) := Lib.hid hnn
  rw [← hnn] at hn' HV ⊢
  have HB0 := Lib.hid (below_al (Below.refl w.heap.size w) (.cells #[.bool r', .int .i64 u', .slice A n cap] 32))
  have HX0 : Hid (∀ W, Below (w.alloc (.cells #[.bool r', .int .i64 u', .slice A n cap] 32)).heap.size (w.alloc (.cells #[.bool r', .int .i64 u', .slice A n cap] 32)) W → W.heap[w.heap.size]? = some (.cells #[.bool r', .int .i64 u', .slice A n cap] 32 (0, 0))) := Lib.hid fun W hb => (hb.block _ (by simp)).trans (heap_alloc_new w _)
  have HZS := Lib.hid hz
  clear hs hZ hb hz hnn
  cases b
  · obtain rfl := HF.out rfl
    clear HF HT hc
    go_enter Try.func20, Try.ntmps20
    go_wp2_with fail
    refine (HV.out _ HB0.out).mono ?_
    rintro e w1 ⟨rfl, hb1⟩
    have HB1 := Lib.hid (below_step HB0.out hb1)
    clear hb1
    go_wp2
    go_ret
    exact ⟨rfl, HB1.out⟩
  · obtain ⟨hok, hZ⟩ := HT.out rfl
    have HST := Lib.hid (pthOk_st hok HZS.out)
    have hu := hok.1
    have hl10 := hok.2.1
    dsimp only at hu hl10 HST
    obtain ⟨c, hcu⟩ : ∃ c : Nat, (c : Int) = u' := ⟨u'.toNat, by omega⟩
    have hc8 : c ≤ 8 := by omega
    have HCU := Lib.hid hcu
    unfold fmtP at hZ
    dsimp only at hZ
    rw [show u'.toNat = c by omega] at hZ
    obtain ⟨pre, hpre⟩ : ∃ pre : ByteArray, pre = (if r' = true then ⟨#[47]⟩ else ⟨#[]⟩) := ⟨_, rfl⟩
    rw [← hpre] at hZ
    have hps : pre.size ≤ 1 := by
      rw [hpre]
      split
      · exact Nat.le_refl _
      · exact Nat.zero_le _
    have HZ := Lib.hid hZ
    have HPRE := Lib.hid hpre
    have hn10 : n ≤ 10 := by have := HN.out; omega
    have hc0 : (0 : Int) ≤ u' := by omega
    have hci : u' ≤ 8 := by omega
    have HSZ1 : Hid (∀ k, k ≤ 8 → (joinW (List.replicate k dots)).size ≤ 301990000) := Lib.hid fun k hk => joinW_le (fun x hx => by rw [(List.mem_replicate.1 hx).2]; show (2 : Nat) ≤ _; omega) (by simp; omega)
    have HSZ2 : Hid (∀ k, (joinW (partsL c (l.take k))).size ≤ 301990000) := Lib.hid fun k => parts_take HST.out hc8 (by omega)
    clear HF HT hok hZ hpre hu hl10 hcu
    go_enter Try.func20, Try.ntmps20
    go_wp2_with fail
    refine (HV.out _ HB0.out).mono ?_
    rintro e w1 ⟨rfl, hb1⟩
    have HB1 := Lib.hid (below_step HB0.out hb1)
    have HBX := Lib.hid (HX0.out w1 hb1)
    obtain ⟨b0, b1, b2⟩ := three_cells' HBX.out
    clear hb1 HX0 HB0 HV
    have HNIL : Hid (∀ k, partsL c (l.take k) = [] ↔ c = 0 ∧ (l.take k).length = 0) := Lib.hid fun k => by rw [← List.length_eq_zero_iff, partsL_len]; omega
    have HSTART : Hid ((if r' = true then (⟨#[47]⟩ : ByteArray) else ⟨#[]⟩) = pre ++ joinW (List.replicate 0 dots)) := Lib.hid (by rw [← HPRE.out]; exact (app_nil pre).symm)
    cases r'
    all_goals
      go_wp2
      go_loopw [3, 4] (fun v i wr => ∃ (k : Nat) (t : ByteArray), k ≤ c ∧ i = .int .i64 k ∧ v = .string t ∧ Hid (t = pre ++ joinW (List.replicate k dots)) ∧ wr = w1) (fun _ i _ => c - (intOf i).toNat)
      case atStart => exact ⟨0, _, Nat.zero_le _, rfl, rfl, Lib.hid HSTART.out, rfl⟩
      case round =>
        obtain ⟨k, t, hk, rfl, rfl, HT, hwr⟩ := hrel
        subst hwr
        have hts : t.size ≤ 301990001 := by rw [HT.out, ByteArray.size_append]; have := HSZ1.out k (by omega); omega
        by_cases hlt : (k : Int) < u'
        · by_cases hk0 : k = 0
          · subst hk0
            have HNX : Hid (t ++ ⟨#[46, 46]⟩ = pre ++ joinW (List.replicate (0 + 1) dots)) := Lib.hid (join_first HT.out rfl dots)
            go_wp2
            go_roundw
            case rel => exact ⟨0 + 1, _, by have := HCU.out; omega, by go_num, rfl, HNX, (by first | rfl | trivial)⟩
            case measure => simp [intOf]; have := HCU.out; omega
          · have HNX : Hid (t ++ ⟨#[47]⟩ ++ ⟨#[46, 46]⟩ = pre ++ joinW (List.replicate (k + 1) dots)) := Lib.hid (by rw [List.replicate_succ']; exact join_more HT.out (fun e => hk0 (by have := congrArg List.length e; simpa using this)) dots)
            have hkp : (0 : Int) < (k : Int) := by omega
            clear hk0
            go_wp2
            go_roundw
            case rel => exact ⟨k + 1, _, by have := HCU.out; omega, by go_num, rfl, HNX, (by first | rfl | trivial)⟩
            case measure => simp [intOf]; have := HCU.out; omega
        · obtain rfl : k = c := by have := HCU.out; omega
          have HT2 : Hid (t = pre ++ joinW (partsL k (l.take 0))) := Lib.hid (by rw [HT.out]; unfold partsL; rw [List.take_zero, List.map_nil, List.append_nil])
          clear HSTART
          go_wp2
          go_loopw [3, 5] (fun v i wr => ∃ (j : Nat) (t : ByteArray), j ≤ n ∧ i = .int .i64 j ∧ v = .string t ∧ Hid (t = pre ++ joinW (partsL k (l.take j))) ∧ Hid (wr.heap[w.heap.size]? = some (.cells #[.bool _, .int .i64 u', .slice A n cap] 32 (0, 0))) ∧ Below w.heap.size w wr) (fun _ i _ => n - (intOf i).toNat)
          case atStart => exact ⟨0, t, Nat.zero_le _, rfl, rfl, HT2, HBX, HB1.out⟩
          case round =>
            clear HT2 b0 b1 b2
            obtain ⟨j, t, hj, rfl, rfl, HT2, HXB, hbel⟩ := hrel
            obtain ⟨b0, b1, b2⟩ := three_cells' HXB.out
            have hts2 : t.size ≤ 301990001 := by rw [HT2.out, ByteArray.size_append]; have := HSZ2.out j; omega
            by_cases hlt2 : j < n
            · have hl1 : j < l.length := by rw [← HN.out]; exact hlt2
              obtain ⟨a, q, rfl, hab, hx, hqn, hqt⟩ := hc j hl1
              have hxb := hx.below hbel hab
              obtain ⟨qA, qc, qe, -⟩ := id hqt
              by_cases hjp : 0 < j
              · have hjz : (0 : Int) < (j : Int) := by omega
                obtain ⟨c0, c1⟩ := hxb
                have HNX : Hid ((t ++ ⟨#[47]⟩) ++ stpT l[j] = pre ++ joinW (partsL k (l.take (j + 1)))) := Lib.hid (by rw [partsL_next hl1]; exact join_more HT2.out (fun e => by have := congrArg List.length e; rw [partsL_len, List.length_take, List.length_nil] at this; omega) _)
                have hys := stpT_size (HST.out _ (List.getElem_mem hl1)).1 (HST.out _ (List.getElem_mem hl1)).2
                have HC := Lib.hid (fun W (hb : Below w.heap.size w W) => sStpT_any q l[j] W hqn (HasR.below hqt hb) (HST.out _ (List.getElem_mem hl1)).1 (HST.out _ (List.getElem_mem hl1)).2)
                generalize l[j].ts.length = qm at qe
                generalize stpT l[j] = y at HC HNX hys
                obtain ⟨qn, qtv⟩ := q
                dsimp only at qe c0 c1 HC
                subst qe
                clear hx hqn hqt hc
                go_wp2_with fail
                refine (HC.out _ hbel).mono ?_
                rintro e w2 ⟨rfl, hb2⟩
                have HB4 := Lib.hid (below_step hbel hb2)
                have HX4 := Lib.hid ((hb2.block _ (Array.getElem?_eq_some_iff.1 HXB.out).1).trans HXB.out)
                clear hb2
                go_wp2
                go_roundw
                case rel => exact ⟨j + 1, _, by omega, by go_num, rfl, HNX, HX4, HB4.out⟩
                case measure => simp [intOf]; omega
              · obtain rfl : j = 0 := by omega
                rw [show a.add (0 * 2) = a by simp [Addr.add]] at hxb
                obtain ⟨c0, c1⟩ := hxb
                by_cases hcp : 0 < u'
                · have hkp : 0 < k := by have := HCU.out; omega
                  have HNX : Hid ((t ++ ⟨#[47]⟩) ++ stpT l[0] = pre ++ joinW (partsL k (l.take (0 + 1)))) := Lib.hid (by rw [partsL_next hl1]; exact join_more HT2.out (fun e => by have := congrArg List.length e; rw [partsL_len, List.length_nil] at this; omega) _)
                  have hys := stpT_size (HST.out _ (List.getElem_mem hl1)).1 (HST.out _ (List.getElem_mem hl1)).2
                  have HC := Lib.hid (fun W (hb : Below w.heap.size w W) => sStpT_any q l[0] W hqn (HasR.below hqt hb) (HST.out _ (List.getElem_mem hl1)).1 (HST.out _ (List.getElem_mem hl1)).2)
                  generalize l[0].ts.length = qm at qe
                  generalize stpT l[0] = y at HC HNX hys
                  obtain ⟨qn, qtv⟩ := q
                  dsimp only at qe c0 c1 HC
                  subst qe
                  clear hx hqn hqt hc
                  go_wp2_with fail
                  refine (HC.out _ hbel).mono ?_
                  rintro e w2 ⟨rfl, hb2⟩
                  have HB4 := Lib.hid (below_step hbel hb2)
                  have HX4 := Lib.hid ((hb2.block _ (Array.getElem?_eq_some_iff.1 HXB.out).1).trans HXB.out)
                  clear hb2
                  go_wp2
                  go_roundw
                  case rel => exact ⟨0 + 1, _, by omega, by go_num, rfl, HNX, HX4, HB4.out⟩
                  case measure => simp [intOf]; omega
                · have hkz : k = 0 := by have := HCU.out; omega
                  have HKZ := Lib.hid hkz
                  clear hkz
                  have HNX : Hid (t ++ stpT l[0] = pre ++ joinW (partsL k (l.take (0 + 1)))) := Lib.hid (by rw [partsL_next hl1]; exact join_first HT2.out (List.length_eq_zero_iff.1 (by rw [partsL_len, List.length_take]; have := HKZ.out; omega)) _)
                  have hys := stpT_size (HST.out _ (List.getElem_mem hl1)).1 (HST.out _ (List.getElem_mem hl1)).2
                  have HC := Lib.hid (fun W (hb : Below w.heap.size w W) => sStpT_any q l[0] W hqn (HasR.below hqt hb) (HST.out _ (List.getElem_mem hl1)).1 (HST.out _ (List.getElem_mem hl1)).2)
                  generalize l[0].ts.length = qm at qe
                  generalize stpT l[0] = y at HC HNX hys
                  obtain ⟨qn, qtv⟩ := q
                  dsimp only at qe c0 c1 HC
                  subst qe
                  clear hx hqn hqt hc
                  go_wp2_with fail
                  refine (HC.out _ hbel).mono ?_
                  rintro e w2 ⟨rfl, hb2⟩
                  have HB4 := Lib.hid (below_step hbel hb2)
                  have HX4 := Lib.hid ((hb2.block _ (Array.getElem?_eq_some_iff.1 HXB.out).1).trans HXB.out)
                  clear hb2
                  go_wp2
                  go_roundw
                  case rel => exact ⟨0 + 1, _, by omega, by go_num, rfl, HNX, HX4, HB4.out⟩
                  case measure => simp [intOf]; omega
            · have HE : Hid (t = pre ++ joinW (partsL k l)) := Lib.hid (by have h := HT2.out; rwa [List.take_of_length_le (by have := HN.out; omega)] at h)
              clear hc
              go_wp2
              go_ret
              exact ⟨by rw [HZ.out, ← HE.out]; rfl, hbel⟩
end Go.Proofs.Ytnpgeneahjlkpaa
