/- CHAPTER 7, spec: IsPath. -/
import Derived.Test.YtnpgeneahjlkpaaPthH
set_option linter.unusedVariables false
set_option linter.unusedSimpArgs false
namespace Go.Proofs.Ytnpgeneahjlkpaa
open Go.RowKit

theorem nameIn_take {l : List Tst} {k j : Nat} (hj : j < l.length) (hk : k < l.length) (h : j < k) (e : l[j].n = l[k].n) : NameIn l[k] (l.take k) :=
  ⟨l[j], by rw [← List.getElem_take (j := k) (h := by rw [List.length_take]; omega)]; exact List.getElem_mem _, e.symm⟩
theorem not_nameIn {l : List Tst} {k : Nat} (hk : k < l.length) (h : ∀ q (hq : q < l.length), q < k → l[q].n ≠ l[k].n) : ¬ NameIn l[k] (l.take k) := by
  rintro ⟨y, hy, e⟩
  obtain ⟨q, hq, rfl⟩ := List.getElem_of_mem hy
  rw [List.length_take] at hq
  rw [List.getElem_take] at e
  exact h q (by omega) (by omega) e.symm
theorem hasX_tell' {w : World} {A : Option Addr} {n c : Nat} {l : List Tst} (h : HasX w (.slice A n c) l) (k : Nat) (hk : k < l.length) : ∃ a, A = some a ∧ (a.add (k * 2)).block < w.heap.size ∧ Xk w (a.add (k * 2)) l[k] := by
  obtain ⟨A', c', e, _, hc⟩ := h
  cases e
  exact HasX.xk hc k hk
set_option maxRecDepth 100000 in
set_option maxHeartbeats 8000000 in
theorem sIsPth_any (v : PthV) (p : Pth) (w : World) (h : HasP7 w v p) (hz : PthSz p) :
    Calls Try.prog 48 #[v.val] w fun e w' => e = .returned (.bool (dB (PthOk p))) ∧ Below w.heap.size w w' := by
  obtain ⟨r, u, l⟩ := p
  obtain ⟨r', u', sv⟩ := v
  obtain ⟨rfl, rfl, hs⟩ := h
  dsimp only at hs ⊢
  obtain ⟨A, cap, rfl, hn', hc⟩ := hs.at
  obtain ⟨n, hnn⟩ : ∃ n, n = l.length := ⟨_, rfl⟩
  have HN : Hid (n = l.length) := Lib.hid hnn
  rw [← hnn] at hn' ⊢
  obtain ⟨Z, hZ⟩ : ∃ Z, Z = dB (PthOk ⟨r', u', l⟩) := ⟨_, rfl⟩
  have HF6 : Hid (∀ k (hk : k < l.length), ¬ StpOk l[k] → Z = false) := Lib.hid fun k hk h => hZ.trans (dB_no fun hh => h (hh.2.2.2.2 k hk))
  have HF7 : Hid (StsOk l l.length → Z = (decide (0 ≤ u' ∧ u' ≤ 8) && decide (n ≤ 10) && (!r' || decide (u' = 0)) && (r' || decide (0 < u') || decide (0 < n)))) := Lib.hid fun h6 => by
    rw [hZ]
    by_cases hp : PthOk ⟨r', u', l⟩
    · rw [dB_yes hp]
      obtain ⟨h1, h2, h3, h4, -⟩ := hp
      dsimp only at h1 h2 h3 h4
      rw [← hnn] at h2 h4
      have e1 : decide (0 ≤ u' ∧ u' ≤ 8) = true := by simpa using h1
      have e2 : decide (n ≤ 10) = true := by simpa using h2
      rw [e1, e2]
      cases r'
      · by_cases hu : 0 < u'
        · simp [hu]
        · have : 0 < n := by
            rcases Nat.eq_zero_or_pos n with e | e
            · exact absurd ⟨rfl, by omega, e⟩ h4
            · exact e
          simp [this]
      · have : u' = 0 := by
          have : ¬ 0 < u' := fun e => h3 ⟨rfl, e⟩
          omega
        simp [this]
    · rw [dB_no hp]
      symm
      cases hb : (decide (0 ≤ u' ∧ u' ≤ 8) && decide (n ≤ 10) && (!r' || decide (u' = 0)) && (r' || decide (0 < u') || decide (0 < n))) with
      | false => rfl
      | true =>
        exfalso
        apply hp
        simp only [Bool.and_eq_true, Bool.or_eq_true, decide_eq_true_eq, Bool.not_eq_true'] at hb
        obtain ⟨⟨⟨h1, h2⟩, h3⟩, h4⟩ := hb
        refine ⟨h1, by dsimp only; omega, ?_, ?_, fun i hi => h6 i hi hi⟩
        · rintro ⟨e1, e2⟩
          dsimp only at e1 e2
          rw [e1] at h3
          rcases h3 with h3 | h3
          · cases h3
          · omega
        · rintro ⟨e1, e2, e3⟩
          dsimp only at e1 e2 e3
          rw [e1] at h4
          rcases h4 with (h4 | h4) | h4
          · cases h4
          · omega
          · omega
  have HSZ : Hid (∀ s ∈ l, StpSz s) := Lib.hid hz.2
  rw [← hZ]
  have hb0 := below_al (Below.refl w.heap.size w) (.cells #[.bool r', .int .i64 u', .slice A n cap] 32)
  obtain ⟨W0, hW0⟩ : ∃ W0, W0 = w.alloc (.cells #[.bool r', .int .i64 u', .slice A n cap] 32) := ⟨_, rfl⟩
  rw [← hW0] at hb0
  have HBX : Hid (∀ W, Below W0.heap.size W0 W → (W.cell? ⟨w.heap.size, 0, none⟩ = some (.bool r') ∧ W.cell? ⟨w.heap.size, 1, none⟩ = some (.int .i64 u') ∧ W.cell? ⟨w.heap.size, 2, none⟩ = some (.slice A n cap)) ∧ Below w.heap.size w W) := Lib.hid fun W hb => ⟨three_cells' ((hb.block _ (by rw [hW0]; simp)).trans (by rw [hW0]; exact alloc_new_at' _ _ rfl)), below_step hb0 hb⟩
  clear hnn hZ hz hb0 hs
  go_enter Try.func48, Try.ntmps48
  go_wp2
  rw [← hW0]
  clear hW0
  go_loopw [3] (fun i wr => ∃ k : Nat, k ≤ n ∧ i = .int .i64 k ∧ Hid (StsOk l k) ∧ Hid (Below W0.heap.size W0 wr)) (fun i _ => n - (intOf i).toNat)
  case atStart => exact ⟨0, Nat.zero_le _, rfl, Lib.hid (fun i _ h => absurd h (by omega)), Lib.hid (Below.refl _ _)⟩
  case round =>
    obtain ⟨k, hk, rfl, HS, HBW⟩ := hrel
    obtain ⟨⟨x0, x1, x2⟩, hbel⟩ := HBX.out _ HBW.out
    by_cases hlt : k < n
    · have hl1 : k < l.length := by rw [← HN.out]; exact hlt
      obtain ⟨a, q, rfl, hab, hx, hqn, hqt⟩ := hc k hl1
      have HCL : Hid (∀ W, Below W0.heap.size W0 W → W.cell? (a.add (k * 2)) = some (.string q.n) ∧ W.cell? ⟨(a.add (k * 2)).block, (a.add (k * 2)).off + 1, none⟩ = some q.tv) := Lib.hid fun W hb => hx.below (HBX.out W hb).2 hab
      obtain ⟨c0, c1⟩ := HCL.out _ HBW.out
      have hsz := HSZ.out _ (List.getElem_mem hl1)
      have HNX := Lib.hid (stsOk_next HS.out hl1)
      have HBD := Lib.hid (HF6.out k hl1)
      obtain ⟨qA, qc, qe, hqm, -⟩ := id hqt
      generalize l[k] = s at hqn hqt hsz HNX HBD qe hqm
      obtain ⟨sn, ts⟩ := s
      obtain ⟨qn, qtv⟩ := q
      dsimp only at hqn hqt qe hqm c0 c1 HCL
      subst hqn qe
      have HXT := Lib.hid (fun W (hb : Below W0.heap.size W0 W) => HasR.below hqt (HBX.out W hb).2)
      have HNM := Lib.hid (fun w => sIsName_any qn (by unfold maxLen; have := hsz.1; dsimp only at this; omega) w)
      have HTZ : Hid (∀ t ∈ ts, TstSz t) := Lib.hid hsz.2.2
      obtain ⟨m, hm⟩ : ∃ m, m = ts.length := ⟨_, rfl⟩
      have HM : Hid (m = ts.length) := Lib.hid hm
      rw [← hm] at c1 HCL HXT hqm
      have HB1 : Hid (∀ i (hi : i < ts.length), (tstV ts[i] = false ∨ NameIn ts[i] (ts.take i)) → Z = false) := Lib.hid fun i hi hh => HBD.out fun hok => by
        have := hok.2.2 i hi hi
        rcases hh with h | h
        · rw [this.1] at h; cases h
        · exact this.2 h
      have HB2 : Hid (nameB qn = false ∨ 3 < m → Z = false) := Lib.hid fun hh => HBD.out fun hok => by
        rcases hh with h | h
        · have := hok.1; dsimp only at this; rw [this] at h; cases h
        · have := hok.2.1; dsimp only at this; omega
      have HB3 : Hid (nameB qn = true → m ≤ 3 → TsOk ts ts.length → StsOk l (k + 1)) := Lib.hid fun h1 h2 h3 => HNX.out ⟨h1, by dsimp only; omega, h3⟩
      clear hx hqt hsz hm hc
      have HKN : Hid (k + 1 ≤ n ∧ k < n) := Lib.hid ⟨by omega, hlt⟩
      go_wp2
      obtain ⟨K, hK⟩ : ∃ K, K = k := ⟨_, rfl⟩
      subst hK
      obtain ⟨wo, hwo⟩ : ∃ wo : World, wo = wr := ⟨_, rfl⟩
      subst hwo
      go_loopw [5] (fun i wq => ∃ j : Nat, j ≤ m ∧ i = .int .i64 j ∧ Hid (TsOk ts j) ∧ Hid (Below W0.heap.size W0 wq)) (fun i _ => m - (intOf i).toNat)
      case atStart => exact ⟨0, Nat.zero_le _, rfl, Lib.hid (fun i _ h => absurd h (by omega)), HBW⟩
      case round =>
        clear x0 x1 x2 c0 c1 hbel
        obtain ⟨j, hj, rfl, HJ, HBJ⟩ := hrel
        obtain ⟨⟨x0, x1, x2⟩, -⟩ := HBX.out _ HBJ.out
        obtain ⟨c0, c1⟩ := HCL.out _ HBJ.out
        by_cases hjm : j < m
        · have hl3 : j < ts.length := by rw [← HM.out]; exact hjm
          have hxt := HXT.out _ HBJ.out
          obtain ⟨A2, c2', ea, _, hxc⟩ := HXT.out _ HBJ.out
          have HTJ := Lib.hid (HB1.out j hl3)
          have HNJ := Lib.hid (tsOk_next HJ.out hl3)
          have htz := HTZ.out _ (List.getElem_mem hl3)
          have HN2 := Lib.hid (fun w => sIsName_any ts[j].n (by unfold maxLen; have := htz.1; omega) w)
          have HT2 := Lib.hid (fun w => sIsText_any ts[j].v (by unfold maxLen; have := htz.2; omega) w)
          have HTV : Hid (tstV ts[j] = (nameB ts[j].n && textB ts[j].v)) := Lib.hid rfl
          have HNT : Hid (∀ q (hq : q < ts.length), q < j → ts[q].n = ts[j].n → NameIn ts[j] (ts.take j)) := Lib.hid fun q hq h e => nameIn_take hq hl3 h e
          have HNN : Hid ((∀ q (hq : q < ts.length), q < j → ts[q].n ≠ ts[j].n) → ¬ NameIn ts[j] (ts.take j)) := Lib.hid (not_nameIn hl3)
          have HCX : Hid (∀ q (hq : q < ts.length) W, Below W0.heap.size W0 W → ∃ b, qA = some b ∧ Xk W (b.add (q * 2)) ts[q]) := Lib.hid fun q hq W hb => by
            obtain ⟨b, h1, _, h2⟩ := hasX_tell' (HXT.out W hb) q hq
            exact ⟨b, h1, h2⟩
          clear hxt ea hxc htz
          go_wp2
          obtain ⟨J, hJ⟩ : ∃ J, J = j := ⟨_, rfl⟩
          subst hJ
          obtain ⟨wp, hwp⟩ : ∃ wp : World, wp = wr := ⟨_, rfl⟩
          subst hwp
          go_loopw [6] (fun i wq => ∃ g : Nat, g ≤ J ∧ i = .int .i64 g ∧ Hid (∀ q (hq : q < ts.length), q < g → ts[q].n ≠ ts[J].n) ∧ Hid (Below W0.heap.size W0 wq)) (fun i _ => J - (intOf i).toNat)
          case atStart => exact ⟨0, Nat.zero_le _, rfl, Lib.hid (fun q _ h => absurd h (by omega)), HBJ⟩
          case round =>
            clear x0 x1 x2 c0 c1
            obtain ⟨g, hg, rfl, HG, HBG⟩ := hrel
            obtain ⟨⟨x0, x1, x2⟩, -⟩ := HBX.out _ HBG.out
            obtain ⟨c0, c1⟩ := HCL.out _ HBG.out
            obtain ⟨b, rfl, d0, d1⟩ := HCX.out J hl3 _ HBG.out
            by_cases hgj : g < J
            · have hl4 : g < ts.length := by omega
              obtain ⟨b', eb, f0, f1⟩ := HCX.out g hl4 _ HBG.out
              cases eb
              have hgm : g < m := by omega
              have HTG := Lib.hid (fun e => HTJ.out (.inr (HNT.out g hl4 hgj e)))
              have HGG : Hid (ts[g].n ≠ ts[J].n → ∀ q (hq : q < ts.length), q < g + 1 → ts[q].n ≠ ts[J].n) := Lib.hid fun e q hq h => by
                by_cases h' : q = g
                · subst h'; exact e
                · exact HG.out q hq (by omega)
              generalize ts[g].n = y1 at f0 HTG HGG
              generalize ts[J].n = x1' at d0 HTG HGG
              clear f1
              by_cases he : y1 = x1'
              · have h1 : (y1.toList == x1'.toList) = true := by rw [he]; simp
                have HL := Lib.hid (HTG.out he)
                clear he
                go_wp2
                go_quiet (fail)
                go_wp2
                go_ret
                exact ⟨ret_bool HL.out.symm, below_drewN (HBX.out _ HBG.out).2 _⟩
              · have h1 : (y1.toList == x1'.toList) = false := str_ne7 he
                have HG2 := Lib.hid (HGG.out he)
                clear he
                go_wp2
                go_quiet (fail)
                go_wp2
                go_roundw
                case rel => exact ⟨g + 1, by omega, by go_num, HG2, Lib.hid (below_drewN HBG.out _)⟩
                case measure => simp [intOf]; omega
            · have HNJ2 := Lib.hid (HNN.out (by have := HG.out; rwa [show g = J by omega] at this))
              obtain ⟨b1, hb1⟩ : ∃ b, b = nameB ts[J].n := ⟨_, rfl⟩
              obtain ⟨b2, hb2⟩ : ∃ b, b = textB ts[J].v := ⟨_, rfl⟩
              rw [← hb1, ← hb2] at HTV
              rw [← hb1] at HN2
              rw [← hb2] at HT2
              have HBB := (HBX.out _ HBG.out).2
              clear hb1 hb2
              cases b1
              · have HL := Lib.hid (HTJ.out (.inl HTV.out))
                go_wp2_with (first | (go_at_call 81; refine (HN2.out _).mono ?_; rintro e w' ⟨rfl, rfl⟩))
                go_ret
                exact ⟨ret_bool HL.out.symm, HBB⟩
              · cases b2
                · have HL := Lib.hid (HTJ.out (.inl HTV.out))
                  go_wp2_with (first
                    | (go_at_call 81; refine (HN2.out _).mono ?_; rintro e w' ⟨rfl, rfl⟩)
                    | (go_at_call 69; refine (HT2.out _).mono ?_; rintro e w' ⟨rfl, rfl⟩))
                  go_ret
                  exact ⟨ret_bool HL.out.symm, HBB⟩
                · have HJ2 := Lib.hid (HNJ.out HTV.out HNJ2.out)
                  go_wp2_with (first
                    | (go_at_call 81; refine (HN2.out _).mono ?_; rintro e w' ⟨rfl, rfl⟩)
                    | (go_at_call 69; refine (HT2.out _).mono ?_; rintro e w' ⟨rfl, rfl⟩))
                  go_roundw
                  case rel => exact ⟨J + 1, by omega, by go_num, HJ2, HBG⟩
                  case measure => simp [intOf]; omega
        · have HTS : Hid (TsOk ts ts.length) := Lib.hid (by have := HJ.out; rwa [show j = ts.length by have := HM.out; omega] at this)
          have HBB := (HBX.out _ HBJ.out).2
          generalize nameB qn = b1 at HNM HB2 HB3
          cases b1
          · have HL := Lib.hid (HB2.out (.inl rfl))
            go_wp2_with (first | (go_at_call 81; refine (HNM.out _).mono ?_; rintro e w' ⟨rfl, rfl⟩))
            go_ret
            exact ⟨ret_bool HL.out.symm, HBB⟩
          · by_cases h3 : 3 < m
            · have HL := Lib.hid (HB2.out (.inr h3))
              go_wp2_with (first | (go_at_call 81; refine (HNM.out _).mono ?_; rintro e w' ⟨rfl, rfl⟩))
              go_ret
              exact ⟨ret_bool HL.out.symm, HBB⟩
            · have HS2 := Lib.hid (HB3.out rfl (by omega) HTS.out)
              go_wp2_with (first | (go_at_call 81; refine (HNM.out _).mono ?_; rintro e w' ⟨rfl, rfl⟩))
              go_roundw
              case rel => exact ⟨K + 1, HKN.out.1, by go_num, HS2, HBJ⟩
              case measure => simp [intOf]; have := HKN.out.2; omega
    · have HZ := HF7.out (by have := HS.out; rwa [show k = l.length by have := HN.out; omega] at this)
      clear hc
      have HZ := Lib.hid HZ
      have HIN := Lib.hid (fun w => sIn_any u' 0 8 w)

      by_cases r0 : 0 ≤ u' ∧ u' ≤ 8
      · rw [show decide (0 ≤ u' ∧ u' ≤ 8) = true by simpa using r0] at HIN HZ
        by_cases r1 : n ≤ 10
        · have q1 : decide ((n : Int) ≤ 10) = true := by simp; omega
          have q2 : (n : Int) ≤ 10 := by omega
          have q3 : decide (n ≤ 10) = true := by simp; omega
          cases r'
          · by_cases r2 : 0 < u'
            · have q4 : decide (0 < u') = true := by simp; omega
              have q5 : (u' == 0) = false := beq_eq_false_iff_ne.2 (by omega)
              by_cases r3 : n = 0
              · subst r3
                go_wp2_with (first | (go_at_call 68; refine (HIN.out _).mono ?_; rintro e w' ⟨rfl, rfl⟩))
                go_ret
                exact ⟨ret_bool (by rw [HZ.out]; simp [q3, q4]), hbel⟩
              · have q6 : decide ((0 : Int) < (n : Int)) = true := by simp; omega
                have q7 : (0 : Int) < (n : Int) := by omega
                go_wp2_with (first | (go_at_call 68; refine (HIN.out _).mono ?_; rintro e w' ⟨rfl, rfl⟩))
                go_ret
                exact ⟨ret_bool (by rw [HZ.out]; simp [q3, q4]), hbel⟩
            · obtain rfl : u' = 0 := by omega
              by_cases r3 : n = 0
              · subst r3
                go_wp2_with (first | (go_at_call 68; refine (HIN.out _).mono ?_; rintro e w' ⟨rfl, rfl⟩))
                go_ret
                exact ⟨ret_bool (by rw [HZ.out]; simp []), hbel⟩
              · have q6 : decide ((0 : Int) < (n : Int)) = true := by simp; omega
                have q7 : (0 : Int) < (n : Int) := by omega
                have q8 : 0 < n := by omega
                go_wp2_with (first | (go_at_call 68; refine (HIN.out _).mono ?_; rintro e w' ⟨rfl, rfl⟩))
                go_ret
                exact ⟨ret_bool (by rw [HZ.out]; simp [q3, q8]), hbel⟩
          · by_cases r2 : u' = 0
            · subst r2
              go_wp2_with (first | (go_at_call 68; refine (HIN.out _).mono ?_; rintro e w' ⟨rfl, rfl⟩))
              go_ret
              exact ⟨ret_bool (by rw [HZ.out]; simp [q3]), hbel⟩
            · have q4 : decide (u' = 0) = false := by simp; omega
              have q5 : (u' == 0) = false := beq_eq_false_iff_ne.2 r2
              go_wp2_with (first | (go_at_call 68; refine (HIN.out _).mono ?_; rintro e w' ⟨rfl, rfl⟩))
              go_ret
              exact ⟨ret_bool (by rw [HZ.out]; simp [q3, q4]), hbel⟩
        · have q1 : decide ((n : Int) ≤ 10) = false := by simp; omega
          have q2 : ¬ (n : Int) ≤ 10 := by omega
          have q3 : decide (n ≤ 10) = false := by simp; omega
          go_wp2_with (first | (go_at_call 68; refine (HIN.out _).mono ?_; rintro e w' ⟨rfl, rfl⟩))
          go_ret
          exact ⟨ret_bool (by rw [HZ.out]; simp [q3]), hbel⟩
      · rw [show decide (0 ≤ u' ∧ u' ≤ 8) = false by simpa using r0] at HIN HZ
        go_wp2_with (first | (go_at_call 68; refine (HIN.out _).mono ?_; rintro e w' ⟨rfl, rfl⟩))
        go_ret
        exact ⟨ret_bool (by rw [HZ.out]; simp []), hbel⟩
end Go.Proofs.Ytnpgeneahjlkpaa
