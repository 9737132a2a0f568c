/- CHAPTER 7: IsPath of both. -/
import Derived.Test.YtnpgeneahjlkpaaPthG
import Derived.BigQuiet
set_option linter.unusedVariables false
set_option linter.unusedSimpArgs false
namespace Go.Proofs.Ytnpgeneahjlkpaa
open Go.RowKit

theorem three_cells' {w : World} {b : Nat} {a0 a1 a2 : Value} {t : TypeId} (h : w.heap[b]? = some (.cells #[a0, a1, a2] t (0, 0))) : w.cell? ⟨b, 0, none⟩ = some a0 ∧ w.cell? ⟨b, 1, none⟩ = some a1 ∧ w.cell? ⟨b, 2, none⟩ = some a2 := by
  refine ⟨?_, ?_, ?_⟩
  · rw [cell_of_row _ b 0 _ _ _ h]; rfl
  · rw [cell_of_row _ b 1 _ _ _ h]; rfl
  · rw [cell_of_row _ b 2 _ _ _ h]; rfl
/-- a valid path -/
def PthOk (p : Pth) : Prop := (0 ≤ p.ups ∧ p.ups ≤ 8) ∧ p.st.length ≤ 10 ∧ ¬ (p.root = true ∧ 0 < p.ups) ∧ ¬ (p.root = false ∧ p.ups = 0 ∧ p.st.length = 0) ∧ ∀ i (hi : i < p.st.length), StpOk p.st[i]
def StsOk (l : List Stp) (k : Nat) : Prop := ∀ i (hi : i < l.length), i < k → StpOk l[i]
theorem stsOk_next {l : List Stp} {k : Nat} (h : StsOk l k) (hk : k < l.length) (h1 : StpOk l[k]) : StsOk l (k + 1) := fun i hi hik => by
  by_cases e : i = k
  · subst e; exact h1
  · exact h i hi (by omega)
set_option maxRecDepth 100000 in
set_option maxHeartbeats 4000000 in
theorem iPth_any (v : PthV) (p : Pth) (w : World) (h : HasP7 w v p) (hsc : HasSC w v.sv p.st) (hz : PthSz p) :
    Calls Try.prog 51 #[v.val] w fun e w' => e = .returned (.bool (dB (PthOk p))) ∧ Below w.heap.size w w' := by
  have HEM := Lib.hid (fun W (hb : Below w.heap.size w W) => isEmpty_any v p W (h.below hb))
  obtain ⟨r, u, l⟩ := p
  obtain ⟨r', u', sv⟩ := v
  obtain ⟨rfl, rfl, -⟩ := h
  dsimp only at hsc HEM ⊢
  obtain ⟨A, cap, rfl, hn', hc⟩ := hsc.at
  obtain ⟨n, hnn⟩ : ∃ n, n = l.length := ⟨_, rfl⟩
  have HN : Hid (n = l.length) := Lib.hid hnn
  rw [← hnn] at hn' HEM ⊢
  obtain ⟨Z, hZ⟩ : ∃ Z, Z = dB (PthOk ⟨r', u', l⟩) := ⟨_, rfl⟩
  have HF1 : Hid (u' < 0 → Z = false) := Lib.hid fun h => hZ.trans (dB_no fun hh => by have := hh.1.1; dsimp only at this; omega)
  have HF2 : Hid (8 < u' → Z = false) := Lib.hid fun h => hZ.trans (dB_no fun hh => by have := hh.1.2; dsimp only at this; omega)
  have HF3 : Hid (10 < n → Z = false) := Lib.hid fun h => hZ.trans (dB_no fun hh => by have := hh.2.1; dsimp only at this; omega)
  have HF4 : Hid (r' = true → 0 < u' → Z = false) := Lib.hid fun h1 h2 => hZ.trans (dB_no fun hh => hh.2.2.1 ⟨h1, h2⟩)
  obtain ⟨be, hbe⟩ : ∃ be, be = (!r' && decide (u' = 0) && decide (n = 0)) := ⟨_, rfl⟩
  rw [← hbe] at HEM
  have HF5 : Hid (be = true → Z = false) := Lib.hid fun h => hZ.trans (dB_no fun hh => hh.2.2.2.1 (by rw [hbe] at h; simp at h; exact ⟨h.1.1, h.1.2, by dsimp only; omega⟩))
  have HF6 : Hid (∀ k (hk : k < l.length), ¬ StpOk l[k] → Z = false) := Lib.hid fun k hk h => hZ.trans (dB_no fun hh => h (hh.2.2.2.2 k hk))
  have HF7 : Hid (0 ≤ u' → u' ≤ 8 → n ≤ 10 → ¬ (r' = true ∧ 0 < u') → be = false → StsOk l l.length → Z = true) := Lib.hid fun h1 h2 h3 h4 h5 h6 => hZ.trans (dB_yes ⟨⟨h1, h2⟩, by dsimp only; omega, h4, by
    rintro ⟨e1, e2, e3⟩
    dsimp only at e1 e2 e3
    rw [hbe, e1, e2, hnn, e3] at h5
    simp at h5, fun i hi => h6 i hi hi⟩)
  have HSZ : Hid (∀ s ∈ l, StpSz s) := Lib.hid hz.2
  rw [← hZ]
  have hb0 := below_al (Below.refl w.heap.size w) (.cells #[.bool r', .int .i64 u', .slice A n cap] 32)
  have HB0 := Lib.hid hb0
  clear hnn hZ hz hsc hbe
  by_cases h1 : u' < 0
  · have HL := Lib.hid (HF1.out h1)
    clear hc
    go_enter Try.func51, Try.ntmps51
    go_wp2
    go_ret
    exact ⟨ret_bool HL.out.symm, HB0.out⟩
  by_cases h2 : 8 < u'
  · have HL := Lib.hid (HF2.out h2)
    clear hc
    go_enter Try.func51, Try.ntmps51
    go_wp2
    go_ret
    exact ⟨ret_bool HL.out.symm, HB0.out⟩
  by_cases h3 : 10 < n
  · have HL := Lib.hid (HF3.out h3)
    clear hc
    go_enter Try.func51, Try.ntmps51
    go_wp2
    go_ret
    exact ⟨ret_bool HL.out.symm, HB0.out⟩
  have HU : Hid (0 ≤ u' ∧ u' ≤ 8 ∧ n ≤ 10) := Lib.hid ⟨by omega, by omega, by omega⟩
  by_cases h4 : r' = true ∧ 0 < u'
  · obtain ⟨rfl, h5⟩ := h4
    have HL := Lib.hid (HF4.out rfl h5)
    clear hc
    go_enter Try.func51, Try.ntmps51
    go_wp2
    go_ret
    exact ⟨ret_bool HL.out.symm, HB0.out⟩
  have H4 := Lib.hid h4
  have h5 : r' = true → ¬ 0 < u' := fun e h => h4 ⟨e, h⟩
  clear h4
  obtain ⟨W0, hW0⟩ : ∃ W0, W0 = w.alloc (.cells #[.bool r', .int .i64 u', .slice A n cap] 32) := ⟨_, rfl⟩
  have HBX : Hid (∀ W, Below W0.heap.size W0 W → W.cell? ⟨w.heap.size, 0, none⟩ = some (.bool r') ∧ W.cell? ⟨w.heap.size, 1, none⟩ = some (.int .i64 u') ∧ W.cell? ⟨w.heap.size, 2, none⟩ = some (.slice A n cap)) := Lib.hid fun W hb => three_cells' ((hb.block _ (by rw [hW0]; simp)).trans (by rw [hW0]; exact alloc_new_at' _ _ rfl))
  have HLOW : Hid (∀ W, Below W0.heap.size W0 W → Below w.heap.size w W) := Lib.hid fun W hb => by rw [hW0] at hb; exact below_step hb0 hb
  have HEM2 : Hid (Calls Try.prog 84 #[.agg #[.bool r', .int .i64 u', .slice A n cap]] W0 fun e w' => e = .returned (.bool be) ∧ Below W0.heap.size W0 w') := Lib.hid (HEM.out W0 (by rw [hW0]; exact hb0))
  rw [hW0] at HBX HLOW HEM2
  clear hW0 hb0 HEM
  cases be
  · cases r'
    all_goals
      (try have h6 : ¬ 0 < u' := h5 rfl)
      clear h5
      go_enter Try.func51, Try.ntmps51
      go_wp2_with (first | (go_at_call 84; refine (HEM2.out).mono ?_; rintro e w1 ⟨rfl, hb1⟩; have HB1 := Lib.hid hb1; obtain ⟨x0, x1, x2⟩ := HBX.out _ hb1; clear hb1))
      have HB2 := Lib.hid (HLOW.out _ HB1.out)
      clear x0 x1 x2
      go_loopw [33] (fun i wr => ∃ k : Nat, k ≤ n ∧ i = .int .i64 k ∧ Hid (StsOk l k) ∧ Below w.heap.size w wr) (fun i _ => n - (intOf i).toNat)
      case atStart => exact ⟨0, Nat.zero_le _, rfl, Lib.hid (fun i _ h => absurd h (by omega)), HB2.out⟩
      case round =>
        obtain ⟨k, hk, rfl, HS, hbel⟩ := hrel
        by_cases hlt : k < n
        · have hl1 : k < l.length := by rw [← HN.out]; exact hlt
          obtain ⟨a, q, rfl, hab, hx, hqn, hqt, hqc⟩ := hc k hl1
          obtain ⟨c0, c1⟩ := hx.below hbel hab
          obtain ⟨qA, qc, qe, -⟩ := id hqt
          have HC := Lib.hid (fun W (hb : Below w.heap.size w W) => iStp_any q l[k] W hqn (HasR.below hqt hb) hqc (HSZ.out _ (List.getElem_mem hl1)))
          have HNX := Lib.hid (stsOk_next HS.out hl1)
          have HBD := Lib.hid (HF6.out k hl1)
          generalize l[k].ts.length = qm at qe
          generalize l[k] = s at HC HNX HBD
          obtain ⟨qn, qtv⟩ := q
          dsimp only at qe c0 c1 HC
          subst qe
          obtain ⟨b, hb⟩ : ∃ b, b = dB (StpOk s) := ⟨_, rfl⟩
          have HBB := Lib.hid hb
          rw [← hb] at HC
          have HB3 := Lib.hid (below_al hbel (.cells #[.string qn, .slice qA qm qc] 86))
          clear hx hqn hqt hqc hb hc
          go_wp2_with fail
          refine (HC.out _ HB3.out).mono ?_
          rintro e w2 ⟨rfl, hb2⟩
          have HB4 := Lib.hid (below_step HB3.out hb2)
          clear hb2
          cases b
          · have HL := Lib.hid (HBD.out (dB_false HBB.out.symm))
            go_wp2
            go_ret
            exact ⟨ret_bool HL.out.symm, HB4.out⟩
          · have HS2 := Lib.hid (HNX.out (dB_true HBB.out.symm))
            go_wp2
            go_roundw
            case rel => exact ⟨k + 1, by omega, by go_num, HS2, HB4.out⟩
            case measure => simp [intOf]; omega
        · have HL := Lib.hid (HF7.out HU.out.1 HU.out.2.1 HU.out.2.2 H4.out (by first | rfl | trivial) (by have := HS.out; rwa [show k = l.length by have := HN.out; omega] at this))
          clear hc
          go_wp2
          go_ret
          exact ⟨ret_bool HL.out.symm, hbel⟩
  · have HL := Lib.hid (HF5.out rfl)
    clear hc
    cases r'
    all_goals
      (try have h6 : ¬ 0 < u' := h5 rfl)
      clear h5
      go_enter Try.func51, Try.ntmps51
      go_wp2_with (first | (go_at_call 84; refine (HEM2.out).mono ?_; rintro e w1 ⟨rfl, hb1⟩; have HB1 := Lib.hid hb1))
      go_ret
      exact ⟨ret_bool HL.out.symm, HLOW.out _ HB1.out⟩
set_option maxRecDepth 100000 in
theorem iIsPth_any (v : PthV) (p : Pth) (w : World) (h : HasP7 w v p) (hsc : HasSC w v.sv p.st) (hz : PthSz p) :
    Calls Try.prog 105 #[v.val] w fun e w' => e = .returned (.bool (dB (PthOk p))) ∧ Below w.heap.size w w' := by
  have HC := Lib.hid (fun W (hb : Below w.heap.size w W) => iPth_any v p W (h.below hb) (hsc.below hb) hz)
  obtain ⟨A, c, h1, -⟩ := hsc.at
  generalize dB (PthOk p) = b at *
  generalize p.st.length = n at h1
  clear h hsc hz
  obtain ⟨r, u, sv⟩ := v
  dsimp only at h1
  subst h1
  have HB0 := Lib.hid (below_al (Below.refl w.heap.size w) (.cells #[.bool r, .int .i64 u, .slice A n c] 32))
  go_enter Try.func105, Try.ntmps105
  go_wp2_with (first | (go_at_call 51; refine (HC.out _ HB0.out).mono ?_; rintro e w1 ⟨rfl, hb1⟩))
  go_ret
  exact ⟨rfl, below_step HB0.out hb1⟩
end Go.Proofs.Ytnpgeneahjlkpaa
