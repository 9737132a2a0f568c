/- CHAPTER 7: marks written into owned steps with their tests. -/
import Derived.Test.YtdkpleghpnflhaaPthL
set_option linter.unusedVariables false
set_option linter.unusedSimpArgs false
namespace Go.Proofs.Ytdkpleghpnflhaa
open Go.RowKit NumP

/-- steps that are being marked -/
structure MkI (B : Nat) (w : World) (v : Value) (R : List StR) (K : Nat → Nat → Prop) : Prop where
  row : RowT7 B w v R
  ts : ∀ i (h : i < R.length), ∃ ts' : List Tst, ts'.length ≤ 1048576 ∧ RowX B w R[i].tv ts' ∧ ∀ b, R[i].tv.ownBlock = some b → K i b
  dis : ∀ i j b, i < R.length → j < R.length → K i b → K j b → i = j
  nv : ∀ i b, i < R.length → K i b → v.ownBlock ≠ some b
theorem MkI.below {B : Nat} {w w' : World} {v : Value} {R : List StR} {K : Nat → Nat → Prop} (h : MkI B w v R K) (hb : Below w.heap.size w w') : MkI B w' v R K :=
  ⟨RowR.below h.row hb, fun i hi => by obtain ⟨t, h1, h2, h3⟩ := h.ts i hi; exact ⟨t, h1, RowR.below h2 hb, h3⟩, h.dis, h.nv⟩
theorem MkI.name {B g n cap : Nat} {w : World} {R : List StR} {K : Nat → Nat → Prop} (h : MkI B w (.slice (some ⟨g, 0, none⟩) n cap) R K) {j : Nat} (hj : j < R.length) (x : ByteArray) :
    MkI B (w.setCell ⟨g, j * 2, none⟩ (.string x)) (.slice (some ⟨g, 0, none⟩) n cap) (R.set j ⟨x, R[j].tv⟩) K ∧ w.grownBy (w.setCell ⟨g, j * 2, none⟩ (.string x)) (some g) := by
  have h0 := RowR.set1 StR.enc_len h.row hj 0 (by omega) (.string x) ⟨x, R[j].tv⟩ rfl
  refine ⟨⟨h0.1, fun i hi => ?_, fun i k b h1 h2 => h.dis i k b (by simpa using h1) (by simpa using h2), fun i b h1 => h.nv i b (by simpa using h1)⟩, h0.2⟩
  have hi' : i < R.length := by simpa using hi
  have e : (R.set j ⟨x, R[j].tv⟩)[i].tv = R[i].tv := by
    by_cases e : i = j
    · subst e; rw [List.getElem_set_self]
    · rw [List.getElem_set_ne (by omega)]
  rw [e]
  obtain ⟨t, h1, h2, h3⟩ := h.ts i hi'
  exact ⟨t, h1, RowR.other (u := .slice (some ⟨g, 0, none⟩) 0 0) h2 h0.2 (fun k hk e => h.nv i k hi' (h3 k hk) e), h3⟩
theorem MkI.tests {B g n cap : Nat} {w w' : World} {R : List StR} {K : Nat → Nat → Prop} (h : MkI B w (.slice (some ⟨g, 0, none⟩) n cap) R K) {j : Nat} (hj : j < R.length) {ts : List Tst} (ht : RowX B w' R[j].tv ts) (hl : ts.length ≤ 1048576)
    (hg : w.grownBy w' R[j].tv.ownBlock) : MkI B w' (.slice (some ⟨g, 0, none⟩) n cap) R K := by
  obtain ⟨_, _, _, hK⟩ := h.ts j hj
  refine ⟨RowR.other h.row hg (fun k hk e => h.nv j k hj (hK k e) hk), fun i hi => ?_, h.dis, h.nv⟩
  by_cases e : i = j
  · subst e; exact ⟨ts, hl, ht, hK⟩
  · obtain ⟨t, h1, h2, h3⟩ := h.ts i hi
    exact ⟨t, h1, RowR.other h2 hg (fun k hk e' => e (h.dis i j k hi hj (h3 k hk) (hK k e'))), h3⟩
theorem OwnS.mk {B : Nat} {w : World} {v : Value} {l : List Stp} {S : Nat → Prop} (h : OwnS B w v l S) (hs : ∀ s ∈ l, s.ts.length ≤ 1048576) :
    ∃ (R : List StR) (K : Nat → Nat → Prop), MkI B w v R K ∧ R.length = l.length ∧ (∀ b, v.ownBlock = some b → S b) ∧ ∀ i b, i < R.length → K i b → S b := by
  obtain ⟨R, K, h1, h2, h3, h4, h5, h6⟩ := OwL.parts h
  have h2' : R.length = l.length := by rw [h2, List.length_map]
  refine ⟨R, K, ⟨h1, fun i hi => ?_, h4, h5⟩, h2', fun b hb => (h6 b).2 (.inl hb), fun i b hi hb => (h6 b).2 (.inr ⟨i, hi, hb⟩)⟩
  obtain ⟨S1, S2, ⟨⟨_, q2⟩, q3⟩, _, _, q4⟩ := h3 i hi (by rw [← h2]; exact hi)
  rw [List.getElem_map] at q2
  exact ⟨l[i].ts, hs _ (List.getElem_mem _), q2, fun b hb => (q4 b).2 (.inl ((q3 b).2 hb))⟩
set_option maxRecDepth 100000 in
set_option maxHeartbeats 1000000 in
theorem markStps_any (B : Nat) (v : Value) (l : List Stp) (S : Nat → Prop) (w : World) (hv : OwnS B w v l S) (hn : l.length ≤ 1048576) (hs : ∀ s ∈ l, s.ts.length ≤ 1048576) :
    Calls Try.prog 50 #[v, .int .i64 1] w fun e w' => ∃ x : Int, (e = .returned (.int .i64 x) ∧ 0 ≤ x) ∧ TurnsAt S w w' := by
  obtain ⟨R0, K, hm, hl, hS1, hS2⟩ := hv.mk hs
  rcases RowR.form hm.row with ⟨rfl, hl0⟩ | ⟨g, cap, rfl, hg0, hg⟩
  · clear hm hl hl0
    go_enter Try.func50, Try.ntmps50
    go_wp2
    go_loopw [1, 5] (fun x i wr => x = .int .i64 1 ∧ i = .int .i64 0 ∧ wr = w) (fun _ _ _ => 0)
    case atStart => exact ⟨rfl, rfl, rfl⟩
    case round =>
      obtain ⟨rfl, rfl, rfl⟩ := hrel
      go_wp2
      go_ret
      exact ⟨1, ⟨rfl, by omega⟩, TurnsAt.refl _ _⟩
  · obtain ⟨n, hnn⟩ : ∃ n, n = R0.length := ⟨_, rfl⟩
    have HS1 := Lib.hid hS1
    have HS2 := Lib.hid hS2
    have HM0 := Lib.hid hm
    have HN0 := Lib.hid hnn
    rw [← hnn] at hl HM0 ⊢
    rw [← hl] at hn
    have hn2 : n ≤ 9223372036854775807 := by omega
    clear hm hS1 hS2 hv hs hnn hl
    go_enter Try.func50, Try.ntmps50
    go_wp2
    go_loopw [1, 5] (fun x i wr => ∃ (j q : Nat) (R : List StR), j ≤ n ∧ Hid (q ≤ 1 + 2097153 * j) ∧ (0 < q ∧ q ≤ 4398046511103) ∧ x = .int .i64 q ∧ i = .int .i64 j ∧ Hid (R.length = n ∧ R0.length = n) ∧ Hid (MkI B wr (.slice (some ⟨g, 0, none⟩) n cap) R K) ∧ Hid (TurnsAt S w wr)) (fun _ i _ => n - (intOf i).toNat)
    case atStart => exact ⟨0, 1, R0, Nat.zero_le _, Lib.hid (by omega), by omega, rfl, rfl, Lib.hid ⟨HN0.out.symm, HN0.out.symm⟩, HM0, Lib.hid (TurnsAt.refl _ _)⟩
    case round =>
      clear HM0 HN0
      obtain ⟨j, q, R, hj, HQ, ⟨hq0, hq⟩, rfl, rfl, HL, HM, HT⟩ := hrel
      by_cases hlt : j < n
      · have hL : j < R.length := by have := HL.out.1; omega
        have hq2 : q ≤ 4611686018427387904 := by omega
        obtain ⟨ts, ht1, ht2, ht3⟩ := HM.out.ts j hL
        obtain ⟨A', c', etv, -⟩ := RowR.hasX ht2
        have HK := Lib.hid ht3
        obtain ⟨tv, htv⟩ : ∃ tv, tv = R[j].tv := ⟨_, rfl⟩
        rw [← htv] at ht2 etv HK
        have HTV := Lib.hid htv
        have HTS := Lib.hid ht2
        obtain ⟨m, hm⟩ : ∃ m, m = ts.length := ⟨_, rfl⟩
        have HMM := Lib.hid hm
        rw [← hm] at ht1 etv
        clear ht2 ht3 htv hm
        subst etv
        obtain ⟨q', hq'⟩ : ∃ q', q' = q + 1 + 2 * m := ⟨_, rfl⟩
        have HC : Hid (∀ W, RowX B W (.slice A' m c') ts → Calls Try.prog 58 #[.slice A' m c', .int .i64 ((q : Int) + 1)] W fun e w' => e = .returned (.int .i64 (q' : Int)) ∧ RowX B w' (.slice A' m c') (marksX (q + 1) m) ∧ W.grownBy w' (Value.slice A' m c').ownBlock) := Lib.hid fun W h => by
          have := markTsts_any B _ ts (q + 1) W h (by have := HMM.out; omega) (by omega) (by omega)
          rw [← HMM.out, ← hq'] at this
          rwa [Int.natCast_add] at this
        have HQ' : Hid (q' ≤ 1 + 2097153 * (j + 1) ∧ 0 < q' ∧ q' ≤ 4398046511103) := Lib.hid (by have := HQ.out; omega)
        have HJN := Lib.hid hlt
        have HM7 := Lib.hid ht1
        clear hq' ht1
        go_wp2_with (first
          | (go_at_call 30; refine (mark_any q hq0 hq2 _).mono ?_; rintro e w1 ⟨rfl, hb1⟩; have HM1 := Lib.hid (HM.out.below hb1); have HT1 := Lib.hid (HT.out.trans (below_turns hb1)); obtain ⟨⟨e0, e1⟩, f0, f1⟩ := stCells HM1.out.row hL; rw [← HTV.out] at e1; have HP := Lib.hid (HM1.out.name hL (markS q)); have HX1 := Lib.hid (RowR.below HTS.out hb1); clear hb1)
          | (go_at_call 58; refine (HC.out _ (RowR.other (u := .slice (some ⟨g, 0, none⟩) 0 0) HX1.out HP.out.2 (fun k hk e => HM.out.nv j k hL (HK.out k hk) e))).mono ?_; rintro e w2 ⟨rfl, hx2, hg2⟩; have HX2 := Lib.hid hx2; have HG2 := Lib.hid hg2; clear hx2 hg2))
        go_roundw
        case rel =>
          have e : (R.set j ⟨markS q, R[j].tv⟩)[j]'(by simpa using hL) = ⟨markS q, R[j].tv⟩ := by rw [List.getElem_set_self]
          have h2 := MkI.tests (w' := w2) (ts := marksX (q + 1) m) HP.out.1 (j := j) (by simpa using hL) (by rw [e]; rw [← HTV.out]; exact HX2.out) (by rw [marksX_length]; exact HM7.out) (by rw [e]; rw [← HTV.out]; exact HG2.out)
          refine ⟨j + 1, q', _, by omega, Lib.hid HQ'.out.1, HQ'.out.2, rfl, by go_num, Lib.hid ⟨by rw [List.length_set]; exact HL.out.1, HL.out.2⟩, Lib.hid h2, Lib.hid ((HT1.out.trans (grown_turns HP.out.2 (fun b hb => HS1.out b (by rw [← hb]; rfl)))).trans (grown_turns HG2.out (fun b hb => HS2.out j b (by rw [HL.out.2]; exact HJN.out) (HK.out b hb))))⟩
        case measure => simp [intOf]; omega
      · go_wp2
        go_ret
        exact ⟨q, ⟨rfl, by omega⟩, HT.out⟩
end Go.Proofs.Ytdkpleghpnflhaa
