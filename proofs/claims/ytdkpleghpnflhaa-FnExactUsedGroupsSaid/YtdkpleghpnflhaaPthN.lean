/- CHAPTER 7: marks written into owned steps with their tests, told; and told again when they are read. -/
import Derived.Test.YtdkpleghpnflhaaPthM
set_option linter.unusedVariables false
set_option linter.unusedSimpArgs false
namespace Go.Proofs.Ytdkpleghpnflhaa
open Go.RowKit NumP

/-- the steps as they stand once they are marked from k on -/
def mkStp (k : Nat) (s : Stp) : Stp := ⟨markS k, marksX (k + 1) s.ts.length⟩
def mkStps : Nat → List Stp → List Stp
  | _, [] => []
  | k, s :: r => mkStp k s :: mkStps (k + 1 + 2 * s.ts.length) r
def endStps : Nat → List Stp → Nat
  | k, [] => k
  | k, s :: r => endStps (k + 1 + 2 * s.ts.length) r
theorem endStps_snoc : ∀ (k : Nat) (l : List Stp) (s : Stp), endStps k (l ++ [s]) = endStps k l + 1 + 2 * s.ts.length
  | k, [], s => rfl
  | k, x :: r, s => endStps_snoc _ r s
theorem mkStps_snoc : ∀ (k : Nat) (l : List Stp) (s : Stp), mkStps k (l ++ [s]) = mkStps k l ++ [mkStp (endStps k l) s]
  | k, [], s => rfl
  | k, x :: r, s => by show mkStp k x :: mkStps _ (r ++ [s]) = _; rw [mkStps_snoc]; rfl
theorem mkStps_len : ∀ (k : Nat) (l : List Stp), (mkStps k l).length = l.length
  | _, [] => rfl
  | k, x :: r => by show (mkStps _ r).length + 1 = _; rw [mkStps_len]; rfl
theorem endStps_ge (l : List Stp) : ∀ k, k ≤ endStps k l := by
  induction l with
  | nil => intro k; exact Nat.le_refl _
  | cons x r ih => intro k; have := ih (k + 1 + 2 * x.ts.length); show k ≤ endStps (k + 1 + 2 * x.ts.length) r; omega
theorem take_next {α : Type} {l : List α} {j : Nat} (hj : j < l.length) : l.take (j + 1) = l.take j ++ [l[j]] := by rw [List.take_add_one, List.getElem?_eq_getElem hj]; rfl
theorem endStps_next {l : List Stp} {j k : Nat} (hj : j < l.length) : endStps k (l.take (j + 1)) = endStps k (l.take j) + 1 + 2 * l[j].ts.length := by rw [take_next hj, endStps_snoc]
theorem mkStps_next {l : List Stp} {j k : Nat} (hj : j < l.length) : (mkStps k (l.take j) ++ l.drop j).set j (mkStp (endStps k (l.take j)) l[j]) = mkStps k (l.take (j + 1)) ++ l.drop (j + 1) := by
  have e : (mkStps k (l.take j)).length = j := by rw [mkStps_len, List.length_take]; omega
  rw [List.set_append_right _ _ (by rw [e]; exact Nat.le_refl _), e, Nat.sub_self, List.drop_eq_getElem_cons hj, List.set_cons_zero, take_next hj, mkStps_snoc, List.append_assoc]; rfl
theorem endStps_bd {l : List Stp} (hs : ∀ s ∈ l, s.ts.length ≤ 1048576) : ∀ j k, j ≤ l.length → endStps k (l.take j) ≤ k + 2097153 * j
  | 0, k, _ => by simp [endStps]
  | j + 1, k, h => by
    rw [endStps_next (by omega)]
    have := endStps_bd hs j k (by omega)
    have := hs _ (List.getElem_mem (l := l) (n := j) (by omega))
    omega
theorem mkStps_get (l : List Stp) : ∀ (k j : Nat) (h : j < (mkStps k l).length) (h' : j < l.length), (mkStps k l)[j] = mkStp (endStps k (l.take j)) l[j] := by
  induction l with
  | nil => intro k j h h'; simp at h'
  | cons x r ih =>
    intro k j h h'
    cases j with
    | zero => rfl
    | succ j => exact ih (k + 1 + 2 * x.ts.length) j (by simpa [mkStps] using h) (by simpa using h')
/-- steps that are being marked: M tells what they are now -/
structure MkJ (B : Nat) (w : World) (v : Value) (R : List StR) (M : List Stp) (K : Nat → Nat → Prop) : Prop where
  row : RowT7 B w v R
  len : R.length = M.length
  ts : ∀ i (h : i < R.length) (h' : i < M.length), R[i].n = M[i].n ∧ RowX B w R[i].tv M[i].ts ∧ ∀ b, R[i].tv.ownBlock = some b ↔ K i b
  dis : ∀ i j b, i < R.length → j < R.length → K i b → K j b → i = j
  nv : ∀ i b, i < R.length → K i b → v.ownBlock ≠ some b
theorem MkJ.below {B : Nat} {w w' : World} {v : Value} {R : List StR} {M : List Stp} {K : Nat → Nat → Prop} (h : MkJ B w v R M K) (hb : Below w.heap.size w w') : MkJ B w' v R M K :=
  ⟨RowR.below h.row hb, h.len, fun i hi hi' => ⟨(h.ts i hi hi').1, RowR.below (h.ts i hi hi').2.1 hb, (h.ts i hi hi').2.2⟩, h.dis, h.nv⟩
/-- the j-th step anew: its name stored, then its tests turned -/
theorem MkJ.name {B g n cap : Nat} {w : World} {R : List StR} {M : List Stp} {K : Nat → Nat → Prop} (h : MkJ B w (.slice (some ⟨g, 0, none⟩) n cap) R M K) {j : Nat} (hj : j < R.length) (hj' : j < M.length) (x : ByteArray) :
    MkJ B (w.setCell ⟨g, j * 2, none⟩ (.string x)) (.slice (some ⟨g, 0, none⟩) n cap) (R.set j ⟨x, R[j].tv⟩) (M.set j ⟨x, M[j].ts⟩) K ∧ w.grownBy (w.setCell ⟨g, j * 2, none⟩ (.string x)) (some g) := by
  have h0 := RowR.set1 StR.enc_len h.row hj 0 (by omega) (.string x) ⟨x, R[j].tv⟩ rfl
  refine ⟨⟨h0.1, by rw [List.length_set, List.length_set]; exact h.len, fun i hi hi' => ?_, fun i k b h1 h2 => h.dis i k b (by simpa using h1) (by simpa using h2), fun i b h1 => h.nv i b (by simpa using h1)⟩, h0.2⟩
  have hi1 : i < R.length := by simpa using hi
  have hi2 : i < M.length := by simpa using hi'
  obtain ⟨h1, h2, h3⟩ := h.ts i hi1 hi2
  have h2' := RowR.other (u := .slice (some ⟨g, 0, none⟩) 0 0) h2 h0.2 (fun k hk e => h.nv i k hi1 ((h3 k).1 hk) e)
  by_cases e : i = j
  · subst e; rw [List.getElem_set_self, List.getElem_set_self]; exact ⟨rfl, h2', h3⟩
  · rw [List.getElem_set_ne (by omega), List.getElem_set_ne (by omega)]; exact ⟨h1, h2', h3⟩
theorem MkJ.tests {B g n cap : Nat} {w w' : World} {R : List StR} {M : List Stp} {K : Nat → Nat → Prop} (h : MkJ B w (.slice (some ⟨g, 0, none⟩) n cap) R M K) {j : Nat} (hj : j < R.length) (hj' : j < M.length) {ts : List Tst} (ht : RowX B w' R[j].tv ts)
    (hg : w.grownBy w' R[j].tv.ownBlock) : MkJ B w' (.slice (some ⟨g, 0, none⟩) n cap) R (M.set j ⟨M[j].n, ts⟩) K := by
  obtain ⟨hjn, _, hK⟩ := h.ts j hj hj'
  refine ⟨RowR.other h.row hg (fun k hk e => h.nv j k hj ((hK k).1 e) hk), by rw [List.length_set]; exact h.len, fun i hi hi' => ?_, h.dis, h.nv⟩
  have hi2 : i < M.length := by simpa using hi'
  by_cases e : i = j
  · subst e; rw [List.getElem_set_self]; exact ⟨hjn, ht, hK⟩
  · rw [List.getElem_set_ne (by omega)]
    obtain ⟨h1, h2, h3⟩ := h.ts i hi hi2
    exact ⟨h1, RowR.other h2 hg (fun k hk e' => e (h.dis i j k hi hj ((h3 k).1 hk) ((hK k).1 e'))), h3⟩
theorem OwnS.mkJ {B : Nat} {w : World} {v : Value} {l : List Stp} {S : Nat → Prop} (h : OwnS B w v l S) :
    ∃ (R : List StR) (K : Nat → Nat → Prop), MkJ B w v R l K ∧ ∀ b, S b ↔ v.ownBlock = some b ∨ ∃ i, i < R.length ∧ K i b := by
  obtain ⟨R, K, h1, h2, h3, h4, h5, h6⟩ := OwL.parts h
  have h2' : R.length = l.length := by rw [h2, List.length_map]
  refine ⟨R, fun i b => ∃ h : i < R.length, R[i].tv.ownBlock = some b, ⟨h1, h2', fun i hi hi' => ?_, fun i j b hi hj hk hk' => ?_, fun i b hi hk => ?_⟩, fun b => (h6 b).trans (or_congr Iff.rfl (exists_congr fun i => and_congr_right fun hi => ?_))⟩
  · obtain ⟨S1, S2, ⟨⟨q1, q2⟩, q3⟩, _, _, q4⟩ := h3 i hi (by rw [← h2]; exact hi)
    rw [List.getElem_map] at q1 q2
    exact ⟨q1, q2, fun b => ⟨fun e => ⟨hi, e⟩, fun ⟨_, e⟩ => e⟩⟩
  all_goals
    have hKo : ∀ i (hi : i < R.length) b, K i b ↔ R[i].tv.ownBlock = some b := fun i hi b => by
      obtain ⟨S1, S2, ⟨⟨q1, q2⟩, q3⟩, q5, _, q4⟩ := h3 i hi (by rw [← h2]; exact hi)
      constructor
      · intro hk
        rcases (q4 b).1 hk with h | h
        · exact (q3 b).1 h
        · rw [List.getElem_map] at q5
          have := (q5.2.2 b).1 h
          simp [stK, Value.ownBlock] at this
      · intro e; exact (q4 b).2 (.inl ((q3 b).2 e))
  · obtain ⟨_, e⟩ := hk
    obtain ⟨_, e'⟩ := hk'
    exact h4 i j b hi hj ((hKo i hi b).2 e) ((hKo j hj b).2 e')
  · obtain ⟨_, e⟩ := hk
    exact h5 i b hi ((hKo i hi b).2 e)
  · rw [hKo i hi b]; exact ⟨fun e => ⟨hi, e⟩, fun ⟨_, e⟩ => e⟩
theorem MkJ.own {B : Nat} {w : World} {v : Value} {R : List StR} {M : List Stp} {K : Nat → Nat → Prop} {S : Nat → Prop} (h : MkJ B w v R M K) (hS : ∀ b, S b ↔ v.ownBlock = some b ∨ ∃ i, i < R.length ∧ K i b) : OwnS B w v M S := by
  refine OwL.whole (k := stK) (d := 0) (R := R) (K := K) h.row (by rw [List.length_map]; exact h.len) (fun i h1 h2 => ?_) h.dis h.nv hS
  have h2' : i < M.length := by rw [← h.len]; exact h1
  have := h.ts i h1 h2'
  refine ⟨fun b => R[i].tv.ownBlock = some b, fun _ => False, ⟨⟨?_, ?_⟩, fun b => Iff.rfl⟩, ?_, fun b _ hb => hb, fun b => ?_⟩
  · rw [List.getElem_map]; exact this.1
  · rw [List.getElem_map]; exact this.2.1
  · rw [List.getElem_map]; exact ⟨rfl, ⟨by simp, .inl ⟨rfl, rfl⟩⟩, fun b => by simp [stK, Value.ownBlock]⟩
  · exact ⟨fun hh => .inl ((this.2.2 b).2 hh), fun hh => hh.elim (this.2.2 b).1 False.elim⟩
theorem bd_ok {x k j n : Nat} (h : x ≤ k + 2097153 * j) (hj : j ≤ n) (hn : n ≤ 1048576) (hk : k ≤ 3458764513820540928) : x ≤ 3999999999999999999 := by omega
set_option maxRecDepth 100000 in
set_option maxHeartbeats 1000000 in
theorem markStpsT_any (B k : Nat) (v : Value) (l : List Stp) (S : Nat → Prop) (w : World) (hv : OwnS B w v l S) (hn : l.length ≤ 1048576) (hs : ∀ s ∈ l, s.ts.length ≤ 1048576) (hk0 : 0 < k) (hk : k ≤ 3458764513820540928) :
    Calls Try.prog 50 #[v, .int .i64 k] w fun e w' => e = .returned (.int .i64 (endStps k l : Nat)) ∧ OwnS B w' v (mkStps k l) S ∧ TurnsAt S w w' := by
  obtain ⟨R0, K, hm, hS⟩ := hv.mkJ
  have hl := hm.len
  rcases RowR.form hm.row with ⟨rfl, hl0⟩ | ⟨g, cap, rfl, hg0, hg⟩
  · obtain rfl : l = [] := List.length_eq_zero_iff.1 (by rw [← hl, hl0]; rfl)
    clear hm hl hl0
    go_enter Try.func50, Try.ntmps50
    go_wp2
    go_loopw [1, 5] (fun x i wr => x = .int .i64 k ∧ i = .int .i64 0 ∧ wr = w) (fun _ _ _ => 0)
    case atStart => exact ⟨rfl, rfl, rfl⟩
    case round =>
      obtain ⟨rfl, rfl, rfl⟩ := hrel
      go_wp2
      go_ret
      exact ⟨rfl, hv, TurnsAt.refl _ _⟩
  · obtain ⟨n, hnn⟩ : ∃ n, n = R0.length := ⟨_, rfl⟩
    have HS := Lib.hid hS
    have HM0 := Lib.hid hm
    have HN0 := Lib.hid hnn
    have HL0 : Hid (n = l.length) := Lib.hid (hnn.trans hl)
    have HBD := Lib.hid (fun j hj => endStps_bd hs j k hj)
    have HTS := Lib.hid hs
    have hn1 : n ≤ 1048576 := by rw [HL0.out]; exact hn
    rw [← hnn] at HM0 ⊢
    have hn2 : n ≤ 9223372036854775807 := by omega
    clear hm hv hs hnn hl hS hn
    go_enter Try.func50, Try.ntmps50
    go_wp2
    go_loopw [1, 5] (fun x i wr => ∃ (j q : Nat) (R : List StR), j ≤ n ∧ Hid (q = endStps k (l.take j)) ∧ (0 < q ∧ q ≤ 3999999999999999999) ∧ x = .int .i64 q ∧ i = .int .i64 j ∧ Hid (R.length = n ∧ R0.length = n) ∧ Hid (MkJ B wr (.slice (some ⟨g, 0, none⟩) n cap) R (mkStps k (l.take j) ++ l.drop j) K) ∧ Hid (TurnsAt S w wr)) (fun _ i _ => n - (intOf i).toNat)
    case atStart => exact ⟨0, k, R0, Nat.zero_le _, Lib.hid rfl, by omega, rfl, rfl, Lib.hid ⟨HN0.out.symm, HN0.out.symm⟩, Lib.hid HM0.out, Lib.hid (TurnsAt.refl _ _)⟩
    case round =>
      clear HM0 HN0
      obtain ⟨j, q, R, hj, HQ, ⟨hq0, hq⟩, rfl, rfl, HL, HM, HT⟩ := hrel
      by_cases hlt : j < n
      · have hL : j < R.length := by have := HL.out.1; omega
        have hl : j < l.length := by have := HL0.out; omega
        have hML : j < (mkStps k (l.take j) ++ l.drop j).length := by rw [← HM.out.len]; exact hL
        have eM : (mkStps k (l.take j) ++ l.drop j)[j] = l[j] := by
          have e : (mkStps k (l.take j)).length = j := by rw [mkStps_len, List.length_take]; omega
          rw [List.getElem_append_right (by rw [e]; exact Nat.le_refl _)]
          simp [e]
        have hq2 : q ≤ 4611686018427387904 := by omega
        obtain ⟨ht1, ht2, ht3⟩ := HM.out.ts j hL hML
        rw [eM] at ht2
        obtain ⟨s0, hs0⟩ : ∃ s, s = l[j] := ⟨_, rfl⟩
        rw [← hs0] at ht2
        have hm0 : s0.ts.length ≤ 1048576 := by rw [hs0]; exact HTS.out _ (List.getElem_mem _)
        have HS0 : Hid (∀ h : j < l.length, l[j] = s0) := Lib.hid fun _ => hs0.symm
        have hqb : q + 1 + 2 * s0.ts.length = endStps k (l.take (j + 1)) := by rw [endStps_next hl, ← HQ.out, hs0]
        have hML' : Hid (j < (mkStps k (l.take j) ++ l.drop j).length) := Lib.hid hML
        have HLJ := Lib.hid hl
        obtain ⟨A', c', etv, -⟩ := RowR.hasX ht2
        have HK := Lib.hid ht3
        obtain ⟨tv, htv⟩ : ∃ tv, tv = R[j].tv := ⟨_, rfl⟩
        rw [← htv] at ht2 etv HK
        have HTV := Lib.hid htv
        have HTS2 := Lib.hid ht2
        obtain ⟨m, hm⟩ : ∃ m, m = s0.ts.length := ⟨_, rfl⟩
        have HMM := Lib.hid hm
        rw [← hm] at etv hm0 hqb
        clear ht2 ht3 htv hm ht1 eM hs0
        subst etv
        obtain ⟨q', hq'⟩ : ∃ q', q' = q + 1 + 2 * m := ⟨_, rfl⟩
        have HC : Hid (∀ W, RowX B W (.slice A' m c') s0.ts → Calls Try.prog 58 #[.slice A' m c', .int .i64 ((q : Int) + 1)] W fun e w' => e = .returned (.int .i64 (q' : Int)) ∧ RowX B w' (.slice A' m c') (marksX (q + 1) m) ∧ W.grownBy w' (Value.slice A' m c').ownBlock) := Lib.hid fun W h => by
          have := markTsts_any B _ s0.ts (q + 1) W h (by have := HMM.out; omega) (by omega) (by omega)
          rw [← HMM.out, ← hq'] at this
          rwa [Int.natCast_add] at this
        have HQN : Hid (q' = endStps k (l.take (j + 1))) := Lib.hid (hq'.trans hqb)
        have HQ' : Hid (0 < q' ∧ q' ≤ 3999999999999999999) := Lib.hid ⟨by omega, by rw [HQN.out]; exact bd_ok (HBD.out (j + 1) hl) hlt hn1 hk⟩
        have HJN := Lib.hid hlt
        have HMLJ := hML'
        clear hq' hl hML hm0 hqb
        go_wp2_with (first
          | (go_at_call 30; refine (mark_any q hq0 hq2 _).mono ?_; rintro e w1 ⟨rfl, hb1⟩; have HM1 := Lib.hid (HM.out.below hb1); have HT1 := Lib.hid (HT.out.trans (below_turns hb1)); obtain ⟨⟨e0, e1⟩, f0, f1⟩ := stCells HM1.out.row hL; rw [← HTV.out] at e1; have HP := Lib.hid (HM1.out.name hL HMLJ.out (markS q)); have HX1 := Lib.hid (RowR.below HTS2.out hb1); clear hb1)
          | (go_at_call 58; refine (HC.out _ (RowR.other (u := .slice (some ⟨g, 0, none⟩) 0 0) HX1.out HP.out.2 (fun k hk e => HM.out.nv j k hL ((HK.out k).1 hk) e))).mono ?_; rintro e w2 ⟨rfl, hx2, hg2⟩; have HX2 := Lib.hid hx2; have HG2 := Lib.hid hg2; clear hx2 hg2))
        go_roundw
        case rel =>
          have e : (R.set j ⟨markS q, R[j].tv⟩)[j]'(by simpa using hL) = ⟨markS q, R[j].tv⟩ := by rw [List.getElem_set_self]
          have h2 := MkJ.tests (w' := w2) (ts := marksX (q + 1) m) HP.out.1 (j := j) (by simpa using hL) (by simpa using HMLJ.out) (by rw [e]; rw [← HTV.out]; exact HX2.out) (by rw [e]; rw [← HTV.out]; exact HG2.out)
          rw [List.getElem_set_self, List.set_set] at h2
          have e2 : (⟨markS q, marksX (q + 1) m⟩ : Stp) = mkStp (endStps k (l.take j)) (l[j]'HLJ.out) := by rw [← HQ.out]; unfold mkStp; rw [HS0.out HLJ.out, ← HMM.out]
          rw [show ((⟨(⟨markS q, ((mkStps k (l.take j) ++ l.drop j)[j]'HMLJ.out).ts⟩ : Stp).n, marksX (q + 1) m⟩ : Stp)) = mkStp (endStps k (l.take j)) (l[j]'HLJ.out) from e2, mkStps_next HLJ.out] at h2
          refine ⟨j + 1, q', _, by omega, HQN, HQ'.out, rfl, by go_num, Lib.hid ⟨by rw [List.length_set]; exact HL.out.1, HL.out.2⟩, Lib.hid h2, Lib.hid ((HT1.out.trans (grown_turns HP.out.2 (fun b hb => (HS.out b).2 (.inl (by rw [← hb]; rfl))))).trans (grown_turns HG2.out (fun b hb => (HS.out b).2 (.inr ⟨j, by rw [HL.out.2]; exact HJN.out, (HK.out b).1 hb⟩))))⟩
        case measure => simp [intOf]; omega
      · have e : j = n := by omega
        subst e
        have hd : l.drop j = [] := List.drop_eq_nil_of_le (by rw [← HL0.out]; exact Nat.le_refl _)
        have htk : l.take j = l := List.take_of_length_le (by rw [← HL0.out]; exact Nat.le_refl _)
        have HFIN : Hid (OwnS B wr (.slice (some ⟨g, 0, none⟩) j cap) (mkStps k l) S) := Lib.hid (by
          have h := HM.out
          rw [hd, htk, List.append_nil] at h
          exact h.own (fun b => by rw [HL.out.1, ← HL.out.2]; exact HS.out b))
        have HQF : Hid (q = endStps k l) := Lib.hid (by rw [HQ.out, htk])
        clear hd htk
        go_wp2
        go_ret
        rw [HQF.out]
        exact ⟨rfl, HFIN.out, HT.out⟩
end Go.Proofs.Ytdkpleghpnflhaa
