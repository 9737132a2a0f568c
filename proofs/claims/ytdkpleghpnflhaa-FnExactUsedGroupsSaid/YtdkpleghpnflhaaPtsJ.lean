/- CHAPTER 8: marks written into owned expressions (what stands there then is not told): laws.markExprS, markExpr. -/
import Derived.Test.YtdkpleghpnflhaaPtsG
import Derived.Test.YtdkpleghpnflhaaPtsC
import Derived.Test.YtdkpleghpnflhaaMark
import Derived.Test.YtdkpleghpnflhaaPthO
set_option linter.unusedVariables false
set_option linter.unusedSimpArgs false
namespace Go.Proofs.Ytdkpleghpnflhaa
open Go.RowKit NumP

abbrev RowE7 (B : Nat) (w : World) (v : Value) (R : List ExR) : Prop := RowR ExR.enc 7 111 B w v R
theorem exCellsJ {B g n cap : Nat} {w : World} {L : List ExR} (h : RowE7 B w (.slice (some ⟨g, 0, none⟩) n cap) L) {i : Nat} (hi : i < L.length) :
    (w.cell? ⟨g, i * 7, none⟩ = some (.int .i64 L[i].op) ∧ w.cell? ⟨g, i * 7 + 1, none⟩ = some (.int .i64 L[i].num) ∧ w.cell? ⟨g, i * 7 + 2, none⟩ = some (.string L[i].text) ∧ w.cell? ⟨g, i * 7 + 3, none⟩ = some (.bool L[i].root) ∧ w.cell? ⟨g, i * 7 + 4, none⟩ = some (.int .i64 L[i].ups) ∧ w.cell? ⟨g, i * 7 + 5, none⟩ = some L[i].sv ∧ w.cell? ⟨g, i * 7 + 6, none⟩ = some L[i].kv) ∧
      w.frozen? ⟨g, i * 7, none⟩ = false ∧ w.frozen? ⟨g, i * 7 + 1, none⟩ = false ∧ w.frozen? ⟨g, i * 7 + 2, none⟩ = false ∧ w.frozen? ⟨g, i * 7 + 3, none⟩ = false ∧ w.frozen? ⟨g, i * 7 + 4, none⟩ = false :=
  ⟨⟨RowR.cell ExR.enc_len h hi (j := 0) rfl, RowR.cell ExR.enc_len h hi (j := 1) rfl, RowR.cell ExR.enc_len h hi (j := 2) rfl, RowR.cell ExR.enc_len h hi (j := 3) rfl, RowR.cell ExR.enc_len h hi (j := 4) rfl, RowR.cell ExR.enc_len h hi (j := 5) rfl, RowR.cell ExR.enc_len h hi (j := 6) rfl⟩, RowR.frozen h _, RowR.frozen h _, RowR.frozen h _, RowR.frozen h _, RowR.frozen h _⟩
theorem RowE7.put2 {B g n cap : Nat} {w : World} {R : List ExR} (h : RowE7 B w (.slice (some ⟨g, 0, none⟩) n cap) R) {j : Nat} (hj : j < R.length) (x y : Int) :
    RowE7 B ((w.setCell ⟨g, j * 7, none⟩ (.int .i64 x)).setCell ⟨g, j * 7 + 1, none⟩ (.int .i64 y)) (.slice (some ⟨g, 0, none⟩) n cap) (R.set j ⟨x, y, R[j].text, R[j].root, R[j].ups, R[j].sv, R[j].kv⟩) ∧ w.grownBy ((w.setCell ⟨g, j * 7, none⟩ (.int .i64 x)).setCell ⟨g, j * 7 + 1, none⟩ (.int .i64 y)) (some g) := by
  have h0 := RowR.set1 ExR.enc_len h hj 0 (by omega) (.int .i64 x) ⟨x, R[j].num, R[j].text, R[j].root, R[j].ups, R[j].sv, R[j].kv⟩ rfl
  have h1 := RowR.set1 ExR.enc_len h0.1 (i := j) (by simpa using hj) 1 (by omega) (.int .i64 y) ⟨x, y, R[j].text, R[j].root, R[j].ups, R[j].sv, R[j].kv⟩ (by simp [ExR.enc])
  have hr := h1.1
  rw [List.set_set] at hr
  exact ⟨hr, h0.2.trans h1.2⟩
theorem RowE7.put3 {B g n cap : Nat} {w : World} {R : List ExR} (h : RowE7 B w (.slice (some ⟨g, 0, none⟩) n cap) R) {j : Nat} (hj : j < R.length) (s : ByteArray) (x : Bool) (y : Int) :
    RowE7 B (((w.setCell ⟨g, j * 7 + 2, none⟩ (.string s)).setCell ⟨g, j * 7 + 3, none⟩ (.bool x)).setCell ⟨g, j * 7 + 4, none⟩ (.int .i64 y)) (.slice (some ⟨g, 0, none⟩) n cap) (R.set j ⟨R[j].op, R[j].num, s, x, y, R[j].sv, R[j].kv⟩) ∧ w.grownBy (((w.setCell ⟨g, j * 7 + 2, none⟩ (.string s)).setCell ⟨g, j * 7 + 3, none⟩ (.bool x)).setCell ⟨g, j * 7 + 4, none⟩ (.int .i64 y)) (some g) := by
  have h0 := RowR.set1 ExR.enc_len h hj 2 (by omega) (.string s) ⟨R[j].op, R[j].num, s, R[j].root, R[j].ups, R[j].sv, R[j].kv⟩ rfl
  have h1 := RowR.set1 ExR.enc_len h0.1 (i := j) (by simpa using hj) 3 (by omega) (.bool x) ⟨R[j].op, R[j].num, s, x, R[j].ups, R[j].sv, R[j].kv⟩ (by simp [ExR.enc])
  have h2 := RowR.set1 ExR.enc_len h1.1 (i := j) (by simpa using hj) 4 (by omega) (.int .i64 y) ⟨R[j].op, R[j].num, s, x, y, R[j].sv, R[j].kv⟩ (by simp [ExR.enc])
  have hr := h2.1
  rw [List.set_set, List.set_set] at hr
  exact ⟨hr, (h0.2.trans h1.2).trans h2.2⟩
/-- from the j-th on the lists are as they were -/
def SameK (R0 R : List ExR) (j : Nat) : Prop := R.length = R0.length ∧ ∀ i (h : i < R.length) (h0 : i < R0.length), j ≤ i → R[i].sv = R0[i].sv ∧ R[i].kv = R0[i].kv
theorem SameK.set {R0 R : List ExR} {j : Nat} (h : SameK R0 R j) (r : ExR) : SameK R0 (R.set j r) (j + 1) := ⟨by rw [List.length_set]; exact h.1, fun i h1 h0 hi => by
  have h2 : i < R.length := by simpa using h1
  rw [List.getElem_set_ne (by omega)]
  exact h.2 i h2 h0 (by omega)⟩
theorem SameK.set2 {R0 R : List ExR} {j : Nat} (h : SameK R0 R (j + 1)) (r : ExR) : SameK R0 (R.set j r) (j + 1) := ⟨by rw [List.length_set]; exact h.1, fun i h1 h0 hi => by
  have h2 : i < R.length := by simpa using h1
  rw [List.getElem_set_ne (by omega)]
  exact h.2 i h2 h0 hi⟩
theorem endStps_c {l : List Stp} (hn : l.length ≤ 1048576) (hs : ∀ s ∈ l, s.ts.length ≤ 1048576) (k : Nat) : endStps k l ≤ k + 2199024304128 := by
  have := endStps_bd hs l.length k (Nat.le_refl _)
  rw [List.take_length] at this
  omega
def MkES (d : Nat) : Prop := ∀ (B k : Nat) (v : Value) (l : List Ex) (S : Nat → Prop) (w : World), OwL exK d B w v l S → SizT ExSz d l → 0 < k → k + 2199024304133 * sizeS l ≤ 3458764513820540000 →
  Calls Try.prog 32 #[v, .int .i64 k] w fun e w' => ∃ k' : Nat, e = .returned (.int .i64 (k' : Int)) ∧ (k ≤ k' ∧ k' ≤ k + 2199024304133 * sizeS l) ∧ TurnsAt S w w'
set_option maxRecDepth 100000 in
theorem mkES_nil (k : Nat) (A : Option Addr) (c : Nat) (S : Nat → Prop) (w : World) : Calls Try.prog 32 #[.slice A 0 c, .int .i64 k] w fun e w' => ∃ k' : Nat, e = .returned (.int .i64 (k' : Int)) ∧ (k ≤ k' ∧ k' ≤ k + 2199024304133 * sizeS ([] : List Ex)) ∧ TurnsAt S w w' := by
  go_enter Try.func32, Try.ntmps32
  go_wp2
  go_loopw [1, 5] (fun x i wr => x = .int .i64 k ∧ i = .int .i64 0 ∧ wr = w) (fun _ _ _ => 0)
  case atStart => exact ⟨rfl, rfl, rfl⟩
  case round =>
    obtain ⟨rfl, rfl, rfl⟩ := hrel
    go_wp2
    go_ret
    exact ⟨k, rfl, ⟨Nat.le_refl _, by omega⟩, TurnsAt.refl _ _⟩
set_option maxRecDepth 100000 in
set_option maxHeartbeats 4000000 in
theorem mkES_of (d : Nat) (ih : ∀ e, d = e + 1 → MkES e) : MkES d := by
  intro B k v l S w hv hz hk0 hk
  by_cases hl0 : l = []
  · subst hl0
    obtain ⟨A, c, rfl⟩ : ∃ A c, v = .slice A 0 c := by
      rcases hv.form with ⟨h1, _⟩ | ⟨g, cap, h1, _⟩
      · exact ⟨_, _, h1⟩
      · exact ⟨_, _, h1⟩
    exact mkES_nil k A c S w
  cases d with
  | zero => exact absurd hv.1 hl0
  | succ d =>
  obtain ⟨g, cap, rfl, hgB, hgl⟩ : ∃ g cap, v = .slice (some ⟨g, 0, none⟩) l.length cap ∧ B ≤ g ∧ g < w.heap.size := by
    rcases hv.form with ⟨_, h⟩ | h
    · exact absurd h hl0
    · exact h
  obtain ⟨R0, K, hrow, hlen, hx, hdis, hnv, hS⟩ : ∃ (R0 : List ExR) (K : Nat → Nat → Prop), RowE7 B w (.slice (some ⟨g, 0, none⟩) l.length cap) R0 ∧ R0.length = l.length ∧
    (∀ i (h : i < R0.length) (h' : i < l.length), ∃ S1 S2 : Nat → Prop, ((R0[i].op = l[i].x.op ∧ R0[i].num = l[i].x.num ∧ R0[i].text = l[i].x.text) ∧ OwnP7 B w ⟨R0[i].root, R0[i].ups, R0[i].sv⟩ l[i].x.p S1) ∧ OwL exK d B w R0[i].kv l[i].kids S2 ∧ (∀ b, S1 b → S2 b → False) ∧ ∀ b, K i b ↔ S1 b ∨ S2 b) ∧
    (∀ i j b, i < R0.length → j < R0.length → K i b → K j b → i = j) ∧ (∀ i b, i < R0.length → K i b → (Value.slice (some ⟨g, 0, none⟩) l.length cap).ownBlock ≠ some b) ∧ ∀ b, S b ↔ (Value.slice (some ⟨g, 0, none⟩) l.length cap).ownBlock = some b ∨ ∃ i, i < R0.length ∧ K i b := hv
  have ih := ih d rfl
  obtain ⟨n, hn⟩ : ∃ n, n = l.length := ⟨_, rfl⟩
  have hn1 : n ≤ 1048576 := by rw [hn]; exact hz.1
  have HX := Lib.hid hx
  have HZ := Lib.hid hz.2
  have HN := Lib.hid hn
  have HLEN : Hid (R0.length = n) := Lib.hid (by rw [hn]; exact hlen)
  have HDIS := Lib.hid hdis
  have HNV := Lib.hid hnv
  have HSS := Lib.hid hS
  have HK := Lib.hid hk
  have HROW : Hid (RowE7 B w (.slice (some ⟨g, 0, none⟩) n cap) R0) := Lib.hid (by rw [hn]; exact hrow)
  have HTAKE := Lib.hid (fun j => sizeS_take l j)
  rw [← hn]
  have hn2 : n ≤ 9223372036854775807 := by omega
  have hkk : k ≤ 3458764513820540000 := by omega
  clear hrow hlen hx hdis hnv hS hz hk hn hl0
  go_enter Try.func32, Try.ntmps32
  go_wp2
  go_loopw [1, 5] (fun x i wr => ∃ (j q : Nat) (R : List ExR), j ≤ n ∧ Hid (k ≤ q ∧ q ≤ k + 2199024304133 * sizeS (l.take j)) ∧ (0 < q ∧ q ≤ 3458764513820540000) ∧ x = .int .i64 q ∧ i = .int .i64 j ∧ Hid (SameK R0 R j) ∧ Hid (RowE7 B wr (.slice (some ⟨g, 0, none⟩) n cap) R) ∧ Hid (TurnsAt (fun b => b = g ∨ ∃ i, i < j ∧ K i b) w wr)) (fun _ i _ => n - (intOf i).toNat)
  case atStart => exact ⟨0, k, R0, Nat.zero_le _, Lib.hid ⟨Nat.le_refl _, Nat.le_add_right _ _⟩, ⟨hk0, hkk⟩, rfl, rfl, Lib.hid ⟨rfl, fun i h h0 _ => ⟨rfl, rfl⟩⟩, HROW, Lib.hid (TurnsAt.refl _ _)⟩
  case round =>
    clear HROW
    obtain ⟨j, q, R, hj, HQ, ⟨hq0, hq⟩, rfl, rfl, HSM, HR, HT⟩ := hrel
    by_cases hlt : j < n
    · have hL0 : j < R0.length := by rw [HLEN.out]; exact hlt
      have hL : j < R.length := by rw [HSM.out.1]; exact hL0
      have hl : j < l.length := by rw [← HN.out]; exact hlt
      obtain ⟨S1, S2, ⟨-, hop7⟩, hko, hd12, hK⟩ := HX.out j hL0 hl
      obtain ⟨hxz, hkz⟩ := HZ.out _ (List.getElem_mem hl)
      obtain ⟨esv, ekv⟩ := HSM.out.2 j hL hL0 (Nat.le_refl _)
      obtain ⟨A', m', c', etv⟩ : ∃ A n c, R0[j].sv = .slice A n c := by obtain ⟨A, c, hv', _⟩ := hop7.st.has.at; exact ⟨A, _, c, hv'⟩
      obtain ⟨A2, m2, c2, ekv2⟩ : ∃ A n c, R0[j].kv = .slice A n c := by
        rcases OwL.form (show OwL exK d B w R0[j].kv l[j].kids S2 from hko) with ⟨h1, _⟩ | ⟨g', cap', h1, _⟩
        · exact ⟨_, _, _, h1⟩
        · exact ⟨_, _, _, h1⟩
      have hst : OwnS B w (.slice A' m' c') l[j].x.p.st S1 := by have := hop7.st; rwa [etv] at this
      have hkd : OwL exK d B w (.slice A2 m2 c2) l[j].kids S2 := by have : OwL exK d B w R0[j].kv l[j].kids S2 := hko; rwa [ekv2] at this
      rw [etv] at esv
      rw [ekv2] at ekv
      have hSKj : ∀ b, S1 b ∨ S2 b → ¬ (b = g ∨ ∃ i, i < j ∧ K i b) := fun b hb h => by
        have hkb : K j b := (hK b).2 hb
        rcases h with rfl | ⟨i, hi, h⟩
        · exact HNV.out j _ hL0 hkb rfl
        · have := HDIS.out i j b (by omega) hL0 h hkb; omega
      have hsz : sizeS (l.take (j + 1)) = sizeS (l.take j) + sizeN l[j] := sizeS_step l j hl
      have hszN : sizeN l[j] = 1 + sizeS l[j].kids := sizeN_eq _
      have hszL : sizeS (l.take (j + 1)) ≤ sizeS l := HTAKE.out (j + 1)
      have hqb : q + 5 + 2199024304128 + 2199024304133 * sizeS l[j].kids ≤ k + 2199024304133 * sizeS (l.take (j + 1)) := by have := HQ.out.2; rw [hsz, hszN]; omega
      have hqc : k + 2199024304133 * sizeS (l.take (j + 1)) ≤ 3458764513820540000 := Nat.le_trans (Nat.add_le_add_left (Nat.mul_le_mul_left _ hszL) _) HK.out
      have hq5 : q + 5 + 2199024304128 ≤ 3458764513820540000 := by omega
      have HC1 : Hid (∀ W, TurnsAt (fun b => b = g ∨ ∃ i, i < j ∧ K i b) w W → Calls Try.prog 50 #[.slice A' m' c', .int .i64 ((q : Int) + 1 + 1 + 1 + 1 + 1)] W fun e w' => (∃ q' : Nat, e = .returned (.int .i64 (q' : Int)) ∧ q + 5 ≤ q' ∧ q' ≤ q + 5 + 2199024304128) ∧ TurnsAt S1 W w') := Lib.hid fun W ht => by
        have h := markStpsT_any B (q + 5) _ l[j].x.p.st S1 W (OwL.apart hst ht (fun b h1 h2 => hSKj b (.inl h1) h2)) hxz.2.1 (fun s hs => (hxz.2.2 s hs).2.1) (by omega) (by omega)
        rw [show ((q + 5 : Nat) : Int) = (q : Int) + 1 + 1 + 1 + 1 + 1 by omega] at h
        refine h.mono ?_
        rintro e w' ⟨rfl, _, h2⟩
        exact ⟨⟨_, rfl, endStps_ge _ _, endStps_c hxz.2.1 (fun s hs => (hxz.2.2 s hs).2.1) _⟩, h2⟩
      have HC2 : Hid (∀ W (q' : Nat), TurnsAt (fun b => (b = g ∨ ∃ i, i < j ∧ K i b) ∨ S1 b) w W → q + 5 ≤ q' → q' ≤ q + 5 + 2199024304128 → Calls Try.prog 32 #[.slice A2 m2 c2, .int .i64 (q' : Int)] W fun e w' => (∃ q2 : Nat, e = .returned (.int .i64 (q2 : Int)) ∧ q' ≤ q2 ∧ q2 ≤ k + 2199024304133 * sizeS (l.take (j + 1))) ∧ TurnsAt S2 W w') := Lib.hid fun W q' ht h1 h2 => by
        have h := ih B q' _ l[j].kids S2 W (OwL.apart hkd ht (fun b h1 h2 => h2.elim (fun h2 => hSKj b (.inr h1) h2) (fun h2 => hd12 b h2 h1))) hkz (by omega) (by omega)
        refine h.mono ?_
        rintro e w' ⟨k', rfl, ⟨h3, h4⟩, h5⟩
        exact ⟨⟨k', rfl, h3, by omega⟩, h5⟩
      have HKJ : Hid (∀ b, S1 b ∨ S2 b → K j b) := Lib.hid fun b h => (hK b).2 h
      have HQC := Lib.hid hqc
      have HMT := Lib.hid (fun W => mark_any (q + 2) (by omega) (by omega) W)
      rw [show ((q + 2 : Nat) : Int) = (q : Int) + 1 + 1 by omega] at HMT
      obtain ⟨tx, htx⟩ : ∃ t, t = markS (q + 2) := ⟨_, rfl⟩
      rw [← htx] at HMT
      obtain ⟨⟨e0, e1, e2, e3, e4, e5, e6⟩, f0, f1, f2, f3, f4⟩ := exCellsJ HR.out hL
      rw [esv] at e5
      rw [ekv] at e6
      have HP2 := Lib.hid (RowE7.put2 HR.out hL (q : Int) ((q : Int) + 1))
      have HSV := Lib.hid (And.intro esv ekv)
      clear hop7 hko hd12 hK hxz hkz esv ekv etv ekv2 hst hkd hSKj hsz hszN hszL hqb hqc htx hl hL0
      go_wp2_with fail
      refine (HMT.out _).mono ?_
      rintro e w1 ⟨rfl, hb1⟩
      have hR1 : RowE7 B w1 (.slice (some ⟨g, 0, none⟩) n cap) (R.set j ⟨(q : Int), (q : Int) + 1, R[j].text, R[j].root, R[j].ups, R[j].sv, R[j].kv⟩) := RowR.below HP2.out.1 hb1
      have hL1 : j < (R.set j ⟨(q : Int), (q : Int) + 1, R[j].text, R[j].root, R[j].ups, R[j].sv, R[j].kv⟩).length := by simpa using hL
      have HT1 := Lib.hid ((HT.out.trans (grown_turns HP2.out.2 (fun b e => .inl (by cases e; rfl)))).trans (below_turns hb1))
      obtain ⟨R3, hS3, hK3, hP3⟩ : ∃ R3 : List ExR, SameK R0 R3 (j + 1) ∧ (∀ h : j < R3.length, R3[j].kv = .slice A2 m2 c2) ∧ (RowE7 B (((w1.setCell ⟨g, j * 7 + 2, none⟩ (.string tx)).setCell ⟨g, j * 7 + 3, none⟩ (.bool (((q : Int) + 1 + 1 + 1).tmod 3 == 0))).setCell ⟨g, j * 7 + 4, none⟩ (.int .i64 ((q : Int) + 1 + 1 + 1 + 1))) (.slice (some ⟨g, 0, none⟩) n cap) R3 ∧ w1.grownBy (((w1.setCell ⟨g, j * 7 + 2, none⟩ (.string tx)).setCell ⟨g, j * 7 + 3, none⟩ (.bool (((q : Int) + 1 + 1 + 1).tmod 3 == 0))).setCell ⟨g, j * 7 + 4, none⟩ (.int .i64 ((q : Int) + 1 + 1 + 1 + 1))) (some g)) :=
        ⟨_, (HSM.out.set _).set2 _, fun h => by simp [HSV.out.2], RowE7.put3 hR1 hL1 tx (((q : Int) + 1 + 1 + 1).tmod 3 == 0) ((q : Int) + 1 + 1 + 1 + 1)⟩
      have HP3 := Lib.hid hP3
      have HSM3 := Lib.hid hS3
      have HKV3 := Lib.hid hK3
      clear hP3 hS3 hK3
      obtain ⟨⟨x0, x1, x2, x3, x4, x5, x6⟩, g0, g1, g2, g3, g4⟩ := exCellsJ hR1 hL1
      simp only [List.getElem_set_self, HSV.out.1, HSV.out.2] at x0 x1 x2 x3 x4 x5 x6
      clear hR1 hb1 hL1 e0 e1 e2 e3 e4 e5 e6 f0 f1 f2 f3 f4
      go_wp2_with fail
      have HT3 := Lib.hid (HT1.out.trans (grown_turns HP3.out.2 (fun b e => .inl (by cases e; rfl))))
      refine (HC1.out _ HT3.out).mono ?_
      rintro e w3 ⟨⟨q', rfl, h1, h2⟩, h3⟩
      have HT4 : Hid (TurnsAt (fun b => (b = g ∨ ∃ i, i < j ∧ K i b) ∨ S1 b) w w3) := Lib.hid ((HT3.out.mono (fun b h _ => Or.inl h)).trans (h3.mono (fun b h _ => Or.inr h)))
      have hL0 : j < R0.length := by rw [HLEN.out]; exact hlt
      have HG : Hid (∀ b, S1 b ∨ S2 b → b ≠ g) := Lib.hid fun b hb e => HNV.out j b hL0 (HKJ.out b hb) (by rw [e]; rfl)
      have HR3 : Hid (RowE7 B w3 (.slice (some ⟨g, 0, none⟩) n cap) R3) := Lib.hid (rowR_apart HP3.out.1 h3 (fun b e hs => HG.out b (.inl hs) (by cases e; rfl)))
      have hL3 : j < R3.length := by rw [HSM3.out.1]; exact hL0
      have y6 := (exCellsJ HR3.out hL3).1.2.2.2.2.2.2
      rw [HKV3.out hL3] at y6
      have HQ2 := Lib.hid (And.intro h1 h2)
      clear x0 x1 x2 x3 x4 x5 x6 g0 g1 g2 g3 g4 h3
      go_wp2_with fail
      refine (HC2.out _ q' HT4.out HQ2.out.1 HQ2.out.2).mono ?_
      rintro e w4 ⟨⟨q2, rfl, h5, h6⟩, h7⟩
      have HR4 : Hid (RowE7 B w4 (.slice (some ⟨g, 0, none⟩) n cap) R3) := Lib.hid (rowR_apart HR3.out h7 (fun b e hs => HG.out b (.inr hs) (by cases e; rfl)))
      have HT5 : Hid (TurnsAt (fun b => b = g ∨ ∃ i, i < j + 1 ∧ K i b) w w4) := Lib.hid ((HT4.out.mono (fun b h _ => by
        rcases h with (h | ⟨i, hi, h⟩) | h
        · exact .inl h
        · exact .inr ⟨i, by omega, h⟩
        · exact .inr ⟨j, by omega, HKJ.out b (.inl h)⟩)).trans (h7.mono (fun b h _ => .inr ⟨j, by omega, HKJ.out b (.inr h)⟩)))
      have HQ3 : Hid (k ≤ q2 ∧ q2 ≤ k + 2199024304133 * sizeS (l.take (j + 1))) := Lib.hid ⟨by have := HQ.out.1; omega, h6⟩
      have hq2 : 0 < q2 ∧ q2 ≤ 3458764513820540000 := ⟨by omega, Nat.le_trans h6 HQC.out⟩
      clear y6 h1 h2 h5 h6 h7
      go_wp2
      go_roundw
      case rel => exact ⟨j + 1, q2, R3, by omega, HQ3, hq2, rfl, by go_num, HSM3, HR4, HT5⟩
      case measure => simp [intOf]; omega
    · have e : j = n := by omega
      subst e
      have HF : Hid ((k ≤ q ∧ q ≤ k + 2199024304133 * sizeS l) ∧ TurnsAt S w wr) := Lib.hid ⟨by have := HQ.out; rwa [List.take_of_length_le (by rw [← HN.out]; exact Nat.le_refl _)] at this, HT.out.mono (fun b h _ => (HSS.out b).2 (by
        rcases h with h | ⟨i, hi, h⟩
        · left; rw [h]; rfl
        · exact .inr ⟨i, by rw [HLEN.out]; exact hi, h⟩))⟩
      go_wp2
      go_ret
      exact ⟨q, rfl, HF.out.1, HF.out.2⟩
theorem mkES_any : ∀ d, MkES d
  | 0 => mkES_of 0 (fun e h => absurd h (by omega))
  | d + 1 => mkES_of (d + 1) (fun e h => (show d = e by omega) ▸ mkES_any d)
end Go.Proofs.Ytdkpleghpnflhaa
