/- CHAPTER 10: marks written into owned modules (what stands there then is not told): laws.markGroupS, markAugmentS, markModule. PRINTED by tools/gen_mo.py. -/
import Derived.Test.YtdkpleghpnflhaaMoC
import Derived.Test.YtdkpleghpnflhaaScM
set_option linter.unusedVariables false
set_option linter.unusedSimpArgs false
namespace Go.Proofs.Ytdkpleghpnflhaa
open Go.RowKit NumP Go.ChangeShapes Go.WideShapes Go.Deep Go.Joins
set_option maxRecDepth 100000

theorem ownGroup_open {B : Nat} {w : World} {v : Value} {l : List Grp} {S : Nat → Prop} (h : OwnGroup B w v l S) : ∃ (R : List GpR) (K : Nat → Nat → Prop), RowGroup B w v R ∧ R.length = l.length ∧
    (∀ i (h : i < R.length) (h' : i < l.length), ∃ S1 : Nat → Prop, gpK.own B w R[i] l[i] S1 ∧ ∀ b, S1 b → K i b) ∧ (∀ i j b, i < R.length → j < R.length → K i b → K j b → i = j) ∧ (∀ i b, i < R.length → K i b → v.ownBlock ≠ some b) ∧ ∀ b, S b ↔ v.ownBlock = some b ∨ ∃ i, i < R.length ∧ K i b := by
  obtain ⟨R, K, h1, h2, h3, h4, h5, h6⟩ := h
  rw [List.length_map] at h2
  refine ⟨R, K, h1, h2, fun i a b => ?_, h4, h5, h6⟩
  obtain ⟨S1, S2, g1, _, _, g4⟩ := h3 i a (by rw [List.length_map]; exact b)
  rw [List.getElem_map] at g1
  exact ⟨S1, g1, fun q hq => (g4 q).2 (.inl hq)⟩
theorem ownAugment_open {B : Nat} {w : World} {v : Value} {l : List Aug} {S : Nat → Prop} (h : OwnAugment B w v l S) : ∃ (R : List AuR) (K : Nat → Nat → Prop), RowAugment B w v R ∧ R.length = l.length ∧
    (∀ i (h : i < R.length) (h' : i < l.length), ∃ S1 : Nat → Prop, auK.own B w R[i] l[i] S1 ∧ ∀ b, S1 b → K i b) ∧ (∀ i j b, i < R.length → j < R.length → K i b → K j b → i = j) ∧ (∀ i b, i < R.length → K i b → v.ownBlock ≠ some b) ∧ ∀ b, S b ↔ v.ownBlock = some b ∨ ∃ i, i < R.length ∧ K i b := by
  obtain ⟨R, K, h1, h2, h3, h4, h5, h6⟩ := h
  rw [List.length_map] at h2
  refine ⟨R, K, h1, h2, fun i a b => ?_, h4, h5, h6⟩
  obtain ⟨S1, S2, g1, _, _, g4⟩ := h3 i a (by rw [List.length_map]; exact b)
  rw [List.getElem_map] at g1
  exact ⟨S1, g1, fun q hq => (g4 q).2 (.inl hq)⟩
theorem mkSs_any (B k : Nat) (v : Value) (l : List Sc) (S : Nat → Prop) (w : World) (hv : OwnSs B w v l S) (hz : ScsSz l) (hk0 : 0 < k) (hk : k + 2199024304133 * wszS l ≤ 3458764513820540000) :
    Calls Try.prog 14 #[v, .int .i64 k] w fun e w' => (∃ k' : Nat, e = .returned (.int .i64 (k' : Int)) ∧ k ≤ k' ∧ k' ≤ k + 2199024304133 * wszS l) ∧ TurnsAt S w w' := by
  obtain ⟨d, hv⟩ := hv
  exact mkSS_any d B k v l S w hv (hz d) hk0 hk
theorem bud1 {k q a x y m s : Nat} (h : q ≤ k + (a * m + 2199024304133 * x)) (e : y = x + s) : q + m + 2199024304133 * s ≤ k + ((a + 1) * m + 2199024304133 * y) := by
  subst e
  rw [Nat.add_mul, Nat.mul_add]; omega
set_option maxHeartbeats 4000000 in
theorem mkGrps_any (B k : Nat) (v : Value) (l : List Grp) (S : Nat → Prop) (w : World) (hv : OwnGroup B w v l S) (hn1 : l.length ≤ 1048576) (hz : ∀ x ∈ l, GrpSz x) (hk0 : 0 < k) (hk : k + (l.length * 1 + 2199024304133 * wgS (fun x => wszS x.l) l) ≤ 3458764513820540000) :
    Calls Try.prog 28 #[v, .int .i64 k] w fun e w' => (∃ k' : Nat, e = .returned (.int .i64 (k' : Int)) ∧ k ≤ k' ∧ k' ≤ k + (l.length * 1 + 2199024304133 * wgS (fun x => wszS x.l) l)) ∧ TurnsAt S w w' := by
  rcases OwL.form hv with ⟨rfl, hl0⟩ | ⟨g, cap, rfl, hgB, hgl⟩
  · obtain rfl : l = [] := by simpa using hl0
    clear hv
    go_enter Try.func28, Try.ntmps28
    go_wp2
    go_loopw [1, 5] (fun x i wr => x = .int .i64 k ∧ i = .int .i64 0 ∧ wr = w) (fun _ _ _ => 0)
    case atStart => exact ⟨rfl, rfl, rfl⟩
    case round =>
      obtain ⟨rfl, rfl, rfl⟩ := hrel
      go_wp2
      go_ret
      exact ⟨⟨k, rfl, Nat.le_refl _, by omega⟩, TurnsAt.refl _ _⟩
  · rw [List.length_map] at hv ⊢
    obtain ⟨R0, K, hrow, hlen, hx, hdis, hnv, hS⟩ := ownGroup_open hv
    obtain ⟨n, hn⟩ : ∃ n, n = l.length := ⟨_, rfl⟩
    have HX := Lib.hid hx
    have HZ := Lib.hid hz
    have HN := Lib.hid hn
    have HLEN : Hid (R0.length = n) := Lib.hid (by rw [hn]; exact hlen)
    have HDIS := Lib.hid hdis
    have HNV := Lib.hid hnv
    have HSS := Lib.hid hS
    have HK := Lib.hid hk
    have HROW : Hid (RowGroup B w (.slice (some ⟨g, 0, none⟩) n cap) R0) := Lib.hid (by rw [hn]; exact hrow)
    rw [← hn] at hn1 ⊢
    have hn2 : n ≤ 9223372036854775807 := by omega
    have hkk : k ≤ 3458764513820540000 := by omega
    clear hrow hlen hx hdis hnv hS hz hk hn hv
    go_enter Try.func28, Try.ntmps28
    go_wp2
    go_loopw [1, 5] (fun x i wr => ∃ (j q : Nat) (R : List GpR), j ≤ n ∧ Hid (k ≤ q ∧ q ≤ k + (j * 1 + 2199024304133 * wgS (fun x => wszS x.l) (l.take j))) ∧ (0 < q ∧ q ≤ 3458764513820540000) ∧ x = .int .i64 q ∧ i = .int .i64 j ∧ Hid (R.length = R0.length ∧ ∀ i (h : i < R.length) (h0 : i < R0.length), j ≤ i → R[i].kv = R0[i].kv) ∧ Hid (RowGroup B wr (.slice (some ⟨g, 0, none⟩) n cap) R) ∧ Hid (TurnsAt (fun b => b = g ∨ ∃ i, i < j ∧ K i b) w wr)) (fun _ i _ => n - (intOf i).toNat)
    case atStart => exact ⟨0, k, R0, Nat.zero_le _, Lib.hid ⟨Nat.le_refl _, Nat.le_add_right _ _⟩, ⟨hk0, hkk⟩, rfl, rfl, Lib.hid ⟨rfl, fun i h h0 _ => rfl⟩, HROW, Lib.hid (TurnsAt.refl _ _)⟩
    case round =>
      clear HROW
      obtain ⟨j, q, R, hj, HQ, ⟨hq0, hq⟩, rfl, rfl, HSM, HR, HT⟩ := hrel
      by_cases hlt : j < n
      · have hL0 : j < R0.length := by rw [HLEN.out]; exact hlt
        have hL : j < R.length := by rw [HSM.out.1]; exact hL0
        have hl : j < l.length := by rw [← HN.out]; exact hlt
        obtain ⟨S1, ⟨-, hown⟩, hSK⟩ := HX.out j hL0 hl
        obtain ⟨-, hz1⟩ := HZ.out _ (List.getElem_mem hl)
        have ekv := HSM.out.2 j hL hL0 (Nat.le_refl _)
        obtain ⟨A2, m2, c2, ekv2⟩ := ownSs_form hown
        rw [ekv2] at ekv hown
        have hT0 : ∀ b, S1 b → ¬ (b = g ∨ ∃ i, i < j ∧ K i b) := fun b hb h => by
          have hkb : K j b := hSK b hb
          rcases h with rfl | ⟨i, hi, h⟩
          · exact HNV.out j _ hL0 hkb rfl
          · have := HDIS.out i j b (by omega) hL0 h hkb; omega
        have hsz : wgS (fun x => wszS x.l) (l.take (j + 1)) = wgS (fun x => wszS x.l) (l.take j) + wszS l[j].l := wgS_step _ l j hl
        have hqb := bud1 HQ.out.2 hsz
        have hqc : k + ((j + 1) * 1 + 2199024304133 * wgS (fun x => wszS x.l) (l.take (j + 1))) ≤ 3458764513820540000 := Nat.le_trans (Nat.add_le_add_left (Nat.add_le_add (Nat.mul_le_mul_right 1 (by rw [← HN.out]; exact hlt)) (Nat.mul_le_mul_left _ (wgS_take _ l (j + 1)))) _) HK.out
        have HC := Lib.hid (fun W (ht : TurnsAt (fun b => b = g ∨ ∃ i, i < j ∧ K i b) w W) => mkSs_any B (q + 1) (.slice A2 m2 c2) l[j].l S1 W (hown.imp fun _ h => OwL.apart h ht hT0) hz1 (by omega) (by omega))
        rw [show ((q + 1 : Nat) : Int) = (q : Int) + 1 by omega] at HC
        have HSK := Lib.hid hSK
        have HQB := Lib.hid hqb
        have HQC := Lib.hid hqc
        have HMT := Lib.hid (fun W => mark_any q (by omega) (by omega) W)
        obtain ⟨tx, htx⟩ : ∃ t, t = markS q := ⟨_, rfl⟩
        rw [← htx] at HMT
        clear hown hSK hz1 hT0 hsz hqb hqc htx
        go_wp2_with fail
        refine (HMT.out _).mono ?_
        rintro e w1 ⟨rfl, hb1⟩
        have hR1 := RowR.below HR.out hb1
        obtain ⟨⟨e0, e1⟩, f0, f1⟩ := GpRCells hR1 hL
        rw [ekv] at e1
        have HP := Lib.hid (RowR.set1 GpR.enc_len hR1 hL 0 (by omega) (.string tx) ⟨tx, R[j].kv⟩ rfl)
        have HT1 := Lib.hid ((HT.out.trans (below_turns hb1)).trans (grown_turns HP.out.2 (fun b e => .inl (by cases e; rfl))))
        have HEK := Lib.hid ekv
        clear hb1 hR1 ekv
        go_wp2_with fail
        refine (HC.out _ HT1.out).mono ?_
        rintro e w2 ⟨⟨q2, rfl, h1, h2⟩, ht⟩
        have HR2 : Hid (RowGroup B w2 (.slice (some ⟨g, 0, none⟩) n cap) (R.set j ⟨tx, R[j].kv⟩)) := Lib.hid (rowR_apart HP.out.1 ht (fun b e hs => HNV.out j b hL0 (HSK.out b hs) e))
        have HT2 : Hid (TurnsAt (fun b => b = g ∨ ∃ i, i < j + 1 ∧ K i b) w w2) := Lib.hid ((HT1.out.mono (fun b h _ => by
          rcases h with h | ⟨i, hi, h⟩
          · exact .inl h
          · exact .inr ⟨i, by omega, h⟩)).trans (ht.mono fun b h _ => .inr ⟨j, by omega, HSK.out b h⟩))
        have HSM2 : Hid ((R.set j ⟨tx, R[j].kv⟩).length = R0.length ∧ ∀ i (h : i < (R.set j ⟨tx, R[j].kv⟩).length) (h0 : i < R0.length), j + 1 ≤ i → (R.set j ⟨tx, R[j].kv⟩)[i].kv = R0[i].kv) := Lib.hid ⟨by rw [List.length_set]; exact HSM.out.1, fun i h h0 hi => by
          rw [List.getElem_set_ne (by omega)]
          exact HSM.out.2 i (by simpa using h) h0 (by omega)⟩
        have HQ2 : Hid (k ≤ q2 ∧ q2 ≤ k + ((j + 1) * 1 + 2199024304133 * wgS (fun x => wszS x.l) (l.take (j + 1)))) := Lib.hid ⟨by have := HQ.out.1; omega, by have := HQB.out; omega⟩
        have hq2 : 0 < q2 ∧ q2 ≤ 3458764513820540000 := ⟨by omega, by have := HQ2.out.2; have := HQC.out; omega⟩
        clear ht h1 h2 e0 e1 f0 f1
        go_wp2
        go_roundw
        case rel => exact ⟨j + 1, q2, _, by omega, HQ2, hq2, rfl, by go_num, HSM2, HR2, HT2⟩
        case measure => simp [intOf]; omega
      · have e : j = n := by omega
        subst e
        have HF : Hid ((k ≤ q ∧ q ≤ k + (j * 1 + 2199024304133 * wgS (fun x => wszS x.l) l)) ∧ TurnsAt S w wr) := Lib.hid ⟨by have := HQ.out; rwa [List.take_of_length_le (by rw [← HN.out]; exact Nat.le_refl _)] at this, HT.out.mono (fun b h _ => (HSS.out b).2 (by
          rcases h with h | ⟨i, hi, h⟩
          · left; rw [h]; rfl
          · exact .inr ⟨i, by rw [HLEN.out]; exact hi, h⟩))⟩
        go_wp2
        go_ret
        exact ⟨⟨q, rfl, HF.out.1.1, HF.out.1.2⟩, HF.out.2⟩
set_option maxHeartbeats 4000000 in
theorem mkAugs_any (B k : Nat) (v : Value) (l : List Aug) (S : Nat → Prop) (w : World) (hv : OwnAugment B w v l S) (hn1 : l.length ≤ 1048576) (hz : ∀ x ∈ l, AugSz x) (hk0 : 0 < k) (hk : k + (l.length * 1048576 + 2199024304133 * wgS (fun x => wszS x.l) l) ≤ 3458764513820540000) :
    Calls Try.prog 29 #[v, .int .i64 k] w fun e w' => (∃ k' : Nat, e = .returned (.int .i64 (k' : Int)) ∧ k ≤ k' ∧ k' ≤ k + (l.length * 1048576 + 2199024304133 * wgS (fun x => wszS x.l) l)) ∧ TurnsAt S w w' := by
  rcases OwL.form hv with ⟨rfl, hl0⟩ | ⟨g, cap, rfl, hgB, hgl⟩
  · obtain rfl : l = [] := by simpa using hl0
    clear hv
    go_enter Try.func29, Try.ntmps29
    go_wp2
    go_loopw [1, 5] (fun x i wr => x = .int .i64 k ∧ i = .int .i64 0 ∧ wr = w) (fun _ _ _ => 0)
    case atStart => exact ⟨rfl, rfl, rfl⟩
    case round =>
      obtain ⟨rfl, rfl, rfl⟩ := hrel
      go_wp2
      go_ret
      exact ⟨⟨k, rfl, Nat.le_refl _, by omega⟩, TurnsAt.refl _ _⟩
  · rw [List.length_map] at hv ⊢
    obtain ⟨R0, K, hrow, hlen, hx, hdis, hnv, hS⟩ := ownAugment_open hv
    obtain ⟨n, hn⟩ : ∃ n, n = l.length := ⟨_, rfl⟩
    have HX := Lib.hid hx
    have HZ := Lib.hid hz
    have HN := Lib.hid hn
    have HLEN : Hid (R0.length = n) := Lib.hid (by rw [hn]; exact hlen)
    have HDIS := Lib.hid hdis
    have HNV := Lib.hid hnv
    have HSS := Lib.hid hS
    have HK := Lib.hid hk
    have HROW : Hid (RowAugment B w (.slice (some ⟨g, 0, none⟩) n cap) R0) := Lib.hid (by rw [hn]; exact hrow)
    rw [← hn] at hn1 ⊢
    have hn2 : n ≤ 9223372036854775807 := by omega
    have hkk : k ≤ 3458764513820540000 := by omega
    clear hrow hlen hx hdis hnv hS hz hk hn hv
    go_enter Try.func29, Try.ntmps29
    go_wp2
    go_loopw [1, 5] (fun x i wr => ∃ (j q : Nat), j ≤ n ∧ Hid (k ≤ q ∧ q ≤ k + (j * 1048576 + 2199024304133 * wgS (fun x => wszS x.l) (l.take j))) ∧ (0 < q ∧ q ≤ 3458764513820540000) ∧ x = .int .i64 q ∧ i = .int .i64 j ∧ Hid (RowAugment B wr (.slice (some ⟨g, 0, none⟩) n cap) R0) ∧ Hid (TurnsAt (fun b => b = g ∨ ∃ i, i < j ∧ K i b) w wr)) (fun _ i _ => n - (intOf i).toNat)
    case atStart => exact ⟨0, k, Nat.zero_le _, Lib.hid ⟨Nat.le_refl _, Nat.le_add_right _ _⟩, ⟨hk0, hkk⟩, rfl, rfl, HROW, Lib.hid (TurnsAt.refl _ _)⟩
    case round =>
      clear HROW
      obtain ⟨j, q, hj, HQ, ⟨hq0, hq⟩, rfl, rfl, HR, HT⟩ := hrel
      by_cases hlt : j < n
      · have hL0 : j < R0.length := by rw [HLEN.out]; exact hlt
        have hl : j < l.length := by rw [← HN.out]; exact hlt
        obtain ⟨S1, ⟨S2, hrow, hown, hd12, hS1⟩, hSK⟩ := HX.out j hL0 hl
        obtain ⟨hz0, hz1⟩ := HZ.out _ (List.getElem_mem hl)
        obtain ⟨A1, m1, c1, env⟩ : ∃ A n c, R0[j].nv = .slice A n c := by obtain ⟨A, c, h, _⟩ := hrow.has; exact ⟨A, _, c, h⟩
        obtain ⟨A2, m2, c2, ekv⟩ := ownSs_form hown
        have hT0 : ∀ b, S1 b → ¬ (b = g ∨ ∃ i, i < j ∧ K i b) := fun b hb h => by
          have hkb : K j b := hSK b hb
          rcases h with rfl | ⟨i, hi, h⟩
          · exact HNV.out j _ hL0 hkb rfl
          · have := HDIS.out i j b (by omega) hL0 h hkb; omega
        have hsz : wgS (fun x => wszS x.l) (l.take (j + 1)) = wgS (fun x => wszS x.l) (l.take j) + wszS l[j].l := wgS_step _ l j hl
        have hqb := bud1 HQ.out.2 hsz
        have hqc : k + ((j + 1) * 1048576 + 2199024304133 * wgS (fun x => wszS x.l) (l.take (j + 1))) ≤ 3458764513820540000 := Nat.le_trans (Nat.add_le_add_left (Nat.add_le_add (Nat.mul_le_mul_right 1048576 (by rw [← HN.out]; exact hlt)) (Nat.mul_le_mul_left _ (wgS_take _ l (j + 1)))) _) HK.out
        have HC1 := Lib.hid (fun W (ht : TurnsAt (fun b => b = g ∨ ∃ i, i < j ∧ K i b) w W) => markStrsTQ B R0[j].nv l[j].ns q (fun b => R0[j].nv.ownBlock = some b) W (row_frame hrow (fun b e => ht.block b (hrow.lt e).2 (hT0 b ((hS1 b).2 (.inl e))))) (fun b => Iff.rfl) hz0.1 hq0 hq)
        have HC2 := Lib.hid (fun W (q1 : Nat) (ht : TurnsAt (fun b => (b = g ∨ ∃ i, i < j ∧ K i b) ∨ R0[j].nv.ownBlock = some b) w W) (h1 : q ≤ q1) (h2 : q1 ≤ q + 1048576) => mkSs_any B q1 R0[j].kv l[j].l S2 W (hown.imp fun _ h => OwL.apart h ht (fun b h1 h2 => h2.elim (hT0 b ((hS1 b).2 (.inr h1))) (fun h2 => hd12 b h2 h1))) hz1 (by omega) (by omega))
        rw [env] at HC1 HC2
        rw [ekv] at HC2
        have HSK := Lib.hid (fun b (h : (Value.slice A1 m1 c1).ownBlock = some b ∨ S2 b) => hSK b ((hS1 b).2 (by rw [env]; exact h)))
        have HQB := Lib.hid hqb
        have HQC := Lib.hid hqc
        obtain ⟨⟨e0, e1⟩, f0, f1⟩ := AuRCells HR.out hL0
        rw [env] at e0
        rw [ekv] at e1
        have HEE := Lib.hid (And.intro env ekv)
        clear hown hSK hz0 hz1 hT0 hsz hqb hqc hrow hd12 hS1 env ekv
        go_wp2_with fail
        refine (HC1.out _ HT.out).mono ?_
        rintro e w1 ⟨⟨q1, rfl, h1, h2⟩, ht⟩
        have hR1 : RowAugment B w1 (.slice (some ⟨g, 0, none⟩) n cap) R0 := rowR_apart HR.out ht (fun b e hs => HNV.out j b hL0 (HSK.out b (.inl hs)) e)
        have HR1 := Lib.hid hR1
        have HT1 : Hid (TurnsAt (fun b => (b = g ∨ ∃ i, i < j ∧ K i b) ∨ (Value.slice A1 m1 c1).ownBlock = some b) w w1) := Lib.hid ((HT.out.mono (fun b h _ => Or.inl h)).trans (ht.mono fun b h _ => .inr h))
        clear e0 e1 f0 f1
        obtain ⟨⟨e0, e1⟩, f0, f1⟩ := AuRCells hR1 hL0
        rw [HEE.out.2] at e1
        have HQ1 := Lib.hid (And.intro h1 h2)
        clear ht hR1 h1 h2 e0
        go_wp2_with fail
        refine (HC2.out _ q1 HT1.out HQ1.out.1 HQ1.out.2).mono ?_
        rintro e w2 ⟨⟨q2, rfl, h1, h2⟩, ht⟩
        have HR2 : Hid (RowAugment B w2 (.slice (some ⟨g, 0, none⟩) n cap) R0) := Lib.hid (rowR_apart HR1.out ht (fun b e hs => HNV.out j b hL0 (HSK.out b (.inr hs)) e))
        have HT2 : Hid (TurnsAt (fun b => b = g ∨ ∃ i, i < j + 1 ∧ K i b) w w2) := Lib.hid ((HT1.out.mono (fun b h _ => by
          rcases h with (h | ⟨i, hi, h⟩) | h
          · exact .inl h
          · exact .inr ⟨i, by omega, h⟩
          · exact .inr ⟨j, by omega, HSK.out b (.inl h)⟩)).trans (ht.mono fun b h _ => .inr ⟨j, by omega, HSK.out b (.inr h)⟩))
        have HQ2 : Hid (k ≤ q2 ∧ q2 ≤ k + ((j + 1) * 1048576 + 2199024304133 * wgS (fun x => wszS x.l) (l.take (j + 1)))) := Lib.hid ⟨by have := HQ.out.1; have := HQ1.out.1; omega, by have := HQB.out; have := HQ1.out.2; omega⟩
        have hq2 : 0 < q2 ∧ q2 ≤ 3458764513820540000 := ⟨by have := HQ1.out.1; omega, by have := HQ2.out.2; have := HQC.out; omega⟩
        clear ht h1 h2 e1 f0 f1
        go_wp2
        go_roundw
        case rel => exact ⟨j + 1, q2, by omega, HQ2, hq2, rfl, by go_num, HR2, HT2⟩
        case measure => simp [intOf]; omega
      · have e : j = n := by omega
        subst e
        have HF : Hid ((k ≤ q ∧ q ≤ k + (j * 1048576 + 2199024304133 * wgS (fun x => wszS x.l) l)) ∧ TurnsAt S w wr) := Lib.hid ⟨by have := HQ.out; rwa [List.take_of_length_le (by rw [← HN.out]; exact Nat.le_refl _)] at this, HT.out.mono (fun b h _ => (HSS.out b).2 (by
          rcases h with h | ⟨i, hi, h⟩
          · left; rw [h]; rfl
          · exact .inr ⟨i, by rw [HLEN.out]; exact hi, h⟩))⟩
        go_wp2
        go_ret
        exact ⟨⟨q, rfl, HF.out.1.1, HF.out.1.2⟩, HF.out.2⟩
set_option maxHeartbeats 4000000 in
theorem mkMo_any (B : Nat) (v : MoV) (m : Mod) (K : Nat → Nat → Prop) (w : World) (h : OwnMo B w v m K) (hz : ModSz m) (hb : wG m.gs + wszS m.b + wA m.us ≤ 1048576) :
    Calls Try.prog 13 #[v.val, .int .i64 1] w fun e w' => (∃ k' : Nat, e = .returned (.int .i64 (k' : Int)) ∧ 0 < k' ∧ k' ≤ 1099512676354 + 2199024304133 * (wG m.gs + wszS m.b + wA m.us)) ∧ TurnsAt (fun b => ∃ i, i < 3 ∧ K i b) w w' := by
  obtain ⟨na, gv, bv, av⟩ := v
  obtain ⟨h2, h3, h4, h5, hap⟩ := h
  dsimp only at h2 h3 h4 h5 ⊢
  obtain ⟨A1, n1, c1, rfl⟩ : ∃ A n c, gv = .slice A n c := by
    rcases OwL.form h3 with ⟨h1, _⟩ | ⟨g', cap', h1, _⟩
    · exact ⟨_, _, _, h1⟩
    · exact ⟨_, _, _, h1⟩
  obtain ⟨A2, n2, c2, rfl⟩ := ownSs_form h4
  obtain ⟨A3, n3, c3, rfl⟩ : ∃ A n c, av = .slice A n c := by
    rcases OwL.form h5 with ⟨h1, _⟩ | ⟨g', cap', h1, _⟩
    · exact ⟨_, _, _, h1⟩
    · exact ⟨_, _, _, h1⟩
  obtain ⟨x1, hx1⟩ : ∃ x, x = wG m.gs := ⟨_, rfl⟩
  obtain ⟨x2, hx2⟩ : ∃ x, x = wszS m.b := ⟨_, rfl⟩
  obtain ⟨x3, hx3⟩ : ∃ x, x = wA m.us := ⟨_, rfl⟩
  rw [← hx1, ← hx2, ← hx3] at hb ⊢
  obtain ⟨W0, hW0⟩ : ∃ X, X = w.alloc (.cells #[.string na, .slice A1 n1 c1, .slice A2 n2 c2, .slice A3 n3 c3] 35) := ⟨_, rfl⟩
  have hb0 : Below w.heap.size w W0 := by rw [hW0]; exact below_al (Below.refl _ _) _
  have hX : W0.heap[w.heap.size]? = some (.cells #[.string na, .slice A1 n1 c1, .slice A2 n2 c2, .slice A3 n3 c3] 35 (0, 0)) := by rw [hW0]; exact heap_alloc_new _ _
  have hlt : ∀ i b, i < 3 → K i b → b < w.heap.size := fun i b hi hb => (OwnMo.lt (show OwnMo B w ⟨na, .slice A1 n1 c1, .slice A2 n2 c2, .slice A3 n3 c3⟩ m K from ⟨h2, h3, h4, h5, hap⟩) hi hb).2
  have gl := hz.gl
  have ul := hz.ul
  have C1 := Lib.hid (mkGrps_any B 1 (.slice A1 n1 c1) m.gs (K 0) W0 (OwL.below h3 hb0) hz.gl hz.gs (by omega) (by show 1 + (m.gs.length * 1 + 2199024304133 * wG m.gs) ≤ _; rw [← hx1]; omega))
  have C2 := Lib.hid (fun W (q : Nat) (ht : TurnsAt (K 0) W0 W) (hq0 : 0 < q) (hq : q + 2199024304133 * x2 ≤ 3458764513820540000) => mkSs_any B q (.slice A2 n2 c2) m.b (K 1) W ((ownSs_below h4 hb0).imp fun _ h => OwL.apart h ht (fun b h1 h2 => by have := hap 1 0 b (by omega) (by omega) h1 h2; omega)) hz.b hq0 (by rw [← hx2]; exact hq))
  have C3 := Lib.hid (fun W (q : Nat) (ht : TurnsAt (fun b => K 0 b ∨ K 1 b) W0 W) (hq0 : 0 < q) (hq : q + (m.us.length * 1048576 + 2199024304133 * x3) ≤ 3458764513820540000) => mkAugs_any B q (.slice A3 n3 c3) m.us (K 2) W (OwL.apart (OwL.below h5 hb0) ht (fun b h1 h2 => by
    rcases h2 with h2 | h2
    · have := hap 2 0 b (by omega) (by omega) h1 h2; omega
    · have := hap 2 1 b (by omega) (by omega) h1 h2; omega)) hz.ul hz.us hq0 (by rw [hx3] at hq; exact hq))
  have C1' : Hid (Calls Try.prog 28 #[.slice A1 n1 c1, .int .i64 1] W0 fun e w' => (∃ k' : Nat, e = .returned (.int .i64 (k' : Int)) ∧ 1 ≤ k' ∧ k' ≤ 1 + (m.gs.length * 1 + 2199024304133 * x1)) ∧ TurnsAt (K 0) W0 w') := Lib.hid (by rw [hx1]; exact C1.out)
  rw [← hx2] at C2
  have C3' : Hid (∀ W (q : Nat) (_ : TurnsAt (fun b => K 0 b ∨ K 1 b) W0 W) (_ : 0 < q) (_ : q + (m.us.length * 1048576 + 2199024304133 * x3) ≤ 3458764513820540000), Calls Try.prog 29 #[.slice A3 n3 c3, .int .i64 q] W fun e w' => (∃ k' : Nat, e = .returned (.int .i64 (k' : Int)) ∧ q ≤ k' ∧ k' ≤ q + (m.us.length * 1048576 + 2199024304133 * x3)) ∧ TurnsAt (K 2) W w') := Lib.hid (fun W q a b c => by have h := C3.out W q a b c; rw [hx3]; exact h)
  have HCE := Lib.hid (fun W (ht : TurnsAt (fun b => ∃ i, i < 3 ∧ K i b) W0 W) => (show (W.cell? ⟨w.heap.size, 2, none⟩ = some (.slice A2 n2 c2) ∧ W.cell? ⟨w.heap.size, 3, none⟩ = some (.slice A3 n3 c3)) from by
    have h := (ht.block w.heap.size (Array.getElem?_eq_some_iff.1 hX).1 (fun ⟨i, hi, h⟩ => by have := hlt i _ hi h; omega)).trans hX
    exact ⟨by rw [cell_of_row _ _ 2 _ _ _ h]; rfl, by rw [cell_of_row _ _ 3 _ _ _ h]; rfl⟩))
  have HB0 := Lib.hid hb0
  clear h2 h3 h4 h5 hap hz C1 C3 hX hlt hb0 hx1 hx2 hx3
  generalize m.gs.length = lg at *
  generalize m.us.length = lu at *
  go_enter Try.func13, Try.ntmps13
  go_wp2_with fail
  rw [← hW0]
  refine (C1'.out).mono ?_
  rintro e w1 ⟨⟨q1, rfl, g1, l1⟩, ht1⟩
  have HT1 := Lib.hid ht1
  obtain ⟨b2, b3⟩ := HCE.out w1 (ht1.mono fun b h _ => ⟨0, by omega, h⟩)
  clear ht1 hW0
  go_wp2_with fail
  refine (C2.out _ q1 HT1.out (by omega) (by omega)).mono ?_
  rintro e w2 ⟨⟨q2, rfl, g2, l2⟩, ht2⟩
  have HT2 : Hid (TurnsAt (fun b => K 0 b ∨ K 1 b) W0 w2) := Lib.hid ((HT1.out.mono fun b h _ => Or.inl h).trans (ht2.mono fun b h _ => Or.inr h))
  clear b2 b3
  obtain ⟨b2, b3⟩ := HCE.out w2 (HT2.out.mono fun b h _ => h.elim (fun h => ⟨0, by omega, h⟩) (fun h => ⟨1, by omega, h⟩))
  clear ht2
  go_wp2_with fail
  refine (C3'.out _ q2 HT2.out (by omega) (by omega)).mono ?_
  rintro e w3 ⟨⟨q3, rfl, g3, l3⟩, ht3⟩
  have HF : Hid (TurnsAt (fun b => ∃ i, i < 3 ∧ K i b) w w3) := Lib.hid (((below_turns HB0.out).trans (HT2.out.mono fun b h _ => h.elim (fun h => ⟨0, by omega, h⟩) (fun h => ⟨1, by omega, h⟩))).trans (ht3.mono fun b h _ => ⟨2, by omega, h⟩))
  clear ht3 b2 b3
  go_wp2
  go_ret
  exact ⟨⟨q3, rfl, by omega, by omega⟩, HF.out⟩
end Go.Proofs.Ytdkpleghpnflhaa
