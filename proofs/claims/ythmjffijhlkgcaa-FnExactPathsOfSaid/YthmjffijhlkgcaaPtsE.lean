/- CHAPTER 8: impl.copyPath. -/
import Derived.Test.YthmjffijhlkgcaaPtsD
import Derived.Deep.RegionWith
set_option linter.unusedVariables false
set_option linter.unusedSimpArgs false
namespace Go.Proofs.Ythmjffijhlkgcaa
open Go.RowKit NumP

/-- the two variables of a call that copies a path: the path, the answer -/
def Two8 (B : Nat) (T : TypeId) (W : World) (r : Bool) (u : Int) (v : Value) : Prop :=
  W.heap[B]? = some (.cells #[.bool r, .int .i64 u, v] T (0, 0)) ∧ W.heap[B + 1]? = some (.cells #[.bool false, .int .i64 0, .slice none 0 0] T (0, 0))
theorem Two8.lt {B : Nat} {T : TypeId} {W : World} {r : Bool} {u : Int} {v : Value} (h : Two8 B T W r u v) : B + 1 < W.heap.size := (Array.getElem?_eq_some_iff.1 h.2).1
theorem Two8.below {B : Nat} {T : TypeId} {W W' : World} {r : Bool} {u : Int} {v : Value} (h : Two8 B T W r u v) (hb : Below W.heap.size W W') : Two8 B T W' r u v :=
  ⟨(hb.block _ (by have := h.lt; omega)).trans h.1, (hb.block _ h.lt).trans h.2⟩
theorem Two8.grown {B : Nat} {T : TypeId} {W W' : World} {r : Bool} {u : Int} {v : Value} {j : Option Nat} (h : Two8 B T W r u v) (hg : W.grownBy W' j) (hj : ∀ k, j = some k → B + 2 ≤ k) : Two8 B T W' r u v :=
  ⟨(hg.block _ (by have := h.lt; omega) (fun e => by have := hj _ e.symm; omega)).trans h.1, (hg.block _ h.lt (fun e => by have := hj _ e.symm; omega)).trans h.2⟩
theorem Two8.put {B : Nat} {T : TypeId} {W : World} {r : Bool} {u : Int} {v : Value} (h : Two8 B T W r u v) (v' : Value) : Two8 B T (W.setCell ⟨B, 2, none⟩ v') r u v' :=
  ⟨(heap_setCell_same W B 2 _ T v' h.1).trans rfl, (Below.heap_setCell W ⟨B, 2, none⟩ _ _ (by simp)).trans h.2⟩
theorem two_cells8 {w : World} {b : Nat} {a0 a1 : Value} {t : TypeId} (h : w.heap[b]? = some (.cells #[a0, a1] t (0, 0))) : w.cell? ⟨b, 0, none⟩ = some a0 ∧ w.cell? ⟨b, 1, none⟩ = some a1 := by
  constructor
  · rw [cell_of_row _ b 0 _ _ _ h]; rfl
  · rw [cell_of_row _ b 1 _ _ _ h]; rfl
/-- the j-th record with a list of tests of its own -/
theorem RowT7.tests {B g n cap : Nat} {w : World} {L : List StR} (h : RowT7 B w (.slice (some ⟨g, 0, none⟩) n cap) L) {i : Nat} (hi : i < L.length) (v : Value) :
    RowT7 B (w.setCell ⟨g, i * 2 + 1, none⟩ v) (.slice (some ⟨g, 0, none⟩) n cap) (L.set i ⟨L[i].n, v⟩) ∧ w.grownBy (w.setCell ⟨g, i * 2 + 1, none⟩ v) (some g) :=
  RowR.set1 StR.enc_len h hi 1 (by omega) v ⟨L[i].n, v⟩ rfl
set_option maxRecDepth 100000 in
set_option maxHeartbeats 4000000 in
theorem iCopyPth_any (v : PthV) (p : Pth) (w : World) (h : HasP7 w v p) (hn : HasSN w v.sv p.st) (hz : p.st.length ≤ 1048576) (hzs : ∀ s ∈ p.st, s.ts.length ≤ 1048576) :
    Calls Try.prog 18 #[v.val] w fun e w' => ∃ (v' : PthV) (S : Nat → Prop), e = .returned v'.val ∧ OwnP7 w.heap.size w' v' p S ∧ Below w.heap.size w w' := by
  obtain ⟨r, u, l⟩ := p
  obtain ⟨r', u', sv⟩ := v
  obtain ⟨rfl, rfl, -⟩ := h
  dsimp only at hn hz hzs ⊢
  obtain ⟨hnil, R0, hR0, hlen, hall⟩ := hn
  obtain ⟨A, cap, rfl, -⟩ := id hR0
  obtain ⟨W0, hW0⟩ : ∃ W0, W0 = (w.alloc (.cells #[.bool r', .int .i64 u', .slice A R0.length cap] 33)).alloc (.cells #[.bool false, .int .i64 0, .slice none 0 0] 33) := ⟨_, rfl⟩
  have hb0 : Below w.heap.size w W0 := by rw [hW0]; exact below_al (below_al (Below.refl w.heap.size w) _) _
  have ht0 : Two8 w.heap.size 33 W0 r' u' (.slice A R0.length cap) := by
    rw [hW0]
    exact ⟨by rw [Below.heap_alloc _ _ _ (by simp)]; exact alloc_new_at' _ _ rfl, alloc_new_at' _ _ (by simp)⟩
  have hs0 : W0.heap.size = w.heap.size + 2 := by rw [hW0]; simp
  have HC0 := Lib.hid (cloneSt_any _ R0 W0 (HasR.below hR0 hb0) (oneS hall hlen) hnil (by rw [hlen]; exact hz))
  have HALL : Hid (∀ i (h : i < R0.length) (h' : i < l.length), R0[i].n = l[i].n ∧ HasX w R0[i].tv l[i].ts ∧ NilOk R0[i].tv ∧ l[i].ts.length ≤ 1048576) := Lib.hid fun i h h' => ⟨(hall i h h').1.1, (hall i h h').1.2, (hall i h h').2, hzs _ (List.getElem_mem h')⟩
  obtain ⟨n, hnn⟩ : ∃ n, n = R0.length := ⟨_, rfl⟩
  have HN : Hid (n = R0.length ∧ R0.length = l.length) := Lib.hid ⟨hnn, hlen⟩
  have HB0 := Lib.hid hb0
  have HT0 := Lib.hid ht0
  have HS0 := Lib.hid hs0
  have hn1 : n ≤ 1048576 := by rw [hnn, hlen]; exact hz
  obtain ⟨⟨x0, x1, x2⟩, f0, f1, f2⟩ := three_fro ht0.1
  rw [← hnn] at HC0 HT0 hW0 x2 ⊢
  clear hnn hR0 hall hlen hnil hb0 ht0 hs0 hz hzs
  go_enter Try.func18, Try.ntmps18
  go_wp2_with fail
  rw [← hW0]
  refine (HC0.out).mono ?_
  rintro e w1 ⟨v1, rfl, hr1, hb1⟩
  rw [HS0.out] at hr1
  have HB1 := Lib.hid (below_step HB0.out hb1)
  have ht1 := HT0.out.below hb1
  obtain ⟨A1, c1, rfl⟩ : ∃ A c, v1 = .slice A n c := by obtain ⟨A, c, hv, _⟩ := RowR.has StR.enc_len hr1; exact ⟨A, c, by rw [HN.out.1]; exact hv⟩
  have HT1 := Lib.hid (ht1.put (.slice A1 n c1))
  have HR1 : Hid (RowT7 (w.heap.size + 2) (w1.setCell ⟨w.heap.size, 2, none⟩ (.slice A1 n c1)) (.slice A1 n c1) R0) := Lib.hid (ownsRow_setCell_other (a := ⟨w.heap.size, 2, none⟩) hr1 (fun e => by have := (RowR.lt hr1 e).1; simp at this; omega) _)
  have HBW := Lib.hid (below_set HB1.out (Nat.le_refl _) (j := 2) (u := .slice A1 n c1))
  obtain ⟨⟨y0, y1, y2⟩, g0, g1, g2⟩ := three_fro ht1.1
  have hsz1 : w.heap.size + 1 < w1.heap.size := ht1.lt
  clear hr1 hb1 ht1 x0 x1 x2 f0 f1 f2
  go_upto_region 2 with (fail)
  obtain ⟨W2, hW2⟩ : ∃ W2, W2 = w1.setCell ⟨w.heap.size, 2, none⟩ (.slice A1 n c1) := ⟨_, rfl⟩
  rw [← hW2] at HT1 HR1 HBW ⊢
  obtain ⟨⟨z0, z1, z2⟩, -⟩ := three_fro HT1.out.1
  clear hW2 y0 y1 y2 g0 g1 g2 hsz1 hW0 HC0 HB0 HT0 HS0 HB1
  go_wp2
  go_loopw [12] (fun i wr => ∃ (k : Nat) (R : List StR), k ≤ n ∧ i = .int .i64 k ∧ Hid (Two8 w.heap.size 33 wr r' u' (.slice A1 n c1)) ∧ Hid (RowT7 (w.heap.size + 2) wr (.slice A1 n c1) R) ∧ Hid (R.length = n ∧ (∀ g, A1 = some ⟨g, 0, none⟩ → Part (w.heap.size + 2) wr g R l k ∧ g < wr.heap.size) ∧ ∀ i (h : i < R.length) (h' : i < R0.length), k ≤ i → R[i] = R0[i]) ∧ Hid (Below w.heap.size w wr)) (fun i _ => n - (intOf i).toNat)
  case atStart => exact ⟨0, R0, Nat.zero_le _, rfl, HT1, HR1, Lib.hid ⟨HN.out.1.symm, fun g e => ⟨⟨HN.out.2, fun i h1 h2 h3 => absurd h3 (by omega), fun i j h1 h2 h3 => absurd h3 (by omega)⟩, (RowR.lt HR1.out (by rw [e]; rfl)).2⟩, fun i h h' _ => rfl⟩, HBW⟩
  case round =>
    clear z0 z1 z2 HT1 HR1 HBW
    obtain ⟨k, R, hk, rfl, HT, HR, HP, HB⟩ := hrel
    by_cases hlt : k < n
    · have hkR : k < R.length := by rw [HP.out.1]; exact hlt
      have hk0 : k < R0.length := by rw [← HN.out.1]; exact hlt
      have hkl : k < l.length := by rw [← HN.out.2]; exact hk0
      obtain ⟨g, rfl, hgB⟩ : ∃ g, A1 = some ⟨g, 0, none⟩ ∧ w.heap.size + 2 ≤ g := by
        rcases RowR.form HR.out with ⟨e, e2⟩ | ⟨g, cap, e, h1, _⟩
        · rw [e2] at hkR; cases hkR
        · cases e; exact ⟨g, rfl, h1⟩
      obtain ⟨hPt, hgl⟩ := HP.out.2.1 g rfl
      obtain ⟨⟨e0, e1⟩, f0, f1⟩ := stCells HR.out hkR
      obtain ⟨hx1, hx2, hx3, hx4⟩ := HALL.out k hk0 hkl
      have hRk : R[k] = R0[k] := HP.out.2.2 k hkR hk0 (Nat.le_refl _)
      obtain ⟨rk, hrk⟩ : ∃ r, r = R0[k] := ⟨_, rfl⟩
      rw [hRk, ← hrk] at e0 e1
      rw [← hrk] at hx1 hx2 hx3
      obtain ⟨At, ct, et, -⟩ := id hx2
      obtain ⟨mt, hmt⟩ : ∃ m, m = l[k].ts.length := ⟨_, rfl⟩
      rw [← hmt] at et
      obtain ⟨rn, rtv⟩ := rk
      dsimp only at e0 e1 hx1 hx2 hx3 et
      subst et
      have HC := Lib.hid (fun W (hb : Below w.heap.size w W) => cloneX_any (.slice At mt ct) l[k].ts W (HasR.below hx2 hb) hx3 hx4)
      have HRN : Hid (rn = l[k].n ∧ ∀ h, R[k]'h = ⟨rn, .slice At mt ct⟩) := Lib.hid ⟨hx1, fun _ => by rw [hRk, ← hrk]⟩
      have HG := Lib.hid (And.intro hgB hgl)
      have HPT := Lib.hid hPt
      have HKL := Lib.hid (And.intro hkR (And.intro hk0 hkl))
      have hkR2 := hkR
      have hbl : w.heap.size + 1 < wr.heap.size := HT.out.lt
      have ebx : (wr.alloc (.cells #[.string rn, .slice At mt ct] 62)).heap[wr.heap.size]? = some (.cells #[.string rn, .slice At mt ct] 62 (0, 0)) := heap_alloc_new wr _
      have hba := below_al (Below.refl wr.heap.size wr) (.cells #[.string rn, .slice At mt ct] 62)
      have HTA := Lib.hid (HT.out.below hba)
      have HRA : Hid (RowT7 (w.heap.size + 2) (wr.alloc (.cells #[.string rn, .slice At mt ct] 62)) (.slice (some ⟨g, 0, none⟩) n c1) R) := Lib.hid (RowR.below HR.out hba)
      have HBA := Lib.hid (below_step HB.out hba)
      have HBX := Lib.hid ebx
      clear hx1 hx2 hx3 hx4 hRk hrk hmt hPt hgl ebx hba
      go_upto_region 5 with (fail)
      obtain ⟨W3, hW3⟩ : ∃ W3, W3 = wr.alloc (.cells #[.string rn, .slice At mt ct] 62) := ⟨_, rfl⟩
      rw [← hW3] at HTA HRA HBA HBX ⊢
      have HS3 : Hid (wr.heap.size < W3.heap.size) := Lib.hid (by rw [hW3]; simp)
      have HB3 : Hid (Below wr.heap.size wr W3) := Lib.hid (by rw [hW3]; exact below_al (Below.refl _ _) _)
      obtain ⟨⟨z0, z1, z2⟩, -⟩ := three_fro HTA.out.1
      obtain ⟨b0, b1⟩ := two_cells8 HBX.out
      clear hW3 e0 e1 f0 f1
      go_region_with (first
        | (go_at_call 29
           refine (HC.out _ HBA.out.drew).mono ?_
           rintro e w4 ⟨v4, rfl, hr4, hb4⟩
           have hbd := ((Below.refl _ _).drew : Below W3.heap.size W3 W3.drew).trans hb4
           have HT4 := Lib.hid (HTA.out.below hbd)
           have HR4 := Lib.hid (RowR.below HRA.out hbd)
           obtain ⟨A4, m4, c4, rfl⟩ : ∃ A n c, v4 = .slice A n c := by obtain ⟨A, c, hv, _⟩ := RowR.hasX hr4; exact ⟨A, _, c, hv⟩
           have HX4 := Lib.hid hr4
           have HB4 := Lib.hid hbd
           obtain ⟨⟨q0, q1, q2⟩, -⟩ := three_fro HT4.out.1
           obtain ⟨⟨d0, d1⟩, k0, k1⟩ := stCells HR4.out hkR2
           clear hr4 hb4 hbd))
      all_goals
        have PUT := Lib.hid (RowT7.tests HR4.out hkR2 (.slice A4 m4 c4))
        have hB := below_step HB3.out HB4.out
        have hne : (Value.slice A4 m4 c4).ownBlock ≠ some g := fun e => by have h1 : W3.heap.size ≤ g := (rowX_lt HX4.out e).1; have := HG.out; have := HS3.out; omega
        have hN := (HPT.out.below hB).grown PUT.out.2
        have HP2 := Lib.hid (hN.next HKL.out.2.2 (r := ⟨R[k].n, .slice A4 m4 c4⟩) (by rw [HRN.out.2 hkR2]; exact HRN.out.1) (RowR.other (u := .slice (some ⟨g, 0, none⟩) 0 0) (RowR.mono HX4.out (by have := HG.out; have := HS3.out; show w.heap.size + 2 ≤ W3.heap.size; omega)) PUT.out.2 (fun j hj e => hne (hj.trans e.symm))) hne (fun i hi hik b hb e => by have h1 := (rowX_lt (HPT.out.at' i hi (by rw [← HPT.out.len]; exact hi) hik).2.1 hb).2; have h2 : W3.heap.size ≤ b := (rowX_lt HX4.out e).1; have := HS3.out; omega))
        have HT5 := Lib.hid (HT4.out.grown PUT.out.2 (fun j e => by cases e; exact HG.out.1))
        have HGS : Hid (g < (w4.setCell ⟨g, k * 2 + 1, none⟩ (.slice A4 m4 c4)).heap.size) := Lib.hid (by have h1 := PUT.out.2.size; have h2 := hB.size; have := HG.out; omega)
        have hB5 := below_step HBA.out HB4.out
        have HB5 := Lib.hid (hB5.grown PUT.out.2 hB5.size (fun q e => by cases e; have := HG.out; omega))
        have HOLD : Hid (∀ i (h : i < (R.set k ⟨R[k].n, .slice A4 m4 c4⟩).length) (h' : i < R0.length), k + 1 ≤ i → (R.set k ⟨R[k].n, .slice A4 m4 c4⟩)[i] = R0[i]) := Lib.hid fun i h h' hki => by rw [List.getElem_set_ne (by omega)]; exact HP.out.2.2 i (by simpa using h) h' (by omega)
        clear hB hne hN hB5 d0 d1 k0 k1 q0 q1 q2 z0 z1 z2 b0 b1
        go_wp2
        go_roundw
        case rel => exact ⟨k + 1, _, by omega, by go_num, HT5, Lib.hid PUT.out.1, Lib.hid ⟨by rw [List.length_set]; exact HP.out.1, fun g' e => by cases e; exact ⟨HP2.out, HGS.out⟩, HOLD.out⟩, HB5⟩
        case measure => simp [intOf]; omega
    · have hkn : k = n := by omega
      subst hkn
      obtain ⟨⟨x0, x1, x2⟩, f0, f1, f2⟩ := three_fro HT.out.1
      obtain ⟨⟨t0, t1, t2⟩, g0, g1, g2⟩ := three_fro HT.out.2
      have HF : Hid (∃ S, OwnS (w.heap.size + 2) wr (.slice A1 k c1) l S) := Lib.hid (by
        rcases RowR.form HR.out with ⟨e, e2⟩ | ⟨g, cap, e, h1, h2⟩
        · cases e
          obtain rfl : l = [] := List.length_eq_zero_iff.1 (by have := HN.out; omega)
          exact ⟨_, owL_nil stK 1 _ _⟩
        · obtain rfl : A1 = some ⟨g, 0, none⟩ := by cases e; rfl
          have h := (HP.out.2.1 g rfl).1
          have e3 := HN.out
          exact (show Part (w.heap.size + 2) wr g R l l.length by rw [show l.length = k by omega]; exact h).own HR.out)
      go_wp2
      refine bodyPost_ret (v := .agg #[.bool r', .int .i64 u', .slice A1 k c1]) (by simp [results, Try.results18, go_sem, x0, x1, x2, f0, f1, f2, t0, t1, t2, g0, g1, g2]) rfl ?_
      obtain ⟨S, hS⟩ := HF.out
      refine ⟨⟨r', u', .slice A1 k c1⟩, S, rfl, ⟨rfl, rfl, ?_⟩, ?_⟩
      · exact OwL.mono (OwL.set (OwL.set (OwL.set hS (by omega)) (by omega)) (by omega)) (by omega)
      · exact below_set (below_set (below_set HB.out (by omega)) (by omega)) (by omega)
end Go.Proofs.Ythmjffijhlkgcaa
