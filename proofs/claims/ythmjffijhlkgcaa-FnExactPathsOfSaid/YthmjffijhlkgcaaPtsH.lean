/- CHAPTER 8, spec: PathsOf. PRINTED by tools/gen_ptsH.py. -/
import Derived.Test.YthmjffijhlkgcaaPtsG
set_option linter.unusedVariables false
set_option linter.unusedSimpArgs false
namespace Go.Proofs.Ythmjffijhlkgcaa
open Go.RowKit NumP

theorem ptsOne {B : Nat} {w : World} {v : Value} {R : List PthV} {l : List Pth} {K : Nat → Nat → Prop} (h : OwnQ B w v R l K) : ∀ x ∈ R, ∀ u ∈ PthV.enc x, u.oneCell' = true := fun x hx => by
  obtain ⟨i, hi, rfl⟩ := List.getElem_of_mem hx
  exact pthV_one (h.ps i hi (by rw [← h.len]; exact hi))
def SPts (d : Nat) : Prop := ∀ (r : ExR) (t : Ex) (w : World), RdN exN d w r t → ExSz t.x → SizT ExSz d t.kids → sizeN t ≤ 1048577 → Calls Try.prog 5 #[r.val] w fun e w' => ∃ (v : Value) (R : List PthV) (K : Nat → Nat → Prop), e = .returned v ∧ OwnQ w.heap.size w' v R (ptsN t) K ∧ Below w.heap.size w w'
set_option maxRecDepth 100000 in
set_option maxHeartbeats 8000000 in
theorem sPts_of (d : Nat) (ih : ∀ e, d = e + 1 → SPts e) : SPts d := by
  intro r t w hr hx hk hsz
  obtain ⟨⟨⟨h0, hp⟩, hsn⟩, hkids⟩ := hr
  obtain ⟨A, cap, hkv, hlen, hat⟩ := exN_at hkids
  obtain ⟨A3, n3, c3, hsl⟩ : ∃ A n c, r.sv = .slice A n c := by obtain ⟨A, c, hv, _⟩ := hp.st.at; exact ⟨A, _, c, hv⟩
  have hszk : sizeS t.kids ≤ 1048576 := by rw [sizeN_eq] at hsz; omega
  have HAT : Hid (∀ k (hk : k < t.kids.length), ∃ (a : Addr) (r' : ExR), A = some a ∧ (a.add (k * 7)).block < w.heap.size ∧ Ek w (a.add (k * 7)) r' ∧ ∀ W, Below w.heap.size w W → Calls Try.prog 5 #[r'.val] W fun e w' => ∃ (v : Value) (R : List PthV) (K : Nat → Nat → Prop), e = .returned v ∧ OwnQ W.heap.size w' v R (ptsN t.kids[k]) K ∧ Below W.heap.size W w') := Lib.hid fun k hkl => by
    obtain ⟨a, r', d', e1, e2, e3, e4, e5⟩ := hat k hkl
    subst e2
    have hq := hk.2 _ (List.getElem_mem hkl)
    have h9 := sizeN_mem _ _ (List.getElem_mem hkl)
    exact ⟨a, r', e1, e3, e4, fun W hb => ih d' rfl r' t.kids[k] W (e5.below hb) hq.1 hq.2 (by omega)⟩
  obtain ⟨n1, hn1⟩ : ∃ n1 : Nat, n1 = t.kids.length := ⟨_, rfl⟩
  rw [← hn1] at hlen hkv
  obtain ⟨op, num, text, ro, up, sv, kv⟩ := r
  dsimp only at hsl hkv h0
  subst hsl hkv
  obtain ⟨x, l⟩ := t
  obtain ⟨xo, xn, xt, p⟩ := x
  obtain ⟨h1, h2, h3⟩ := h0
  obtain rfl : op = xo := h1
  obtain rfl : num = xn := h2
  obtain rfl : text = xt := h3
  have hl : n1 = l.length := hn1
  have hp2 : HasP7 w ⟨ro, up, .slice A3 n3 c3⟩ p := hp
  have hsn2 : HasSN w (.slice A3 n3 c3) p.st := hsn
  have hpz : PthSz p := hx.2
  have HAT : Hid (∀ k (hk : k < l.length), ∃ (a : Addr) (r' : ExR), A = some a ∧ (a.add (k * 7)).block < w.heap.size ∧ Ek w (a.add (k * 7)) r' ∧ ∀ W, Below w.heap.size w W → Calls Try.prog 5 #[r'.val] W fun e w' => ∃ (v : Value) (R : List PthV) (K : Nat → Nat → Prop), e = .returned v ∧ OwnQ W.heap.size w' v R (ptsN l[k]) K ∧ Below W.heap.size W w') := HAT
  have HL := Lib.hid hl
  have HCP := Lib.hid (fun W (hb : Below w.heap.size w W) => sCopyPth_any ⟨ro, up, .slice A3 n3 c3⟩ p W (hp2.below hb) (hsn2.below hb) hpz.1 (fun s hs => (hpz.2 s hs).2.1))
  have HCNT : Hid (∀ k, (hdE ⟨op, num, text, p⟩ ++ ptsL (l.take k)).length ≤ 1048577) := Lib.hid fun k => by
    have h1 := ptsL_len (l.take k)
    have h2 := sizeS_take l k
    have h3 : sizeS l ≤ 1048576 := hszk
    have h4 : (hdE ⟨op, num, text, p⟩).length ≤ 1 := by unfold hdE; split <;> simp
    rw [List.length_append]; omega
  obtain ⟨W0, hW0⟩ : ∃ W0, W0 = (w.alloc (.cells #[.int .i64 op, .int .i64 num, .string text, .bool ro, .int .i64 up, .slice A3 n3 c3, .slice A n1 cap] 36)).alloc (.cells #[] 33) := ⟨_, rfl⟩
  have HX : Hid (EBox 36 W0 w.heap.size ⟨op, num, text, ro, up, .slice A3 n3 c3, .slice A n1 cap⟩) := Lib.hid (by rw [hW0]; exact (EBox.new 36 w ⟨op, num, text, ro, up, .slice A3 n3 c3, .slice A n1 cap⟩).below (below_al (Below.refl _ _) _))
  have HB0 : Hid (Below w.heap.size w W0) := Lib.hid (by rw [hW0]; exact below_al (below_al (Below.refl _ _) _) _)
  have HS0 : Hid (W0.heap.size = w.heap.size + 2) := Lib.hid (by rw [hW0]; simp)
  have HQ0 : Hid (OwnQ (w.heap.size + 1) W0 (.slice (some ⟨w.heap.size + 1, 0, none⟩) 0 0) [] [] (fun _ _ => False)) := Lib.hid (by
    rw [hW0]
    have h := ownQ_new (w.heap.size + 1) (w.alloc (.cells #[.int .i64 op, .int .i64 num, .string text, .bool ro, .int .i64 up, .slice A3 n3 c3, .slice A n1 cap] 36)) (by simp) (fun _ _ => False)
    rwa [World.size_alloc] at h)
  obtain ⟨Z, hZ⟩ : ∃ Z, Z = hdE ⟨op, num, text, p⟩ := ⟨_, rfl⟩
  have HZ := Lib.hid hZ
  have HFIN : Hid (ptsN (.mk ⟨op, num, text, p⟩ l) = Z ++ ptsL l) := Lib.hid (by rw [ptsN_eq, hZ]; rfl)
  rw [← hZ] at HCNT
  rw [HFIN.out]
  have hx0 := HX.out.tell
  obtain ⟨b0, b1, b2, b3, b4, b5, b6⟩ := hx0
  rw [hW0] at b0 b1 b2 b3 b4 b5 b6
  clear hp hp2 hsn hsn2 hkids hat hx hk hn1 hl hpz hZ ih hsz hszk
  by_cases o3 : op = 3 ∨ op = 4
  · have HZ1 : Hid ([] ++ [p] = Z ++ ptsL (l.take 0)) := Lib.hid (by rw [HZ.out]; unfold hdE; rw [if_pos o3]; simp [ptsL])
    have hc : ((op == 3) = true ∧ (op == 4) = (op == 4)) ∨ ((op == 3) = false ∧ (op == 4) = true) := by
      rcases o3 with h | h
      · left; simp [h]
      · right; simp [h]
    rcases hc with ⟨f1, f2⟩ | ⟨f1, f2⟩
    all_goals
      go_enter Try.func5, Try.ntmps5
      go_wp2_with fail
      rw [← hW0]
      refine (HCP.out _ HB0.out).mono ?_
      rintro e w2 ⟨⟨r2, u2, sv2⟩, S2, rfl, ho2, hb2⟩
      obtain ⟨A2, n2, c2, rfl⟩ : ∃ A n c, sv2 = .slice A n c := by obtain ⟨A, c, hv, _⟩ := ho2.has.st.at; exact ⟨A, _, c, hv⟩
      have HO2 := Lib.hid ho2
      have hb3 := below_al hb2 (.cells #[.bool r2, .int .i64 u2, .slice A2 n2 c2] 33)
      have HB3 := Lib.hid hb3
      have HQ1 := Lib.hid (HQ0.out.below hb3)
      have HO3 := Lib.hid ((ho2.below (below_al (Below.refl _ _) (.cells #[.bool r2, .int .i64 u2, .slice A2 n2 c2] 33))).mono (B' := w.heap.size + 1) (by have := HS0.out; omega))
      have HX3 := Lib.hid (HX.out.below hb3)
      have HN3 : Hid (∀ j u, (PthV.enc ⟨r2, u2, .slice A2 n2 c2⟩)[j]? = some u → (w2.alloc (.cells #[.bool r2, .int .i64 u2, .slice A2 n2 c2] 33)).cell? ((⟨w2.heap.size, 0, none⟩ : Addr).add j) = some u) := Lib.hid (World.news_of_block (heap_alloc_new w2 _))
      clear hb2 hb3 b0 b1 b2 b3 b4 b5 b6 ho2
      go_wp2_with (at_builtin; refine wpList_rec_append PthV.enc_len (by omega) Try.underlying29 infoPth (by rfl) (by omega) rfl _ _ rfl (w.heap.size + 1) 0 (.slice (some ⟨w.heap.size + 1, 0, none⟩) 0 0) [] (by rfl) HQ1.out.row rfl ⟨r2, u2, .slice A2 n2 c2⟩ ⟨w2.heap.size, 0, none⟩ 1 (by rfl) HN3.out (pthV_one HO3.out) (by omega) (by have := HB3.out.size; have := HS0.out; omega) ?_; intro v3 w3 hrow3 hg3 hv3)
      have HQ3 := Lib.hid (HQ1.out.snoc HO3.out (fun b hb hs => by
        have h1 := (OwL.lt HO2.out.st b hb).1
        have h2 := HS0.out
        rcases hs with h | ⟨i, hi, _⟩
        · have h : w.heap.size + 1 = b := Option.some.inj h
          omega
        · cases hi) hrow3 hg3 hv3)
      have hj : ∀ q, (Value.slice (some ⟨w.heap.size + 1, 0, none⟩) 0 0).ownBlock = some q → w.heap.size + 1 ≤ q := fun q e => by cases e; exact Nat.le_refl _
      have HXL : Hid (EBox 36 w3 w.heap.size ⟨op, num, text, ro, up, .slice A3 n3 c3, .slice A n1 cap⟩) := Lib.hid ((hg3.block _ HX3.out.lt (fun e => by have := hj _ e.symm; omega)).trans HX3.out)
      have HBL : Hid (Below w.heap.size w w3) := Lib.hid ((HB0.out.trans (HB3.out.mono (by have := HS0.out; omega))).grown hg3 (by have := HB3.out.size; have := HS0.out; omega) (fun q e => by have := hj _ e; omega))
      clear hrow3 hg3 hv3 hj
      go_wp2
      go_loopw [3, 4] (fun o i wr => ∃ (k : Nat) (R : List PthV) (K : Nat → Nat → Prop) (ov : Value), ov = o ∧ k ≤ n1 ∧ i = .int .i64 k ∧ Hid (OwnQ (w.heap.size + 1) wr o R (Z ++ ptsL (l.take k)) K) ∧ Hid (EBox 36 wr w.heap.size ⟨op, num, text, ro, up, .slice A3 n3 c3, .slice A n1 cap⟩) ∧ Hid (Below w.heap.size w wr)) (fun _ i _ => n1 - (intOf i).toNat)
      case atStart => exact ⟨0, _, _, _, rfl, Nat.zero_le _, rfl, (Lib.hid (by rw [← HZ1.out]; exact HQ3.out)), HXL, HBL⟩
      case round =>
        obtain ⟨k, R, K, o, rfl, hk, rfl, HQ, HXR, HB⟩ := hrel
        obtain ⟨b0, b1, b2, b3, b4, b5, b6⟩ := HXR.out.tell
        by_cases hlt : k < n1
        · have hl1 : k < l.length := by rw [← HL.out]; exact hlt
          obtain ⟨a, qq, rfl, hab, hx, HC⟩ := HAT.out k hl1
          have HC := Lib.hid HC
          obtain ⟨c0, c1, c2, c3', c4, c5, c6⟩ := hx.below HB.out hab
          have HST : Hid (Z ++ ptsL (l.take (k + 1)) = (Z ++ ptsL (l.take k)) ++ ptsN l[k]) := Lib.hid (by rw [ptsL_step hl1, List.append_assoc])
          have HCN : Hid ((Z ++ ptsL (l.take k)).length + (ptsN l[k]).length ≤ 1048577) := Lib.hid (by have := HCNT.out (k + 1); rw [HST.out, List.length_append] at this; exact this)
          clear hx
          go_wp2_with fail
          refine (HC.out _ HB.out).mono ?_
          rintro e w2 ⟨v2, R2, K2, rfl, hq2, hb2⟩
          have HB2 := Lib.hid hb2
          have HQ2 := Lib.hid hq2
          have HQ1 := Lib.hid (HQ.out.below hb2)
          have HB4 := Lib.hid (below_step HB.out hb2)
          have HX4 := Lib.hid (HXR.out.below hb2)
          clear hb2 hq2 b0 b1 b2 b3 b4 b5 b6 c0 c1 c2 c3' c4 c5 c6
          go_wp2_with (at_builtin; refine wpList_rec_join PthV.enc_len (by omega) Try.underlying29 infoPth (by rfl) (by omega) rfl _ _ rfl (w.heap.size + 1) R.length o R (by rfl) HQ1.out.row rfl v2 R2 (by rfl) (RowR.has PthV.enc_len HQ2.out.row) (ptsOne HQ2.out) (RowR.nilOk HQ2.out.row) (by rw [HQ.out.len, HQ2.out.len]; have := HCN.out; omega) (by have := HXR.out.lt; have := HB2.out.size; omega) ?_; intro v' w3 hrow3 hg3 hv3)
          have HQ3 := Lib.hid (HQ1.out.join (K2 := K2) HQ2.out.len (fun i h h' => (HQ2.out.ps i h h').mono (by have := HXR.out.lt; omega)) HQ2.out.dis (fun i b hi hb hs => by
            have h1 := (HQ2.out.lt (.inr ⟨i, hi, hb⟩)).1
            have h2 := (HQ.out.lt hs).2
            omega) hrow3 hg3 hv3)
          have hj : ∀ q, o.ownBlock = some q → w.heap.size + 1 ≤ q := fun q e => (HQ.out.lt (.inl e)).1
          have HX5 : Hid (EBox 36 w3 w.heap.size ⟨op, num, text, ro, up, .slice A3 n3 c3, .slice (some a) n1 cap⟩) := Lib.hid ((hg3.block _ HX4.out.lt (fun e => by have := hj _ e.symm; omega)).trans HX4.out)
          have HB5 : Hid (Below w.heap.size w w3) := Lib.hid (HB4.out.grown hg3 HB4.out.size (fun q e => by have := hj _ e; omega))
          rw [← HST.out] at HQ3
          clear hrow3 hg3 hv3 hj
          go_wp2
          go_roundw
          case rel => exact ⟨k + 1, _, _, _, rfl, by omega, by go_num, HQ3, HX5, HB5⟩
          case measure => first | (simp [intOf]; done) | (simp [intOf]; omega)
        · have HQF : Hid (OwnQ (w.heap.size + 1) wr o R (Z ++ ptsL l) K) := Lib.hid (by have := HQ.out; rwa [List.take_of_length_le (by have := HL.out; omega)] at this)
          go_wp2
          go_ret
          exact ⟨o, rfl, ⟨R, K, HQF.out.mono (by omega)⟩, HB.out⟩
  · have HZ1 : Hid ([] = Z ++ ptsL (l.take 0)) := Lib.hid (by rw [HZ.out]; unfold hdE; rw [if_neg o3]; simp [ptsL])
    obtain ⟨o4, o5⟩ : ¬ op = 3 ∧ ¬ op = 4 := ⟨fun h => o3 (.inl h), fun h => o3 (.inr h)⟩
    have f1 : (op == 3) = false := by simp [o4]
    have f2 : (op == 4) = false := by simp [o5]
    go_enter Try.func5, Try.ntmps5
    go_wp2
    rw [← hW0]
    have HXL := HX
    have HBL := HB0
    go_loopw [3, 4] (fun o i wr => ∃ (k : Nat) (R : List PthV) (K : Nat → Nat → Prop) (ov : Value), ov = o ∧ k ≤ n1 ∧ i = .int .i64 k ∧ Hid (OwnQ (w.heap.size + 1) wr o R (Z ++ ptsL (l.take k)) K) ∧ Hid (EBox 36 wr w.heap.size ⟨op, num, text, ro, up, .slice A3 n3 c3, .slice A n1 cap⟩) ∧ Hid (Below w.heap.size w wr)) (fun _ i _ => n1 - (intOf i).toNat)
    case atStart => exact ⟨0, _, _, _, rfl, Nat.zero_le _, rfl, (Lib.hid (by rw [← HZ1.out]; exact HQ0.out)), HXL, HBL⟩
    case round =>
      obtain ⟨k, R, K, o, rfl, hk, rfl, HQ, HXR, HB⟩ := hrel
      obtain ⟨b0, b1, b2, b3, b4, b5, b6⟩ := HXR.out.tell
      by_cases hlt : k < n1
      · have hl1 : k < l.length := by rw [← HL.out]; exact hlt
        obtain ⟨a, qq, rfl, hab, hx, HC⟩ := HAT.out k hl1
        have HC := Lib.hid HC
        obtain ⟨c0, c1, c2, c3', c4, c5, c6⟩ := hx.below HB.out hab
        have HST : Hid (Z ++ ptsL (l.take (k + 1)) = (Z ++ ptsL (l.take k)) ++ ptsN l[k]) := Lib.hid (by rw [ptsL_step hl1, List.append_assoc])
        have HCN : Hid ((Z ++ ptsL (l.take k)).length + (ptsN l[k]).length ≤ 1048577) := Lib.hid (by have := HCNT.out (k + 1); rw [HST.out, List.length_append] at this; exact this)
        clear hx
        go_wp2_with fail
        refine (HC.out _ HB.out).mono ?_
        rintro e w2 ⟨v2, R2, K2, rfl, hq2, hb2⟩
        have HB2 := Lib.hid hb2
        have HQ2 := Lib.hid hq2
        have HQ1 := Lib.hid (HQ.out.below hb2)
        have HB4 := Lib.hid (below_step HB.out hb2)
        have HX4 := Lib.hid (HXR.out.below hb2)
        clear hb2 hq2 b0 b1 b2 b3 b4 b5 b6 c0 c1 c2 c3' c4 c5 c6
        go_wp2_with (at_builtin; refine wpList_rec_join PthV.enc_len (by omega) Try.underlying29 infoPth (by rfl) (by omega) rfl _ _ rfl (w.heap.size + 1) R.length o R (by rfl) HQ1.out.row rfl v2 R2 (by rfl) (RowR.has PthV.enc_len HQ2.out.row) (ptsOne HQ2.out) (RowR.nilOk HQ2.out.row) (by rw [HQ.out.len, HQ2.out.len]; have := HCN.out; omega) (by have := HXR.out.lt; have := HB2.out.size; omega) ?_; intro v' w3 hrow3 hg3 hv3)
        have HQ3 := Lib.hid (HQ1.out.join (K2 := K2) HQ2.out.len (fun i h h' => (HQ2.out.ps i h h').mono (by have := HXR.out.lt; omega)) HQ2.out.dis (fun i b hi hb hs => by
          have h1 := (HQ2.out.lt (.inr ⟨i, hi, hb⟩)).1
          have h2 := (HQ.out.lt hs).2
          omega) hrow3 hg3 hv3)
        have hj : ∀ q, o.ownBlock = some q → w.heap.size + 1 ≤ q := fun q e => (HQ.out.lt (.inl e)).1
        have HX5 : Hid (EBox 36 w3 w.heap.size ⟨op, num, text, ro, up, .slice A3 n3 c3, .slice (some a) n1 cap⟩) := Lib.hid ((hg3.block _ HX4.out.lt (fun e => by have := hj _ e.symm; omega)).trans HX4.out)
        have HB5 : Hid (Below w.heap.size w w3) := Lib.hid (HB4.out.grown hg3 HB4.out.size (fun q e => by have := hj _ e; omega))
        rw [← HST.out] at HQ3
        clear hrow3 hg3 hv3 hj
        go_wp2
        go_roundw
        case rel => exact ⟨k + 1, _, _, _, rfl, by omega, by go_num, HQ3, HX5, HB5⟩
        case measure => first | (simp [intOf]; done) | (simp [intOf]; omega)
      · have HQF : Hid (OwnQ (w.heap.size + 1) wr o R (Z ++ ptsL l) K) := Lib.hid (by have := HQ.out; rwa [List.take_of_length_le (by have := HL.out; omega)] at this)
        go_wp2
        go_ret
        exact ⟨o, rfl, ⟨R, K, HQF.out.mono (by omega)⟩, HB.out⟩
theorem sPts_any : ∀ d, SPts d
  | 0 => sPts_of 0 (fun e h => absurd h (by omega))
  | d + 1 => sPts_of (d + 1) (fun e h => (show d = e by omega) ▸ sPts_any d)
end Go.Proofs.Ythmjffijhlkgcaa
