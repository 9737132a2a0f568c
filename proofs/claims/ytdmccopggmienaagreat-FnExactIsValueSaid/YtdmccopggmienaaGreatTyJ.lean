/- CHAPTER 6, spec: CanonValue, IsValue. (Printed by wip/tools/gen_tyJ.py.) -/
import Derived.Test.YtdmccopggmienaaGreatTyI
import Derived.Test.YtdmccopggmienaaGreatTyF
set_option linter.unusedVariables false
set_option linter.unusedSimpArgs false
namespace Go.Proofs.YtdmccopggmienaaGreat
open Go.RowKit NumP

theorem mem0 (s : ByteArray) (l : List ByteArray) : false = memB s (l.take 0) := by
  cases h : memB s (l.take 0) with
  | false => rfl
  | true => exact absurd ((mem_iff _ _).1 h) (by simp)
theorem mem_snoc (s : ByteArray) (l : List ByteArray) (k : Nat) (h : k < l.length) : memB s (l.take (k + 1)) = (memB s (l.take k) || @decide (s = l[k]) (Classical.propDecidable _)) := by
  rw [Bool.eq_iff_iff, mem_iff, Bool.or_eq_true, mem_iff, @decide_eq_true_iff _ (Classical.propDecidable _), List.take_succ_eq_append_getElem h, List.mem_append, List.mem_singleton]
set_option maxRecDepth 100000 in
set_option maxHeartbeats 16000000 in
theorem sCan_1 (v : TyV) (t : Ty) (s : ByteArray) (w : World) (h : HasTy w v t) (hs : TySz t) (hS : s.size ≤ 1048576) (hk : t.k = 1) :
    Calls Tryz.prog 7 #[v.val, .string s] w fun e w' => e = .returned (tupS (canonT t s)) ∧ Below w.heap.size w w' := by
  have HTY0 := Lib.hid (fun W (hb : Below w.heap.size w W) => sIsTy_any v t W (h.below hb) hs)
  obtain ⟨q, hq⟩ : ∃ q, q = isTyB t := ⟨_, rfl⟩
  have HQ := Lib.hid hq
  rw [← hq] at HTY0
  obtain ⟨k, rg, nm, pt, ph⟩ := t
  obtain ⟨k', vr, vn, pt', ph'⟩ := v
  obtain ⟨rfl, hr, hn, rfl, rfl⟩ := h
  obtain ⟨s1, s2, s3⟩ := hs
  dsimp only at *
  obtain ⟨A, c, rfl, hn1, hc1⟩ := id hr
  obtain ⟨A', c', rfl, hn2, hc2⟩ := id hn
  obtain ⟨n, hnn⟩ : ∃ n, n = rg.length := ⟨_, rfl⟩
  obtain ⟨m, hmm⟩ : ∃ m, m = nm.length := ⟨_, rfl⟩
  rw [← hnn] at hr hn1 HTY0 ⊢
  rw [← hmm] at hn hn2 HTY0 ⊢
  obtain ⟨W0, hW0⟩ : ∃ W0, W0 = w.alloc (.cells #[.int .i64 k', .slice A n c, .slice A' m c', .string pt', .string ph'] 31) := ⟨_, rfl⟩
  have hb0 : Below w.heap.size w W0 := by rw [hW0]; exact below_al (Below.refl _ _) _
  have hz0 : w.heap.size < W0.heap.size := by rw [hW0]; simp
  have HBX : Hid (∀ W, Below W0.heap.size W0 W → W.heap[w.heap.size]? = some (.cells #[.int .i64 k', .slice A n c, .slice A' m c', .string pt', .string ph'] 31 (0, 0))) := Lib.hid fun W hb => (hb.block _ hz0).trans (by rw [hW0]; exact heap_alloc_new' _ _ rfl)
  have HLOW : Hid (∀ W, Below W0.heap.size W0 W → Below w.heap.size w W) := Lib.hid fun W hb => below_step hb0 hb
  have HTY : Hid (∀ W, Below W0.heap.size W0 W → Calls Tryz.prog 27 #[.agg #[.int .i64 k', .slice A n c, .slice A' m c', .string pt', .string ph']] W fun e w' => e = .returned (.bool q) ∧ Below W.heap.size W w') := Lib.hid fun W hb => HTY0.out W (below_step hb0 hb)
  have HIN : Hid (∀ x W, Below W0.heap.size W0 W → Calls Tryz.prog 24 #[.slice A n c, .int .i64 x] W fun e w' => e = .returned (.bool (inB rg x)) ∧ Below W.heap.size W w') := Lib.hid fun x W hb => sInR_any _ rg x W (HasR.below hr (below_step hb0 hb))
  have HRD := Lib.hid (fun w => sRead_any s (by unfold maxLen; omega) w)
  have HTX := Lib.hid (fun w => sIsText_any s (by unfold maxLen; omega) w)
  have HMT := Lib.hid (fun w => sMText_any pt' s (by unfold maxLen; omega) hS w)
  have HCE : Hid (∀ i (hi : i < nm.length), ∃ a, A' = some a ∧ ∀ W, Below W0.heap.size W0 W → W.cell? (a.add i) = some (.string nm[i])) := Lib.hid fun i hi => by
    obtain ⟨a, ha, hab, hcell⟩ := hc2 i hi
    exact ⟨a, ha, fun W hb => by rw [(below_step hb0 hb).cell (by rw [add_blk]; exact hab)]; exact hcell⟩
  have HM1 : Hid (m = nm.length) := Lib.hid hmm
  have HBW : Hid (Below W0.heap.size W0 W0) := Lib.hid (Below.refl _ _)
  obtain ⟨Z, hZ⟩ : ∃ Z, Z = tupS (canonT ⟨k', rg, nm, pt', ph'⟩ s) := ⟨_, rfl⟩
  have HZ := Lib.hid hZ
  rw [← hZ]
  obtain ⟨⟨x0, x1, x2, x3, x4⟩, -⟩ := five (HBX.out _ HBW.out)
  subst hW0
  clear hZ hr hn hc1 hc2 hnn hmm s1 s2 s3 HTY0 hq x0 x1 x2 x3 x4
  subst hk
  have HC : Hid (canO ⟨1, rg, nm, pt', ph'⟩ s = intO rg s) := Lib.hid rfl
  cases ho : readL s.data.toList with
  | none =>
    have HI : Hid (intO rg s = none) := Lib.hid (by unfold intO; rw [ho])
    rw [ho] at HRD
    replace HRD : Hid (∀ w, Calls Tryz.prog 22 #[.string s] w fun e w' => e = .returned (.tuple #[.int .i64 0, .bool false]) ∧ w = w') := Lib.hid HRD.out
    have HFM := Lib.hid (fun w => sFmt_any 0 (by omega) (by omega) w)
    clear ho
    have HL : Hid (Z = .tuple #[.string ⟨#[]⟩, .bool false]) := Lib.hid (by rw [HZ.out]; exact tup_none (canon_none (HC.out.trans HI.out)))
    go_enter Tryz.func7, Tryz.ntmps7
    go_wp2_with (first
      | (go_at_call 22; refine (HRD.out _).mono ?_; rintro e w' ⟨rfl, rfl⟩)
      | (go_at_call 23; refine (HFM.out _).mono ?_; rintro e w1 ⟨rfl, hb1⟩; have HB1 := Lib.hid hb1; obtain ⟨⟨y0, y1, y2, y3, y4⟩, -⟩ := five (HBX.out _ HB1.out))
      | (go_at_call 24; refine (HIN.out _ _ HB1.out).mono ?_; rintro e w2 ⟨rfl, hb2⟩; have HB2 := Lib.hid (below_step HB1.out hb2); obtain ⟨⟨z0, z1, z2, z3, z4⟩, -⟩ := five (HBX.out _ HB2.out)))
    go_ret2
    exact ⟨ret_val HL.out.symm, HLOW.out _ HB1.out⟩
  | some x =>
    have hbd := readL_bd ho
    have HFM := Lib.hid (fun w => sFmt_any x (by omega) (by omega) w)
    have HI : Hid (intO rg s = if inB rg x = true then some (fmtS x) else none) := Lib.hid (by unfold intO; rw [ho])
    rw [ho] at HRD
    replace HRD : Hid (∀ w, Calls Tryz.prog 22 #[.string s] w fun e w' => e = .returned (.tuple #[.int .i64 x, .bool true]) ∧ w = w') := Lib.hid HRD.out
    obtain ⟨b, hb⟩ : ∃ b, b = inB rg x := ⟨_, rfl⟩
    have HB := Lib.hid hb
    replace HIN := Lib.hid (HIN.out x)
    rw [← hb] at HIN
    clear ho hb
    cases b
    ·
      have HL : Hid (Z = .tuple #[.string ⟨#[]⟩, .bool false]) := Lib.hid (by rw [HZ.out]; exact tup_none (canon_none (HC.out.trans (by rw [HI.out, ← HB.out]; rfl))))
      go_enter Tryz.func7, Tryz.ntmps7
      go_wp2_with (first
        | (go_at_call 22; refine (HRD.out _).mono ?_; rintro e w' ⟨rfl, rfl⟩)
        | (go_at_call 23; refine (HFM.out _).mono ?_; rintro e w1 ⟨rfl, hb1⟩; have HB1 := Lib.hid hb1; obtain ⟨⟨y0, y1, y2, y3, y4⟩, -⟩ := five (HBX.out _ HB1.out))
        | (go_at_call 24; refine (HIN.out _ HB1.out).mono ?_; rintro e w2 ⟨rfl, hb2⟩; have HB2 := Lib.hid (below_step HB1.out hb2); obtain ⟨⟨z0, z1, z2, z3, z4⟩, -⟩ := five (HBX.out _ HB2.out)))
      go_ret2
      exact ⟨ret_val HL.out.symm, HLOW.out _ HB2.out⟩
    ·
      cases q
      ·
        have HL : Hid (Z = .tuple #[.string ⟨#[]⟩, .bool false]) := Lib.hid (by rw [HZ.out]; exact tup_none (canon_no _ HQ.out.symm))
        go_enter Tryz.func7, Tryz.ntmps7
        go_wp2_with (first
          | (go_at_call 22; refine (HRD.out _).mono ?_; rintro e w' ⟨rfl, rfl⟩)
          | (go_at_call 23; refine (HFM.out _).mono ?_; rintro e w1 ⟨rfl, hb1⟩; have HB1 := Lib.hid hb1; obtain ⟨⟨y0, y1, y2, y3, y4⟩, -⟩ := five (HBX.out _ HB1.out))
          | (go_at_call 24; refine (HIN.out _ HB1.out).mono ?_; rintro e w2 ⟨rfl, hb2⟩; have HB2 := Lib.hid (below_step HB1.out hb2); obtain ⟨⟨z0, z1, z2, z3, z4⟩, -⟩ := five (HBX.out _ HB2.out))
          | (go_at_call 27; refine (HTY.out _ HB2.out).mono ?_; rintro e w4 ⟨rfl, hb4⟩; have HB4 := Lib.hid (below_step HB2.out hb4)))
        go_ret2
        exact ⟨ret_val HL.out.symm, HLOW.out _ HB4.out⟩
      ·
        have HL : Hid (Z = .tuple #[.string (fmtS x), .bool true]) := Lib.hid (by rw [HZ.out]; exact tup_some ((canon_yes _ HQ.out.symm).trans (HC.out.trans (by rw [HI.out, ← HB.out]; rfl))))
        go_enter Tryz.func7, Tryz.ntmps7
        go_wp2_with (first
          | (go_at_call 22; refine (HRD.out _).mono ?_; rintro e w' ⟨rfl, rfl⟩)
          | (go_at_call 23; refine (HFM.out _).mono ?_; rintro e w1 ⟨rfl, hb1⟩; have HB1 := Lib.hid hb1; obtain ⟨⟨y0, y1, y2, y3, y4⟩, -⟩ := five (HBX.out _ HB1.out))
          | (go_at_call 24; refine (HIN.out _ HB1.out).mono ?_; rintro e w2 ⟨rfl, hb2⟩; have HB2 := Lib.hid (below_step HB1.out hb2); obtain ⟨⟨z0, z1, z2, z3, z4⟩, -⟩ := five (HBX.out _ HB2.out))
          | (go_at_call 27; refine (HTY.out _ HB2.out).mono ?_; rintro e w4 ⟨rfl, hb4⟩; have HB4 := Lib.hid (below_step HB2.out hb4)))
        go_ret2
        exact ⟨ret_val HL.out.symm, HLOW.out _ HB4.out⟩
set_option maxRecDepth 100000 in
set_option maxHeartbeats 16000000 in
theorem sCan_2 (v : TyV) (t : Ty) (s : ByteArray) (w : World) (h : HasTy w v t) (hs : TySz t) (hS : s.size ≤ 1048576) (hk : t.k = 2) :
    Calls Tryz.prog 7 #[v.val, .string s] w fun e w' => e = .returned (tupS (canonT t s)) ∧ Below w.heap.size w w' := by
  have HTY0 := Lib.hid (fun W (hb : Below w.heap.size w W) => sIsTy_any v t W (h.below hb) hs)
  obtain ⟨q, hq⟩ : ∃ q, q = isTyB t := ⟨_, rfl⟩
  have HQ := Lib.hid hq
  rw [← hq] at HTY0
  obtain ⟨k, rg, nm, pt, ph⟩ := t
  obtain ⟨k', vr, vn, pt', ph'⟩ := v
  obtain ⟨rfl, hr, hn, rfl, rfl⟩ := h
  obtain ⟨s1, s2, s3⟩ := hs
  dsimp only at *
  obtain ⟨A, c, rfl, hn1, hc1⟩ := id hr
  obtain ⟨A', c', rfl, hn2, hc2⟩ := id hn
  obtain ⟨n, hnn⟩ : ∃ n, n = rg.length := ⟨_, rfl⟩
  obtain ⟨m, hmm⟩ : ∃ m, m = nm.length := ⟨_, rfl⟩
  rw [← hnn] at hr hn1 HTY0 ⊢
  rw [← hmm] at hn hn2 HTY0 ⊢
  obtain ⟨W0, hW0⟩ : ∃ W0, W0 = w.alloc (.cells #[.int .i64 k', .slice A n c, .slice A' m c', .string pt', .string ph'] 31) := ⟨_, rfl⟩
  have hb0 : Below w.heap.size w W0 := by rw [hW0]; exact below_al (Below.refl _ _) _
  have hz0 : w.heap.size < W0.heap.size := by rw [hW0]; simp
  have HBX : Hid (∀ W, Below W0.heap.size W0 W → W.heap[w.heap.size]? = some (.cells #[.int .i64 k', .slice A n c, .slice A' m c', .string pt', .string ph'] 31 (0, 0))) := Lib.hid fun W hb => (hb.block _ hz0).trans (by rw [hW0]; exact heap_alloc_new' _ _ rfl)
  have HLOW : Hid (∀ W, Below W0.heap.size W0 W → Below w.heap.size w W) := Lib.hid fun W hb => below_step hb0 hb
  have HTY : Hid (∀ W, Below W0.heap.size W0 W → Calls Tryz.prog 27 #[.agg #[.int .i64 k', .slice A n c, .slice A' m c', .string pt', .string ph']] W fun e w' => e = .returned (.bool q) ∧ Below W.heap.size W w') := Lib.hid fun W hb => HTY0.out W (below_step hb0 hb)
  have HIN : Hid (∀ x W, Below W0.heap.size W0 W → Calls Tryz.prog 24 #[.slice A n c, .int .i64 x] W fun e w' => e = .returned (.bool (inB rg x)) ∧ Below W.heap.size W w') := Lib.hid fun x W hb => sInR_any _ rg x W (HasR.below hr (below_step hb0 hb))
  have HRD := Lib.hid (fun w => sRead_any s (by unfold maxLen; omega) w)
  have HTX := Lib.hid (fun w => sIsText_any s (by unfold maxLen; omega) w)
  have HMT := Lib.hid (fun w => sMText_any pt' s (by unfold maxLen; omega) hS w)
  have HCE : Hid (∀ i (hi : i < nm.length), ∃ a, A' = some a ∧ ∀ W, Below W0.heap.size W0 W → W.cell? (a.add i) = some (.string nm[i])) := Lib.hid fun i hi => by
    obtain ⟨a, ha, hab, hcell⟩ := hc2 i hi
    exact ⟨a, ha, fun W hb => by rw [(below_step hb0 hb).cell (by rw [add_blk]; exact hab)]; exact hcell⟩
  have HM1 : Hid (m = nm.length) := Lib.hid hmm
  have HBW : Hid (Below W0.heap.size W0 W0) := Lib.hid (Below.refl _ _)
  obtain ⟨Z, hZ⟩ : ∃ Z, Z = tupS (canonT ⟨k', rg, nm, pt', ph'⟩ s) := ⟨_, rfl⟩
  have HZ := Lib.hid hZ
  rw [← hZ]
  obtain ⟨⟨x0, x1, x2, x3, x4⟩, -⟩ := five (HBX.out _ HBW.out)
  subst hW0
  clear hZ hr hn hc1 hc2 hnn hmm s1 s2 s3 HTY0 hq x0 x1 x2 x3 x4
  subst hk
  have HC : Hid (canO ⟨2, rg, nm, pt', ph'⟩ s = if (textB s && inB rg s.size && (emB pt' || textOfB pt' s)) = true then some s else none) := Lib.hid rfl
  obtain ⟨b1, hb1⟩ : ∃ b, b = textB s := ⟨_, rfl⟩
  obtain ⟨b2, hb2⟩ : ∃ b, b = inB rg s.size := ⟨_, rfl⟩
  obtain ⟨b3, hb3⟩ : ∃ b, b = textOfB pt' s := ⟨_, rfl⟩
  replace HIN := Lib.hid (HIN.out s.size)
  rw [← hb1, ← hb2, ← hb3] at HC
  rw [← hb1] at HTX
  rw [← hb2] at HIN
  rw [← hb3] at HMT
  clear hb1 hb2 hb3
  cases b1
  ·
    have HL : Hid (Z = .tuple #[.string ⟨#[]⟩, .bool false]) := Lib.hid (by rw [HZ.out]; exact tup_none (canon_none (HC.out)))
    go_enter Tryz.func7, Tryz.ntmps7
    go_wp2_with (first
      | (go_at_call 25; refine (HTX.out _).mono ?_; rintro e w' ⟨rfl, rfl⟩))
    go_ret2
    exact ⟨ret_val HL.out.symm, HLOW.out _ HBW.out⟩
  ·
    cases b2
    ·
      have HL : Hid (Z = .tuple #[.string ⟨#[]⟩, .bool false]) := Lib.hid (by rw [HZ.out]; exact tup_none (canon_none (HC.out)))
      go_enter Tryz.func7, Tryz.ntmps7
      go_wp2_with (first
        | (go_at_call 25; refine (HTX.out _).mono ?_; rintro e w' ⟨rfl, rfl⟩)
        | (go_at_call 24; refine (HIN.out _ HBW.out).mono ?_; rintro e w2 ⟨rfl, hb2⟩; have HB2 := Lib.hid hb2; obtain ⟨⟨z0, z1, z2, z3, z4⟩, -⟩ := five (HBX.out _ HB2.out)))
      go_ret2
      exact ⟨ret_val HL.out.symm, HLOW.out _ HB2.out⟩
    ·
      rcases em_cases pt' with rfl | ⟨p1, p2, p3, p4⟩
      ·
        cases q
        ·
          have HL : Hid (Z = .tuple #[.string ⟨#[]⟩, .bool false]) := Lib.hid (by rw [HZ.out]; exact tup_none (canon_no _ HQ.out.symm))
          go_enter Tryz.func7, Tryz.ntmps7
          go_wp2_with (first
            | (go_at_call 25; refine (HTX.out _).mono ?_; rintro e w' ⟨rfl, rfl⟩)
            | (go_at_call 24; refine (HIN.out _ HBW.out).mono ?_; rintro e w2 ⟨rfl, hb2⟩; have HB2 := Lib.hid hb2; obtain ⟨⟨z0, z1, z2, z3, z4⟩, -⟩ := five (HBX.out _ HB2.out))
            | (go_at_call 27; refine (HTY.out _ HB2.out).mono ?_; rintro e w4 ⟨rfl, hb4⟩; have HB4 := Lib.hid (below_step HB2.out hb4)))
          go_ret2
          exact ⟨ret_val HL.out.symm, HLOW.out _ HB4.out⟩
        ·
          have HL : Hid (Z = .tuple #[.string s, .bool true]) := Lib.hid (by rw [HZ.out]; exact tup_some ((canon_yes _ HQ.out.symm).trans (HC.out)))
          go_enter Tryz.func7, Tryz.ntmps7
          go_wp2_with (first
            | (go_at_call 25; refine (HTX.out _).mono ?_; rintro e w' ⟨rfl, rfl⟩)
            | (go_at_call 24; refine (HIN.out _ HBW.out).mono ?_; rintro e w2 ⟨rfl, hb2⟩; have HB2 := Lib.hid hb2; obtain ⟨⟨z0, z1, z2, z3, z4⟩, -⟩ := five (HBX.out _ HB2.out))
            | (go_at_call 27; refine (HTY.out _ HB2.out).mono ?_; rintro e w4 ⟨rfl, hb4⟩; have HB4 := Lib.hid (below_step HB2.out hb4)))
          go_ret2
          exact ⟨ret_val HL.out.symm, HLOW.out _ HB4.out⟩
      ·
        rw [p4] at HC
        cases b3
        ·
          have HL : Hid (Z = .tuple #[.string ⟨#[]⟩, .bool false]) := Lib.hid (by rw [HZ.out]; exact tup_none (canon_none (HC.out)))
          go_enter Tryz.func7, Tryz.ntmps7
          go_wp2_with (first
            | (go_at_call 25; refine (HTX.out _).mono ?_; rintro e w' ⟨rfl, rfl⟩)
            | (go_at_call 24; refine (HIN.out _ HBW.out).mono ?_; rintro e w2 ⟨rfl, hb2⟩; have HB2 := Lib.hid hb2; obtain ⟨⟨z0, z1, z2, z3, z4⟩, -⟩ := five (HBX.out _ HB2.out))
            | (go_at_call 26; refine (HMT.out _).mono ?_; rintro e w3 ⟨rfl, hb3⟩; have HB3 := Lib.hid (below_step HB2.out hb3); obtain ⟨⟨u0, u1, u2, u3, u4⟩, -⟩ := five (HBX.out _ HB3.out)))
          go_ret2
          exact ⟨ret_val HL.out.symm, HLOW.out _ HB3.out⟩
        ·
          cases q
          ·
            have HL : Hid (Z = .tuple #[.string ⟨#[]⟩, .bool false]) := Lib.hid (by rw [HZ.out]; exact tup_none (canon_no _ HQ.out.symm))
            go_enter Tryz.func7, Tryz.ntmps7
            go_wp2_with (first
              | (go_at_call 25; refine (HTX.out _).mono ?_; rintro e w' ⟨rfl, rfl⟩)
              | (go_at_call 24; refine (HIN.out _ HBW.out).mono ?_; rintro e w2 ⟨rfl, hb2⟩; have HB2 := Lib.hid hb2; obtain ⟨⟨z0, z1, z2, z3, z4⟩, -⟩ := five (HBX.out _ HB2.out))
              | (go_at_call 26; refine (HMT.out _).mono ?_; rintro e w3 ⟨rfl, hb3⟩; have HB3 := Lib.hid (below_step HB2.out hb3); obtain ⟨⟨u0, u1, u2, u3, u4⟩, -⟩ := five (HBX.out _ HB3.out))
              | (go_at_call 27; refine (HTY.out _ HB3.out).mono ?_; rintro e w4 ⟨rfl, hb4⟩; have HB4 := Lib.hid (below_step HB3.out hb4)))
            go_ret2
            exact ⟨ret_val HL.out.symm, HLOW.out _ HB4.out⟩
          ·
            have HL : Hid (Z = .tuple #[.string s, .bool true]) := Lib.hid (by rw [HZ.out]; exact tup_some ((canon_yes _ HQ.out.symm).trans (HC.out)))
            go_enter Tryz.func7, Tryz.ntmps7
            go_wp2_with (first
              | (go_at_call 25; refine (HTX.out _).mono ?_; rintro e w' ⟨rfl, rfl⟩)
              | (go_at_call 24; refine (HIN.out _ HBW.out).mono ?_; rintro e w2 ⟨rfl, hb2⟩; have HB2 := Lib.hid hb2; obtain ⟨⟨z0, z1, z2, z3, z4⟩, -⟩ := five (HBX.out _ HB2.out))
              | (go_at_call 26; refine (HMT.out _).mono ?_; rintro e w3 ⟨rfl, hb3⟩; have HB3 := Lib.hid (below_step HB2.out hb3); obtain ⟨⟨u0, u1, u2, u3, u4⟩, -⟩ := five (HBX.out _ HB3.out))
              | (go_at_call 27; refine (HTY.out _ HB3.out).mono ?_; rintro e w4 ⟨rfl, hb4⟩; have HB4 := Lib.hid (below_step HB3.out hb4)))
            go_ret2
            exact ⟨ret_val HL.out.symm, HLOW.out _ HB4.out⟩
set_option maxRecDepth 100000 in
set_option maxHeartbeats 16000000 in
theorem sCan_3 (v : TyV) (t : Ty) (s : ByteArray) (w : World) (h : HasTy w v t) (hs : TySz t) (hS : s.size ≤ 1048576) (hk : t.k = 3) :
    Calls Tryz.prog 7 #[v.val, .string s] w fun e w' => e = .returned (tupS (canonT t s)) ∧ Below w.heap.size w w' := by
  have HTY0 := Lib.hid (fun W (hb : Below w.heap.size w W) => sIsTy_any v t W (h.below hb) hs)
  obtain ⟨q, hq⟩ : ∃ q, q = isTyB t := ⟨_, rfl⟩
  have HQ := Lib.hid hq
  rw [← hq] at HTY0
  obtain ⟨k, rg, nm, pt, ph⟩ := t
  obtain ⟨k', vr, vn, pt', ph'⟩ := v
  obtain ⟨rfl, hr, hn, rfl, rfl⟩ := h
  obtain ⟨s1, s2, s3⟩ := hs
  dsimp only at *
  obtain ⟨A, c, rfl, hn1, hc1⟩ := id hr
  obtain ⟨A', c', rfl, hn2, hc2⟩ := id hn
  obtain ⟨n, hnn⟩ : ∃ n, n = rg.length := ⟨_, rfl⟩
  obtain ⟨m, hmm⟩ : ∃ m, m = nm.length := ⟨_, rfl⟩
  rw [← hnn] at hr hn1 HTY0 ⊢
  rw [← hmm] at hn hn2 HTY0 ⊢
  obtain ⟨W0, hW0⟩ : ∃ W0, W0 = w.alloc (.cells #[.int .i64 k', .slice A n c, .slice A' m c', .string pt', .string ph'] 31) := ⟨_, rfl⟩
  have hb0 : Below w.heap.size w W0 := by rw [hW0]; exact below_al (Below.refl _ _) _
  have hz0 : w.heap.size < W0.heap.size := by rw [hW0]; simp
  have HBX : Hid (∀ W, Below W0.heap.size W0 W → W.heap[w.heap.size]? = some (.cells #[.int .i64 k', .slice A n c, .slice A' m c', .string pt', .string ph'] 31 (0, 0))) := Lib.hid fun W hb => (hb.block _ hz0).trans (by rw [hW0]; exact heap_alloc_new' _ _ rfl)
  have HLOW : Hid (∀ W, Below W0.heap.size W0 W → Below w.heap.size w W) := Lib.hid fun W hb => below_step hb0 hb
  have HTY : Hid (∀ W, Below W0.heap.size W0 W → Calls Tryz.prog 27 #[.agg #[.int .i64 k', .slice A n c, .slice A' m c', .string pt', .string ph']] W fun e w' => e = .returned (.bool q) ∧ Below W.heap.size W w') := Lib.hid fun W hb => HTY0.out W (below_step hb0 hb)
  have HIN : Hid (∀ x W, Below W0.heap.size W0 W → Calls Tryz.prog 24 #[.slice A n c, .int .i64 x] W fun e w' => e = .returned (.bool (inB rg x)) ∧ Below W.heap.size W w') := Lib.hid fun x W hb => sInR_any _ rg x W (HasR.below hr (below_step hb0 hb))
  have HRD := Lib.hid (fun w => sRead_any s (by unfold maxLen; omega) w)
  have HTX := Lib.hid (fun w => sIsText_any s (by unfold maxLen; omega) w)
  have HMT := Lib.hid (fun w => sMText_any pt' s (by unfold maxLen; omega) hS w)
  have HCE : Hid (∀ i (hi : i < nm.length), ∃ a, A' = some a ∧ ∀ W, Below W0.heap.size W0 W → W.cell? (a.add i) = some (.string nm[i])) := Lib.hid fun i hi => by
    obtain ⟨a, ha, hab, hcell⟩ := hc2 i hi
    exact ⟨a, ha, fun W hb => by rw [(below_step hb0 hb).cell (by rw [add_blk]; exact hab)]; exact hcell⟩
  have HM1 : Hid (m = nm.length) := Lib.hid hmm
  have HBW : Hid (Below W0.heap.size W0 W0) := Lib.hid (Below.refl _ _)
  obtain ⟨Z, hZ⟩ : ∃ Z, Z = tupS (canonT ⟨k', rg, nm, pt', ph'⟩ s) := ⟨_, rfl⟩
  have HZ := Lib.hid hZ
  rw [← hZ]
  obtain ⟨⟨x0, x1, x2, x3, x4⟩, -⟩ := five (HBX.out _ HBW.out)
  subst hW0
  clear hZ hr hn hc1 hc2 hnn hmm s1 s2 s3 HTY0 hq x0 x1 x2 x3 x4
  subst hk
  have HC : Hid (canO ⟨3, rg, nm, pt', ph'⟩ s = boolO s) := Lib.hid rfl
  have hbo := boolO_is s
  generalize boolO s = o at HC hbo
  rcases hbo with rfl | rfl | rfl | rfl | ⟨h1, h2, h3, h4⟩
  ·
    cases q
    ·
      have HL : Hid (Z = .tuple #[.string ⟨#[]⟩, .bool false]) := Lib.hid (by rw [HZ.out]; exact tup_none (canon_no _ HQ.out.symm))
      go_enter Tryz.func7, Tryz.ntmps7
      go_wp2_with (first
        | (go_at_call 27; refine (HTY.out _ HBW.out).mono ?_; rintro e w4 ⟨rfl, hb4⟩; have HB4 := Lib.hid (below_step HBW.out hb4)))
      go_ret2
      exact ⟨ret_val HL.out.symm, HLOW.out _ HB4.out⟩
    ·
      have HL : Hid (Z = .tuple #[.string trueS, .bool true]) := Lib.hid (by rw [HZ.out]; exact tup_some ((canon_yes _ HQ.out.symm).trans (HC.out)))
      go_enter Tryz.func7, Tryz.ntmps7
      go_wp2_with (first
        | (go_at_call 27; refine (HTY.out _ HBW.out).mono ?_; rintro e w4 ⟨rfl, hb4⟩; have HB4 := Lib.hid (below_step HBW.out hb4)))
      go_ret2
      exact ⟨ret_val HL.out.symm, HLOW.out _ HB4.out⟩
  ·
    cases q
    ·
      have HL : Hid (Z = .tuple #[.string ⟨#[]⟩, .bool false]) := Lib.hid (by rw [HZ.out]; exact tup_none (canon_no _ HQ.out.symm))
      go_enter Tryz.func7, Tryz.ntmps7
      go_wp2_with (first
        | (go_at_call 27; refine (HTY.out _ HBW.out).mono ?_; rintro e w4 ⟨rfl, hb4⟩; have HB4 := Lib.hid (below_step HBW.out hb4)))
      go_ret2
      exact ⟨ret_val HL.out.symm, HLOW.out _ HB4.out⟩
    ·
      have HL : Hid (Z = .tuple #[.string trueS, .bool true]) := Lib.hid (by rw [HZ.out]; exact tup_some ((canon_yes _ HQ.out.symm).trans (HC.out)))
      go_enter Tryz.func7, Tryz.ntmps7
      go_wp2_with (first
        | (go_at_call 27; refine (HTY.out _ HBW.out).mono ?_; rintro e w4 ⟨rfl, hb4⟩; have HB4 := Lib.hid (below_step HBW.out hb4)))
      go_ret2
      exact ⟨ret_val HL.out.symm, HLOW.out _ HB4.out⟩
  ·
    cases q
    ·
      have HL : Hid (Z = .tuple #[.string ⟨#[]⟩, .bool false]) := Lib.hid (by rw [HZ.out]; exact tup_none (canon_no _ HQ.out.symm))
      go_enter Tryz.func7, Tryz.ntmps7
      go_wp2_with (first
        | (go_at_call 27; refine (HTY.out _ HBW.out).mono ?_; rintro e w4 ⟨rfl, hb4⟩; have HB4 := Lib.hid (below_step HBW.out hb4)))
      go_ret2
      exact ⟨ret_val HL.out.symm, HLOW.out _ HB4.out⟩
    ·
      have HL : Hid (Z = .tuple #[.string falseS, .bool true]) := Lib.hid (by rw [HZ.out]; exact tup_some ((canon_yes _ HQ.out.symm).trans (HC.out)))
      go_enter Tryz.func7, Tryz.ntmps7
      go_wp2_with (first
        | (go_at_call 27; refine (HTY.out _ HBW.out).mono ?_; rintro e w4 ⟨rfl, hb4⟩; have HB4 := Lib.hid (below_step HBW.out hb4)))
      go_ret2
      exact ⟨ret_val HL.out.symm, HLOW.out _ HB4.out⟩
  ·
    cases q
    ·
      have HL : Hid (Z = .tuple #[.string ⟨#[]⟩, .bool false]) := Lib.hid (by rw [HZ.out]; exact tup_none (canon_no _ HQ.out.symm))
      go_enter Tryz.func7, Tryz.ntmps7
      go_wp2_with (first
        | (go_at_call 27; refine (HTY.out _ HBW.out).mono ?_; rintro e w4 ⟨rfl, hb4⟩; have HB4 := Lib.hid (below_step HBW.out hb4)))
      go_ret2
      exact ⟨ret_val HL.out.symm, HLOW.out _ HB4.out⟩
    ·
      have HL : Hid (Z = .tuple #[.string falseS, .bool true]) := Lib.hid (by rw [HZ.out]; exact tup_some ((canon_yes _ HQ.out.symm).trans (HC.out)))
      go_enter Tryz.func7, Tryz.ntmps7
      go_wp2_with (first
        | (go_at_call 27; refine (HTY.out _ HBW.out).mono ?_; rintro e w4 ⟨rfl, hb4⟩; have HB4 := Lib.hid (below_step HBW.out hb4)))
      go_ret2
      exact ⟨ret_val HL.out.symm, HLOW.out _ HB4.out⟩
  ·
    have HL : Hid (Z = .tuple #[.string ⟨#[]⟩, .bool false]) := Lib.hid (by rw [HZ.out]; exact tup_none (canon_none (HC.out)))
    go_enter Tryz.func7, Tryz.ntmps7
    go_wp2
    go_ret2
    exact ⟨ret_val HL.out.symm, HLOW.out _ HBW.out⟩
set_option maxRecDepth 100000 in
set_option maxHeartbeats 16000000 in
theorem sCan_4 (v : TyV) (t : Ty) (s : ByteArray) (w : World) (h : HasTy w v t) (hs : TySz t) (hS : s.size ≤ 1048576) (hk : t.k = 4) :
    Calls Tryz.prog 7 #[v.val, .string s] w fun e w' => e = .returned (tupS (canonT t s)) ∧ Below w.heap.size w w' := by
  have HTY0 := Lib.hid (fun W (hb : Below w.heap.size w W) => sIsTy_any v t W (h.below hb) hs)
  obtain ⟨q, hq⟩ : ∃ q, q = isTyB t := ⟨_, rfl⟩
  have HQ := Lib.hid hq
  rw [← hq] at HTY0
  obtain ⟨k, rg, nm, pt, ph⟩ := t
  obtain ⟨k', vr, vn, pt', ph'⟩ := v
  obtain ⟨rfl, hr, hn, rfl, rfl⟩ := h
  obtain ⟨s1, s2, s3⟩ := hs
  dsimp only at *
  obtain ⟨A, c, rfl, hn1, hc1⟩ := id hr
  obtain ⟨A', c', rfl, hn2, hc2⟩ := id hn
  obtain ⟨n, hnn⟩ : ∃ n, n = rg.length := ⟨_, rfl⟩
  obtain ⟨m, hmm⟩ : ∃ m, m = nm.length := ⟨_, rfl⟩
  rw [← hnn] at hr hn1 HTY0 ⊢
  rw [← hmm] at hn hn2 HTY0 ⊢
  obtain ⟨W0, hW0⟩ : ∃ W0, W0 = w.alloc (.cells #[.int .i64 k', .slice A n c, .slice A' m c', .string pt', .string ph'] 31) := ⟨_, rfl⟩
  have hb0 : Below w.heap.size w W0 := by rw [hW0]; exact below_al (Below.refl _ _) _
  have hz0 : w.heap.size < W0.heap.size := by rw [hW0]; simp
  have HBX : Hid (∀ W, Below W0.heap.size W0 W → W.heap[w.heap.size]? = some (.cells #[.int .i64 k', .slice A n c, .slice A' m c', .string pt', .string ph'] 31 (0, 0))) := Lib.hid fun W hb => (hb.block _ hz0).trans (by rw [hW0]; exact heap_alloc_new' _ _ rfl)
  have HLOW : Hid (∀ W, Below W0.heap.size W0 W → Below w.heap.size w W) := Lib.hid fun W hb => below_step hb0 hb
  have HTY : Hid (∀ W, Below W0.heap.size W0 W → Calls Tryz.prog 27 #[.agg #[.int .i64 k', .slice A n c, .slice A' m c', .string pt', .string ph']] W fun e w' => e = .returned (.bool q) ∧ Below W.heap.size W w') := Lib.hid fun W hb => HTY0.out W (below_step hb0 hb)
  have HIN : Hid (∀ x W, Below W0.heap.size W0 W → Calls Tryz.prog 24 #[.slice A n c, .int .i64 x] W fun e w' => e = .returned (.bool (inB rg x)) ∧ Below W.heap.size W w') := Lib.hid fun x W hb => sInR_any _ rg x W (HasR.below hr (below_step hb0 hb))
  have HRD := Lib.hid (fun w => sRead_any s (by unfold maxLen; omega) w)
  have HTX := Lib.hid (fun w => sIsText_any s (by unfold maxLen; omega) w)
  have HMT := Lib.hid (fun w => sMText_any pt' s (by unfold maxLen; omega) hS w)
  have HCE : Hid (∀ i (hi : i < nm.length), ∃ a, A' = some a ∧ ∀ W, Below W0.heap.size W0 W → W.cell? (a.add i) = some (.string nm[i])) := Lib.hid fun i hi => by
    obtain ⟨a, ha, hab, hcell⟩ := hc2 i hi
    exact ⟨a, ha, fun W hb => by rw [(below_step hb0 hb).cell (by rw [add_blk]; exact hab)]; exact hcell⟩
  have HM1 : Hid (m = nm.length) := Lib.hid hmm
  have HBW : Hid (Below W0.heap.size W0 W0) := Lib.hid (Below.refl _ _)
  obtain ⟨Z, hZ⟩ : ∃ Z, Z = tupS (canonT ⟨k', rg, nm, pt', ph'⟩ s) := ⟨_, rfl⟩
  have HZ := Lib.hid hZ
  rw [← hZ]
  obtain ⟨⟨x0, x1, x2, x3, x4⟩, -⟩ := five (HBX.out _ HBW.out)
  subst hW0
  clear hZ hr hn hc1 hc2 hnn hmm s1 s2 s3 HTY0 hq x0 x1 x2 x3 x4
  subst hk
  have HC : Hid (canO ⟨4, rg, nm, pt', ph'⟩ s = if memB s nm = true then some s else none) := Lib.hid rfl
  go_enter Tryz.func7, Tryz.ntmps7
  go_wp2
  go_loop [7, 10] (fun x i => ∃ (k : Nat) (b : Bool), k ≤ m ∧ i = .int .i64 k ∧ x = .bool b ∧ Hid (b = memB s (nm.take k))) (fun _ i => m - (intOf i).toNat)
  case atStart => exact ⟨0, false, Nat.zero_le _, rfl, rfl, Lib.hid (mem0 s nm)⟩
  case round =>
    obtain ⟨k, b, hk, rfl, rfl, HM⟩ := hrel
    by_cases hlt : k < m
    ·
      have hlk : k < nm.length := by rw [← HM1.out]; exact hlt
      obtain ⟨a, rfl, HCA⟩ := HCE.out k hlk
      have hcell := HCA _ HBW.out
      have HMS := Lib.hid (mem_snoc s nm k hlk)
      obtain ⟨x, hx⟩ : ∃ x, x = nm[k] := ⟨_, rfl⟩
      rw [← hx] at hcell HMS
      have HX := Lib.hid hx
      clear hx HCA
      cases b
      ·
        by_cases he : x = s
        ·
          subst he
          have HM2 : Hid (true = memB x (nm.take (k + 1))) := Lib.hid (by rw [HMS.out]; simp)
          go_wp2
          go_round
          case rel => exact ⟨k + 1, true, by omega, by go_num, rfl, HM2⟩
          case measure => simp [intOf]; omega
        ·
          have h1 : (x.toList == s.toList) = false := str_ne he
          have HM2 : Hid (false = memB s (nm.take (k + 1))) := Lib.hid (by rw [HMS.out, ← HM.out]; simp [Ne.symm he])
          go_wp2
          go_round
          case rel => exact ⟨k + 1, false, by omega, by go_num, rfl, HM2⟩
          case measure => simp [intOf]; omega
      ·
        have HM2 : Hid (true = memB s (nm.take (k + 1))) := Lib.hid (by rw [HMS.out, ← HM.out]; rfl)
        go_wp2
        go_round
        case rel => exact ⟨k + 1, true, by omega, by go_num, rfl, HM2⟩
        case measure => simp [intOf]; omega
    ·
      have HMM : Hid (b = memB s nm) := Lib.hid (by have h := HM.out; rwa [List.take_of_length_le (by have := HM1.out; omega)] at h)
      obtain rfl : k = m := by omega
      cases b
      ·
        have HL : Hid (Z = .tuple #[.string ⟨#[]⟩, .bool false]) := Lib.hid (by rw [HZ.out]; exact tup_none (canon_none (HC.out.trans (by rw [← HMM.out]; rfl))))
        go_wp2
        go_ret2
        exact ⟨ret_val HL.out.symm, HLOW.out _ HBW.out⟩
      ·
        cases q
        ·
          have HL : Hid (Z = .tuple #[.string ⟨#[]⟩, .bool false]) := Lib.hid (by rw [HZ.out]; exact tup_none (canon_no _ HQ.out.symm))
          go_wp2_with (first
            | (go_at_call 27; refine (HTY.out _ HBW.out).mono ?_; rintro e w4 ⟨rfl, hb4⟩; have HB4 := Lib.hid (below_step HBW.out hb4)))
          go_ret2
          exact ⟨ret_val HL.out.symm, HLOW.out _ HB4.out⟩
        ·
          have HL : Hid (Z = .tuple #[.string s, .bool true]) := Lib.hid (by rw [HZ.out]; exact tup_some ((canon_yes _ HQ.out.symm).trans (HC.out.trans (by rw [← HMM.out]; rfl))))
          go_wp2_with (first
            | (go_at_call 27; refine (HTY.out _ HBW.out).mono ?_; rintro e w4 ⟨rfl, hb4⟩; have HB4 := Lib.hid (below_step HBW.out hb4)))
          go_ret2
          exact ⟨ret_val HL.out.symm, HLOW.out _ HB4.out⟩
set_option maxRecDepth 100000 in
set_option maxHeartbeats 16000000 in
theorem sCan_5 (v : TyV) (t : Ty) (s : ByteArray) (w : World) (h : HasTy w v t) (hs : TySz t) (hS : s.size ≤ 1048576) (hk : t.k = 5) :
    Calls Tryz.prog 7 #[v.val, .string s] w fun e w' => e = .returned (tupS (canonT t s)) ∧ Below w.heap.size w w' := by
  have HTY0 := Lib.hid (fun W (hb : Below w.heap.size w W) => sIsTy_any v t W (h.below hb) hs)
  obtain ⟨q, hq⟩ : ∃ q, q = isTyB t := ⟨_, rfl⟩
  have HQ := Lib.hid hq
  rw [← hq] at HTY0
  obtain ⟨k, rg, nm, pt, ph⟩ := t
  obtain ⟨k', vr, vn, pt', ph'⟩ := v
  obtain ⟨rfl, hr, hn, rfl, rfl⟩ := h
  obtain ⟨s1, s2, s3⟩ := hs
  dsimp only at *
  obtain ⟨A, c, rfl, hn1, hc1⟩ := id hr
  obtain ⟨A', c', rfl, hn2, hc2⟩ := id hn
  obtain ⟨n, hnn⟩ : ∃ n, n = rg.length := ⟨_, rfl⟩
  obtain ⟨m, hmm⟩ : ∃ m, m = nm.length := ⟨_, rfl⟩
  rw [← hnn] at hr hn1 HTY0 ⊢
  rw [← hmm] at hn hn2 HTY0 ⊢
  obtain ⟨W0, hW0⟩ : ∃ W0, W0 = w.alloc (.cells #[.int .i64 k', .slice A n c, .slice A' m c', .string pt', .string ph'] 31) := ⟨_, rfl⟩
  have hb0 : Below w.heap.size w W0 := by rw [hW0]; exact below_al (Below.refl _ _) _
  have hz0 : w.heap.size < W0.heap.size := by rw [hW0]; simp
  have HBX : Hid (∀ W, Below W0.heap.size W0 W → W.heap[w.heap.size]? = some (.cells #[.int .i64 k', .slice A n c, .slice A' m c', .string pt', .string ph'] 31 (0, 0))) := Lib.hid fun W hb => (hb.block _ hz0).trans (by rw [hW0]; exact heap_alloc_new' _ _ rfl)
  have HLOW : Hid (∀ W, Below W0.heap.size W0 W → Below w.heap.size w W) := Lib.hid fun W hb => below_step hb0 hb
  have HTY : Hid (∀ W, Below W0.heap.size W0 W → Calls Tryz.prog 27 #[.agg #[.int .i64 k', .slice A n c, .slice A' m c', .string pt', .string ph']] W fun e w' => e = .returned (.bool q) ∧ Below W.heap.size W w') := Lib.hid fun W hb => HTY0.out W (below_step hb0 hb)
  have HIN : Hid (∀ x W, Below W0.heap.size W0 W → Calls Tryz.prog 24 #[.slice A n c, .int .i64 x] W fun e w' => e = .returned (.bool (inB rg x)) ∧ Below W.heap.size W w') := Lib.hid fun x W hb => sInR_any _ rg x W (HasR.below hr (below_step hb0 hb))
  have HRD := Lib.hid (fun w => sRead_any s (by unfold maxLen; omega) w)
  have HTX := Lib.hid (fun w => sIsText_any s (by unfold maxLen; omega) w)
  have HMT := Lib.hid (fun w => sMText_any pt' s (by unfold maxLen; omega) hS w)
  have HCE : Hid (∀ i (hi : i < nm.length), ∃ a, A' = some a ∧ ∀ W, Below W0.heap.size W0 W → W.cell? (a.add i) = some (.string nm[i])) := Lib.hid fun i hi => by
    obtain ⟨a, ha, hab, hcell⟩ := hc2 i hi
    exact ⟨a, ha, fun W hb => by rw [(below_step hb0 hb).cell (by rw [add_blk]; exact hab)]; exact hcell⟩
  have HM1 : Hid (m = nm.length) := Lib.hid hmm
  have HBW : Hid (Below W0.heap.size W0 W0) := Lib.hid (Below.refl _ _)
  obtain ⟨Z, hZ⟩ : ∃ Z, Z = tupS (canonT ⟨k', rg, nm, pt', ph'⟩ s) := ⟨_, rfl⟩
  have HZ := Lib.hid hZ
  rw [← hZ]
  obtain ⟨⟨x0, x1, x2, x3, x4⟩, -⟩ := five (HBX.out _ HBW.out)
  subst hW0
  clear hZ hr hn hc1 hc2 hnn hmm s1 s2 s3 HTY0 hq x0 x1 x2 x3 x4
  subst hk
  have HC : Hid (canO ⟨5, rg, nm, pt', ph'⟩ s = if (!emB s && textB s) = true then some s else none) := Lib.hid rfl
  obtain ⟨b1, hb1⟩ : ∃ b, b = textB s := ⟨_, rfl⟩
  rw [← hb1] at HC HTX
  clear hb1
  cases b1
  ·
    have HL : Hid (Z = .tuple #[.string ⟨#[]⟩, .bool false]) := Lib.hid (by rw [HZ.out]; exact tup_none (canon_none (HC.out.trans (by cases emB s <;> rfl))))
    go_enter Tryz.func7, Tryz.ntmps7
    go_wp2_with (first
      | (go_at_call 25; refine (HTX.out _).mono ?_; rintro e w' ⟨rfl, rfl⟩))
    go_ret2
    exact ⟨ret_val HL.out.symm, HLOW.out _ HBW.out⟩
  ·
    rcases em_cases s with rfl | ⟨p1, p2, p3, p4⟩
    ·
      have HL : Hid (Z = .tuple #[.string ⟨#[]⟩, .bool false]) := Lib.hid (by rw [HZ.out]; exact tup_none (canon_none (HC.out)))
      go_enter Tryz.func7, Tryz.ntmps7
      go_wp2_with (first
        | (go_at_call 25; refine (HTX.out _).mono ?_; rintro e w' ⟨rfl, rfl⟩))
      go_ret2
      exact ⟨ret_val HL.out.symm, HLOW.out _ HBW.out⟩
    ·
      rw [p4] at HC
      cases q
      ·
        have HL : Hid (Z = .tuple #[.string ⟨#[]⟩, .bool false]) := Lib.hid (by rw [HZ.out]; exact tup_none (canon_no _ HQ.out.symm))
        go_enter Tryz.func7, Tryz.ntmps7
        go_wp2_with (first
          | (go_at_call 25; refine (HTX.out _).mono ?_; rintro e w' ⟨rfl, rfl⟩)
          | (go_at_call 27; refine (HTY.out _ HBW.out).mono ?_; rintro e w4 ⟨rfl, hb4⟩; have HB4 := Lib.hid (below_step HBW.out hb4)))
        go_ret2
        exact ⟨ret_val HL.out.symm, HLOW.out _ HB4.out⟩
      ·
        have HL : Hid (Z = .tuple #[.string s, .bool true]) := Lib.hid (by rw [HZ.out]; exact tup_some ((canon_yes _ HQ.out.symm).trans (HC.out)))
        go_enter Tryz.func7, Tryz.ntmps7
        go_wp2_with (first
          | (go_at_call 25; refine (HTX.out _).mono ?_; rintro e w' ⟨rfl, rfl⟩)
          | (go_at_call 27; refine (HTY.out _ HBW.out).mono ?_; rintro e w4 ⟨rfl, hb4⟩; have HB4 := Lib.hid (below_step HBW.out hb4)))
        go_ret2
        exact ⟨ret_val HL.out.symm, HLOW.out _ HB4.out⟩
set_option maxRecDepth 100000 in
set_option maxHeartbeats 16000000 in
theorem sCan_6 (v : TyV) (t : Ty) (s : ByteArray) (w : World) (h : HasTy w v t) (hs : TySz t) (hS : s.size ≤ 1048576) (hk : t.k = 6) :
    Calls Tryz.prog 7 #[v.val, .string s] w fun e w' => e = .returned (tupS (canonT t s)) ∧ Below w.heap.size w w' := by
  have HTY0 := Lib.hid (fun W (hb : Below w.heap.size w W) => sIsTy_any v t W (h.below hb) hs)
  obtain ⟨q, hq⟩ : ∃ q, q = isTyB t := ⟨_, rfl⟩
  have HQ := Lib.hid hq
  rw [← hq] at HTY0
  obtain ⟨k, rg, nm, pt, ph⟩ := t
  obtain ⟨k', vr, vn, pt', ph'⟩ := v
  obtain ⟨rfl, hr, hn, rfl, rfl⟩ := h
  obtain ⟨s1, s2, s3⟩ := hs
  dsimp only at *
  obtain ⟨A, c, rfl, hn1, hc1⟩ := id hr
  obtain ⟨A', c', rfl, hn2, hc2⟩ := id hn
  obtain ⟨n, hnn⟩ : ∃ n, n = rg.length := ⟨_, rfl⟩
  obtain ⟨m, hmm⟩ : ∃ m, m = nm.length := ⟨_, rfl⟩
  rw [← hnn] at hr hn1 HTY0 ⊢
  rw [← hmm] at hn hn2 HTY0 ⊢
  obtain ⟨W0, hW0⟩ : ∃ W0, W0 = w.alloc (.cells #[.int .i64 k', .slice A n c, .slice A' m c', .string pt', .string ph'] 31) := ⟨_, rfl⟩
  have hb0 : Below w.heap.size w W0 := by rw [hW0]; exact below_al (Below.refl _ _) _
  have hz0 : w.heap.size < W0.heap.size := by rw [hW0]; simp
  have HBX : Hid (∀ W, Below W0.heap.size W0 W → W.heap[w.heap.size]? = some (.cells #[.int .i64 k', .slice A n c, .slice A' m c', .string pt', .string ph'] 31 (0, 0))) := Lib.hid fun W hb => (hb.block _ hz0).trans (by rw [hW0]; exact heap_alloc_new' _ _ rfl)
  have HLOW : Hid (∀ W, Below W0.heap.size W0 W → Below w.heap.size w W) := Lib.hid fun W hb => below_step hb0 hb
  have HTY : Hid (∀ W, Below W0.heap.size W0 W → Calls Tryz.prog 27 #[.agg #[.int .i64 k', .slice A n c, .slice A' m c', .string pt', .string ph']] W fun e w' => e = .returned (.bool q) ∧ Below W.heap.size W w') := Lib.hid fun W hb => HTY0.out W (below_step hb0 hb)
  have HIN : Hid (∀ x W, Below W0.heap.size W0 W → Calls Tryz.prog 24 #[.slice A n c, .int .i64 x] W fun e w' => e = .returned (.bool (inB rg x)) ∧ Below W.heap.size W w') := Lib.hid fun x W hb => sInR_any _ rg x W (HasR.below hr (below_step hb0 hb))
  have HRD := Lib.hid (fun w => sRead_any s (by unfold maxLen; omega) w)
  have HTX := Lib.hid (fun w => sIsText_any s (by unfold maxLen; omega) w)
  have HMT := Lib.hid (fun w => sMText_any pt' s (by unfold maxLen; omega) hS w)
  have HCE : Hid (∀ i (hi : i < nm.length), ∃ a, A' = some a ∧ ∀ W, Below W0.heap.size W0 W → W.cell? (a.add i) = some (.string nm[i])) := Lib.hid fun i hi => by
    obtain ⟨a, ha, hab, hcell⟩ := hc2 i hi
    exact ⟨a, ha, fun W hb => by rw [(below_step hb0 hb).cell (by rw [add_blk]; exact hab)]; exact hcell⟩
  have HM1 : Hid (m = nm.length) := Lib.hid hmm
  have HBW : Hid (Below W0.heap.size W0 W0) := Lib.hid (Below.refl _ _)
  obtain ⟨Z, hZ⟩ : ∃ Z, Z = tupS (canonT ⟨k', rg, nm, pt', ph'⟩ s) := ⟨_, rfl⟩
  have HZ := Lib.hid hZ
  rw [← hZ]
  obtain ⟨⟨x0, x1, x2, x3, x4⟩, -⟩ := five (HBX.out _ HBW.out)
  subst hW0
  clear hZ hr hn hc1 hc2 hnn hmm s1 s2 s3 HTY0 hq x0 x1 x2 x3 x4
  subst hk
  have HC : Hid (canO ⟨6, rg, nm, pt', ph'⟩ s = if emB s = true then some s else none) := Lib.hid rfl
  rcases em_cases s with rfl | ⟨p1, p2, p3, p4⟩
  ·
    cases q
    ·
      have HL : Hid (Z = .tuple #[.string ⟨#[]⟩, .bool false]) := Lib.hid (by rw [HZ.out]; exact tup_none (canon_no _ HQ.out.symm))
      go_enter Tryz.func7, Tryz.ntmps7
      go_wp2_with (first
        | (go_at_call 27; refine (HTY.out _ HBW.out).mono ?_; rintro e w4 ⟨rfl, hb4⟩; have HB4 := Lib.hid (below_step HBW.out hb4)))
      go_ret2
      exact ⟨ret_val HL.out.symm, HLOW.out _ HB4.out⟩
    ·
      have HL : Hid (Z = .tuple #[.string ⟨#[]⟩, .bool true]) := Lib.hid (by rw [HZ.out]; exact tup_some ((canon_yes _ HQ.out.symm).trans (HC.out)))
      go_enter Tryz.func7, Tryz.ntmps7
      go_wp2_with (first
        | (go_at_call 27; refine (HTY.out _ HBW.out).mono ?_; rintro e w4 ⟨rfl, hb4⟩; have HB4 := Lib.hid (below_step HBW.out hb4)))
      go_ret2
      exact ⟨ret_val HL.out.symm, HLOW.out _ HB4.out⟩
  ·
    rw [p4] at HC
    have HL : Hid (Z = .tuple #[.string ⟨#[]⟩, .bool false]) := Lib.hid (by rw [HZ.out]; exact tup_none (canon_none (HC.out)))
    go_enter Tryz.func7, Tryz.ntmps7
    go_wp2
    go_ret2
    exact ⟨ret_val HL.out.symm, HLOW.out _ HBW.out⟩
set_option maxRecDepth 100000 in
set_option maxHeartbeats 16000000 in
theorem sCan_0 (v : TyV) (t : Ty) (s : ByteArray) (w : World) (h : HasTy w v t) (hs : TySz t) (hS : s.size ≤ 1048576) (hk : t.k ≠ 1 ∧ t.k ≠ 2 ∧ t.k ≠ 3 ∧ t.k ≠ 4 ∧ t.k ≠ 5 ∧ t.k ≠ 6) :
    Calls Tryz.prog 7 #[v.val, .string s] w fun e w' => e = .returned (tupS (canonT t s)) ∧ Below w.heap.size w w' := by
  have HTY0 := Lib.hid (fun W (hb : Below w.heap.size w W) => sIsTy_any v t W (h.below hb) hs)
  obtain ⟨q, hq⟩ : ∃ q, q = isTyB t := ⟨_, rfl⟩
  have HQ := Lib.hid hq
  rw [← hq] at HTY0
  obtain ⟨k, rg, nm, pt, ph⟩ := t
  obtain ⟨k', vr, vn, pt', ph'⟩ := v
  obtain ⟨rfl, hr, hn, rfl, rfl⟩ := h
  obtain ⟨s1, s2, s3⟩ := hs
  dsimp only at *
  obtain ⟨A, c, rfl, hn1, hc1⟩ := id hr
  obtain ⟨A', c', rfl, hn2, hc2⟩ := id hn
  obtain ⟨n, hnn⟩ : ∃ n, n = rg.length := ⟨_, rfl⟩
  obtain ⟨m, hmm⟩ : ∃ m, m = nm.length := ⟨_, rfl⟩
  rw [← hnn] at hr hn1 HTY0 ⊢
  rw [← hmm] at hn hn2 HTY0 ⊢
  obtain ⟨W0, hW0⟩ : ∃ W0, W0 = w.alloc (.cells #[.int .i64 k', .slice A n c, .slice A' m c', .string pt', .string ph'] 31) := ⟨_, rfl⟩
  have hb0 : Below w.heap.size w W0 := by rw [hW0]; exact below_al (Below.refl _ _) _
  have hz0 : w.heap.size < W0.heap.size := by rw [hW0]; simp
  have HBX : Hid (∀ W, Below W0.heap.size W0 W → W.heap[w.heap.size]? = some (.cells #[.int .i64 k', .slice A n c, .slice A' m c', .string pt', .string ph'] 31 (0, 0))) := Lib.hid fun W hb => (hb.block _ hz0).trans (by rw [hW0]; exact heap_alloc_new' _ _ rfl)
  have HLOW : Hid (∀ W, Below W0.heap.size W0 W → Below w.heap.size w W) := Lib.hid fun W hb => below_step hb0 hb
  have HTY : Hid (∀ W, Below W0.heap.size W0 W → Calls Tryz.prog 27 #[.agg #[.int .i64 k', .slice A n c, .slice A' m c', .string pt', .string ph']] W fun e w' => e = .returned (.bool q) ∧ Below W.heap.size W w') := Lib.hid fun W hb => HTY0.out W (below_step hb0 hb)
  have HIN : Hid (∀ x W, Below W0.heap.size W0 W → Calls Tryz.prog 24 #[.slice A n c, .int .i64 x] W fun e w' => e = .returned (.bool (inB rg x)) ∧ Below W.heap.size W w') := Lib.hid fun x W hb => sInR_any _ rg x W (HasR.below hr (below_step hb0 hb))
  have HRD := Lib.hid (fun w => sRead_any s (by unfold maxLen; omega) w)
  have HTX := Lib.hid (fun w => sIsText_any s (by unfold maxLen; omega) w)
  have HMT := Lib.hid (fun w => sMText_any pt' s (by unfold maxLen; omega) hS w)
  have HCE : Hid (∀ i (hi : i < nm.length), ∃ a, A' = some a ∧ ∀ W, Below W0.heap.size W0 W → W.cell? (a.add i) = some (.string nm[i])) := Lib.hid fun i hi => by
    obtain ⟨a, ha, hab, hcell⟩ := hc2 i hi
    exact ⟨a, ha, fun W hb => by rw [(below_step hb0 hb).cell (by rw [add_blk]; exact hab)]; exact hcell⟩
  have HM1 : Hid (m = nm.length) := Lib.hid hmm
  have HBW : Hid (Below W0.heap.size W0 W0) := Lib.hid (Below.refl _ _)
  obtain ⟨Z, hZ⟩ : ∃ Z, Z = tupS (canonT ⟨k', rg, nm, pt', ph'⟩ s) := ⟨_, rfl⟩
  have HZ := Lib.hid hZ
  rw [← hZ]
  obtain ⟨⟨x0, x1, x2, x3, x4⟩, -⟩ := five (HBX.out _ HBW.out)
  subst hW0
  clear hZ hr hn hc1 hc2 hnn hmm s1 s2 s3 HTY0 hq x0 x1 x2 x3 x4
  obtain ⟨k1, k2, k3, k4, k5, k6⟩ := hk
  have e1 : (k' == 1) = false := beq_eq_false_iff_ne.2 k1
  have e2 : (k' == 2) = false := beq_eq_false_iff_ne.2 k2
  have e3 : (k' == 3) = false := beq_eq_false_iff_ne.2 k3
  have e4 : (k' == 4) = false := beq_eq_false_iff_ne.2 k4
  have e5 : (k' == 5) = false := beq_eq_false_iff_ne.2 k5
  have e6 : (k' == 6) = false := beq_eq_false_iff_ne.2 k6
  have HL : Hid (Z = .tuple #[.string ⟨#[]⟩, .bool false]) := Lib.hid (by rw [HZ.out]; exact tup_none (canon_none (by unfold canO; simp [k1, k2, k3, k4, k5, k6])))
  go_enter Tryz.func7, Tryz.ntmps7
  go_wp2
  go_ret2
  exact ⟨ret_val HL.out.symm, HLOW.out _ HBW.out⟩
theorem sCanon_any (v : TyV) (t : Ty) (s : ByteArray) (w : World) (h : HasTy w v t) (hs : TySz t) (hS : s.size ≤ 1048576) :
    Calls Tryz.prog 7 #[v.val, .string s] w fun e w' => e = .returned (tupS (canonT t s)) ∧ Below w.heap.size w w' := by
  by_cases k1 : t.k = 1
  · exact sCan_1 v t s w h hs hS k1
  by_cases k2 : t.k = 2
  · exact sCan_2 v t s w h hs hS k2
  by_cases k3 : t.k = 3
  · exact sCan_3 v t s w h hs hS k3
  by_cases k4 : t.k = 4
  · exact sCan_4 v t s w h hs hS k4
  by_cases k5 : t.k = 5
  · exact sCan_5 v t s w h hs hS k5
  by_cases k6 : t.k = 6
  · exact sCan_6 v t s w h hs hS k6
  exact sCan_0 v t s w h hs hS ⟨k1, k2, k3, k4, k5, k6⟩
set_option maxRecDepth 100000 in
set_option maxHeartbeats 2000000 in
theorem sIsVal_any (v : TyV) (t : Ty) (s : ByteArray) (w : World) (h : HasTy w v t) (hs : TySz t) (hS : s.size ≤ 1048576) :
    Calls Tryz.prog 11 #[v.val, .string s] w fun e w' => e = .returned (.bool (isValB t s)) ∧ Below w.heap.size w w' := by
  have HC := Lib.hid (fun W (hb : Below w.heap.size w W) => sCanon_any v t s W (h.below hb) hs hS)
  have HV : Hid (isValB t s = match canonT t s with | some x => x.toList == s.toList | none => false) := Lib.hid rfl
  obtain ⟨A, c, h1, -⟩ := id h.rg
  obtain ⟨A', c', h2, -⟩ := id h.nm
  obtain ⟨Z, hZ⟩ : ∃ Z, Z = isValB t s := ⟨_, rfl⟩
  rw [← hZ] at HV ⊢
  generalize canonT t s = o at HC HV
  generalize t.rg.length = n at *
  generalize t.nm.length = m at *
  obtain ⟨k, vr, vn, pt, ph⟩ := v
  dsimp only at h1 h2
  subst h1 h2
  clear h hs hS hZ
  have HB0 := Lib.hid (below_al (Below.refl w.heap.size w) (.cells #[.int .i64 k, .slice A n c, .slice A' m c', .string pt, .string ph] 31))
  cases o with
  | none =>
    have HC2 : Hid (∀ W, Below w.heap.size w W → Calls Tryz.prog 7 #[(⟨k, .slice A n c, .slice A' m c', pt, ph⟩ : TyV).val, .string s] W fun e w' => e = .returned (.tuple #[.string ⟨#[]⟩, .bool false]) ∧ Below W.heap.size W w') := Lib.hid HC.out
    clear HC
    go_enter Tryz.func11, Tryz.ntmps11
    go_wp2_with (first
      | (go_at_call 7; refine (HC2.out _ HB0.out).mono ?_; rintro e w1 ⟨rfl, hb1⟩; have HB1 := Lib.hid (below_step HB0.out hb1)))
    go_ret
    exact ⟨ret_bool HV.out.symm, HB1.out⟩
  | some x =>
    have HC2 : Hid (∀ W, Below w.heap.size w W → Calls Tryz.prog 7 #[(⟨k, .slice A n c, .slice A' m c', pt, ph⟩ : TyV).val, .string s] W fun e w' => e = .returned (.tuple #[.string x, .bool true]) ∧ Below W.heap.size W w') := Lib.hid HC.out
    clear HC
    go_enter Tryz.func11, Tryz.ntmps11
    go_wp2_with (first
      | (go_at_call 7; refine (HC2.out _ HB0.out).mono ?_; rintro e w1 ⟨rfl, hb1⟩; have HB1 := Lib.hid (below_step HB0.out hb1)))
    go_ret
    exact ⟨ret_bool HV.out.symm, HB1.out⟩
end Go.Proofs.YtdmccopggmienaaGreat
