/- CHAPTER 8, impl: hasRightFields. PRINTED by tools/gen_exF.py. -/
import Derived.Test.YtnpgeneahjlkpaaExI
set_option linter.unusedVariables false
set_option linter.unusedSimpArgs false
namespace Go.Proofs.Ytnpgeneahjlkpaa
open Go.RowKit

theorem empty_yes {s : ByteArray} (h : s = ⟨#[]⟩) : (s.toList == []) = true := by rw [h, ByteArray.toList_eq]; rfl
theorem empty_no {s : ByteArray} (h : s ≠ ⟨#[]⟩) : (s.toList == []) = false := by
  have := str_ne7 h
  rwa [show (⟨#[]⟩ : ByteArray).toList = [] by rw [ByteArray.toList_eq]] at this
theorem dB_tr (q : Prop) : (dB q = true) = q := by
  by_cases hq : q
  · rw [dB_yes hq]; simp [hq]
  · rw [dB_no hq]; simp [hq]
theorem nilB (p : Pth) : (!p.root && decide (p.ups = 0) && decide (p.st.length = 0)) = dB (PthNil p) := by
  rw [Bool.eq_iff_iff, dB_tr]
  simp [PthNil, and_assoc]
theorem dB_iff {p q : Prop} (h : p ↔ q) : dB p = dB q := by
  by_cases hp : p
  · rw [dB_yes hp, dB_yes (h.1 hp)]
  · rw [dB_no hp, dB_no (fun hq => hp (h.2 hq))]
set_option maxRecDepth 100000 in
set_option maxHeartbeats 8000000 in
theorem fields_any (r : ExR) (x : ExX) (w : World) (h : exC.rd w r x) (hz : ExSz x) (hkv : ∃ A n c, r.kv = .slice A n c) :
    Calls Try.prog 72 #[r.val] w fun e w' => e = .returned (.bool (dB (FieldOk x))) ∧ Below w.heap.size w w' := by
  obtain ⟨xo, xn, xt, p⟩ := x
  obtain ⟨op, num, text, ro, up, sv, kv⟩ := r
  obtain ⟨⟨⟨h1, h2, h3⟩, hp⟩, hsc⟩ := h
  obtain rfl : op = xo := h1
  obtain rfl : num = xn := h2
  obtain rfl : text = xt := h3
  have hp2 : HasP7 w ⟨ro, up, sv⟩ p := hp
  have hsc2 : HasSC w sv p.st := hsc
  have hts : text.size ≤ 1048576 := hz.1
  have hpz : PthSz p := hz.2
  have HMB := Lib.hid (fun W (hb : Below w.heap.size w W) => iMayBe_any ⟨ro, up, sv⟩ p W (hp2.below hb))
  have HIP := Lib.hid (fun W (hb : Below w.heap.size w W) => iIsPth_any ⟨ro, up, sv⟩ p W (hp2.below hb) (hsc2.below hb) hpz)
  have HEM := Lib.hid (fun W (hb : Below w.heap.size w W) => isEmpty_any ⟨ro, up, sv⟩ p W (hp2.below hb))
  have HNI := Lib.hid (fun W => isEmpty_any ⟨false, 0, .slice none 0 0⟩ ⟨false, 0, []⟩ W ⟨rfl, rfl, hasS_iff.2 ⟨[], hasR_nil W, rfl, fun i h => absurd h (Nat.not_lt_zero i)⟩⟩)
  have HTX := Lib.hid (fun w => iIsText_any text (by unfold maxLen; omega) w)
  rw [nilB] at HEM
  obtain ⟨A, n, c, rfl⟩ : ∃ A n c, sv = .slice A n c := by obtain ⟨A, c, hv, _⟩ := hp2.st.at; exact ⟨A, _, c, hv⟩
  obtain ⟨A', n', c', hkv⟩ := hkv
  obtain rfl : kv = .slice A' n' c' := hkv
  obtain ⟨Z, hZ⟩ : ∃ Z, Z = dB (FieldOk ⟨op, num, text, p⟩) := ⟨_, rfl⟩
  obtain ⟨mb, hmb⟩ : ∃ b, b = dB (MayBe p) := ⟨_, rfl⟩
  obtain ⟨pk, hpk⟩ : ∃ b, b = dB (PthOk p) := ⟨_, rfl⟩
  obtain ⟨be, hbe⟩ : ∃ b, b = dB (PthNil p) := ⟨_, rfl⟩
  obtain ⟨tb, htb⟩ : ∃ b, b = textB text := ⟨_, rfl⟩
  rw [← hmb] at HMB
  rw [← hpk] at HIP
  rw [← hbe] at HEM
  rw [← htb] at HTX
  have HZ : Hid (Z = (if op = 1 then decide (0 ≤ num ∧ num ≤ 1000000000) && decide (text = ⟨#[]⟩) && be else if op = 2 then tb && decide (num = 0) && be else if op = 3 then mb && (pk && decide (num = 0) && decide (text = ⟨#[]⟩)) else if op = 4 then pk && decide (num = 0) && decide (text = ⟨#[]⟩) else decide (5 ≤ op ∧ op ≤ 15) && decide (num = 0) && decide (text = ⟨#[]⟩) && be)) := Lib.hid (by
    rw [hZ, hmb, hpk, hbe, htb]
    rw [Bool.eq_iff_iff, dB_tr]
    unfold FieldOk
    dsimp only
    by_cases o1 : op = 1
    · subst o1; simp [dB_tr, and_assoc]
    · by_cases o2 : op = 2
      · subst o2; simp [dB_tr, and_assoc]
      · by_cases o3 : op = 3
        · subst o3; simp [dB_tr, and_assoc]; intros; constructor <;> (rintro ⟨a, b, c⟩; exact ⟨b, a, c⟩)
        · by_cases o4 : op = 4
          · subst o4; simp [dB_tr, and_assoc]
          · simp [dB_tr, o1, o2, o3, o4, and_assoc])
  rw [← hZ]
  have HB0 := Lib.hid (below_al (below_al (Below.refl w.heap.size w) (.cells #[.int .i64 op, .int .i64 num, .string text, .bool ro, .int .i64 up, .slice A n c, .slice A' n' c'] 35)) (.cells #[.int .i64 op, .int .i64 num, .string text, .bool ro, .int .i64 up, .slice A n c, .slice A' n' c'] 35))
  clear hp hsc hp2 hsc2 hz hpz hZ hmb hpk hbe htb
  by_cases o1 : op = 1
  · subst o1
    by_cases hn : 0 ≤ num
    · by_cases hm : num ≤ 1000000000
      · by_cases ht : text = ⟨#[]⟩
        · have f1 := empty_yes ht
          obtain rfl : Z = be := by rw [HZ.out]; simp [hn, hm, ht]
          clear HZ
          clear ht
          go_enter Try.func72, Try.ntmps72
          go_wp2
          go_region
          go_wp2_with (first | (go_at_call 84; refine (HEM.out _ (by first | exact HB0.out | exact below_set HB0.out (by omega) | exact below_al (below_al (Below.refl _ _) _) _ | exact below_drewN (below_al (below_al (Below.refl _ _) _) _) 1 | exact below_drewN HB0.out 1)).mono ?_; rintro e w1 ⟨rfl, hb1⟩; have HBE := Lib.hid (below_step (by first | exact HB0.out | exact below_set HB0.out (by omega) | exact below_al (below_al (Below.refl _ _) _) _ | exact below_drewN (below_al (below_al (Below.refl _ _) _) _) 1 | exact below_drewN HB0.out 1) hb1)))
          go_ret
          exact ⟨rfl, HBE.out⟩
        · have f1 := empty_no ht
          obtain rfl : Z = false := by rw [HZ.out]; simp [hn, hm, ht]
          clear HZ
          clear ht
          go_enter Try.func72, Try.ntmps72
          go_wp2
          go_region
          go_wp2
          go_ret
          exact ⟨rfl, (by first | exact HB0.out | exact below_set HB0.out (by omega) | exact below_al (below_al (Below.refl _ _) _) _ | exact below_drewN (below_al (below_al (Below.refl _ _) _) _) 1 | exact below_drewN HB0.out 1)⟩
      · skip
        obtain rfl : Z = false := by rw [HZ.out]; simp [hn, hm]
        clear HZ
        go_enter Try.func72, Try.ntmps72
        go_wp2
        go_region
        go_wp2
        go_ret
        exact ⟨rfl, (by first | exact HB0.out | exact below_set HB0.out (by omega) | exact below_al (below_al (Below.refl _ _) _) _ | exact below_drewN (below_al (below_al (Below.refl _ _) _) _) 1 | exact below_drewN HB0.out 1)⟩
    · skip
      obtain rfl : Z = false := by rw [HZ.out]; simp [hn]
      clear HZ
      have hd : decide (0 ≤ num) = false := decide_eq_false hn
      clear hn
      go_enter Try.func72, Try.ntmps72
      go_wp2
      go_region
      go_wp2
      go_ret
      exact ⟨rfl, (by first | exact HB0.out | exact below_set HB0.out (by omega) | exact below_al (below_al (Below.refl _ _) _) _ | exact below_drewN (below_al (below_al (Below.refl _ _) _) _) 1 | exact below_drewN HB0.out 1)⟩
  by_cases o2 : op = 2
  · subst o2
    clear o1
    cases tb
    · skip
      obtain rfl : Z = false := by rw [HZ.out]; simp []
      clear HZ
      go_enter Try.func72, Try.ntmps72
      go_wp2_with (first | (go_at_call 103; refine (HTX.out _).mono ?_; rintro e w' ⟨rfl, rfl⟩))
      go_ret
      exact ⟨rfl, (by first | exact HB0.out | exact below_set HB0.out (by omega) | exact below_al (below_al (Below.refl _ _) _) _ | exact below_drewN (below_al (below_al (Below.refl _ _) _) _) 1 | exact below_drewN HB0.out 1)⟩
    · by_cases hn : num = 0
      · subst hn
        obtain rfl : Z = be := by rw [HZ.out]; simp []
        clear HZ
        go_enter Try.func72, Try.ntmps72
        go_wp2_with (first | (go_at_call 103; refine (HTX.out _).mono ?_; rintro e w' ⟨rfl, rfl⟩) | (go_at_call 84; refine (HEM.out _ (by first | exact HB0.out | exact below_set HB0.out (by omega) | exact below_al (below_al (Below.refl _ _) _) _ | exact below_drewN (below_al (below_al (Below.refl _ _) _) _) 1 | exact below_drewN HB0.out 1)).mono ?_; rintro e w1 ⟨rfl, hb1⟩; have HBE := Lib.hid (below_step (by first | exact HB0.out | exact below_set HB0.out (by omega) | exact below_al (below_al (Below.refl _ _) _) _ | exact below_drewN (below_al (below_al (Below.refl _ _) _) _) 1 | exact below_drewN HB0.out 1) hb1)))
        go_ret
        exact ⟨rfl, HBE.out⟩
      · have f2 : (num == 0) = false := by simp [hn]
        obtain rfl : Z = false := by rw [HZ.out]; simp [hn]
        clear HZ
        clear hn
        go_enter Try.func72, Try.ntmps72
        go_wp2_with (first | (go_at_call 103; refine (HTX.out _).mono ?_; rintro e w' ⟨rfl, rfl⟩))
        go_ret
        exact ⟨rfl, (by first | exact HB0.out | exact below_set HB0.out (by omega) | exact below_al (below_al (Below.refl _ _) _) _ | exact below_drewN (below_al (below_al (Below.refl _ _) _) _) 1 | exact below_drewN HB0.out 1)⟩
  have HBX : Hid (∀ W, Below ((w.alloc (.cells #[.int .i64 op, .int .i64 num, .string text, .bool ro, .int .i64 up, .slice A n c, .slice A' n' c'] 35)).alloc (.cells #[.int .i64 op, .int .i64 num, .string text, .bool ro, .int .i64 up, .slice A n c, .slice A' n' c'] 35)).heap.size ((w.alloc (.cells #[.int .i64 op, .int .i64 num, .string text, .bool ro, .int .i64 up, .slice A n c, .slice A' n' c'] 35)).alloc (.cells #[.int .i64 op, .int .i64 num, .string text, .bool ro, .int .i64 up, .slice A n c, .slice A' n' c'] 35)) W → (W.heap[w.heap.size]? = some (.cells #[.int .i64 op, .int .i64 num, .string text, .bool ro, .int .i64 up, .slice A n c, .slice A' n' c'] 35 (0, 0)) ∧ W.heap[w.heap.size + 1]? = some (.cells #[.int .i64 op, .int .i64 num, .string text, .bool ro, .int .i64 up, .slice A n c, .slice A' n' c'] 35 (0, 0)) ∧ w.heap.size + 2 ≤ W.heap.size)) := Lib.hid fun W hb => ⟨(hb.block _ (by simp; omega)).trans (by rw [Below.heap_alloc _ _ _ (by simp)]; exact alloc_new_atE _ _ rfl), (hb.block _ (by simp)).trans (alloc_new_atE _ _ (by simp)), by have := hb.size; simpa using this⟩
  by_cases o3 : op = 3
  · subst o3
    clear o1 o2
    cases mb
    · skip
      obtain rfl : Z = false := by rw [HZ.out]; simp []
      clear HZ
      go_enter Try.func72, Try.ntmps72
      go_wp2_with (first | (go_at_call 104; refine (HMB.out _ HB0.out).mono ?_; rintro e w1 ⟨rfl, hb1⟩; have HBE := Lib.hid (below_step HB0.out hb1)))
      go_ret
      exact ⟨rfl, HBE.out⟩
    · skip
      cases pk
      · skip
        obtain rfl : Z = false := by rw [HZ.out]; simp []
        clear HZ
        go_enter Try.func72, Try.ntmps72
        go_wp2_with fail
        refine (HMB.out _ HB0.out).mono ?_
        rintro e w1 ⟨rfl, hb1⟩
        have HB1 := Lib.hid (below_step HB0.out hb1)
        have HBV := Lib.hid hb1
        obtain ⟨y0, -, -⟩ := HBX.out w1 hb1
        obtain ⟨z0, z1, z2, z3, z4, z5, z6⟩ := seven_cellsT y0
        clear hb1 y0
        go_wp2_with fail
        refine (HIP.out _ HB1.out).mono ?_
        rintro e w2 ⟨rfl, hb2⟩
        have HB2 := Lib.hid (below_step HB1.out hb2)
        have HBW := Lib.hid (below_step HBV.out hb2)
        clear hb2 z0 z1 z2 z3 z4 z5 z6
        obtain ⟨b0, b1, b2⟩ := HBX.out w2 HBW.out
        have hz2 : w.heap.size + 2 ≤ w2.heap.size := b2
        obtain ⟨x0, x1, x2, x3, x4, x5, x6⟩ := seven_cellsT b1
        obtain ⟨q0, q1, q2, q3, q4, q5, q6⟩ := seven_cellsT b0
        have f3 := frozen_of_row _ _ 3 _ _ b1
        have f4 := frozen_of_row _ _ 4 _ _ b1
        have f5 := frozen_of_row _ _ 5 _ _ b1
        have HBS := Lib.hid (below_set (below_set (below_set HB2.out (b := w.heap.size + 1) (j := 3) (u := .bool false) (by omega)) (b := w.heap.size + 1) (j := 4) (u := .int .i64 0) (by omega)) (b := w.heap.size + 1) (j := 5) (u := .slice none 0 0) (by omega))
        clear b0 b1 b2 HBX HB0 HIP
        go_wp2
        go_ret
        exact ⟨rfl, HBS.out⟩
      · by_cases hn : num = 0
        · subst hn
          by_cases ht : text = ⟨#[]⟩
          · have g1 := empty_yes ht
            obtain rfl : Z = true := by rw [HZ.out]; simp [ht]
            clear HZ
            clear ht
            go_enter Try.func72, Try.ntmps72
            go_wp2_with fail
            refine (HMB.out _ HB0.out).mono ?_
            rintro e w1 ⟨rfl, hb1⟩
            have HB1 := Lib.hid (below_step HB0.out hb1)
            have HBV := Lib.hid hb1
            obtain ⟨y0, -, -⟩ := HBX.out w1 hb1
            obtain ⟨z0, z1, z2, z3, z4, z5, z6⟩ := seven_cellsT y0
            clear hb1 y0
            go_wp2_with fail
            refine (HIP.out _ HB1.out).mono ?_
            rintro e w2 ⟨rfl, hb2⟩
            have HB2 := Lib.hid (below_step HB1.out hb2)
            have HBW := Lib.hid (below_step HBV.out hb2)
            clear hb2 z0 z1 z2 z3 z4 z5 z6
            obtain ⟨b0, b1, b2⟩ := HBX.out w2 HBW.out
            have hz2 : w.heap.size + 2 ≤ w2.heap.size := b2
            obtain ⟨x0, x1, x2, x3, x4, x5, x6⟩ := seven_cellsT b1
            obtain ⟨q0, q1, q2, q3, q4, q5, q6⟩ := seven_cellsT b0
            have f3 := frozen_of_row _ _ 3 _ _ b1
            have f4 := frozen_of_row _ _ 4 _ _ b1
            have f5 := frozen_of_row _ _ 5 _ _ b1
            have HBS := Lib.hid (below_set (below_set (below_set HB2.out (b := w.heap.size + 1) (j := 3) (u := .bool false) (by omega)) (b := w.heap.size + 1) (j := 4) (u := .int .i64 0) (by omega)) (b := w.heap.size + 1) (j := 5) (u := .slice none 0 0) (by omega))
            clear b0 b1 b2 HBX HB0 HIP
            go_wp2_with (first | (go_at_call 84; refine (HNI.out _).mono ?_; rintro e w3 ⟨rfl, hb3⟩; have HBE := Lib.hid (below_step HBS.out hb3)))
            go_ret
            exact ⟨rfl, HBE.out⟩
          · have g1 := empty_no ht
            obtain rfl : Z = false := by rw [HZ.out]; simp [ht]
            clear HZ
            clear ht
            go_enter Try.func72, Try.ntmps72
            go_wp2_with fail
            refine (HMB.out _ HB0.out).mono ?_
            rintro e w1 ⟨rfl, hb1⟩
            have HB1 := Lib.hid (below_step HB0.out hb1)
            have HBV := Lib.hid hb1
            obtain ⟨y0, -, -⟩ := HBX.out w1 hb1
            obtain ⟨z0, z1, z2, z3, z4, z5, z6⟩ := seven_cellsT y0
            clear hb1 y0
            go_wp2_with fail
            refine (HIP.out _ HB1.out).mono ?_
            rintro e w2 ⟨rfl, hb2⟩
            have HB2 := Lib.hid (below_step HB1.out hb2)
            have HBW := Lib.hid (below_step HBV.out hb2)
            clear hb2 z0 z1 z2 z3 z4 z5 z6
            obtain ⟨b0, b1, b2⟩ := HBX.out w2 HBW.out
            have hz2 : w.heap.size + 2 ≤ w2.heap.size := b2
            obtain ⟨x0, x1, x2, x3, x4, x5, x6⟩ := seven_cellsT b1
            obtain ⟨q0, q1, q2, q3, q4, q5, q6⟩ := seven_cellsT b0
            have f3 := frozen_of_row _ _ 3 _ _ b1
            have f4 := frozen_of_row _ _ 4 _ _ b1
            have f5 := frozen_of_row _ _ 5 _ _ b1
            have HBS := Lib.hid (below_set (below_set (below_set HB2.out (b := w.heap.size + 1) (j := 3) (u := .bool false) (by omega)) (b := w.heap.size + 1) (j := 4) (u := .int .i64 0) (by omega)) (b := w.heap.size + 1) (j := 5) (u := .slice none 0 0) (by omega))
            clear b0 b1 b2 HBX HB0 HIP
            go_wp2
            go_ret
            exact ⟨rfl, HBS.out⟩
        · have g2 : (num == 0) = false := by simp [hn]
          obtain rfl : Z = false := by rw [HZ.out]; simp [hn]
          clear HZ
          clear hn
          go_enter Try.func72, Try.ntmps72
          go_wp2_with fail
          refine (HMB.out _ HB0.out).mono ?_
          rintro e w1 ⟨rfl, hb1⟩
          have HB1 := Lib.hid (below_step HB0.out hb1)
          have HBV := Lib.hid hb1
          obtain ⟨y0, -, -⟩ := HBX.out w1 hb1
          obtain ⟨z0, z1, z2, z3, z4, z5, z6⟩ := seven_cellsT y0
          clear hb1 y0
          go_wp2_with fail
          refine (HIP.out _ HB1.out).mono ?_
          rintro e w2 ⟨rfl, hb2⟩
          have HB2 := Lib.hid (below_step HB1.out hb2)
          have HBW := Lib.hid (below_step HBV.out hb2)
          clear hb2 z0 z1 z2 z3 z4 z5 z6
          obtain ⟨b0, b1, b2⟩ := HBX.out w2 HBW.out
          have hz2 : w.heap.size + 2 ≤ w2.heap.size := b2
          obtain ⟨x0, x1, x2, x3, x4, x5, x6⟩ := seven_cellsT b1
          obtain ⟨q0, q1, q2, q3, q4, q5, q6⟩ := seven_cellsT b0
          have f3 := frozen_of_row _ _ 3 _ _ b1
          have f4 := frozen_of_row _ _ 4 _ _ b1
          have f5 := frozen_of_row _ _ 5 _ _ b1
          have HBS := Lib.hid (below_set (below_set (below_set HB2.out (b := w.heap.size + 1) (j := 3) (u := .bool false) (by omega)) (b := w.heap.size + 1) (j := 4) (u := .int .i64 0) (by omega)) (b := w.heap.size + 1) (j := 5) (u := .slice none 0 0) (by omega))
          clear b0 b1 b2 HBX HB0 HIP
          go_wp2
          go_ret
          exact ⟨rfl, HBS.out⟩
  by_cases o4 : op = 4
  · subst o4
    clear o1 o2 o3
    cases pk
    · skip
      obtain rfl : Z = false := by rw [HZ.out]; simp []
      clear HZ
      go_enter Try.func72, Try.ntmps72
      go_wp2_with fail
      refine (HIP.out _ HB0.out).mono ?_
      rintro e w2 ⟨rfl, hb2⟩
      have HB2 := Lib.hid (below_step HB0.out hb2)
      have HBW := Lib.hid hb2
      clear hb2
      obtain ⟨b0, b1, b2⟩ := HBX.out w2 HBW.out
      have hz2 : w.heap.size + 2 ≤ w2.heap.size := b2
      obtain ⟨x0, x1, x2, x3, x4, x5, x6⟩ := seven_cellsT b1
      obtain ⟨q0, q1, q2, q3, q4, q5, q6⟩ := seven_cellsT b0
      have f3 := frozen_of_row _ _ 3 _ _ b1
      have f4 := frozen_of_row _ _ 4 _ _ b1
      have f5 := frozen_of_row _ _ 5 _ _ b1
      have HBS := Lib.hid (below_set (below_set (below_set HB2.out (b := w.heap.size + 1) (j := 3) (u := .bool false) (by omega)) (b := w.heap.size + 1) (j := 4) (u := .int .i64 0) (by omega)) (b := w.heap.size + 1) (j := 5) (u := .slice none 0 0) (by omega))
      clear b0 b1 b2 HBX HB0 HIP
      go_wp2
      go_ret
      exact ⟨rfl, HBS.out⟩
    · by_cases hn : num = 0
      · subst hn
        by_cases ht : text = ⟨#[]⟩
        · have g1 := empty_yes ht
          obtain rfl : Z = true := by rw [HZ.out]; simp [ht]
          clear HZ
          clear ht
          go_enter Try.func72, Try.ntmps72
          go_wp2_with fail
          refine (HIP.out _ HB0.out).mono ?_
          rintro e w2 ⟨rfl, hb2⟩
          have HB2 := Lib.hid (below_step HB0.out hb2)
          have HBW := Lib.hid hb2
          clear hb2
          obtain ⟨b0, b1, b2⟩ := HBX.out w2 HBW.out
          have hz2 : w.heap.size + 2 ≤ w2.heap.size := b2
          obtain ⟨x0, x1, x2, x3, x4, x5, x6⟩ := seven_cellsT b1
          obtain ⟨q0, q1, q2, q3, q4, q5, q6⟩ := seven_cellsT b0
          have f3 := frozen_of_row _ _ 3 _ _ b1
          have f4 := frozen_of_row _ _ 4 _ _ b1
          have f5 := frozen_of_row _ _ 5 _ _ b1
          have HBS := Lib.hid (below_set (below_set (below_set HB2.out (b := w.heap.size + 1) (j := 3) (u := .bool false) (by omega)) (b := w.heap.size + 1) (j := 4) (u := .int .i64 0) (by omega)) (b := w.heap.size + 1) (j := 5) (u := .slice none 0 0) (by omega))
          clear b0 b1 b2 HBX HB0 HIP
          go_wp2_with (first | (go_at_call 84; refine (HNI.out _).mono ?_; rintro e w3 ⟨rfl, hb3⟩; have HBE := Lib.hid (below_step HBS.out hb3)))
          go_ret
          exact ⟨rfl, HBE.out⟩
        · have g1 := empty_no ht
          obtain rfl : Z = false := by rw [HZ.out]; simp [ht]
          clear HZ
          clear ht
          go_enter Try.func72, Try.ntmps72
          go_wp2_with fail
          refine (HIP.out _ HB0.out).mono ?_
          rintro e w2 ⟨rfl, hb2⟩
          have HB2 := Lib.hid (below_step HB0.out hb2)
          have HBW := Lib.hid hb2
          clear hb2
          obtain ⟨b0, b1, b2⟩ := HBX.out w2 HBW.out
          have hz2 : w.heap.size + 2 ≤ w2.heap.size := b2
          obtain ⟨x0, x1, x2, x3, x4, x5, x6⟩ := seven_cellsT b1
          obtain ⟨q0, q1, q2, q3, q4, q5, q6⟩ := seven_cellsT b0
          have f3 := frozen_of_row _ _ 3 _ _ b1
          have f4 := frozen_of_row _ _ 4 _ _ b1
          have f5 := frozen_of_row _ _ 5 _ _ b1
          have HBS := Lib.hid (below_set (below_set (below_set HB2.out (b := w.heap.size + 1) (j := 3) (u := .bool false) (by omega)) (b := w.heap.size + 1) (j := 4) (u := .int .i64 0) (by omega)) (b := w.heap.size + 1) (j := 5) (u := .slice none 0 0) (by omega))
          clear b0 b1 b2 HBX HB0 HIP
          go_wp2
          go_ret
          exact ⟨rfl, HBS.out⟩
      · have g2 : (num == 0) = false := by simp [hn]
        obtain rfl : Z = false := by rw [HZ.out]; simp [hn]
        clear HZ
        clear hn
        go_enter Try.func72, Try.ntmps72
        go_wp2_with fail
        refine (HIP.out _ HB0.out).mono ?_
        rintro e w2 ⟨rfl, hb2⟩
        have HB2 := Lib.hid (below_step HB0.out hb2)
        have HBW := Lib.hid hb2
        clear hb2
        obtain ⟨b0, b1, b2⟩ := HBX.out w2 HBW.out
        have hz2 : w.heap.size + 2 ≤ w2.heap.size := b2
        obtain ⟨x0, x1, x2, x3, x4, x5, x6⟩ := seven_cellsT b1
        obtain ⟨q0, q1, q2, q3, q4, q5, q6⟩ := seven_cellsT b0
        have f3 := frozen_of_row _ _ 3 _ _ b1
        have f4 := frozen_of_row _ _ 4 _ _ b1
        have f5 := frozen_of_row _ _ 5 _ _ b1
        have HBS := Lib.hid (below_set (below_set (below_set HB2.out (b := w.heap.size + 1) (j := 3) (u := .bool false) (by omega)) (b := w.heap.size + 1) (j := 4) (u := .int .i64 0) (by omega)) (b := w.heap.size + 1) (j := 5) (u := .slice none 0 0) (by omega))
        clear b0 b1 b2 HBX HB0 HIP
        go_wp2
        go_ret
        exact ⟨rfl, HBS.out⟩
  clear HBX
  by_cases h5 : 5 ≤ op
  · by_cases h15 : op ≤ 15
    · by_cases hn : num = 0
      · subst hn
        by_cases ht : text = ⟨#[]⟩
        · have f1 := empty_yes ht
          obtain rfl : Z = be := by rw [HZ.out]; simp [o1, o2, o3, o4, h5, h15, ht]
          clear HZ
          clear ht
          go_enter Try.func72, Try.ntmps72
          go_wp2_with (first | (go_at_call 84; refine (HEM.out _ (by first | exact HB0.out | exact below_set HB0.out (by omega) | exact below_al (below_al (Below.refl _ _) _) _ | exact below_drewN (below_al (below_al (Below.refl _ _) _) _) 1 | exact below_drewN HB0.out 1)).mono ?_; rintro e w1 ⟨rfl, hb1⟩; have HBE := Lib.hid (below_step (by first | exact HB0.out | exact below_set HB0.out (by omega) | exact below_al (below_al (Below.refl _ _) _) _ | exact below_drewN (below_al (below_al (Below.refl _ _) _) _) 1 | exact below_drewN HB0.out 1) hb1)))
          go_ret
          exact ⟨rfl, HBE.out⟩
        · have f1 := empty_no ht
          obtain rfl : Z = false := by rw [HZ.out]; simp [o1, o2, o3, o4, h5, h15, ht]
          clear HZ
          clear ht
          go_enter Try.func72, Try.ntmps72
          go_wp2
          go_ret
          exact ⟨rfl, (by first | exact HB0.out | exact below_set HB0.out (by omega) | exact below_al (below_al (Below.refl _ _) _) _ | exact below_drewN (below_al (below_al (Below.refl _ _) _) _) 1 | exact below_drewN HB0.out 1)⟩
      · have f2 : (num == 0) = false := by simp [hn]
        obtain rfl : Z = false := by rw [HZ.out]; simp [o1, o2, o3, o4, h5, h15, hn]
        clear HZ
        clear hn
        go_enter Try.func72, Try.ntmps72
        go_wp2
        go_ret
        exact ⟨rfl, (by first | exact HB0.out | exact below_set HB0.out (by omega) | exact below_al (below_al (Below.refl _ _) _) _ | exact below_drewN (below_al (below_al (Below.refl _ _) _) _) 1 | exact below_drewN HB0.out 1)⟩
    · skip
      obtain rfl : Z = false := by rw [HZ.out]; simp [o1, o2, o3, o4, h5, h15]
      clear HZ
      go_enter Try.func72, Try.ntmps72
      go_wp2
      go_ret
      exact ⟨rfl, (by first | exact HB0.out | exact below_set HB0.out (by omega) | exact below_al (below_al (Below.refl _ _) _) _ | exact below_drewN (below_al (below_al (Below.refl _ _) _) _) 1 | exact below_drewN HB0.out 1)⟩
  · skip
    obtain rfl : Z = false := by rw [HZ.out]; simp [o1, o2, o3, o4, h5]
    clear HZ
    go_enter Try.func72, Try.ntmps72
    go_wp2
    go_ret
    exact ⟨rfl, (by first | exact HB0.out | exact below_set HB0.out (by omega) | exact below_al (below_al (Below.refl _ _) _) _ | exact below_drewN (below_al (below_al (Below.refl _ _) _) _) 1 | exact below_drewN HB0.out 1)⟩
end Go.Proofs.Ytnpgeneahjlkpaa
