/- MERGED for a claim: TyX TyY. -/
import Derived.Test.YtkifdbeklagelaaGreatDoorTyW
set_option linter.unusedVariables false
set_option linter.unusedSimpArgs false
/- CHAPTER 6: TYPES READ, spec: l6Type. PRINTED by tools/gen_tyX.py. -/
namespace Go.Proofs.YtkifdbeklagelaaGreatDoor
open Go.RowKit NumP
set_option maxRecDepth 100000

/-- what l6Type leaves -/
def L6V (W0 : World) (B b : Nat) (A : Option Addr) (n cap : Nat) (T : List Tok) (res : Option (List Rg × Nat)) (e : Ending) (w' : World) : Prop :=
  ∃ (v : TyV) (t : Ty) (j : Nat) (bad : Bool), e = .returned v.val ∧ OwnTy W0.heap.size w' v t ∧ Par B b A n cap T j bad w' ∧ W0.grownBy w' (some b) ∧ Hid (Fin6 T res j bad t)
theorem isE3 : (⟨#[45]⟩ : ByteArray).toList.isEmpty = false := by rw [ByteArray.toList_eq]; rfl
set_option maxHeartbeats 8000000 in
theorem sL6_any (B b n cap : Nat) (A : Option Addr) (T : List Tok) (bad : Bool) (w : World) (hts : ∀ x ∈ T, x.t.size ≤ 1048576) (hnb : n ≤ 1048576) (h : Par B b A n cap T 0 bad w) (hbad : bad = true → T = []) (res : Option (List Rg × Nat)) (hr : Run (T.drop 1) 0 [] res) :
    Calls Tryz.prog 34 #[.pointer (some ⟨b, 0, none⟩)] w fun e w' => L6V w B b A n cap T res e w' := by
  have HR0 := Lib.hid (rt_start h)
  have HTS := Lib.hid hts
  have HNB := Lib.hid hnb
  have HRUN := Lib.hid (Run.shift 1 hr)
  have HRUN0 := Lib.hid hr
  have HTN := Lib.hid h.size.1
  have hz5 : (⟨#[]⟩ : ByteArray).size ≤ 1048576 := Nat.zero_le _
  rcases head_cases T with ⟨h1, h2⟩ | ⟨x, r, hx, hx1, hw⟩
  · have HNO : Hid ((!bad && kB 1 (T.drop 0)) = false) := Lib.hid (by rw [List.drop_zero, h1, Bool.and_false])
    have HG0 := Lib.hid (good_zero (res := res) h2)
    clear hts hnb h hbad hr h1 h2
    go_enter Tryz.func34, Tryz.ntmps34
    go_wp2_with fail
    refine (sTkN 1 HR0.out.P HNO.out).mono ?_
    rintro e w1 ⟨rfl, hP, hG⟩
    have HR1 := Lib.hid (HR0.out.step hP hG)
    have hl1 := HR1.out.lt
    clear hP hG
    obtain ⟨⟨x0, x1, x2, x3, x4⟩, g0, g1, g2, g3, g4⟩ := five HR1.out.X
    go_wp2
    go_loopw [] (fun wr => Hid (Rt w B b A n cap T 0 true 0 (.slice none 0 0) (.slice none 0 0) ⟨#[]⟩ ⟨#[]⟩ [] [] wr)) (fun _ => 0)
    case atStart => exact HR1
    case round =>
      have HL := hrel
      clear hrel
      obtain ⟨⟨x0, x1, x2, x3, x4⟩, g0, g1, g2, g3, g4⟩ := five HL.out.X
      go_wp2_with fail
      refine (sIsTy_any ⟨0, .slice none 0 0, .slice none 0 0, ⟨#[]⟩, ⟨#[]⟩⟩ ⟨0, [], [], ⟨#[]⟩, ⟨#[]⟩⟩ _ (HL.out.own (by simp [Value.ownBlock])).has ⟨by simp, hz5, hz5⟩).mono ?_
      rw [isTy_zero]
      rintro e w9 ⟨rfl, hb9⟩
      have HR9 := Lib.hid (HL.out.below hb9)
      clear hb9
      have c2 := HR9.out.P.c2
      have f2 := HR9.out.P.f2
      have HS9 := Lib.hid (HR9.out.setBad true)
      obtain ⟨⟨p0, p1, p2, p3, p4⟩, q0, q1, q2, q3, q4⟩ := five HS9.out.X
      obtain ⟨⟨y0, y1, y2, y3, y4⟩, u0, u1, u2, u3, u4⟩ := five HS9.out.Z
      have hl9 := HR9.out.lt
      have HD := Lib.hid (Rt.done HS9.out (by simp [Value.ownBlock]) (.int .i64 0) (.slice none 0 0) (.slice none 0 0) (.string ⟨#[]⟩) (.string ⟨#[]⟩))
      have hfin := TyBox.full (k' := 0) (vr' := .slice none 0 0) (vn' := .slice none 0 0) (pt' := ⟨#[]⟩) (ph' := ⟨#[]⟩) (Rt.Z HS9.out)
      go_wp2
      refine bodyPost_ret (results_ty1 rfl _ _ ⟨w.heap.size, 0, none⟩ _ rfl (run_loadTy hfin)) rfl ?_
      exact ⟨⟨0, .slice none 0 0, .slice none 0 0, ⟨#[]⟩, ⟨#[]⟩⟩, ⟨0, [], [], ⟨#[]⟩, ⟨#[]⟩⟩, _, true, rfl, HD.out.1, HD.out.2.1, HD.out.2.2, Lib.hid (.inr ⟨rfl, HG0.out⟩)⟩
  · have hb : bad = false := by
      cases bad with
      | false => rfl
      | true => rw [hbad rfl] at hx; cases hx
    subst hb
    have HX : Hid (T.drop 0 = x :: r) := Lib.hid (by rw [List.drop_zero]; exact hx)
    have HX1 := Lib.hid hx1
    clear hts hnb h hbad hr hx hx1
    rcases hw with ⟨hxt, hK⟩ | ⟨hxt, hK⟩ | ⟨hxt, hK⟩ | ⟨hxt, hK⟩ | ⟨hxt, hK⟩ | ⟨hxt, hK⟩ | ⟨⟨n1, n2, n3, n4, n5, n6⟩, hK⟩
    · have HXT := Lib.hid hxt
      have HK := Lib.hid hK
      clear hxt hK
      rcases (show (kB 2 (T.drop 1) = true) ∨ (kB 2 (T.drop 1) = false ∧ mkB (T.drop 1) ⟨#[45]⟩ = true) ∨ (kB 2 (T.drop 1) = false ∧ mkB (T.drop 1) ⟨#[45]⟩ = false) from by cases kB 2 (T.drop 1) <;> cases mkB (T.drop 1) ⟨#[45]⟩ <;> simp) with h2 | ⟨h2, h4⟩ | ⟨h2, h4⟩
      · have H2 : Hid ((!false && kB 2 (T.drop 1)) = true) := Lib.hid (by simpa using h2)
        have HOR : Hid (kB 2 (T.drop 1) = true ∨ mkB (T.drop 1) minusT = true) := Lib.hid (.inl h2)
        clear h2
        go_enter Tryz.func34, Tryz.ntmps34
        go_wp2_with fail
        refine (sTkY 1 HR0.out.P HX.out HX1.out).mono ?_
        rw [HXT.out]
        rintro e w1 ⟨rfl, hP, hG⟩
        have HR1 : Hid (Rt w B b A n cap T 1 false 0 (.slice none 0 0) (.slice none 0 0) ⟨#[]⟩ ⟨#[]⟩ [] [] w1) := Lib.hid (HR0.out.step hP hG)
        have hl1 := HR1.out.lt
        clear hP hG
        obtain ⟨⟨x0, x1, x2, x3, x4⟩, g0, g1, g2, g3, g4⟩ := five HR1.out.X
        have HR2 : Hid (Rt w B b A n cap T 1 false 1 (.slice none 0 0) (.slice none 0 0) ⟨#[]⟩ ⟨#[]⟩ [] [] (w1.setCell ⟨w.heap.size + 1, 0, none⟩ (.int .i64 1))) := Lib.hid (HR1.out.put 0 (.int .i64 1) rfl HR1.out.R HR1.out.N)
        go_wp2_with fail
        refine (sAtK 2 HR2.out.P).mono ?_
        rw [H2.out]
        rintro e w3 ⟨rfl, q, hq⟩
        have HR3 := Lib.hid (HR2.out.drewN q)
        rw [← hq] at HR3
        clear hq x0 x1 x2 x3 x4 g0 g1 g2 g3 g4 HR2 HR1
        obtain ⟨⟨x0, x1, x2, x3, x4⟩, g0, g1, g2, g3, g4⟩ := five HR3.out.X
        go_wp2_with fail
        refine (sRgs_from 1 B b n cap A T _ HTS.out HNB.out HR3.out.P _ HRUN.out).mono ?_
        rintro e w5 ⟨vR, R, j, bad2, rfl, hrow, hP, hG, HF⟩
        obtain ⟨A2, C2, rfl⟩ : ∃ A2 C2, vR = .slice A2 R.length C2 := by obtain ⟨A2, C2, hv, _⟩ := RowR.hasG hrow; exact ⟨A2, C2, hv⟩
        obtain ⟨m2, hm2⟩ : ∃ m2, m2 = R.length := ⟨_, rfl⟩
        rw [← hm2] at hrow ⊢
        clear hm2
        have HMID := Lib.hid (mid_read (.inl HK.out) HOR.out HF.out)
        have HR5 := Lib.hid (HR3.out.step hP hG)
        have hl5 := HR3.out.lt
        have HR6 : Hid (Rt w B b A n cap T j bad2 1 (.slice A2 m2 C2) (.slice none 0 0) ⟨#[]⟩ ⟨#[]⟩ R [] (w5.setCell ⟨w.heap.size + 1, 1, none⟩ (.slice A2 m2 C2))) := Lib.hid (HR5.out.put 1 (.slice A2 m2 C2) rfl (RowR.mono hrow (by omega)) HR5.out.N)
        clear hrow hP hG HF x0 x1 x2 x3 x4 g0 g1 g2 g3 g4 HR3
        obtain ⟨⟨x0, x1, x2, x3, x4⟩, g0, g1, g2, g3, g4⟩ := five HR5.out.X
        go_wp2
        go_loopw [] (fun wr => Hid (Rt w B b A n cap T j bad2 1 (.slice A2 m2 C2) (.slice none 0 0) ⟨#[]⟩ ⟨#[]⟩ R [] wr)) (fun _ => 0)
        case atStart => exact HR6
        case round =>
          have HL := hrel
          clear hrel
          obtain ⟨⟨x0, x1, x2, x3, x4⟩, g0, g1, g2, g3, g4⟩ := five HL.out.X
          go_wp2_with fail
          refine (sIsTy_any ⟨1, .slice A2 m2 C2, .slice none 0 0, ⟨#[]⟩, ⟨#[]⟩⟩ ⟨1, R, [], ⟨#[]⟩, ⟨#[]⟩⟩ _ (HL.out.own (by simp [Value.ownBlock])).has ⟨by simp, hz5, hz5⟩).mono ?_
          obtain ⟨z, hz⟩ : ∃ z, z = isTyB ⟨1, R, [], ⟨#[]⟩, ⟨#[]⟩⟩ := ⟨_, rfl⟩
          rw [← hz]
          have HZ9 := Lib.hid hz.symm
          have HPRE := Lib.hid (pre_1 (res := res) HK.out HMID.out)
          clear hz
          rintro e w9 ⟨rfl, hb9⟩
          have HR9 := Lib.hid (HL.out.below hb9)
          clear hb9
          have hl9 := HR9.out.lt
          cases z
          · have c2 := HR9.out.P.c2
            have f2 := HR9.out.P.f2
            have HS9 := Lib.hid (HR9.out.setBad true)
            obtain ⟨⟨p0, p1, p2, p3, p4⟩, q0, q1, q2, q3, q4⟩ := five HS9.out.X
            obtain ⟨⟨y0, y1, y2, y3, y4⟩, u0, u1, u2, u3, u4⟩ := five HS9.out.Z
            have HD := Lib.hid (Rt.done HS9.out (by simp [Value.ownBlock]) (.int .i64 1) (.slice A2 m2 C2) (.slice none 0 0) (.string ⟨#[]⟩) (.string ⟨#[]⟩))
            have hfin := TyBox.full (k' := 1) (vr' := .slice A2 m2 C2) (vn' := .slice none 0 0) (pt' := ⟨#[]⟩) (ph' := ⟨#[]⟩) (Rt.Z HS9.out)
            go_wp2
            refine bodyPost_ret (results_ty1 rfl _ _ ⟨w.heap.size, 0, none⟩ _ rfl (run_loadTy hfin)) rfl ?_
            exact ⟨⟨1, .slice A2 m2 C2, .slice none 0 0, ⟨#[]⟩, ⟨#[]⟩⟩, ⟨1, R, [], ⟨#[]⟩, ⟨#[]⟩⟩, _, true, rfl, HD.out.1, HD.out.2.1, HD.out.2.2, Lib.hid (fin_no HPRE.out HZ9.out)⟩
          · obtain ⟨⟨p0, p1, p2, p3, p4⟩, q0, q1, q2, q3, q4⟩ := five HR9.out.X
            obtain ⟨⟨y0, y1, y2, y3, y4⟩, u0, u1, u2, u3, u4⟩ := five HR9.out.Z
            have HD := Lib.hid (Rt.done HR9.out (by simp [Value.ownBlock]) (.int .i64 1) (.slice A2 m2 C2) (.slice none 0 0) (.string ⟨#[]⟩) (.string ⟨#[]⟩))
            have hfin := TyBox.full (k' := 1) (vr' := .slice A2 m2 C2) (vn' := .slice none 0 0) (pt' := ⟨#[]⟩) (ph' := ⟨#[]⟩) (Rt.Z HR9.out)
            go_wp2
            refine bodyPost_ret (results_ty1 rfl _ _ ⟨w.heap.size, 0, none⟩ _ rfl (run_loadTy hfin)) rfl ?_
            exact ⟨⟨1, .slice A2 m2 C2, .slice none 0 0, ⟨#[]⟩, ⟨#[]⟩⟩, ⟨1, R, [], ⟨#[]⟩, ⟨#[]⟩⟩, _, bad2, rfl, HD.out.1, HD.out.2.1, HD.out.2.2, Lib.hid (fin_yes HPRE.out HZ9.out)⟩
      · have H2 : Hid ((!false && kB 2 (T.drop 1)) = false) := Lib.hid (by simpa using h2)
        have H4 := Lib.hid h4
        have HOR : Hid (kB 2 (T.drop 1) = true ∨ mkB (T.drop 1) minusT = true) := Lib.hid (.inr h4)
        clear h2 h4
        go_enter Tryz.func34, Tryz.ntmps34
        go_wp2_with fail
        refine (sTkY 1 HR0.out.P HX.out HX1.out).mono ?_
        rw [HXT.out]
        rintro e w1 ⟨rfl, hP, hG⟩
        have HR1 : Hid (Rt w B b A n cap T 1 false 0 (.slice none 0 0) (.slice none 0 0) ⟨#[]⟩ ⟨#[]⟩ [] [] w1) := Lib.hid (HR0.out.step hP hG)
        have hl1 := HR1.out.lt
        clear hP hG
        obtain ⟨⟨x0, x1, x2, x3, x4⟩, g0, g1, g2, g3, g4⟩ := five HR1.out.X
        have HR2 : Hid (Rt w B b A n cap T 1 false 1 (.slice none 0 0) (.slice none 0 0) ⟨#[]⟩ ⟨#[]⟩ [] [] (w1.setCell ⟨w.heap.size + 1, 0, none⟩ (.int .i64 1))) := Lib.hid (HR1.out.put 0 (.int .i64 1) rfl HR1.out.R HR1.out.N)
        go_wp2_with fail
        refine (sAtK 2 HR2.out.P).mono ?_
        rw [H2.out]
        rintro e w3 ⟨rfl, q, hq⟩
        have HR3 := Lib.hid (HR2.out.drewN q)
        rw [← hq] at HR3
        clear hq x0 x1 x2 x3 x4 g0 g1 g2 g3 g4 HR2 HR1
        obtain ⟨⟨x0, x1, x2, x3, x4⟩, g0, g1, g2, g3, g4⟩ := five HR3.out.X
        go_wp2_with fail
        refine (sIs_mk ⟨#[45]⟩ isE3 HR3.out.P).mono ?_
        rw [H4.out]
        rintro e w4 ⟨rfl, q, hq⟩
        have HR4 := Lib.hid (HR3.out.drewN q)
        rw [← hq] at HR4
        clear hq x0 x1 x2 x3 x4 g0 g1 g2 g3 g4 HR3
        obtain ⟨⟨x0, x1, x2, x3, x4⟩, g0, g1, g2, g3, g4⟩ := five HR4.out.X
        go_wp2_with fail
        refine (sRgs_from 1 B b n cap A T _ HTS.out HNB.out HR4.out.P _ HRUN.out).mono ?_
        rintro e w5 ⟨vR, R, j, bad2, rfl, hrow, hP, hG, HF⟩
        obtain ⟨A2, C2, rfl⟩ : ∃ A2 C2, vR = .slice A2 R.length C2 := by obtain ⟨A2, C2, hv, _⟩ := RowR.hasG hrow; exact ⟨A2, C2, hv⟩
        obtain ⟨m2, hm2⟩ : ∃ m2, m2 = R.length := ⟨_, rfl⟩
        rw [← hm2] at hrow ⊢
        clear hm2
        have HMID := Lib.hid (mid_read (.inl HK.out) HOR.out HF.out)
        have HR5 := Lib.hid (HR4.out.step hP hG)
        have hl5 := HR4.out.lt
        have HR6 : Hid (Rt w B b A n cap T j bad2 1 (.slice A2 m2 C2) (.slice none 0 0) ⟨#[]⟩ ⟨#[]⟩ R [] (w5.setCell ⟨w.heap.size + 1, 1, none⟩ (.slice A2 m2 C2))) := Lib.hid (HR5.out.put 1 (.slice A2 m2 C2) rfl (RowR.mono hrow (by omega)) HR5.out.N)
        clear hrow hP hG HF x0 x1 x2 x3 x4 g0 g1 g2 g3 g4 HR4
        obtain ⟨⟨x0, x1, x2, x3, x4⟩, g0, g1, g2, g3, g4⟩ := five HR5.out.X
        go_wp2
        go_loopw [] (fun wr => Hid (Rt w B b A n cap T j bad2 1 (.slice A2 m2 C2) (.slice none 0 0) ⟨#[]⟩ ⟨#[]⟩ R [] wr)) (fun _ => 0)
        case atStart => exact HR6
        case round =>
          have HL := hrel
          clear hrel
          obtain ⟨⟨x0, x1, x2, x3, x4⟩, g0, g1, g2, g3, g4⟩ := five HL.out.X
          go_wp2_with fail
          refine (sIsTy_any ⟨1, .slice A2 m2 C2, .slice none 0 0, ⟨#[]⟩, ⟨#[]⟩⟩ ⟨1, R, [], ⟨#[]⟩, ⟨#[]⟩⟩ _ (HL.out.own (by simp [Value.ownBlock])).has ⟨by simp, hz5, hz5⟩).mono ?_
          obtain ⟨z, hz⟩ : ∃ z, z = isTyB ⟨1, R, [], ⟨#[]⟩, ⟨#[]⟩⟩ := ⟨_, rfl⟩
          rw [← hz]
          have HZ9 := Lib.hid hz.symm
          have HPRE := Lib.hid (pre_1 (res := res) HK.out HMID.out)
          clear hz
          rintro e w9 ⟨rfl, hb9⟩
          have HR9 := Lib.hid (HL.out.below hb9)
          clear hb9
          have hl9 := HR9.out.lt
          cases z
          · have c2 := HR9.out.P.c2
            have f2 := HR9.out.P.f2
            have HS9 := Lib.hid (HR9.out.setBad true)
            obtain ⟨⟨p0, p1, p2, p3, p4⟩, q0, q1, q2, q3, q4⟩ := five HS9.out.X
            obtain ⟨⟨y0, y1, y2, y3, y4⟩, u0, u1, u2, u3, u4⟩ := five HS9.out.Z
            have HD := Lib.hid (Rt.done HS9.out (by simp [Value.ownBlock]) (.int .i64 1) (.slice A2 m2 C2) (.slice none 0 0) (.string ⟨#[]⟩) (.string ⟨#[]⟩))
            have hfin := TyBox.full (k' := 1) (vr' := .slice A2 m2 C2) (vn' := .slice none 0 0) (pt' := ⟨#[]⟩) (ph' := ⟨#[]⟩) (Rt.Z HS9.out)
            go_wp2
            refine bodyPost_ret (results_ty1 rfl _ _ ⟨w.heap.size, 0, none⟩ _ rfl (run_loadTy hfin)) rfl ?_
            exact ⟨⟨1, .slice A2 m2 C2, .slice none 0 0, ⟨#[]⟩, ⟨#[]⟩⟩, ⟨1, R, [], ⟨#[]⟩, ⟨#[]⟩⟩, _, true, rfl, HD.out.1, HD.out.2.1, HD.out.2.2, Lib.hid (fin_no HPRE.out HZ9.out)⟩
          · obtain ⟨⟨p0, p1, p2, p3, p4⟩, q0, q1, q2, q3, q4⟩ := five HR9.out.X
            obtain ⟨⟨y0, y1, y2, y3, y4⟩, u0, u1, u2, u3, u4⟩ := five HR9.out.Z
            have HD := Lib.hid (Rt.done HR9.out (by simp [Value.ownBlock]) (.int .i64 1) (.slice A2 m2 C2) (.slice none 0 0) (.string ⟨#[]⟩) (.string ⟨#[]⟩))
            have hfin := TyBox.full (k' := 1) (vr' := .slice A2 m2 C2) (vn' := .slice none 0 0) (pt' := ⟨#[]⟩) (ph' := ⟨#[]⟩) (Rt.Z HR9.out)
            go_wp2
            refine bodyPost_ret (results_ty1 rfl _ _ ⟨w.heap.size, 0, none⟩ _ rfl (run_loadTy hfin)) rfl ?_
            exact ⟨⟨1, .slice A2 m2 C2, .slice none 0 0, ⟨#[]⟩, ⟨#[]⟩⟩, ⟨1, R, [], ⟨#[]⟩, ⟨#[]⟩⟩, _, bad2, rfl, HD.out.1, HD.out.2.1, HD.out.2.2, Lib.hid (fin_yes HPRE.out HZ9.out)⟩
      · have H2 : Hid ((!false && kB 2 (T.drop 1)) = false) := Lib.hid (by simpa using h2)
        have H4 := Lib.hid h4
        have HMID := Lib.hid (mid_none (T := T) HRUN0.out h2 h4)
        clear h2 h4
        go_enter Tryz.func34, Tryz.ntmps34
        go_wp2_with fail
        refine (sTkY 1 HR0.out.P HX.out HX1.out).mono ?_
        rw [HXT.out]
        rintro e w1 ⟨rfl, hP, hG⟩
        have HR1 : Hid (Rt w B b A n cap T 1 false 0 (.slice none 0 0) (.slice none 0 0) ⟨#[]⟩ ⟨#[]⟩ [] [] w1) := Lib.hid (HR0.out.step hP hG)
        have hl1 := HR1.out.lt
        clear hP hG
        obtain ⟨⟨x0, x1, x2, x3, x4⟩, g0, g1, g2, g3, g4⟩ := five HR1.out.X
        have HR2 : Hid (Rt w B b A n cap T 1 false 1 (.slice none 0 0) (.slice none 0 0) ⟨#[]⟩ ⟨#[]⟩ [] [] (w1.setCell ⟨w.heap.size + 1, 0, none⟩ (.int .i64 1))) := Lib.hid (HR1.out.put 0 (.int .i64 1) rfl HR1.out.R HR1.out.N)
        go_wp2_with fail
        refine (sAtK 2 HR2.out.P).mono ?_
        rw [H2.out]
        rintro e w3 ⟨rfl, q, hq⟩
        have HR3 := Lib.hid (HR2.out.drewN q)
        rw [← hq] at HR3
        clear hq x0 x1 x2 x3 x4 g0 g1 g2 g3 g4 HR2 HR1
        obtain ⟨⟨x0, x1, x2, x3, x4⟩, g0, g1, g2, g3, g4⟩ := five HR3.out.X
        go_wp2_with fail
        refine (sIs_mk ⟨#[45]⟩ isE3 HR3.out.P).mono ?_
        rw [H4.out]
        rintro e w4 ⟨rfl, q, hq⟩
        have HR4 := Lib.hid (HR3.out.drewN q)
        rw [← hq] at HR4
        clear hq x0 x1 x2 x3 x4 g0 g1 g2 g3 g4 HR3
        obtain ⟨⟨x0, x1, x2, x3, x4⟩, g0, g1, g2, g3, g4⟩ := five HR4.out.X
        go_wp2
        go_loopw [] (fun wr => Hid (Rt w B b A n cap T 1 false 1 (.slice none 0 0) (.slice none 0 0) ⟨#[]⟩ ⟨#[]⟩ [] [] wr)) (fun _ => 0)
        case atStart => exact HR4
        case round =>
          have HL := hrel
          clear hrel
          obtain ⟨⟨x0, x1, x2, x3, x4⟩, g0, g1, g2, g3, g4⟩ := five HL.out.X
          go_wp2_with fail
          refine (sIsTy_any ⟨1, .slice none 0 0, .slice none 0 0, ⟨#[]⟩, ⟨#[]⟩⟩ ⟨1, [], [], ⟨#[]⟩, ⟨#[]⟩⟩ _ (HL.out.own (by simp [Value.ownBlock])).has ⟨by simp, hz5, hz5⟩).mono ?_
          obtain ⟨z, hz⟩ : ∃ z, z = isTyB ⟨1, [], [], ⟨#[]⟩, ⟨#[]⟩⟩ := ⟨_, rfl⟩
          rw [← hz]
          have HZ9 := Lib.hid hz.symm
          have HPRE := Lib.hid (pre_1 (res := res) HK.out HMID.out)
          clear hz
          rintro e w9 ⟨rfl, hb9⟩
          have HR9 := Lib.hid (HL.out.below hb9)
          clear hb9
          have hl9 := HR9.out.lt
          cases z
          · have c2 := HR9.out.P.c2
            have f2 := HR9.out.P.f2
            have HS9 := Lib.hid (HR9.out.setBad true)
            obtain ⟨⟨p0, p1, p2, p3, p4⟩, q0, q1, q2, q3, q4⟩ := five HS9.out.X
            obtain ⟨⟨y0, y1, y2, y3, y4⟩, u0, u1, u2, u3, u4⟩ := five HS9.out.Z
            have HD := Lib.hid (Rt.done HS9.out (by simp [Value.ownBlock]) (.int .i64 1) (.slice none 0 0) (.slice none 0 0) (.string ⟨#[]⟩) (.string ⟨#[]⟩))
            have hfin := TyBox.full (k' := 1) (vr' := .slice none 0 0) (vn' := .slice none 0 0) (pt' := ⟨#[]⟩) (ph' := ⟨#[]⟩) (Rt.Z HS9.out)
            go_wp2
            refine bodyPost_ret (results_ty1 rfl _ _ ⟨w.heap.size, 0, none⟩ _ rfl (run_loadTy hfin)) rfl ?_
            exact ⟨⟨1, .slice none 0 0, .slice none 0 0, ⟨#[]⟩, ⟨#[]⟩⟩, ⟨1, [], [], ⟨#[]⟩, ⟨#[]⟩⟩, _, true, rfl, HD.out.1, HD.out.2.1, HD.out.2.2, Lib.hid (fin_no HPRE.out HZ9.out)⟩
          · obtain ⟨⟨p0, p1, p2, p3, p4⟩, q0, q1, q2, q3, q4⟩ := five HR9.out.X
            obtain ⟨⟨y0, y1, y2, y3, y4⟩, u0, u1, u2, u3, u4⟩ := five HR9.out.Z
            have HD := Lib.hid (Rt.done HR9.out (by simp [Value.ownBlock]) (.int .i64 1) (.slice none 0 0) (.slice none 0 0) (.string ⟨#[]⟩) (.string ⟨#[]⟩))
            have hfin := TyBox.full (k' := 1) (vr' := .slice none 0 0) (vn' := .slice none 0 0) (pt' := ⟨#[]⟩) (ph' := ⟨#[]⟩) (Rt.Z HR9.out)
            go_wp2
            refine bodyPost_ret (results_ty1 rfl _ _ ⟨w.heap.size, 0, none⟩ _ rfl (run_loadTy hfin)) rfl ?_
            exact ⟨⟨1, .slice none 0 0, .slice none 0 0, ⟨#[]⟩, ⟨#[]⟩⟩, ⟨1, [], [], ⟨#[]⟩, ⟨#[]⟩⟩, _, false, rfl, HD.out.1, HD.out.2.1, HD.out.2.2, Lib.hid (fin_yes HPRE.out HZ9.out)⟩
    · have HXT := Lib.hid hxt
      have HK := Lib.hid hK
      clear hxt hK
      rcases (show (kB 2 (T.drop 1) = true) ∨ (kB 2 (T.drop 1) = false ∧ mkB (T.drop 1) ⟨#[45]⟩ = true) ∨ (kB 2 (T.drop 1) = false ∧ mkB (T.drop 1) ⟨#[45]⟩ = false) from by cases kB 2 (T.drop 1) <;> cases mkB (T.drop 1) ⟨#[45]⟩ <;> simp) with h2 | ⟨h2, h4⟩ | ⟨h2, h4⟩
      · have H2 : Hid ((!false && kB 2 (T.drop 1)) = true) := Lib.hid (by simpa using h2)
        have HOR : Hid (kB 2 (T.drop 1) = true ∨ mkB (T.drop 1) minusT = true) := Lib.hid (.inl h2)
        clear h2
        go_enter Tryz.func34, Tryz.ntmps34
        go_wp2_with fail
        refine (sTkY 1 HR0.out.P HX.out HX1.out).mono ?_
        rw [HXT.out]
        rintro e w1 ⟨rfl, hP, hG⟩
        have HR1 : Hid (Rt w B b A n cap T 1 false 0 (.slice none 0 0) (.slice none 0 0) ⟨#[]⟩ ⟨#[]⟩ [] [] w1) := Lib.hid (HR0.out.step hP hG)
        have hl1 := HR1.out.lt
        clear hP hG
        obtain ⟨⟨x0, x1, x2, x3, x4⟩, g0, g1, g2, g3, g4⟩ := five HR1.out.X
        have HR2 : Hid (Rt w B b A n cap T 1 false 2 (.slice none 0 0) (.slice none 0 0) ⟨#[]⟩ ⟨#[]⟩ [] [] (w1.setCell ⟨w.heap.size + 1, 0, none⟩ (.int .i64 2))) := Lib.hid (HR1.out.put 0 (.int .i64 2) rfl HR1.out.R HR1.out.N)
        go_wp2_with fail
        refine (sAtK 2 HR2.out.P).mono ?_
        rw [H2.out]
        rintro e w3 ⟨rfl, q, hq⟩
        have HR3 := Lib.hid (HR2.out.drewN q)
        rw [← hq] at HR3
        clear hq x0 x1 x2 x3 x4 g0 g1 g2 g3 g4 HR2 HR1
        obtain ⟨⟨x0, x1, x2, x3, x4⟩, g0, g1, g2, g3, g4⟩ := five HR3.out.X
        go_wp2_with fail
        refine (sRgs_from 1 B b n cap A T _ HTS.out HNB.out HR3.out.P _ HRUN.out).mono ?_
        rintro e w5 ⟨vR, R, j, bad2, rfl, hrow, hP, hG, HF⟩
        obtain ⟨A2, C2, rfl⟩ : ∃ A2 C2, vR = .slice A2 R.length C2 := by obtain ⟨A2, C2, hv, _⟩ := RowR.hasG hrow; exact ⟨A2, C2, hv⟩
        obtain ⟨m2, hm2⟩ : ∃ m2, m2 = R.length := ⟨_, rfl⟩
        rw [← hm2] at hrow ⊢
        clear hm2
        have HMID := Lib.hid (mid_read (.inr HK.out) HOR.out HF.out)
        have HR5 := Lib.hid (HR3.out.step hP hG)
        have hl5 := HR3.out.lt
        have HR6 : Hid (Rt w B b A n cap T j bad2 2 (.slice A2 m2 C2) (.slice none 0 0) ⟨#[]⟩ ⟨#[]⟩ R [] (w5.setCell ⟨w.heap.size + 1, 1, none⟩ (.slice A2 m2 C2))) := Lib.hid (HR5.out.put 1 (.slice A2 m2 C2) rfl (RowR.mono hrow (by omega)) HR5.out.N)
        clear hrow hP hG HF x0 x1 x2 x3 x4 g0 g1 g2 g3 g4 HR3
        obtain ⟨⟨x0, x1, x2, x3, x4⟩, g0, g1, g2, g3, g4⟩ := five HR5.out.X
        go_wp2
        go_loopw [] (fun wr => Hid (Rt w B b A n cap T j bad2 2 (.slice A2 m2 C2) (.slice none 0 0) ⟨#[]⟩ ⟨#[]⟩ R [] wr)) (fun _ => 0)
        case atStart => exact HR6
        case round =>
          have HL := hrel
          clear hrel
          obtain ⟨⟨x0, x1, x2, x3, x4⟩, g0, g1, g2, g3, g4⟩ := five HL.out.X
          obtain ⟨qb, hqb⟩ : ∃ qb, qb = (!bad2 && kB 3 (T.drop j)) := ⟨_, rfl⟩
          have HQB := Lib.hid hqb
          clear hqb
          go_wp2_with fail
          refine (sAtK 3 HL.out.P).mono ?_
          rw [← HQB.out]
          rintro e w7 ⟨rfl, q, hq⟩
          have HR7 := Lib.hid (HL.out.drewN q)
          rw [← hq] at HR7
          clear hq x0 x1 x2 x3 x4 g0 g1 g2 g3 g4
          obtain ⟨⟨x0, x1, x2, x3, x4⟩, g0, g1, g2, g3, g4⟩ := five HR7.out.X
          cases qb
          · go_wp2_with fail
            refine (sIsTy_any ⟨2, .slice A2 m2 C2, .slice none 0 0, ⟨#[]⟩, ⟨#[]⟩⟩ ⟨2, R, [], ⟨#[]⟩, ⟨#[]⟩⟩ _ (HR7.out.own (by simp [Value.ownBlock])).has ⟨by simp, hz5, hz5⟩).mono ?_
            obtain ⟨z, hz⟩ : ∃ z, z = isTyB ⟨2, R, [], ⟨#[]⟩, ⟨#[]⟩⟩ := ⟨_, rfl⟩
            rw [← hz]
            have HZ9 := Lib.hid hz.symm
            have HPRE := Lib.hid (pre_2n (res := res) HK.out HMID.out HQB.out.symm)
            clear hz
            rintro e w9 ⟨rfl, hb9⟩
            have HR9 := Lib.hid (HR7.out.below hb9)
            clear hb9
            have hl9 := HR9.out.lt
            cases z
            · have c2 := HR9.out.P.c2
              have f2 := HR9.out.P.f2
              have HS9 := Lib.hid (HR9.out.setBad true)
              obtain ⟨⟨p0, p1, p2, p3, p4⟩, q0, q1, q2, q3, q4⟩ := five HS9.out.X
              obtain ⟨⟨y0, y1, y2, y3, y4⟩, u0, u1, u2, u3, u4⟩ := five HS9.out.Z
              have HD := Lib.hid (Rt.done HS9.out (by simp [Value.ownBlock]) (.int .i64 2) (.slice A2 m2 C2) (.slice none 0 0) (.string ⟨#[]⟩) (.string ⟨#[]⟩))
              have hfin := TyBox.full (k' := 2) (vr' := .slice A2 m2 C2) (vn' := .slice none 0 0) (pt' := ⟨#[]⟩) (ph' := ⟨#[]⟩) (Rt.Z HS9.out)
              go_wp2
              refine bodyPost_ret (results_ty1 rfl _ _ ⟨w.heap.size, 0, none⟩ _ rfl (run_loadTy hfin)) rfl ?_
              exact ⟨⟨2, .slice A2 m2 C2, .slice none 0 0, ⟨#[]⟩, ⟨#[]⟩⟩, ⟨2, R, [], ⟨#[]⟩, ⟨#[]⟩⟩, _, true, rfl, HD.out.1, HD.out.2.1, HD.out.2.2, Lib.hid (fin_no HPRE.out HZ9.out)⟩
            · obtain ⟨⟨p0, p1, p2, p3, p4⟩, q0, q1, q2, q3, q4⟩ := five HR9.out.X
              obtain ⟨⟨y0, y1, y2, y3, y4⟩, u0, u1, u2, u3, u4⟩ := five HR9.out.Z
              have HD := Lib.hid (Rt.done HR9.out (by simp [Value.ownBlock]) (.int .i64 2) (.slice A2 m2 C2) (.slice none 0 0) (.string ⟨#[]⟩) (.string ⟨#[]⟩))
              have hfin := TyBox.full (k' := 2) (vr' := .slice A2 m2 C2) (vn' := .slice none 0 0) (pt' := ⟨#[]⟩) (ph' := ⟨#[]⟩) (Rt.Z HR9.out)
              go_wp2
              refine bodyPost_ret (results_ty1 rfl _ _ ⟨w.heap.size, 0, none⟩ _ rfl (run_loadTy hfin)) rfl ?_
              exact ⟨⟨2, .slice A2 m2 C2, .slice none 0 0, ⟨#[]⟩, ⟨#[]⟩⟩, ⟨2, R, [], ⟨#[]⟩, ⟨#[]⟩⟩, _, bad2, rfl, HD.out.1, HD.out.2.1, HD.out.2.2, Lib.hid (fin_yes HPRE.out HZ9.out)⟩
          · have hb2 : bad2 = false := by have := HQB.out; cases bad2 with | false => rfl | true => cases this
            subst hb2
            obtain ⟨y, s, hy, hy3⟩ := kB_inv (show kB 3 (T.drop j) = true by simpa using HQB.out.symm)
            have HY := Lib.hid hy
            have HY3 := Lib.hid hy3
            have HYZ : Hid (y.t.size ≤ 1048576) := Lib.hid (HTS.out y (List.mem_of_mem_drop (i := j) (by rw [hy]; simp)))
            clear hy hy3
            rcases em_cases y.t with he | ⟨e1, e2, e3, e4⟩
            · have HPR : Hid (Pre T res (j + 1) true ⟨2, R, [], ⟨#[]⟩, ⟨#[]⟩⟩) := Lib.hid (by have := pre_2t (res := res) HK.out HMID.out rfl HY.out HY3.out; rwa [he, show emB (⟨#[]⟩ : ByteArray) = true from rfl] at this)
              have HE := Lib.hid he
              clear he
              go_wp2_with fail
              refine (sTkY 3 HR7.out.P HY.out HY3.out).mono ?_
              rw [HE.out]
              rintro e w8 ⟨rfl, hP, hG⟩
              have HR8 := Lib.hid (HR7.out.step hP hG)
              have HS8 : Hid (Rt w B b A n cap T (j + 1) false 2 (.slice A2 m2 C2) (.slice none 0 0) ⟨#[]⟩ ⟨#[]⟩ R [] (w8.setCell ⟨w.heap.size + 1, 3, none⟩ (.string ⟨#[]⟩))) := Lib.hid (HR8.out.put 3 (.string ⟨#[]⟩) rfl HR8.out.R HR8.out.N)
              have HT8 := Lib.hid (HS8.out.setBad true)
              clear hP hG x0 x1 x2 x3 x4 g0 g1 g2 g3 g4
              obtain ⟨⟨x0, x1, x2, x3, x4⟩, g0, g1, g2, g3, g4⟩ := five HR8.out.X
              have d2 := HS8.out.P.c2
              have d3 := HS8.out.P.f2
              obtain ⟨⟨t0, t1, t2, t3, t4⟩, -⟩ := five HT8.out.X
              go_wp2_with fail
              refine (sIsTy_any ⟨2, .slice A2 m2 C2, .slice none 0 0, ⟨#[]⟩, ⟨#[]⟩⟩ ⟨2, R, [], ⟨#[]⟩, ⟨#[]⟩⟩ _ (HT8.out.own (by simp [Value.ownBlock])).has ⟨by simp, hz5, hz5⟩).mono ?_
              obtain ⟨z, hz⟩ : ∃ z, z = isTyB ⟨2, R, [], ⟨#[]⟩, ⟨#[]⟩⟩ := ⟨_, rfl⟩
              rw [← hz]
              have HZ9 := Lib.hid hz.symm
              have HPRE := Lib.hid (HPR.out)
              clear hz
              rintro e w9 ⟨rfl, hb9⟩
              have HR9 := Lib.hid (HT8.out.below hb9)
              clear hb9
              have hl9 := HR9.out.lt
              cases z
              · have c2 := HR9.out.P.c2
                have f2 := HR9.out.P.f2
                have HS9 := Lib.hid (HR9.out.setBad true)
                obtain ⟨⟨p0, p1, p2, p3, p4⟩, q0, q1, q2, q3, q4⟩ := five HS9.out.X
                obtain ⟨⟨y0, y1, y2, y3, y4⟩, u0, u1, u2, u3, u4⟩ := five HS9.out.Z
                have HD := Lib.hid (Rt.done HS9.out (by simp [Value.ownBlock]) (.int .i64 2) (.slice A2 m2 C2) (.slice none 0 0) (.string ⟨#[]⟩) (.string ⟨#[]⟩))
                have hfin := TyBox.full (k' := 2) (vr' := .slice A2 m2 C2) (vn' := .slice none 0 0) (pt' := ⟨#[]⟩) (ph' := ⟨#[]⟩) (Rt.Z HS9.out)
                go_wp2
                refine bodyPost_ret (results_ty1 rfl _ _ ⟨w.heap.size, 0, none⟩ _ rfl (run_loadTy hfin)) rfl ?_
                exact ⟨⟨2, .slice A2 m2 C2, .slice none 0 0, ⟨#[]⟩, ⟨#[]⟩⟩, ⟨2, R, [], ⟨#[]⟩, ⟨#[]⟩⟩, _, true, rfl, HD.out.1, HD.out.2.1, HD.out.2.2, Lib.hid (fin_no HPRE.out HZ9.out)⟩
              · obtain ⟨⟨p0, p1, p2, p3, p4⟩, q0, q1, q2, q3, q4⟩ := five HR9.out.X
                obtain ⟨⟨y0, y1, y2, y3, y4⟩, u0, u1, u2, u3, u4⟩ := five HR9.out.Z
                have HD := Lib.hid (Rt.done HR9.out (by simp [Value.ownBlock]) (.int .i64 2) (.slice A2 m2 C2) (.slice none 0 0) (.string ⟨#[]⟩) (.string ⟨#[]⟩))
                have hfin := TyBox.full (k' := 2) (vr' := .slice A2 m2 C2) (vn' := .slice none 0 0) (pt' := ⟨#[]⟩) (ph' := ⟨#[]⟩) (Rt.Z HR9.out)
                go_wp2
                refine bodyPost_ret (results_ty1 rfl _ _ ⟨w.heap.size, 0, none⟩ _ rfl (run_loadTy hfin)) rfl ?_
                exact ⟨⟨2, .slice A2 m2 C2, .slice none 0 0, ⟨#[]⟩, ⟨#[]⟩⟩, ⟨2, R, [], ⟨#[]⟩, ⟨#[]⟩⟩, _, true, rfl, HD.out.1, HD.out.2.1, HD.out.2.2, Lib.hid (fin_yes HPRE.out HZ9.out)⟩
            · have HPR : Hid (Pre T res (j + 1) false ⟨2, R, [], y.t, ⟨#[]⟩⟩) := Lib.hid (by have := pre_2t (res := res) HK.out HMID.out rfl HY.out HY3.out; rwa [e4] at this)
              go_wp2_with fail
              refine (sTkY 3 HR7.out.P HY.out HY3.out).mono ?_
              rintro e w8 ⟨rfl, hP, hG⟩
              have HR8 := Lib.hid (HR7.out.step hP hG)
              have HS8 : Hid (Rt w B b A n cap T (j + 1) false 2 (.slice A2 m2 C2) (.slice none 0 0) y.t ⟨#[]⟩ R [] (w8.setCell ⟨w.heap.size + 1, 3, none⟩ (.string y.t))) := Lib.hid (HR8.out.put 3 (.string y.t) rfl HR8.out.R HR8.out.N)
              have HT8 := Lib.hid (HS8.out.setBad false)
              clear hP hG x0 x1 x2 x3 x4 g0 g1 g2 g3 g4
              obtain ⟨⟨x0, x1, x2, x3, x4⟩, g0, g1, g2, g3, g4⟩ := five HR8.out.X
              have d2 := HS8.out.P.c2
              have d3 := HS8.out.P.f2
              obtain ⟨⟨t0, t1, t2, t3, t4⟩, -⟩ := five HT8.out.X
              go_wp2_with fail
              refine (sIsTy_any ⟨2, .slice A2 m2 C2, .slice none 0 0, y.t, ⟨#[]⟩⟩ ⟨2, R, [], y.t, ⟨#[]⟩⟩ _ (HT8.out.own (by simp [Value.ownBlock])).has ⟨by simp, HYZ.out, hz5⟩).mono ?_
              obtain ⟨z, hz⟩ : ∃ z, z = isTyB ⟨2, R, [], y.t, ⟨#[]⟩⟩ := ⟨_, rfl⟩
              rw [← hz]
              have HZ9 := Lib.hid hz.symm
              have HPRE := Lib.hid (HPR.out)
              clear hz
              rintro e w9 ⟨rfl, hb9⟩
              have HR9 := Lib.hid (HT8.out.below hb9)
              clear hb9
              have hl9 := HR9.out.lt
              cases z
              · have c2 := HR9.out.P.c2
                have f2 := HR9.out.P.f2
                have HS9 := Lib.hid (HR9.out.setBad true)
                obtain ⟨⟨p0, p1, p2, p3, p4⟩, q0, q1, q2, q3, q4⟩ := five HS9.out.X
                obtain ⟨⟨y0, y1, y2, y3, y4⟩, u0, u1, u2, u3, u4⟩ := five HS9.out.Z
                have HD := Lib.hid (Rt.done HS9.out (by simp [Value.ownBlock]) (.int .i64 2) (.slice A2 m2 C2) (.slice none 0 0) (.string y.t) (.string ⟨#[]⟩))
                have hfin := TyBox.full (k' := 2) (vr' := .slice A2 m2 C2) (vn' := .slice none 0 0) (pt' := y.t) (ph' := ⟨#[]⟩) (Rt.Z HS9.out)
                go_wp2
                refine bodyPost_ret (results_ty1 rfl _ _ ⟨w.heap.size, 0, none⟩ _ rfl (run_loadTy hfin)) rfl ?_
                exact ⟨⟨2, .slice A2 m2 C2, .slice none 0 0, y.t, ⟨#[]⟩⟩, ⟨2, R, [], y.t, ⟨#[]⟩⟩, _, true, rfl, HD.out.1, HD.out.2.1, HD.out.2.2, Lib.hid (fin_no HPRE.out HZ9.out)⟩
              · obtain ⟨⟨p0, p1, p2, p3, p4⟩, q0, q1, q2, q3, q4⟩ := five HR9.out.X
                obtain ⟨⟨y0, y1, y2, y3, y4⟩, u0, u1, u2, u3, u4⟩ := five HR9.out.Z
                have HD := Lib.hid (Rt.done HR9.out (by simp [Value.ownBlock]) (.int .i64 2) (.slice A2 m2 C2) (.slice none 0 0) (.string y.t) (.string ⟨#[]⟩))
                have hfin := TyBox.full (k' := 2) (vr' := .slice A2 m2 C2) (vn' := .slice none 0 0) (pt' := y.t) (ph' := ⟨#[]⟩) (Rt.Z HR9.out)
                go_wp2
                refine bodyPost_ret (results_ty1 rfl _ _ ⟨w.heap.size, 0, none⟩ _ rfl (run_loadTy hfin)) rfl ?_
                exact ⟨⟨2, .slice A2 m2 C2, .slice none 0 0, y.t, ⟨#[]⟩⟩, ⟨2, R, [], y.t, ⟨#[]⟩⟩, _, false, rfl, HD.out.1, HD.out.2.1, HD.out.2.2, Lib.hid (fin_yes HPRE.out HZ9.out)⟩
      · have H2 : Hid ((!false && kB 2 (T.drop 1)) = false) := Lib.hid (by simpa using h2)
        have H4 := Lib.hid h4
        have HOR : Hid (kB 2 (T.drop 1) = true ∨ mkB (T.drop 1) minusT = true) := Lib.hid (.inr h4)
        clear h2 h4
        go_enter Tryz.func34, Tryz.ntmps34
        go_wp2_with fail
        refine (sTkY 1 HR0.out.P HX.out HX1.out).mono ?_
        rw [HXT.out]
        rintro e w1 ⟨rfl, hP, hG⟩
        have HR1 : Hid (Rt w B b A n cap T 1 false 0 (.slice none 0 0) (.slice none 0 0) ⟨#[]⟩ ⟨#[]⟩ [] [] w1) := Lib.hid (HR0.out.step hP hG)
        have hl1 := HR1.out.lt
        clear hP hG
        obtain ⟨⟨x0, x1, x2, x3, x4⟩, g0, g1, g2, g3, g4⟩ := five HR1.out.X
        have HR2 : Hid (Rt w B b A n cap T 1 false 2 (.slice none 0 0) (.slice none 0 0) ⟨#[]⟩ ⟨#[]⟩ [] [] (w1.setCell ⟨w.heap.size + 1, 0, none⟩ (.int .i64 2))) := Lib.hid (HR1.out.put 0 (.int .i64 2) rfl HR1.out.R HR1.out.N)
        go_wp2_with fail
        refine (sAtK 2 HR2.out.P).mono ?_
        rw [H2.out]
        rintro e w3 ⟨rfl, q, hq⟩
        have HR3 := Lib.hid (HR2.out.drewN q)
        rw [← hq] at HR3
        clear hq x0 x1 x2 x3 x4 g0 g1 g2 g3 g4 HR2 HR1
        obtain ⟨⟨x0, x1, x2, x3, x4⟩, g0, g1, g2, g3, g4⟩ := five HR3.out.X
        go_wp2_with fail
        refine (sIs_mk ⟨#[45]⟩ isE3 HR3.out.P).mono ?_
        rw [H4.out]
        rintro e w4 ⟨rfl, q, hq⟩
        have HR4 := Lib.hid (HR3.out.drewN q)
        rw [← hq] at HR4
        clear hq x0 x1 x2 x3 x4 g0 g1 g2 g3 g4 HR3
        obtain ⟨⟨x0, x1, x2, x3, x4⟩, g0, g1, g2, g3, g4⟩ := five HR4.out.X
        go_wp2_with fail
        refine (sRgs_from 1 B b n cap A T _ HTS.out HNB.out HR4.out.P _ HRUN.out).mono ?_
        rintro e w5 ⟨vR, R, j, bad2, rfl, hrow, hP, hG, HF⟩
        obtain ⟨A2, C2, rfl⟩ : ∃ A2 C2, vR = .slice A2 R.length C2 := by obtain ⟨A2, C2, hv, _⟩ := RowR.hasG hrow; exact ⟨A2, C2, hv⟩
        obtain ⟨m2, hm2⟩ : ∃ m2, m2 = R.length := ⟨_, rfl⟩
        rw [← hm2] at hrow ⊢
        clear hm2
        have HMID := Lib.hid (mid_read (.inr HK.out) HOR.out HF.out)
        have HR5 := Lib.hid (HR4.out.step hP hG)
        have hl5 := HR4.out.lt
        have HR6 : Hid (Rt w B b A n cap T j bad2 2 (.slice A2 m2 C2) (.slice none 0 0) ⟨#[]⟩ ⟨#[]⟩ R [] (w5.setCell ⟨w.heap.size + 1, 1, none⟩ (.slice A2 m2 C2))) := Lib.hid (HR5.out.put 1 (.slice A2 m2 C2) rfl (RowR.mono hrow (by omega)) HR5.out.N)
        clear hrow hP hG HF x0 x1 x2 x3 x4 g0 g1 g2 g3 g4 HR4
        obtain ⟨⟨x0, x1, x2, x3, x4⟩, g0, g1, g2, g3, g4⟩ := five HR5.out.X
        go_wp2
        go_loopw [] (fun wr => Hid (Rt w B b A n cap T j bad2 2 (.slice A2 m2 C2) (.slice none 0 0) ⟨#[]⟩ ⟨#[]⟩ R [] wr)) (fun _ => 0)
        case atStart => exact HR6
        case round =>
          have HL := hrel
          clear hrel
          obtain ⟨⟨x0, x1, x2, x3, x4⟩, g0, g1, g2, g3, g4⟩ := five HL.out.X
          obtain ⟨qb, hqb⟩ : ∃ qb, qb = (!bad2 && kB 3 (T.drop j)) := ⟨_, rfl⟩
          have HQB := Lib.hid hqb
          clear hqb
          go_wp2_with fail
          refine (sAtK 3 HL.out.P).mono ?_
          rw [← HQB.out]
          rintro e w7 ⟨rfl, q, hq⟩
          have HR7 := Lib.hid (HL.out.drewN q)
          rw [← hq] at HR7
          clear hq x0 x1 x2 x3 x4 g0 g1 g2 g3 g4
          obtain ⟨⟨x0, x1, x2, x3, x4⟩, g0, g1, g2, g3, g4⟩ := five HR7.out.X
          cases qb
          · go_wp2_with fail
            refine (sIsTy_any ⟨2, .slice A2 m2 C2, .slice none 0 0, ⟨#[]⟩, ⟨#[]⟩⟩ ⟨2, R, [], ⟨#[]⟩, ⟨#[]⟩⟩ _ (HR7.out.own (by simp [Value.ownBlock])).has ⟨by simp, hz5, hz5⟩).mono ?_
            obtain ⟨z, hz⟩ : ∃ z, z = isTyB ⟨2, R, [], ⟨#[]⟩, ⟨#[]⟩⟩ := ⟨_, rfl⟩
            rw [← hz]
            have HZ9 := Lib.hid hz.symm
            have HPRE := Lib.hid (pre_2n (res := res) HK.out HMID.out HQB.out.symm)
            clear hz
            rintro e w9 ⟨rfl, hb9⟩
            have HR9 := Lib.hid (HR7.out.below hb9)
            clear hb9
            have hl9 := HR9.out.lt
            cases z
            · have c2 := HR9.out.P.c2
              have f2 := HR9.out.P.f2
              have HS9 := Lib.hid (HR9.out.setBad true)
              obtain ⟨⟨p0, p1, p2, p3, p4⟩, q0, q1, q2, q3, q4⟩ := five HS9.out.X
              obtain ⟨⟨y0, y1, y2, y3, y4⟩, u0, u1, u2, u3, u4⟩ := five HS9.out.Z
              have HD := Lib.hid (Rt.done HS9.out (by simp [Value.ownBlock]) (.int .i64 2) (.slice A2 m2 C2) (.slice none 0 0) (.string ⟨#[]⟩) (.string ⟨#[]⟩))
              have hfin := TyBox.full (k' := 2) (vr' := .slice A2 m2 C2) (vn' := .slice none 0 0) (pt' := ⟨#[]⟩) (ph' := ⟨#[]⟩) (Rt.Z HS9.out)
              go_wp2
              refine bodyPost_ret (results_ty1 rfl _ _ ⟨w.heap.size, 0, none⟩ _ rfl (run_loadTy hfin)) rfl ?_
              exact ⟨⟨2, .slice A2 m2 C2, .slice none 0 0, ⟨#[]⟩, ⟨#[]⟩⟩, ⟨2, R, [], ⟨#[]⟩, ⟨#[]⟩⟩, _, true, rfl, HD.out.1, HD.out.2.1, HD.out.2.2, Lib.hid (fin_no HPRE.out HZ9.out)⟩
            · obtain ⟨⟨p0, p1, p2, p3, p4⟩, q0, q1, q2, q3, q4⟩ := five HR9.out.X
              obtain ⟨⟨y0, y1, y2, y3, y4⟩, u0, u1, u2, u3, u4⟩ := five HR9.out.Z
              have HD := Lib.hid (Rt.done HR9.out (by simp [Value.ownBlock]) (.int .i64 2) (.slice A2 m2 C2) (.slice none 0 0) (.string ⟨#[]⟩) (.string ⟨#[]⟩))
              have hfin := TyBox.full (k' := 2) (vr' := .slice A2 m2 C2) (vn' := .slice none 0 0) (pt' := ⟨#[]⟩) (ph' := ⟨#[]⟩) (Rt.Z HR9.out)
              go_wp2
              refine bodyPost_ret (results_ty1 rfl _ _ ⟨w.heap.size, 0, none⟩ _ rfl (run_loadTy hfin)) rfl ?_
              exact ⟨⟨2, .slice A2 m2 C2, .slice none 0 0, ⟨#[]⟩, ⟨#[]⟩⟩, ⟨2, R, [], ⟨#[]⟩, ⟨#[]⟩⟩, _, bad2, rfl, HD.out.1, HD.out.2.1, HD.out.2.2, Lib.hid (fin_yes HPRE.out HZ9.out)⟩
          · have hb2 : bad2 = false := by have := HQB.out; cases bad2 with | false => rfl | true => cases this
            subst hb2
            obtain ⟨y, s, hy, hy3⟩ := kB_inv (show kB 3 (T.drop j) = true by simpa using HQB.out.symm)
            have HY := Lib.hid hy
            have HY3 := Lib.hid hy3
            have HYZ : Hid (y.t.size ≤ 1048576) := Lib.hid (HTS.out y (List.mem_of_mem_drop (i := j) (by rw [hy]; simp)))
            clear hy hy3
            rcases em_cases y.t with he | ⟨e1, e2, e3, e4⟩
            · have HPR : Hid (Pre T res (j + 1) true ⟨2, R, [], ⟨#[]⟩, ⟨#[]⟩⟩) := Lib.hid (by have := pre_2t (res := res) HK.out HMID.out rfl HY.out HY3.out; rwa [he, show emB (⟨#[]⟩ : ByteArray) = true from rfl] at this)
              have HE := Lib.hid he
              clear he
              go_wp2_with fail
              refine (sTkY 3 HR7.out.P HY.out HY3.out).mono ?_
              rw [HE.out]
              rintro e w8 ⟨rfl, hP, hG⟩
              have HR8 := Lib.hid (HR7.out.step hP hG)
              have HS8 : Hid (Rt w B b A n cap T (j + 1) false 2 (.slice A2 m2 C2) (.slice none 0 0) ⟨#[]⟩ ⟨#[]⟩ R [] (w8.setCell ⟨w.heap.size + 1, 3, none⟩ (.string ⟨#[]⟩))) := Lib.hid (HR8.out.put 3 (.string ⟨#[]⟩) rfl HR8.out.R HR8.out.N)
              have HT8 := Lib.hid (HS8.out.setBad true)
              clear hP hG x0 x1 x2 x3 x4 g0 g1 g2 g3 g4
              obtain ⟨⟨x0, x1, x2, x3, x4⟩, g0, g1, g2, g3, g4⟩ := five HR8.out.X
              have d2 := HS8.out.P.c2
              have d3 := HS8.out.P.f2
              obtain ⟨⟨t0, t1, t2, t3, t4⟩, -⟩ := five HT8.out.X
              go_wp2_with fail
              refine (sIsTy_any ⟨2, .slice A2 m2 C2, .slice none 0 0, ⟨#[]⟩, ⟨#[]⟩⟩ ⟨2, R, [], ⟨#[]⟩, ⟨#[]⟩⟩ _ (HT8.out.own (by simp [Value.ownBlock])).has ⟨by simp, hz5, hz5⟩).mono ?_
              obtain ⟨z, hz⟩ : ∃ z, z = isTyB ⟨2, R, [], ⟨#[]⟩, ⟨#[]⟩⟩ := ⟨_, rfl⟩
              rw [← hz]
              have HZ9 := Lib.hid hz.symm
              have HPRE := Lib.hid (HPR.out)
              clear hz
              rintro e w9 ⟨rfl, hb9⟩
              have HR9 := Lib.hid (HT8.out.below hb9)
              clear hb9
              have hl9 := HR9.out.lt
              cases z
              · have c2 := HR9.out.P.c2
                have f2 := HR9.out.P.f2
                have HS9 := Lib.hid (HR9.out.setBad true)
                obtain ⟨⟨p0, p1, p2, p3, p4⟩, q0, q1, q2, q3, q4⟩ := five HS9.out.X
                obtain ⟨⟨y0, y1, y2, y3, y4⟩, u0, u1, u2, u3, u4⟩ := five HS9.out.Z
                have HD := Lib.hid (Rt.done HS9.out (by simp [Value.ownBlock]) (.int .i64 2) (.slice A2 m2 C2) (.slice none 0 0) (.string ⟨#[]⟩) (.string ⟨#[]⟩))
                have hfin := TyBox.full (k' := 2) (vr' := .slice A2 m2 C2) (vn' := .slice none 0 0) (pt' := ⟨#[]⟩) (ph' := ⟨#[]⟩) (Rt.Z HS9.out)
                go_wp2
                refine bodyPost_ret (results_ty1 rfl _ _ ⟨w.heap.size, 0, none⟩ _ rfl (run_loadTy hfin)) rfl ?_
                exact ⟨⟨2, .slice A2 m2 C2, .slice none 0 0, ⟨#[]⟩, ⟨#[]⟩⟩, ⟨2, R, [], ⟨#[]⟩, ⟨#[]⟩⟩, _, true, rfl, HD.out.1, HD.out.2.1, HD.out.2.2, Lib.hid (fin_no HPRE.out HZ9.out)⟩
              · obtain ⟨⟨p0, p1, p2, p3, p4⟩, q0, q1, q2, q3, q4⟩ := five HR9.out.X
                obtain ⟨⟨y0, y1, y2, y3, y4⟩, u0, u1, u2, u3, u4⟩ := five HR9.out.Z
                have HD := Lib.hid (Rt.done HR9.out (by simp [Value.ownBlock]) (.int .i64 2) (.slice A2 m2 C2) (.slice none 0 0) (.string ⟨#[]⟩) (.string ⟨#[]⟩))
                have hfin := TyBox.full (k' := 2) (vr' := .slice A2 m2 C2) (vn' := .slice none 0 0) (pt' := ⟨#[]⟩) (ph' := ⟨#[]⟩) (Rt.Z HR9.out)
                go_wp2
                refine bodyPost_ret (results_ty1 rfl _ _ ⟨w.heap.size, 0, none⟩ _ rfl (run_loadTy hfin)) rfl ?_
                exact ⟨⟨2, .slice A2 m2 C2, .slice none 0 0, ⟨#[]⟩, ⟨#[]⟩⟩, ⟨2, R, [], ⟨#[]⟩, ⟨#[]⟩⟩, _, true, rfl, HD.out.1, HD.out.2.1, HD.out.2.2, Lib.hid (fin_yes HPRE.out HZ9.out)⟩
            · have HPR : Hid (Pre T res (j + 1) false ⟨2, R, [], y.t, ⟨#[]⟩⟩) := Lib.hid (by have := pre_2t (res := res) HK.out HMID.out rfl HY.out HY3.out; rwa [e4] at this)
              go_wp2_with fail
              refine (sTkY 3 HR7.out.P HY.out HY3.out).mono ?_
              rintro e w8 ⟨rfl, hP, hG⟩
              have HR8 := Lib.hid (HR7.out.step hP hG)
              have HS8 : Hid (Rt w B b A n cap T (j + 1) false 2 (.slice A2 m2 C2) (.slice none 0 0) y.t ⟨#[]⟩ R [] (w8.setCell ⟨w.heap.size + 1, 3, none⟩ (.string y.t))) := Lib.hid (HR8.out.put 3 (.string y.t) rfl HR8.out.R HR8.out.N)
              have HT8 := Lib.hid (HS8.out.setBad false)
              clear hP hG x0 x1 x2 x3 x4 g0 g1 g2 g3 g4
              obtain ⟨⟨x0, x1, x2, x3, x4⟩, g0, g1, g2, g3, g4⟩ := five HR8.out.X
              have d2 := HS8.out.P.c2
              have d3 := HS8.out.P.f2
              obtain ⟨⟨t0, t1, t2, t3, t4⟩, -⟩ := five HT8.out.X
              go_wp2_with fail
              refine (sIsTy_any ⟨2, .slice A2 m2 C2, .slice none 0 0, y.t, ⟨#[]⟩⟩ ⟨2, R, [], y.t, ⟨#[]⟩⟩ _ (HT8.out.own (by simp [Value.ownBlock])).has ⟨by simp, HYZ.out, hz5⟩).mono ?_
              obtain ⟨z, hz⟩ : ∃ z, z = isTyB ⟨2, R, [], y.t, ⟨#[]⟩⟩ := ⟨_, rfl⟩
              rw [← hz]
              have HZ9 := Lib.hid hz.symm
              have HPRE := Lib.hid (HPR.out)
              clear hz
              rintro e w9 ⟨rfl, hb9⟩
              have HR9 := Lib.hid (HT8.out.below hb9)
              clear hb9
              have hl9 := HR9.out.lt
              cases z
              · have c2 := HR9.out.P.c2
                have f2 := HR9.out.P.f2
                have HS9 := Lib.hid (HR9.out.setBad true)
                obtain ⟨⟨p0, p1, p2, p3, p4⟩, q0, q1, q2, q3, q4⟩ := five HS9.out.X
                obtain ⟨⟨y0, y1, y2, y3, y4⟩, u0, u1, u2, u3, u4⟩ := five HS9.out.Z
                have HD := Lib.hid (Rt.done HS9.out (by simp [Value.ownBlock]) (.int .i64 2) (.slice A2 m2 C2) (.slice none 0 0) (.string y.t) (.string ⟨#[]⟩))
                have hfin := TyBox.full (k' := 2) (vr' := .slice A2 m2 C2) (vn' := .slice none 0 0) (pt' := y.t) (ph' := ⟨#[]⟩) (Rt.Z HS9.out)
                go_wp2
                refine bodyPost_ret (results_ty1 rfl _ _ ⟨w.heap.size, 0, none⟩ _ rfl (run_loadTy hfin)) rfl ?_
                exact ⟨⟨2, .slice A2 m2 C2, .slice none 0 0, y.t, ⟨#[]⟩⟩, ⟨2, R, [], y.t, ⟨#[]⟩⟩, _, true, rfl, HD.out.1, HD.out.2.1, HD.out.2.2, Lib.hid (fin_no HPRE.out HZ9.out)⟩
              · obtain ⟨⟨p0, p1, p2, p3, p4⟩, q0, q1, q2, q3, q4⟩ := five HR9.out.X
                obtain ⟨⟨y0, y1, y2, y3, y4⟩, u0, u1, u2, u3, u4⟩ := five HR9.out.Z
                have HD := Lib.hid (Rt.done HR9.out (by simp [Value.ownBlock]) (.int .i64 2) (.slice A2 m2 C2) (.slice none 0 0) (.string y.t) (.string ⟨#[]⟩))
                have hfin := TyBox.full (k' := 2) (vr' := .slice A2 m2 C2) (vn' := .slice none 0 0) (pt' := y.t) (ph' := ⟨#[]⟩) (Rt.Z HR9.out)
                go_wp2
                refine bodyPost_ret (results_ty1 rfl _ _ ⟨w.heap.size, 0, none⟩ _ rfl (run_loadTy hfin)) rfl ?_
                exact ⟨⟨2, .slice A2 m2 C2, .slice none 0 0, y.t, ⟨#[]⟩⟩, ⟨2, R, [], y.t, ⟨#[]⟩⟩, _, false, rfl, HD.out.1, HD.out.2.1, HD.out.2.2, Lib.hid (fin_yes HPRE.out HZ9.out)⟩
      · have H2 : Hid ((!false && kB 2 (T.drop 1)) = false) := Lib.hid (by simpa using h2)
        have H4 := Lib.hid h4
        have HMID := Lib.hid (mid_none (T := T) HRUN0.out h2 h4)
        clear h2 h4
        go_enter Tryz.func34, Tryz.ntmps34
        go_wp2_with fail
        refine (sTkY 1 HR0.out.P HX.out HX1.out).mono ?_
        rw [HXT.out]
        rintro e w1 ⟨rfl, hP, hG⟩
        have HR1 : Hid (Rt w B b A n cap T 1 false 0 (.slice none 0 0) (.slice none 0 0) ⟨#[]⟩ ⟨#[]⟩ [] [] w1) := Lib.hid (HR0.out.step hP hG)
        have hl1 := HR1.out.lt
        clear hP hG
        obtain ⟨⟨x0, x1, x2, x3, x4⟩, g0, g1, g2, g3, g4⟩ := five HR1.out.X
        have HR2 : Hid (Rt w B b A n cap T 1 false 2 (.slice none 0 0) (.slice none 0 0) ⟨#[]⟩ ⟨#[]⟩ [] [] (w1.setCell ⟨w.heap.size + 1, 0, none⟩ (.int .i64 2))) := Lib.hid (HR1.out.put 0 (.int .i64 2) rfl HR1.out.R HR1.out.N)
        go_wp2_with fail
        refine (sAtK 2 HR2.out.P).mono ?_
        rw [H2.out]
        rintro e w3 ⟨rfl, q, hq⟩
        have HR3 := Lib.hid (HR2.out.drewN q)
        rw [← hq] at HR3
        clear hq x0 x1 x2 x3 x4 g0 g1 g2 g3 g4 HR2 HR1
        obtain ⟨⟨x0, x1, x2, x3, x4⟩, g0, g1, g2, g3, g4⟩ := five HR3.out.X
        go_wp2_with fail
        refine (sIs_mk ⟨#[45]⟩ isE3 HR3.out.P).mono ?_
        rw [H4.out]
        rintro e w4 ⟨rfl, q, hq⟩
        have HR4 := Lib.hid (HR3.out.drewN q)
        rw [← hq] at HR4
        clear hq x0 x1 x2 x3 x4 g0 g1 g2 g3 g4 HR3
        obtain ⟨⟨x0, x1, x2, x3, x4⟩, g0, g1, g2, g3, g4⟩ := five HR4.out.X
        go_wp2
        go_loopw [] (fun wr => Hid (Rt w B b A n cap T 1 false 2 (.slice none 0 0) (.slice none 0 0) ⟨#[]⟩ ⟨#[]⟩ [] [] wr)) (fun _ => 0)
        case atStart => exact HR4
        case round =>
          have HL := hrel
          clear hrel
          obtain ⟨⟨x0, x1, x2, x3, x4⟩, g0, g1, g2, g3, g4⟩ := five HL.out.X
          obtain ⟨qb, hqb⟩ : ∃ qb, qb = (!false && kB 3 (T.drop 1)) := ⟨_, rfl⟩
          have HQB := Lib.hid hqb
          clear hqb
          go_wp2_with fail
          refine (sAtK 3 HL.out.P).mono ?_
          rw [← HQB.out]
          rintro e w7 ⟨rfl, q, hq⟩
          have HR7 := Lib.hid (HL.out.drewN q)
          rw [← hq] at HR7
          clear hq x0 x1 x2 x3 x4 g0 g1 g2 g3 g4
          obtain ⟨⟨x0, x1, x2, x3, x4⟩, g0, g1, g2, g3, g4⟩ := five HR7.out.X
          cases qb
          · go_wp2_with fail
            refine (sIsTy_any ⟨2, .slice none 0 0, .slice none 0 0, ⟨#[]⟩, ⟨#[]⟩⟩ ⟨2, [], [], ⟨#[]⟩, ⟨#[]⟩⟩ _ (HR7.out.own (by simp [Value.ownBlock])).has ⟨by simp, hz5, hz5⟩).mono ?_
            obtain ⟨z, hz⟩ : ∃ z, z = isTyB ⟨2, [], [], ⟨#[]⟩, ⟨#[]⟩⟩ := ⟨_, rfl⟩
            rw [← hz]
            have HZ9 := Lib.hid hz.symm
            have HPRE := Lib.hid (pre_2n (res := res) HK.out HMID.out HQB.out.symm)
            clear hz
            rintro e w9 ⟨rfl, hb9⟩
            have HR9 := Lib.hid (HR7.out.below hb9)
            clear hb9
            have hl9 := HR9.out.lt
            cases z
            · have c2 := HR9.out.P.c2
              have f2 := HR9.out.P.f2
              have HS9 := Lib.hid (HR9.out.setBad true)
              obtain ⟨⟨p0, p1, p2, p3, p4⟩, q0, q1, q2, q3, q4⟩ := five HS9.out.X
              obtain ⟨⟨y0, y1, y2, y3, y4⟩, u0, u1, u2, u3, u4⟩ := five HS9.out.Z
              have HD := Lib.hid (Rt.done HS9.out (by simp [Value.ownBlock]) (.int .i64 2) (.slice none 0 0) (.slice none 0 0) (.string ⟨#[]⟩) (.string ⟨#[]⟩))
              have hfin := TyBox.full (k' := 2) (vr' := .slice none 0 0) (vn' := .slice none 0 0) (pt' := ⟨#[]⟩) (ph' := ⟨#[]⟩) (Rt.Z HS9.out)
              go_wp2
              refine bodyPost_ret (results_ty1 rfl _ _ ⟨w.heap.size, 0, none⟩ _ rfl (run_loadTy hfin)) rfl ?_
              exact ⟨⟨2, .slice none 0 0, .slice none 0 0, ⟨#[]⟩, ⟨#[]⟩⟩, ⟨2, [], [], ⟨#[]⟩, ⟨#[]⟩⟩, _, true, rfl, HD.out.1, HD.out.2.1, HD.out.2.2, Lib.hid (fin_no HPRE.out HZ9.out)⟩
            · obtain ⟨⟨p0, p1, p2, p3, p4⟩, q0, q1, q2, q3, q4⟩ := five HR9.out.X
              obtain ⟨⟨y0, y1, y2, y3, y4⟩, u0, u1, u2, u3, u4⟩ := five HR9.out.Z
              have HD := Lib.hid (Rt.done HR9.out (by simp [Value.ownBlock]) (.int .i64 2) (.slice none 0 0) (.slice none 0 0) (.string ⟨#[]⟩) (.string ⟨#[]⟩))
              have hfin := TyBox.full (k' := 2) (vr' := .slice none 0 0) (vn' := .slice none 0 0) (pt' := ⟨#[]⟩) (ph' := ⟨#[]⟩) (Rt.Z HR9.out)
              go_wp2
              refine bodyPost_ret (results_ty1 rfl _ _ ⟨w.heap.size, 0, none⟩ _ rfl (run_loadTy hfin)) rfl ?_
              exact ⟨⟨2, .slice none 0 0, .slice none 0 0, ⟨#[]⟩, ⟨#[]⟩⟩, ⟨2, [], [], ⟨#[]⟩, ⟨#[]⟩⟩, _, false, rfl, HD.out.1, HD.out.2.1, HD.out.2.2, Lib.hid (fin_yes HPRE.out HZ9.out)⟩
          · obtain ⟨y, s, hy, hy3⟩ := kB_inv (show kB 3 (T.drop 1) = true by simpa using HQB.out.symm)
            have HY := Lib.hid hy
            have HY3 := Lib.hid hy3
            have HYZ : Hid (y.t.size ≤ 1048576) := Lib.hid (HTS.out y (List.mem_of_mem_drop (i := 1) (by rw [hy]; simp)))
            clear hy hy3
            rcases em_cases y.t with he | ⟨e1, e2, e3, e4⟩
            · have HPR : Hid (Pre T res (1 + 1) true ⟨2, [], [], ⟨#[]⟩, ⟨#[]⟩⟩) := Lib.hid (by have := pre_2t (res := res) HK.out HMID.out rfl HY.out HY3.out; rwa [he, show emB (⟨#[]⟩ : ByteArray) = true from rfl] at this)
              have HE := Lib.hid he
              clear he
              go_wp2_with fail
              refine (sTkY 3 HR7.out.P HY.out HY3.out).mono ?_
              rw [HE.out]
              rintro e w8 ⟨rfl, hP, hG⟩
              have HR8 := Lib.hid (HR7.out.step hP hG)
              have HS8 : Hid (Rt w B b A n cap T (1 + 1) false 2 (.slice none 0 0) (.slice none 0 0) ⟨#[]⟩ ⟨#[]⟩ [] [] (w8.setCell ⟨w.heap.size + 1, 3, none⟩ (.string ⟨#[]⟩))) := Lib.hid (HR8.out.put 3 (.string ⟨#[]⟩) rfl HR8.out.R HR8.out.N)
              have HT8 := Lib.hid (HS8.out.setBad true)
              clear hP hG x0 x1 x2 x3 x4 g0 g1 g2 g3 g4
              obtain ⟨⟨x0, x1, x2, x3, x4⟩, g0, g1, g2, g3, g4⟩ := five HR8.out.X
              have d2 := HS8.out.P.c2
              have d3 := HS8.out.P.f2
              obtain ⟨⟨t0, t1, t2, t3, t4⟩, -⟩ := five HT8.out.X
              go_wp2_with fail
              refine (sIsTy_any ⟨2, .slice none 0 0, .slice none 0 0, ⟨#[]⟩, ⟨#[]⟩⟩ ⟨2, [], [], ⟨#[]⟩, ⟨#[]⟩⟩ _ (HT8.out.own (by simp [Value.ownBlock])).has ⟨by simp, hz5, hz5⟩).mono ?_
              obtain ⟨z, hz⟩ : ∃ z, z = isTyB ⟨2, [], [], ⟨#[]⟩, ⟨#[]⟩⟩ := ⟨_, rfl⟩
              rw [← hz]
              have HZ9 := Lib.hid hz.symm
              have HPRE := Lib.hid (HPR.out)
              clear hz
              rintro e w9 ⟨rfl, hb9⟩
              have HR9 := Lib.hid (HT8.out.below hb9)
              clear hb9
              have hl9 := HR9.out.lt
              cases z
              · have c2 := HR9.out.P.c2
                have f2 := HR9.out.P.f2
                have HS9 := Lib.hid (HR9.out.setBad true)
                obtain ⟨⟨p0, p1, p2, p3, p4⟩, q0, q1, q2, q3, q4⟩ := five HS9.out.X
                obtain ⟨⟨y0, y1, y2, y3, y4⟩, u0, u1, u2, u3, u4⟩ := five HS9.out.Z
                have HD := Lib.hid (Rt.done HS9.out (by simp [Value.ownBlock]) (.int .i64 2) (.slice none 0 0) (.slice none 0 0) (.string ⟨#[]⟩) (.string ⟨#[]⟩))
                have hfin := TyBox.full (k' := 2) (vr' := .slice none 0 0) (vn' := .slice none 0 0) (pt' := ⟨#[]⟩) (ph' := ⟨#[]⟩) (Rt.Z HS9.out)
                go_wp2
                refine bodyPost_ret (results_ty1 rfl _ _ ⟨w.heap.size, 0, none⟩ _ rfl (run_loadTy hfin)) rfl ?_
                exact ⟨⟨2, .slice none 0 0, .slice none 0 0, ⟨#[]⟩, ⟨#[]⟩⟩, ⟨2, [], [], ⟨#[]⟩, ⟨#[]⟩⟩, _, true, rfl, HD.out.1, HD.out.2.1, HD.out.2.2, Lib.hid (fin_no HPRE.out HZ9.out)⟩
              · obtain ⟨⟨p0, p1, p2, p3, p4⟩, q0, q1, q2, q3, q4⟩ := five HR9.out.X
                obtain ⟨⟨y0, y1, y2, y3, y4⟩, u0, u1, u2, u3, u4⟩ := five HR9.out.Z
                have HD := Lib.hid (Rt.done HR9.out (by simp [Value.ownBlock]) (.int .i64 2) (.slice none 0 0) (.slice none 0 0) (.string ⟨#[]⟩) (.string ⟨#[]⟩))
                have hfin := TyBox.full (k' := 2) (vr' := .slice none 0 0) (vn' := .slice none 0 0) (pt' := ⟨#[]⟩) (ph' := ⟨#[]⟩) (Rt.Z HR9.out)
                go_wp2
                refine bodyPost_ret (results_ty1 rfl _ _ ⟨w.heap.size, 0, none⟩ _ rfl (run_loadTy hfin)) rfl ?_
                exact ⟨⟨2, .slice none 0 0, .slice none 0 0, ⟨#[]⟩, ⟨#[]⟩⟩, ⟨2, [], [], ⟨#[]⟩, ⟨#[]⟩⟩, _, true, rfl, HD.out.1, HD.out.2.1, HD.out.2.2, Lib.hid (fin_yes HPRE.out HZ9.out)⟩
            · have HPR : Hid (Pre T res (1 + 1) false ⟨2, [], [], y.t, ⟨#[]⟩⟩) := Lib.hid (by have := pre_2t (res := res) HK.out HMID.out rfl HY.out HY3.out; rwa [e4] at this)
              go_wp2_with fail
              refine (sTkY 3 HR7.out.P HY.out HY3.out).mono ?_
              rintro e w8 ⟨rfl, hP, hG⟩
              have HR8 := Lib.hid (HR7.out.step hP hG)
              have HS8 : Hid (Rt w B b A n cap T (1 + 1) false 2 (.slice none 0 0) (.slice none 0 0) y.t ⟨#[]⟩ [] [] (w8.setCell ⟨w.heap.size + 1, 3, none⟩ (.string y.t))) := Lib.hid (HR8.out.put 3 (.string y.t) rfl HR8.out.R HR8.out.N)
              have HT8 := Lib.hid (HS8.out.setBad false)
              clear hP hG x0 x1 x2 x3 x4 g0 g1 g2 g3 g4
              obtain ⟨⟨x0, x1, x2, x3, x4⟩, g0, g1, g2, g3, g4⟩ := five HR8.out.X
              have d2 := HS8.out.P.c2
              have d3 := HS8.out.P.f2
              obtain ⟨⟨t0, t1, t2, t3, t4⟩, -⟩ := five HT8.out.X
              go_wp2_with fail
              refine (sIsTy_any ⟨2, .slice none 0 0, .slice none 0 0, y.t, ⟨#[]⟩⟩ ⟨2, [], [], y.t, ⟨#[]⟩⟩ _ (HT8.out.own (by simp [Value.ownBlock])).has ⟨by simp, HYZ.out, hz5⟩).mono ?_
              obtain ⟨z, hz⟩ : ∃ z, z = isTyB ⟨2, [], [], y.t, ⟨#[]⟩⟩ := ⟨_, rfl⟩
              rw [← hz]
              have HZ9 := Lib.hid hz.symm
              have HPRE := Lib.hid (HPR.out)
              clear hz
              rintro e w9 ⟨rfl, hb9⟩
              have HR9 := Lib.hid (HT8.out.below hb9)
              clear hb9
              have hl9 := HR9.out.lt
              cases z
              · have c2 := HR9.out.P.c2
                have f2 := HR9.out.P.f2
                have HS9 := Lib.hid (HR9.out.setBad true)
                obtain ⟨⟨p0, p1, p2, p3, p4⟩, q0, q1, q2, q3, q4⟩ := five HS9.out.X
                obtain ⟨⟨y0, y1, y2, y3, y4⟩, u0, u1, u2, u3, u4⟩ := five HS9.out.Z
                have HD := Lib.hid (Rt.done HS9.out (by simp [Value.ownBlock]) (.int .i64 2) (.slice none 0 0) (.slice none 0 0) (.string y.t) (.string ⟨#[]⟩))
                have hfin := TyBox.full (k' := 2) (vr' := .slice none 0 0) (vn' := .slice none 0 0) (pt' := y.t) (ph' := ⟨#[]⟩) (Rt.Z HS9.out)
                go_wp2
                refine bodyPost_ret (results_ty1 rfl _ _ ⟨w.heap.size, 0, none⟩ _ rfl (run_loadTy hfin)) rfl ?_
                exact ⟨⟨2, .slice none 0 0, .slice none 0 0, y.t, ⟨#[]⟩⟩, ⟨2, [], [], y.t, ⟨#[]⟩⟩, _, true, rfl, HD.out.1, HD.out.2.1, HD.out.2.2, Lib.hid (fin_no HPRE.out HZ9.out)⟩
              · obtain ⟨⟨p0, p1, p2, p3, p4⟩, q0, q1, q2, q3, q4⟩ := five HR9.out.X
                obtain ⟨⟨y0, y1, y2, y3, y4⟩, u0, u1, u2, u3, u4⟩ := five HR9.out.Z
                have HD := Lib.hid (Rt.done HR9.out (by simp [Value.ownBlock]) (.int .i64 2) (.slice none 0 0) (.slice none 0 0) (.string y.t) (.string ⟨#[]⟩))
                have hfin := TyBox.full (k' := 2) (vr' := .slice none 0 0) (vn' := .slice none 0 0) (pt' := y.t) (ph' := ⟨#[]⟩) (Rt.Z HR9.out)
                go_wp2
                refine bodyPost_ret (results_ty1 rfl _ _ ⟨w.heap.size, 0, none⟩ _ rfl (run_loadTy hfin)) rfl ?_
                exact ⟨⟨2, .slice none 0 0, .slice none 0 0, y.t, ⟨#[]⟩⟩, ⟨2, [], [], y.t, ⟨#[]⟩⟩, _, false, rfl, HD.out.1, HD.out.2.1, HD.out.2.2, Lib.hid (fin_yes HPRE.out HZ9.out)⟩
    · have HXT := Lib.hid hxt
      have HK := Lib.hid hK
      clear hxt hK
      go_enter Tryz.func34, Tryz.ntmps34
      go_wp2_with fail
      refine (sTkY 1 HR0.out.P HX.out HX1.out).mono ?_
      rw [HXT.out]
      rintro e w1 ⟨rfl, hP, hG⟩
      have HR1 : Hid (Rt w B b A n cap T 1 false 0 (.slice none 0 0) (.slice none 0 0) ⟨#[]⟩ ⟨#[]⟩ [] [] w1) := Lib.hid (HR0.out.step hP hG)
      have hl1 := HR1.out.lt
      clear hP hG
      obtain ⟨⟨x0, x1, x2, x3, x4⟩, g0, g1, g2, g3, g4⟩ := five HR1.out.X
      have HR2 : Hid (Rt w B b A n cap T 1 false 3 (.slice none 0 0) (.slice none 0 0) ⟨#[]⟩ ⟨#[]⟩ [] [] (w1.setCell ⟨w.heap.size + 1, 0, none⟩ (.int .i64 3))) := Lib.hid (HR1.out.put 0 (.int .i64 3) rfl HR1.out.R HR1.out.N)
      go_wp2
      go_loopw [] (fun wr => Hid (Rt w B b A n cap T 1 false 3 (.slice none 0 0) (.slice none 0 0) ⟨#[]⟩ ⟨#[]⟩ [] [] wr)) (fun _ => 0)
      case atStart => exact HR2
      case round =>
        have HL := hrel
        clear hrel
        obtain ⟨⟨x0, x1, x2, x3, x4⟩, g0, g1, g2, g3, g4⟩ := five HL.out.X
        go_wp2_with fail
        refine (sIsTy_any ⟨3, .slice none 0 0, .slice none 0 0, ⟨#[]⟩, ⟨#[]⟩⟩ ⟨3, [], [], ⟨#[]⟩, ⟨#[]⟩⟩ _ (HL.out.own (by simp [Value.ownBlock])).has ⟨by simp, hz5, hz5⟩).mono ?_
        obtain ⟨z, hz⟩ : ∃ z, z = isTyB ⟨3, [], [], ⟨#[]⟩, ⟨#[]⟩⟩ := ⟨_, rfl⟩
        rw [← hz]
        have HZ9 := Lib.hid hz.symm
        have HPRE := Lib.hid (pre_3 (res := res) HK.out)
        clear hz
        rintro e w9 ⟨rfl, hb9⟩
        have HR9 := Lib.hid (HL.out.below hb9)
        clear hb9
        have hl9 := HR9.out.lt
        cases z
        · have c2 := HR9.out.P.c2
          have f2 := HR9.out.P.f2
          have HS9 := Lib.hid (HR9.out.setBad true)
          obtain ⟨⟨p0, p1, p2, p3, p4⟩, q0, q1, q2, q3, q4⟩ := five HS9.out.X
          obtain ⟨⟨y0, y1, y2, y3, y4⟩, u0, u1, u2, u3, u4⟩ := five HS9.out.Z
          have HD := Lib.hid (Rt.done HS9.out (by simp [Value.ownBlock]) (.int .i64 3) (.slice none 0 0) (.slice none 0 0) (.string ⟨#[]⟩) (.string ⟨#[]⟩))
          have hfin := TyBox.full (k' := 3) (vr' := .slice none 0 0) (vn' := .slice none 0 0) (pt' := ⟨#[]⟩) (ph' := ⟨#[]⟩) (Rt.Z HS9.out)
          go_wp2
          refine bodyPost_ret (results_ty1 rfl _ _ ⟨w.heap.size, 0, none⟩ _ rfl (run_loadTy hfin)) rfl ?_
          exact ⟨⟨3, .slice none 0 0, .slice none 0 0, ⟨#[]⟩, ⟨#[]⟩⟩, ⟨3, [], [], ⟨#[]⟩, ⟨#[]⟩⟩, _, true, rfl, HD.out.1, HD.out.2.1, HD.out.2.2, Lib.hid (fin_no HPRE.out HZ9.out)⟩
        · obtain ⟨⟨p0, p1, p2, p3, p4⟩, q0, q1, q2, q3, q4⟩ := five HR9.out.X
          obtain ⟨⟨y0, y1, y2, y3, y4⟩, u0, u1, u2, u3, u4⟩ := five HR9.out.Z
          have HD := Lib.hid (Rt.done HR9.out (by simp [Value.ownBlock]) (.int .i64 3) (.slice none 0 0) (.slice none 0 0) (.string ⟨#[]⟩) (.string ⟨#[]⟩))
          have hfin := TyBox.full (k' := 3) (vr' := .slice none 0 0) (vn' := .slice none 0 0) (pt' := ⟨#[]⟩) (ph' := ⟨#[]⟩) (Rt.Z HR9.out)
          go_wp2
          refine bodyPost_ret (results_ty1 rfl _ _ ⟨w.heap.size, 0, none⟩ _ rfl (run_loadTy hfin)) rfl ?_
          exact ⟨⟨3, .slice none 0 0, .slice none 0 0, ⟨#[]⟩, ⟨#[]⟩⟩, ⟨3, [], [], ⟨#[]⟩, ⟨#[]⟩⟩, _, false, rfl, HD.out.1, HD.out.2.1, HD.out.2.2, Lib.hid (fin_yes HPRE.out HZ9.out)⟩
    · have HXT := Lib.hid hxt
      have HK := Lib.hid hK
      clear hxt hK
      go_enter Tryz.func34, Tryz.ntmps34
      go_wp2_with fail
      refine (sTkY 1 HR0.out.P HX.out HX1.out).mono ?_
      rw [HXT.out]
      rintro e w1 ⟨rfl, hP, hG⟩
      have HR1 : Hid (Rt w B b A n cap T 1 false 0 (.slice none 0 0) (.slice none 0 0) ⟨#[]⟩ ⟨#[]⟩ [] [] w1) := Lib.hid (HR0.out.step hP hG)
      have hl1 := HR1.out.lt
      clear hP hG
      obtain ⟨⟨x0, x1, x2, x3, x4⟩, g0, g1, g2, g3, g4⟩ := five HR1.out.X
      have HR2 : Hid (Rt w B b A n cap T 1 false 4 (.slice none 0 0) (.slice none 0 0) ⟨#[]⟩ ⟨#[]⟩ [] [] (w1.setCell ⟨w.heap.size + 1, 0, none⟩ (.int .i64 4))) := Lib.hid (HR1.out.put 0 (.int .i64 4) rfl HR1.out.R HR1.out.N)
      have hn1 : 1 ≤ n := HR2.out.P.le
      go_wp2
      go_loopw [] (fun wr => ∃ (m : Nat) (vn : Value), Hid (1 + m ≤ n ∧ ∀ j (hj : j < (T.drop 1).length), j < m → (T.drop 1)[j].k = 1) ∧ Hid (Rt w B b A n cap T (1 + m) false 4 (.slice none 0 0) vn ⟨#[]⟩ ⟨#[]⟩ [] (((T.drop 1).take m).map (·.t)) wr)) (fun wr => n - (intOf ((wr.cell? ⟨b, 1, none⟩).getD undef)).toNat)
      case atStart => exact ⟨0, .slice none 0 0, Lib.hid ⟨hn1, fun j _ h => by omega⟩, HR2⟩
      case round =>
        obtain ⟨m, vn, HM, HL⟩ := hrel
        clear HR2 hl1 hn1 x0 x1 x2 x3 x4 g0 g1 g2 g3 g4 HR1
        have hlr := HL.out.lt
        obtain ⟨A3, n3, c3, rfl⟩ : ∃ A n c, vn = .slice A n c := by obtain ⟨A, c, hv, _⟩ := Row.has HL.out.N; exact ⟨A, _, c, hv⟩
        obtain ⟨⟨x0, x1, x2, x3, x4⟩, g0, g1, g2, g3, g4⟩ := five HL.out.X
        obtain ⟨qb, hqb⟩ : ∃ qb, qb = (!false && kB 1 (T.drop (1 + m))) := ⟨_, rfl⟩
        have HQB := Lib.hid hqb
        have HMEAS : Hid (intOf ((wr.cell? ⟨b, 1, none⟩).getD undef) = ((1 + m : Nat) : Int)) := Lib.hid (by rw [HL.out.P.c1]; rfl)
        clear hqb
        go_wp2_with fail
        refine (sAtK 1 HL.out.P).mono ?_
        rw [← HQB.out]
        rintro e w7 ⟨rfl, q, hq⟩
        have HR7 := Lib.hid (HL.out.drewN q)
        rw [← hq] at HR7
        clear hq x0 x1 x2 x3 x4 g0 g1 g2 g3 g4
        have hl7 := HR7.out.lt
        obtain ⟨⟨x0, x1, x2, x3, x4⟩, g0, g1, g2, g3, g4⟩ := five HR7.out.X
        have HLE : Hid (m ≤ (T.drop 1).length) := Lib.hid (by have := HM.out.1; have := HTN.out; rw [List.length_drop]; omega)
        cases qb
        · go_wp2_with fail
          refine (sIsTy_any ⟨4, .slice none 0 0, .slice A3 n3 c3, ⟨#[]⟩, ⟨#[]⟩⟩ ⟨4, [], (((T.drop 1).take m).map (·.t)), ⟨#[]⟩, ⟨#[]⟩⟩ _ (HR7.out.own (by simp [Value.ownBlock])).has ⟨fun s hs => by obtain ⟨y, hy, rfl⟩ := List.mem_map.1 hs; exact HTS.out y (List.mem_of_mem_drop (List.mem_of_mem_take hy)), hz5, hz5⟩).mono ?_
          obtain ⟨z, hz⟩ : ∃ z, z = isTyB ⟨4, [], (((T.drop 1).take m).map (·.t)), ⟨#[]⟩, ⟨#[]⟩⟩ := ⟨_, rfl⟩
          rw [← hz]
          have HZ9 := Lib.hid hz.symm
          have HPRE := Lib.hid (pre_4 (res := res) HK.out HM.out.2 HLE.out (by simpa using HQB.out.symm))
          clear hz
          rintro e w9 ⟨rfl, hb9⟩
          have HR9 := Lib.hid (HR7.out.below hb9)
          clear hb9
          have hl9 := HR9.out.lt
          cases z
          · have c2 := HR9.out.P.c2
            have f2 := HR9.out.P.f2
            have HS9 := Lib.hid (HR9.out.setBad true)
            obtain ⟨⟨p0, p1, p2, p3, p4⟩, q0, q1, q2, q3, q4⟩ := five HS9.out.X
            obtain ⟨⟨y0, y1, y2, y3, y4⟩, u0, u1, u2, u3, u4⟩ := five HS9.out.Z
            have HD := Lib.hid (Rt.done HS9.out (by simp [Value.ownBlock]) (.int .i64 4) (.slice none 0 0) (.slice A3 n3 c3) (.string ⟨#[]⟩) (.string ⟨#[]⟩))
            have hfin := TyBox.full (k' := 4) (vr' := .slice none 0 0) (vn' := .slice A3 n3 c3) (pt' := ⟨#[]⟩) (ph' := ⟨#[]⟩) (Rt.Z HS9.out)
            go_wp2
            refine bodyPost_ret (results_ty1 rfl _ _ ⟨w.heap.size, 0, none⟩ _ rfl (run_loadTy hfin)) rfl ?_
            exact ⟨⟨4, .slice none 0 0, .slice A3 n3 c3, ⟨#[]⟩, ⟨#[]⟩⟩, ⟨4, [], (((T.drop 1).take m).map (·.t)), ⟨#[]⟩, ⟨#[]⟩⟩, _, true, rfl, HD.out.1, HD.out.2.1, HD.out.2.2, Lib.hid (fin_no HPRE.out HZ9.out)⟩
          · obtain ⟨⟨p0, p1, p2, p3, p4⟩, q0, q1, q2, q3, q4⟩ := five HR9.out.X
            obtain ⟨⟨y0, y1, y2, y3, y4⟩, u0, u1, u2, u3, u4⟩ := five HR9.out.Z
            have HD := Lib.hid (Rt.done HR9.out (by simp [Value.ownBlock]) (.int .i64 4) (.slice none 0 0) (.slice A3 n3 c3) (.string ⟨#[]⟩) (.string ⟨#[]⟩))
            have hfin := TyBox.full (k' := 4) (vr' := .slice none 0 0) (vn' := .slice A3 n3 c3) (pt' := ⟨#[]⟩) (ph' := ⟨#[]⟩) (Rt.Z HR9.out)
            go_wp2
            refine bodyPost_ret (results_ty1 rfl _ _ ⟨w.heap.size, 0, none⟩ _ rfl (run_loadTy hfin)) rfl ?_
            exact ⟨⟨4, .slice none 0 0, .slice A3 n3 c3, ⟨#[]⟩, ⟨#[]⟩⟩, ⟨4, [], (((T.drop 1).take m).map (·.t)), ⟨#[]⟩, ⟨#[]⟩⟩, _, false, rfl, HD.out.1, HD.out.2.1, HD.out.2.2, Lib.hid (fin_yes HPRE.out HZ9.out)⟩
        · obtain ⟨y, s, hy, hy1⟩ := kB_inv (show kB 1 (T.drop (1 + m)) = true by simpa using HQB.out.symm)
          have HY := Lib.hid hy
          have HY1 := Lib.hid hy1
          have hlen := length_of hy
          have hml : m < (T.drop 1).length := by rw [List.length_drop]; omega
          have hym : (T.drop 1)[m] = y := by rw [← List.drop_drop, List.drop_eq_getElem_cons hml] at hy; injection hy
          have HNX : Hid (((T.drop 1).take (m + 1)).map (·.t) = ((T.drop 1).take m).map (·.t) ++ [y.t]) := Lib.hid (by rw [names_next hml, hym])
          have HM2 : Hid (1 + (m + 1) ≤ n ∧ ∀ j (hj : j < (T.drop 1).length), j < m + 1 → (T.drop 1)[j].k = 1) := Lib.hid ⟨by have := HTN.out; omega, fun j hj hjk => by
            by_cases e : j = m
            · subst e; rw [hym]; exact hy1
            · exact HM.out.2 j hj (by omega)⟩
          have hn3 : n3 = m := by obtain ⟨_, _, hv, _⟩ := Row.has HL.out.N; injection hv with _ h9 _; rw [h9, List.length_map, List.length_take]; have := HLE.out; omega
          subst hn3
          have HNL : Hid (n3 = (((T.drop 1).take n3).map (·.t)).length) := Lib.hid (by rw [List.length_map, List.length_take]; have := HLE.out; omega)
          have HSZ : Hid (n3 + 1 ≤ 549755813888) := Lib.hid (by have := HM2.out.1; have := HNB.out; omega)
          have HRd := Lib.hid (HR7.out.below (Below.refl _ _).drew)
          have hn2 : n3 + 2 ≤ n := by have := HM2.out.1; omega
          clear hy hy1 hlen hml hym
          go_wp2
          go_region_law (first
            | (refine step_str_append rfl _ _ (by rfl) (w.heap.size + 2) n3 (.slice A3 n3 c3) _ (by rfl) (Row.alloc HR8.out.N _) HNL.out y.t ⟨w8.heap.size, 0, none⟩ 1 (by rfl) (news_str _ _ _) HSZ.out (by have := HR8.out.lt; simp; omega) (n3 + 1) rfl ?_
               intro g' c' w4 hrow4 hg4
               obtain ⟨hX4, hR4⟩ := Rt.snoc HR8.out _ hg4 hrow4
               have HR4 := Lib.hid hR4
               have e4 := (five hX4).1.2.2.1
               have f4 := (five hX4).2.2.2.1)
            | (go_simp; go_at_call 67; refine (sTkY 1 (by first | exact HR7.out.P | exact HRd.out.P) HY.out HY1.out).mono ?_; rintro e w8 ⟨rfl, hP, hG⟩; have HR8 := Lib.hid (Rt.step (by first | exact HR7.out | exact HRd.out) hP hG); have z2 := (five HR8.out.X).1.2.2.1; have z3 := (five (HR8.out.below (below_al (Below.refl _ _) (.cells #[.string y.t] 9))).X).1.2.2.1; clear hP hG))
          all_goals
            rw [← HNX.out] at HR4
            clear hrow4 hg4 hX4 hR4
            go_wp2
            go_roundw
            case rel => exact ⟨n3 + 1, _, HM2, HR4⟩
            case measure => rw [HMEAS.out, HR4.out.P.c1]; show n - (((1 + n3 + 1 : Nat) : Int)).toNat < n - (((1 + n3 : Nat) : Int)).toNat; omega
    · have HXT := Lib.hid hxt
      have HK := Lib.hid hK
      clear hxt hK
      go_enter Tryz.func34, Tryz.ntmps34
      go_wp2_with fail
      refine (sTkY 1 HR0.out.P HX.out HX1.out).mono ?_
      rw [HXT.out]
      rintro e w1 ⟨rfl, hP, hG⟩
      have HR1 : Hid (Rt w B b A n cap T 1 false 0 (.slice none 0 0) (.slice none 0 0) ⟨#[]⟩ ⟨#[]⟩ [] [] w1) := Lib.hid (HR0.out.step hP hG)
      have hl1 := HR1.out.lt
      clear hP hG
      obtain ⟨⟨x0, x1, x2, x3, x4⟩, g0, g1, g2, g3, g4⟩ := five HR1.out.X
      have HR2 : Hid (Rt w B b A n cap T 1 false 5 (.slice none 0 0) (.slice none 0 0) ⟨#[]⟩ ⟨#[]⟩ [] [] (w1.setCell ⟨w.heap.size + 1, 0, none⟩ (.int .i64 5))) := Lib.hid (HR1.out.put 0 (.int .i64 5) rfl HR1.out.R HR1.out.N)
      go_wp2
      go_loopw [] (fun wr => Hid (Rt w B b A n cap T 1 false 5 (.slice none 0 0) (.slice none 0 0) ⟨#[]⟩ ⟨#[]⟩ [] [] wr)) (fun _ => 0)
      case atStart => exact HR2
      case round =>
        have HL := hrel
        clear hrel
        obtain ⟨⟨x0, x1, x2, x3, x4⟩, g0, g1, g2, g3, g4⟩ := five HL.out.X
        rcases text5_cases (T.drop 1) with ⟨h3, ht⟩ | ⟨y, s, h3, hy3, hye, ht⟩ | ⟨y, s, h3, hy3, hye⟩
        · have H3 : Hid ((!false && kB 3 (T.drop 1)) = false) := Lib.hid (by simpa using h3)
          have HG5 := Lib.hid (good_5 (res := res) HK.out ht)
          clear h3 ht
          go_wp2_with fail
          refine (sTkN 3 HL.out.P H3.out).mono ?_
          rintro e w3 ⟨rfl, hP, hG⟩
          have HR3 : Hid (Rt w B b A n cap T 1 true 5 (.slice none 0 0) (.slice none 0 0) ⟨#[]⟩ ⟨#[]⟩ [] [] w3) := Lib.hid (HL.out.step hP hG)
          have HR4 : Hid (Rt w B b A n cap T 1 true 5 (.slice none 0 0) (.slice none 0 0) ⟨#[]⟩ ⟨#[]⟩ [] [] (w3.setCell ⟨w.heap.size + 1, 4, none⟩ (.string ⟨#[]⟩))) := Lib.hid (HR3.out.put 4 (.string ⟨#[]⟩) rfl HR3.out.R HR3.out.N)
          clear hP hG x0 x1 x2 x3 x4 g0 g1 g2 g3 g4
          obtain ⟨⟨x0, x1, x2, x3, x4⟩, g0, g1, g2, g3, g4⟩ := five HR3.out.X
          go_wp2_with fail
          refine (sIsTy_any ⟨5, .slice none 0 0, .slice none 0 0, ⟨#[]⟩, ⟨#[]⟩⟩ ⟨5, [], [], ⟨#[]⟩, ⟨#[]⟩⟩ _ (HR4.out.own (by simp [Value.ownBlock])).has ⟨by simp, hz5, hz5⟩).mono ?_
          rw [isTy_5e]
          rintro e w9 ⟨rfl, hb9⟩
          have HR9 := Lib.hid (HR4.out.below hb9)
          clear hb9
          have c2 := HR9.out.P.c2
          have f2 := HR9.out.P.f2
          have HS9 := Lib.hid (HR9.out.setBad true)
          obtain ⟨⟨p0, p1, p2, p3, p4⟩, q0, q1, q2, q3, q4⟩ := five HS9.out.X
          obtain ⟨⟨y0, y1, y2, y3, y4⟩, u0, u1, u2, u3, u4⟩ := five HS9.out.Z
          have hl9 := HR9.out.lt
          have HD := Lib.hid (Rt.done HS9.out (by simp [Value.ownBlock]) (.int .i64 5) (.slice none 0 0) (.slice none 0 0) (.string ⟨#[]⟩) (.string ⟨#[]⟩))
          have hfin := TyBox.full (k' := 5) (vr' := .slice none 0 0) (vn' := .slice none 0 0) (pt' := ⟨#[]⟩) (ph' := ⟨#[]⟩) (Rt.Z HS9.out)
          go_wp2
          refine bodyPost_ret (results_ty1 rfl _ _ ⟨w.heap.size, 0, none⟩ _ rfl (run_loadTy hfin)) rfl ?_
          exact ⟨⟨5, .slice none 0 0, .slice none 0 0, ⟨#[]⟩, ⟨#[]⟩⟩, ⟨5, [], [], ⟨#[]⟩, ⟨#[]⟩⟩, _, true, rfl, HD.out.1, HD.out.2.1, HD.out.2.2, Lib.hid (.inr ⟨rfl, HG5.out⟩)⟩
        · have H3 := Lib.hid h3
          have HY3 := Lib.hid hy3
          have HYE := Lib.hid hye
          have HG5 := Lib.hid (good_5 (res := res) HK.out ht)
          clear h3 hy3 hye ht
          go_wp2_with fail
          refine (sTkY 3 HL.out.P H3.out HY3.out).mono ?_
          rw [HYE.out]
          rintro e w3 ⟨rfl, hP, hG⟩
          have HR3 : Hid (Rt w B b A n cap T 2 false 5 (.slice none 0 0) (.slice none 0 0) ⟨#[]⟩ ⟨#[]⟩ [] [] w3) := Lib.hid (HL.out.step hP hG)
          have HR4 : Hid (Rt w B b A n cap T 2 false 5 (.slice none 0 0) (.slice none 0 0) ⟨#[]⟩ ⟨#[]⟩ [] [] (w3.setCell ⟨w.heap.size + 1, 4, none⟩ (.string ⟨#[]⟩))) := Lib.hid (HR3.out.put 4 (.string ⟨#[]⟩) rfl HR3.out.R HR3.out.N)
          clear hP hG x0 x1 x2 x3 x4 g0 g1 g2 g3 g4
          obtain ⟨⟨x0, x1, x2, x3, x4⟩, g0, g1, g2, g3, g4⟩ := five HR3.out.X
          go_wp2_with fail
          refine (sIsTy_any ⟨5, .slice none 0 0, .slice none 0 0, ⟨#[]⟩, ⟨#[]⟩⟩ ⟨5, [], [], ⟨#[]⟩, ⟨#[]⟩⟩ _ (HR4.out.own (by simp [Value.ownBlock])).has ⟨by simp, hz5, hz5⟩).mono ?_
          rw [isTy_5e]
          rintro e w9 ⟨rfl, hb9⟩
          have HR9 := Lib.hid (HR4.out.below hb9)
          clear hb9
          have c2 := HR9.out.P.c2
          have f2 := HR9.out.P.f2
          have HS9 := Lib.hid (HR9.out.setBad true)
          obtain ⟨⟨p0, p1, p2, p3, p4⟩, q0, q1, q2, q3, q4⟩ := five HS9.out.X
          obtain ⟨⟨y0, y1, y2, y3, y4⟩, u0, u1, u2, u3, u4⟩ := five HS9.out.Z
          have hl9 := HR9.out.lt
          have HD := Lib.hid (Rt.done HS9.out (by simp [Value.ownBlock]) (.int .i64 5) (.slice none 0 0) (.slice none 0 0) (.string ⟨#[]⟩) (.string ⟨#[]⟩))
          have hfin := TyBox.full (k' := 5) (vr' := .slice none 0 0) (vn' := .slice none 0 0) (pt' := ⟨#[]⟩) (ph' := ⟨#[]⟩) (Rt.Z HS9.out)
          go_wp2
          refine bodyPost_ret (results_ty1 rfl _ _ ⟨w.heap.size, 0, none⟩ _ rfl (run_loadTy hfin)) rfl ?_
          exact ⟨⟨5, .slice none 0 0, .slice none 0 0, ⟨#[]⟩, ⟨#[]⟩⟩, ⟨5, [], [], ⟨#[]⟩, ⟨#[]⟩⟩, _, true, rfl, HD.out.1, HD.out.2.1, HD.out.2.2, Lib.hid (.inr ⟨rfl, HG5.out⟩)⟩
        · have H3 := Lib.hid h3
          have HY3 := Lib.hid hy3
          have HYE := Lib.hid hye
          clear h3 hy3 hye
          go_wp2_with fail
          refine (sTkY 3 HL.out.P H3.out HY3.out).mono ?_
          rintro e w3 ⟨rfl, hP, hG⟩
          have HR3 : Hid (Rt w B b A n cap T 2 false 5 (.slice none 0 0) (.slice none 0 0) ⟨#[]⟩ ⟨#[]⟩ [] [] w3) := Lib.hid (HL.out.step hP hG)
          have HR4 : Hid (Rt w B b A n cap T 2 false 5 (.slice none 0 0) (.slice none 0 0) ⟨#[]⟩ y.t [] [] (w3.setCell ⟨w.heap.size + 1, 4, none⟩ (.string y.t))) := Lib.hid (HR3.out.put 4 (.string y.t) rfl HR3.out.R HR3.out.N)
          clear hP hG x0 x1 x2 x3 x4 g0 g1 g2 g3 g4
          obtain ⟨⟨x0, x1, x2, x3, x4⟩, g0, g1, g2, g3, g4⟩ := five HR3.out.X
          have HYZ : Hid (y.t.size ≤ 1048576) := Lib.hid (HTS.out y (List.mem_of_mem_drop (i := 1) (by rw [H3.out]; simp)))
          go_wp2_with fail
          refine (sIsTy_any ⟨5, .slice none 0 0, .slice none 0 0, ⟨#[]⟩, y.t⟩ ⟨5, [], [], ⟨#[]⟩, y.t⟩ _ (HR4.out.own (by simp [Value.ownBlock])).has ⟨by simp, hz5, HYZ.out⟩).mono ?_
          obtain ⟨z, hz⟩ : ∃ z, z = isTyB ⟨5, [], [], ⟨#[]⟩, y.t⟩ := ⟨_, rfl⟩
          rw [← hz]
          have HZ9 := Lib.hid hz.symm
          have HPRE := Lib.hid (pre_5 (res := res) HK.out H3.out HY3.out HYE.out)
          clear hz
          rintro e w9 ⟨rfl, hb9⟩
          have HR9 := Lib.hid (HR4.out.below hb9)
          clear hb9
          have hl9 := HR9.out.lt
          cases z
          · have c2 := HR9.out.P.c2
            have f2 := HR9.out.P.f2
            have HS9 := Lib.hid (HR9.out.setBad true)
            obtain ⟨⟨p0, p1, p2, p3, p4⟩, q0, q1, q2, q3, q4⟩ := five HS9.out.X
            obtain ⟨⟨y0, y1, y2, y3, y4⟩, u0, u1, u2, u3, u4⟩ := five HS9.out.Z
            have HD := Lib.hid (Rt.done HS9.out (by simp [Value.ownBlock]) (.int .i64 5) (.slice none 0 0) (.slice none 0 0) (.string ⟨#[]⟩) (.string y.t))
            have hfin := TyBox.full (k' := 5) (vr' := .slice none 0 0) (vn' := .slice none 0 0) (pt' := ⟨#[]⟩) (ph' := y.t) (Rt.Z HS9.out)
            go_wp2
            refine bodyPost_ret (results_ty1 rfl _ _ ⟨w.heap.size, 0, none⟩ _ rfl (run_loadTy hfin)) rfl ?_
            exact ⟨⟨5, .slice none 0 0, .slice none 0 0, ⟨#[]⟩, y.t⟩, ⟨5, [], [], ⟨#[]⟩, y.t⟩, _, true, rfl, HD.out.1, HD.out.2.1, HD.out.2.2, Lib.hid (fin_no HPRE.out HZ9.out)⟩
          · obtain ⟨⟨p0, p1, p2, p3, p4⟩, q0, q1, q2, q3, q4⟩ := five HR9.out.X
            obtain ⟨⟨y0, y1, y2, y3, y4⟩, u0, u1, u2, u3, u4⟩ := five HR9.out.Z
            have HD := Lib.hid (Rt.done HR9.out (by simp [Value.ownBlock]) (.int .i64 5) (.slice none 0 0) (.slice none 0 0) (.string ⟨#[]⟩) (.string y.t))
            have hfin := TyBox.full (k' := 5) (vr' := .slice none 0 0) (vn' := .slice none 0 0) (pt' := ⟨#[]⟩) (ph' := y.t) (Rt.Z HR9.out)
            go_wp2
            refine bodyPost_ret (results_ty1 rfl _ _ ⟨w.heap.size, 0, none⟩ _ rfl (run_loadTy hfin)) rfl ?_
            exact ⟨⟨5, .slice none 0 0, .slice none 0 0, ⟨#[]⟩, y.t⟩, ⟨5, [], [], ⟨#[]⟩, y.t⟩, _, false, rfl, HD.out.1, HD.out.2.1, HD.out.2.2, Lib.hid (fin_yes HPRE.out HZ9.out)⟩
    · have HXT := Lib.hid hxt
      have HK := Lib.hid hK
      clear hxt hK
      go_enter Tryz.func34, Tryz.ntmps34
      go_wp2_with fail
      refine (sTkY 1 HR0.out.P HX.out HX1.out).mono ?_
      rw [HXT.out]
      rintro e w1 ⟨rfl, hP, hG⟩
      have HR1 : Hid (Rt w B b A n cap T 1 false 0 (.slice none 0 0) (.slice none 0 0) ⟨#[]⟩ ⟨#[]⟩ [] [] w1) := Lib.hid (HR0.out.step hP hG)
      have hl1 := HR1.out.lt
      clear hP hG
      obtain ⟨⟨x0, x1, x2, x3, x4⟩, g0, g1, g2, g3, g4⟩ := five HR1.out.X
      have HR2 : Hid (Rt w B b A n cap T 1 false 6 (.slice none 0 0) (.slice none 0 0) ⟨#[]⟩ ⟨#[]⟩ [] [] (w1.setCell ⟨w.heap.size + 1, 0, none⟩ (.int .i64 6))) := Lib.hid (HR1.out.put 0 (.int .i64 6) rfl HR1.out.R HR1.out.N)
      go_wp2
      go_loopw [] (fun wr => Hid (Rt w B b A n cap T 1 false 6 (.slice none 0 0) (.slice none 0 0) ⟨#[]⟩ ⟨#[]⟩ [] [] wr)) (fun _ => 0)
      case atStart => exact HR2
      case round =>
        have HL := hrel
        clear hrel
        obtain ⟨⟨x0, x1, x2, x3, x4⟩, g0, g1, g2, g3, g4⟩ := five HL.out.X
        go_wp2_with fail
        refine (sIsTy_any ⟨6, .slice none 0 0, .slice none 0 0, ⟨#[]⟩, ⟨#[]⟩⟩ ⟨6, [], [], ⟨#[]⟩, ⟨#[]⟩⟩ _ (HL.out.own (by simp [Value.ownBlock])).has ⟨by simp, hz5, hz5⟩).mono ?_
        obtain ⟨z, hz⟩ : ∃ z, z = isTyB ⟨6, [], [], ⟨#[]⟩, ⟨#[]⟩⟩ := ⟨_, rfl⟩
        rw [← hz]
        have HZ9 := Lib.hid hz.symm
        have HPRE := Lib.hid (pre_6 (res := res) HK.out)
        clear hz
        rintro e w9 ⟨rfl, hb9⟩
        have HR9 := Lib.hid (HL.out.below hb9)
        clear hb9
        have hl9 := HR9.out.lt
        cases z
        · have c2 := HR9.out.P.c2
          have f2 := HR9.out.P.f2
          have HS9 := Lib.hid (HR9.out.setBad true)
          obtain ⟨⟨p0, p1, p2, p3, p4⟩, q0, q1, q2, q3, q4⟩ := five HS9.out.X
          obtain ⟨⟨y0, y1, y2, y3, y4⟩, u0, u1, u2, u3, u4⟩ := five HS9.out.Z
          have HD := Lib.hid (Rt.done HS9.out (by simp [Value.ownBlock]) (.int .i64 6) (.slice none 0 0) (.slice none 0 0) (.string ⟨#[]⟩) (.string ⟨#[]⟩))
          have hfin := TyBox.full (k' := 6) (vr' := .slice none 0 0) (vn' := .slice none 0 0) (pt' := ⟨#[]⟩) (ph' := ⟨#[]⟩) (Rt.Z HS9.out)
          go_wp2
          refine bodyPost_ret (results_ty1 rfl _ _ ⟨w.heap.size, 0, none⟩ _ rfl (run_loadTy hfin)) rfl ?_
          exact ⟨⟨6, .slice none 0 0, .slice none 0 0, ⟨#[]⟩, ⟨#[]⟩⟩, ⟨6, [], [], ⟨#[]⟩, ⟨#[]⟩⟩, _, true, rfl, HD.out.1, HD.out.2.1, HD.out.2.2, Lib.hid (fin_no HPRE.out HZ9.out)⟩
        · obtain ⟨⟨p0, p1, p2, p3, p4⟩, q0, q1, q2, q3, q4⟩ := five HR9.out.X
          obtain ⟨⟨y0, y1, y2, y3, y4⟩, u0, u1, u2, u3, u4⟩ := five HR9.out.Z
          have HD := Lib.hid (Rt.done HR9.out (by simp [Value.ownBlock]) (.int .i64 6) (.slice none 0 0) (.slice none 0 0) (.string ⟨#[]⟩) (.string ⟨#[]⟩))
          have hfin := TyBox.full (k' := 6) (vr' := .slice none 0 0) (vn' := .slice none 0 0) (pt' := ⟨#[]⟩) (ph' := ⟨#[]⟩) (Rt.Z HR9.out)
          go_wp2
          refine bodyPost_ret (results_ty1 rfl _ _ ⟨w.heap.size, 0, none⟩ _ rfl (run_loadTy hfin)) rfl ?_
          exact ⟨⟨6, .slice none 0 0, .slice none 0 0, ⟨#[]⟩, ⟨#[]⟩⟩, ⟨6, [], [], ⟨#[]⟩, ⟨#[]⟩⟩, _, false, rfl, HD.out.1, HD.out.2.1, HD.out.2.2, Lib.hid (fin_yes HPRE.out HZ9.out)⟩
    · have HG0 := Lib.hid (good_zero (res := res) hK)
      have m1 : (x.t.toList == [105, 110, 116]) = false := str_neb3 n1 (by rw [ByteArray.toList_eq])
      have o1 : ¬ x.t.toList = [105, 110, 116] := by intro e; rw [e] at m1; simp at m1
      have m2 : (x.t.toList == [116, 101, 120, 116]) = false := str_neb3 n2 (by rw [ByteArray.toList_eq])
      have o2 : ¬ x.t.toList = [116, 101, 120, 116] := by intro e; rw [e] at m2; simp at m2
      have m3 : (x.t.toList == [98, 111, 111, 108]) = false := str_neb3 n3 (by rw [ByteArray.toList_eq])
      have o3 : ¬ x.t.toList = [98, 111, 111, 108] := by intro e; rw [e] at m3; simp at m3
      have m4 : (x.t.toList == [101, 110, 117, 109]) = false := str_neb3 n4 (by rw [ByteArray.toList_eq])
      have o4 : ¬ x.t.toList = [101, 110, 117, 109] := by intro e; rw [e] at m4; simp at m4
      have m5 : (x.t.toList == [114, 101, 102]) = false := str_neb3 n5 (by rw [ByteArray.toList_eq])
      have o5 : ¬ x.t.toList = [114, 101, 102] := by intro e; rw [e] at m5; simp at m5
      have m6 : (x.t.toList == [102, 108, 97, 103]) = false := str_neb3 n6 (by rw [ByteArray.toList_eq])
      have o6 : ¬ x.t.toList = [102, 108, 97, 103] := by intro e; rw [e] at m6; simp at m6
      have HXT : Hid (x.t = x.t) := Lib.hid rfl
      clear n1 n2 n3 n4 n5 n6 hK
      go_enter Tryz.func34, Tryz.ntmps34
      go_wp2_with fail
      refine (sTkY 1 HR0.out.P HX.out HX1.out).mono ?_
      rintro e w1 ⟨rfl, hP, hG⟩
      have HR1 : Hid (Rt w B b A n cap T 1 false 0 (.slice none 0 0) (.slice none 0 0) ⟨#[]⟩ ⟨#[]⟩ [] [] w1) := Lib.hid (HR0.out.step hP hG)
      have hl1 := HR1.out.lt
      clear hP hG
      obtain ⟨⟨x0, x1, x2, x3, x4⟩, g0, g1, g2, g3, g4⟩ := five HR1.out.X
      go_wp2
      go_loopw [] (fun wr => Hid (Rt w B b A n cap T 1 false 0 (.slice none 0 0) (.slice none 0 0) ⟨#[]⟩ ⟨#[]⟩ [] [] wr)) (fun _ => 0)
      case atStart => exact HR1
      case round =>
        have HL := hrel
        clear hrel
        obtain ⟨⟨x0, x1, x2, x3, x4⟩, g0, g1, g2, g3, g4⟩ := five HL.out.X
        go_wp2_with fail
        refine (sIsTy_any ⟨0, .slice none 0 0, .slice none 0 0, ⟨#[]⟩, ⟨#[]⟩⟩ ⟨0, [], [], ⟨#[]⟩, ⟨#[]⟩⟩ _ (HL.out.own (by simp [Value.ownBlock])).has ⟨by simp, hz5, hz5⟩).mono ?_
        rw [isTy_zero]
        rintro e w9 ⟨rfl, hb9⟩
        have HR9 := Lib.hid (HL.out.below hb9)
        clear hb9
        have c2 := HR9.out.P.c2
        have f2 := HR9.out.P.f2
        have HS9 := Lib.hid (HR9.out.setBad true)
        obtain ⟨⟨p0, p1, p2, p3, p4⟩, q0, q1, q2, q3, q4⟩ := five HS9.out.X
        obtain ⟨⟨y0, y1, y2, y3, y4⟩, u0, u1, u2, u3, u4⟩ := five HS9.out.Z
        have hl9 := HR9.out.lt
        have HD := Lib.hid (Rt.done HS9.out (by simp [Value.ownBlock]) (.int .i64 0) (.slice none 0 0) (.slice none 0 0) (.string ⟨#[]⟩) (.string ⟨#[]⟩))
        have hfin := TyBox.full (k' := 0) (vr' := .slice none 0 0) (vn' := .slice none 0 0) (pt' := ⟨#[]⟩) (ph' := ⟨#[]⟩) (Rt.Z HS9.out)
        go_wp2
        refine bodyPost_ret (results_ty1 rfl _ _ ⟨w.heap.size, 0, none⟩ _ rfl (run_loadTy hfin)) rfl ?_
        exact ⟨⟨0, .slice none 0 0, .slice none 0 0, ⟨#[]⟩, ⟨#[]⟩⟩, ⟨0, [], [], ⟨#[]⟩, ⟨#[]⟩⟩, _, true, rfl, HD.out.1, HD.out.2.1, HD.out.2.2, Lib.hid (.inr ⟨rfl, HG0.out⟩)⟩
end Go.Proofs.YtkifdbeklagelaaGreatDoor

/- CHAPTER 6: TYPES READ FROM TEXTS: spec's ParseType. -/
namespace Go.Proofs.YtkifdbeklagelaaGreatDoor
open Go.RowKit NumP
set_option maxRecDepth 100000

theorem parTy_of {e : Option Nat} {T : List Tok} {res : Option (List Rg × Nat)} {j n : Nat} {bad : Bool} {t : Ty} (h : Fin6 T res j bad t) (hn : n = T.length) (he : e.isSome = true → T = []) : parTy e T res = if (!bad && decide (j = n)) = true then some t else none := by
  subst hn
  have hg : ∀ p, e = some p → ¬ Good T res := fun p hp => by
    rw [he (by rw [hp]; rfl)]
    exact good_zero rfl
  cases e with
  | none =>
    rcases h with ⟨rfl, h1, h2, h3⟩ | ⟨rfl, h1⟩
    · by_cases hj : j = T.length
      · rw [if_pos (by simp [hj])]
        exact (if_pos ⟨h2.trans hj, by rw [h1]; exact h3⟩).trans (by rw [h1])
      · rw [if_neg (by simp [hj])]
        exact if_neg fun hq => hj (h2.symm.trans hq.1)
    · rw [if_neg (by simp)]
      exact if_neg h1
  | some p =>
    rcases h with ⟨rfl, h1, h2, h3⟩ | ⟨rfl, h1⟩
    · have hT := he rfl
      rw [hT, tyT_0 (by rfl)] at h1
      rw [← h1, isTy_zero] at h3
      cases h3
    · rw [if_neg (by simp)]; rfl
set_option maxHeartbeats 8000000 in
theorem sParTy_any (s : ByteArray) (hs : s.size ≤ 1048576) (T : List Tok) (e : Option Nat) (hL : Lx s.size s.data.toList T e) (hlen : (lexT T e).length ≤ 1048576) (hts : ∀ x ∈ lexT T e, x.t.size ≤ 1048576) (res : Option (List Rg × Nat)) (hr : Run ((lexT T e).drop 1) 0 [] res) (w : World) :
    Calls Tryz.prog 11 #[.string s] w fun en w' => PtV w.heap.size (parTy e (lexT T e) res) en w' ∧ Below w.heap.size w w' := by
  have HB0 := Lib.hid (below_al (Below.refl w.heap.size w) (.cells #[.int .i64 0, .slice none 0 0, .slice none 0 0, .string ⟨#[]⟩, .string ⟨#[]⟩] 30))
  have HX0 : Hid (∀ W, Below (w.alloc (.cells #[.int .i64 0, .slice none 0 0, .slice none 0 0, .string ⟨#[]⟩, .string ⟨#[]⟩] 30)).heap.size (w.alloc (.cells #[.int .i64 0, .slice none 0 0, .slice none 0 0, .string ⟨#[]⟩, .string ⟨#[]⟩] 30)) W → TyBox W w.heap.size 0 (.slice none 0 0) (.slice none 0 0) ⟨#[]⟩ ⟨#[]⟩) := Lib.hid fun W hb => (hb.block _ (by simp)).trans (heap_alloc_new w _)
  have he : e.isSome = true → lexT T e = [] := fun h => by
    cases e with
    | none => cases h
    | some p => rfl
  have HNEW := Lib.hid (fun W => sNew_any s hs T e hL W)
  have HL6 := Lib.hid (fun (b n cap B : Nat) (A : Option Addr) W (hn : n ≤ 1048576) (hp : Par B b A n cap (lexT T e) 0 e.isSome W) => sL6_any B b n cap A (lexT T e) e.isSome W hts hn hp he res hr)
  have HPT := Lib.hid (fun (j n : Nat) (bad : Bool) (t : Ty) (h : Fin6 (lexT T e) res j bad t) (hn : n = (lexT T e).length) => parTy_of (e := e) h hn he)
  have HLEN := Lib.hid hlen
  obtain ⟨Z, hZ⟩ : ∃ Z, Z = parTy e (lexT T e) res := ⟨_, rfl⟩
  rw [← hZ] at HPT ⊢
  clear hZ hL hlen hts hr he
  go_enter Tryz.func11, Tryz.ntmps11
  go_wp2_with fail
  refine (HNEW.out _).mono ?_
  rintro en w1 ⟨b, A, n, cap, rfl, hP, hb1⟩
  have HB1 := Lib.hid (below_step HB0.out hb1)
  have HX1 := Lib.hid (HX0.out w1 hb1)
  have HP1 := Lib.hid hP
  have hlo : w.heap.size + 1 ≤ b := by have := hP.lo; simpa using this
  clear hP hb1
  go_wp2_with fail
  refine (HL6.out b n cap _ A _ (by rw [HP1.out.size.1]; exact HLEN.out) HP1.out).mono ?_
  rintro en w2 ⟨⟨k2, vr2, vn2, pt2, ph2⟩, t, j, bad, rfl, hO, hP2, hG, HF⟩
  obtain ⟨F, m, d, rfl⟩ : ∃ A n c, vr2 = .slice A n c := by obtain ⟨A, c, hv, _⟩ := RowR.hasG hO.rg; exact ⟨A, _, c, hv⟩
  obtain ⟨F', m', d', rfl⟩ : ∃ A n c, vn2 = .slice A n c := by obtain ⟨A, c, hv, _⟩ := hO.nm.has; exact ⟨A, _, c, hv⟩
  have hlt1 : w.heap.size < w1.heap.size := HX1.out.lt
  have HPT2 := Lib.hid (HPT.out j n bad t HF.out hP2.size.1)
  have HB2 := Lib.hid (Below.grown HB1.out hG HB1.out.size (fun q e => by have := Option.some.inj e; omega))
  have HX2 := Lib.hid (TyBox.grown HX1.out hG (by omega))
  have HB3 := Lib.hid (below_al HB2.out (.cells #[.int .i64 k2, .slice F m d, .slice F' m' d', .string pt2, .string ph2] 30))
  have HY3 : Hid (∀ W, Below (w2.alloc (.cells #[.int .i64 k2, .slice F m d, .slice F' m' d', .string pt2, .string ph2] 30)).heap.size (w2.alloc (.cells #[.int .i64 k2, .slice F m d, .slice F' m' d', .string pt2, .string ph2] 30)) W → TyBox W w2.heap.size k2 (.slice F m d) (.slice F' m' d') pt2 ph2 ∧ TyBox W w.heap.size 0 (.slice none 0 0) (.slice none 0 0) ⟨#[]⟩ ⟨#[]⟩ ∧ OwnTy (w.heap.size + 1) W ⟨k2, .slice F m d, .slice F' m' d', pt2, ph2⟩ t) := Lib.hid fun W hb => ⟨TyBox.below (heap_alloc_new w2 _) hb, TyBox.below (TyBox.below HX2.out (below_al (Below.refl _ _) _)) hb, (((hO.mono (B' := w.heap.size + 1) (by omega)).below (below_al (Below.refl _ _) _)).below hb)⟩
  have HP3 := Lib.hid (hP2.below (below_al (Below.refl _ _) (.cells #[.int .i64 k2, .slice F m d, .slice F' m' d', .string pt2, .string ph2] 30)))
  clear hO hP2 hG HF HPT HL6 HNEW HX0
  go_wp2_with fail
  refine (sEndP_any HP3.out).mono ?_
  obtain ⟨qb, hqb⟩ : ∃ qb, qb = (!bad && decide (j = n)) := ⟨_, rfl⟩
  rw [← hqb] at HPT2 ⊢
  clear hqb
  rintro en w3 ⟨rfl, q, hq⟩
  have hb3 : Below (w2.alloc (.cells #[.int .i64 k2, .slice F m d, .slice F' m' d', .string pt2, .string ph2] 30)).heap.size (w2.alloc (.cells #[.int .i64 k2, .slice F m d, .slice F' m' d', .string pt2, .string ph2] 30)) w3 := by rw [hq]; exact below_drewN (Below.refl _ _) q
  obtain ⟨hY3, hX3, hO3⟩ := HY3.out _ hb3
  have HX4 := Lib.hid hX3
  have HO4 := Lib.hid hO3
  have HBB := Lib.hid (below_step HB3.out hb3)
  have hlt3 : w.heap.size < w3.heap.size := hX3.lt
  have hlt4 : w2.heap.size < w3.heap.size := hY3.lt
  obtain ⟨⟨y0, y1, y2, y3, y4⟩, r0, r1, r2, r3, r4⟩ := five hX3
  obtain ⟨⟨x0, x1, x2, x3, x4⟩, -⟩ := five hY3
  clear hb3 hX3 hY3 hO3 hq HY3
  cases qb
  · have HZ : Hid (Z = none) := Lib.hid (by rw [HPT2.out]; simp)
    go_wp2
    have hfin := TyBox.full (k' := 0) (vr' := .slice none 0 0) (vn' := .slice none 0 0) (pt' := ⟨#[]⟩) (ph' := ⟨#[]⟩) HX4.out
    refine bodyPost_ret (results_ty rfl _ _ ⟨w.heap.size, 0, none⟩ _ rfl (run_loadTy hfin)) rfl ?_
    rw [HZ.out]
    exact ⟨ptV_none, below_set5 HBB.out (by omega)⟩
  · have HZ : Hid (Z = some t) := Lib.hid (by rw [HPT2.out]; simp)
    go_wp2
    have hfin := TyBox.full (k' := k2) (vr' := .slice F m d) (vn' := .slice F' m' d') (pt' := pt2) (ph' := ph2) HX4.out
    refine bodyPost_ret (results_ty rfl _ _ ⟨w.heap.size, 0, none⟩ _ rfl (run_loadTy hfin)) rfl ?_
    rw [HZ.out]
    exact ⟨⟨⟨k2, .slice F m d, .slice F' m' d', pt2, ph2⟩, rfl, (OwnTy.set5 HO4.out (by omega)).mono (by omega)⟩, below_set5 HBB.out (by omega)⟩
end Go.Proofs.YtkifdbeklagelaaGreatDoor
