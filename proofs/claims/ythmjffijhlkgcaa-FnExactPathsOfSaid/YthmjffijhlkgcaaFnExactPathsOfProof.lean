/- For every expression laws.FnExactPathsOf returns true: impl.PathsOf answers as spec.PathsOf does, writes into nothing, and its answer owns its memory (expressions of more than 1048576 parts and bytes the law itself lets pass); no condition. -/
import Derived.Test.YthmjffijhlkgcaaPtsI
import Derived.Test.YthmjffijhlkgcaaPtsH
import Derived.Test.YthmjffijhlkgcaaPtsJ
import Derived.Test.YthmjffijhlkgcaaPtsK
import Derived.Test.YthmjffijhlkgcaaExB
import Derived.Test.YthmjffijhlkgcaaRows
import Derived.WalkKit
import Derived.ProofKit
import Derived.OpenShut
import Derived.ShutString
import Derived.ChangeOld
import Derived.Below
namespace Go.Proofs.Ythmjffijhlkgcaa.fnExactPathsOf
open Go.ChangeShapes Go.WideShapes Go.ChangeAt Go.RowKit
open Go.ChangeMaps (open_string shut_string)
set_option linter.unusedVariables false

theorem own : ownKnob Try.prog.godebug = none := by kernel_rfl
theorem laidOut : laidOutB Try.prog = true := by kernel_rfl

set_option maxRecDepth 100000 in
set_option maxHeartbeats 16000000 in
theorem walk (y0 : ExR) (t0 : Tr ExX) (D0 : Nat) (w : World) (hin : RdN exK D0 w y0 t0) (s0 : ExWf t0.x ∧ FitT ExWf D0 t0.kids) :
    Calls Try.prog 3 #[y0.val] w fun e w' => e = .returned (.bool true) ∧ Below w.heap.size w w' := by
  have HSA := Lib.hid (fun W (hb : Below w.heap.size w W) => szE_any D0 y0 t0 W 1048576 (hin.below hb) s0.2 s0.1 (by omega) (by omega))
  have HTA := Lib.hid (fun hx hk W (hb : Below w.heap.size w W) => toE_any D0 y0 t0 W (hin.below hb) hx hk)
  have HDP := Lib.hid (rd_deepT hin.2)
  obtain ⟨A, c, h1⟩ := hin.2.form
  generalize t0.kids.length = n at h1
  obtain ⟨A3, n3, c3, h3⟩ : ∃ A n c, y0.sv = .slice A n c := by obtain ⟨A, c, hv, _⟩ := hin.1.2.st.at; exact ⟨A, _, c, hv⟩
  obtain ⟨o0, nu0, tx0, ro0, up0, sv0, v0⟩ := y0
  change v0 = _ at h1
  dsimp only at h3
  subst h1 h3
  have HB0 := Lib.hid (Below.refl w.heap.size w)
  have HA0 := Lib.hid (EBox.new 27 w ⟨o0, nu0, tx0, ro0, up0, .slice A3 n3 c3, .slice A n c⟩)
  clear hin s0
  go_enter Try.func3, Try.ntmps3
  go_wp2_with fail
  refine (HSA.out _ (below_al HB0.out _)).mono ?_
  rintro e w1 ⟨x, rfl, hx, hx1, hx2, hb1⟩
  have HB1 := Lib.hid (below_step (below_al HB0.out _) hb1)
  by_cases hx0 : x < 0
  · clear hx
    go_wp2
    go_ret
    exact ⟨rfl, HB1.out⟩
  have HZ := Lib.hid (hx (by omega))
  have HSN : Hid (sizeN t0 ≤ 1048577) := Lib.hid (by have := HZ.out.2.2; rw [sizeN_eq]; omega)
  have HAL : Hid (∀ e, SizT ExSz e t0.kids) := Lib.hid (SizT.all HZ.out.1.2 HDP.out)
  have HPZ : Hid (PtsSz (ptsN t0)) := Lib.hid (ptsN_ok HZ.out.1.1 HAL.out HSN.out)
  have HA1 := Lib.hid (HA0.out.below hb1)
  have HTA := Lib.hid (HTA.out HZ.out.1.1 HZ.out.1.2)
  have HSP := Lib.hid (fun v W (h : RdN exN D0 W v t0) => sPts_any D0 v t0 W h HZ.out.1.1 HZ.out.1.2 HSN.out)
  have HIM := Lib.hid (fun B v S W (h : OwN exK D0 B W v t0 S) => iPts_any D0 B v t0 W S h HZ.out.1.1 HAL.out HSN.out)
  have HMK := Lib.hid (fun B v S W (h : OwN exK D0 B W v t0 S) => mkE_any D0 B v t0 S W h HZ.out.1.1 HZ.out.1.2 HSN.out)
  have HLT1 : Hid (w.heap.size < w1.heap.size) := Lib.hid HA1.out.lt
  obtain ⟨Q, hQ⟩ : ∃ Q, Q = ptsN t0 := ⟨_, rfl⟩
  rw [← hQ] at HSP HIM HPZ
  have HMP := Lib.hid (fun B v R K W (h : OwnQ B W v R Q K) => markPts1 B v R Q K W h HPZ.out)
  have HHP := Lib.hid (fun v W (h : HasQ W v (mkPts 1 Q)) => heldPts1 v Q W h HPZ.out)
  obtain ⟨M, hM⟩ : ∃ M, M = endPts 1 Q := ⟨_, rfl⟩
  rw [← hM] at HMP HHP
  have hM0 : ¬ (M : Int) < 0 := by omega
  have hMM : ((M : Int) != (M : Int)) = false := by simp
  clear hx hb1 hx1 hx2 HZ HDP HA0 HSN HAL HPZ hQ hM
  obtain ⟨a0, a1, a2, a3, a4, a5, a6⟩ := HA1.out.tell
  go_wp2_with fail
  refine (HTA.out _ HB1.out).mono ?_
  rintro e w2 ⟨va, SA, rfl, hoa, hb2⟩
  have HB2 := Lib.hid (below_step HB1.out hb2)
  have HA2 := Lib.hid (HA1.out.below hb2)
  have HOA := Lib.hid (rdNN_of hoa)
  have HLT2 : Hid (w.heap.size < w2.heap.size) := Lib.hid HA2.out.lt
  clear a0 a1 a2 a3 a4 a5 a6 hb2 hoa HA1
  go_wp2_with fail
  refine (HSP.out va _ HOA.out).mono ?_
  rintro e w3 ⟨vb, Rb, Kb, rfl, hqb, hb3⟩
  have HB3 := Lib.hid (below_step HB2.out hb3)
  have HA3 := Lib.hid (HA2.out.below hb3)
  have HQB3 := Lib.hid hqb
  have HLT3 : Hid (w2.heap.size ≤ w3.heap.size) := Lib.hid hb3.size
  have HSB : Hid (∀ b, OwnQ.S vb Rb Kb b → w2.heap.size ≤ b ∧ b < w3.heap.size) := Lib.hid fun b h => hqb.lt h
  clear hb3 HA2 HOA hqb
  obtain ⟨a0, a1, a2, a3, a4, a5, a6⟩ := HA3.out.tell
  go_wp2_with fail
  refine (HTA.out _ HB3.out).mono ?_
  rintro e w4 ⟨vx, SX, rfl, hox, hb⟩
  obtain ⟨Ax, nx, cx, g1⟩ : ∃ A n c, vx.kv = .slice A n c := by obtain ⟨A, c, hv⟩ := hox.rd.2.form; exact ⟨A, _, c, hv⟩
  obtain ⟨Ay, ny, cy, g2⟩ : ∃ A n c, vx.sv = .slice A n c := by obtain ⟨A, c, hv, _⟩ := hox.rd.1.2.st.at; exact ⟨A, _, c, hv⟩
  obtain ⟨ox, nux, tx, rox, upx, svx, kvx⟩ := vx
  dsimp only at g1 g2
  subst g1 g2
  have HLT4 : Hid (w3.heap.size ≤ w4.heap.size) := Lib.hid hb.size
  have HSX : Hid (∀ b, SX b → w3.heap.size ≤ b ∧ b < w4.heap.size) := Lib.hid fun b h => hox.lt b h
  obtain ⟨W5, hW5⟩ : ∃ X, X = w4.alloc (.cells #[.int .i64 ox, .int .i64 nux, .string tx, .bool rox, .int .i64 upx, .slice Ay ny cy, .slice Ax nx cx] 36) := ⟨_, rfl⟩
  have hb5 : Below w4.heap.size w4 W5 := by rw [hW5]; exact below_al (Below.refl _ _) _
  have HLT5 : Hid (W5.heap.size = w4.heap.size + 1) := Lib.hid (by rw [hW5]; simp)
  have HB5 := Lib.hid (below_step (below_step HB3.out hb) hb5)
  have HA5 := Lib.hid ((HA3.out.below hb).below hb5)
  have HX5 : Hid (OwN exK D0 w3.heap.size W5 ⟨ox, nux, tx, rox, upx, .slice Ay ny cy, .slice Ax nx cx⟩ t0 SX) := Lib.hid (hox.below hb5)
  have HPX5 : Hid (EBox 36 W5 w4.heap.size ⟨ox, nux, tx, rox, upx, .slice Ay ny cy, .slice Ax nx cx⟩) := Lib.hid (by rw [hW5]; exact EBox.new 36 w4 ⟨ox, nux, tx, rox, upx, .slice Ay ny cy, .slice Ax nx cx⟩)
  have HQB5 := Lib.hid ((HQB3.out.below hb).below hb5)
  have hpx := HPX5.out.tell
  obtain ⟨d0, d1, d2, d3, d4, d5, d6⟩ := hpx
  rw [hW5] at d0 d1 d2 d3 d4 d5 d6
  clear a0 a1 a2 a3 a4 a5 a6 hb hox HA3 HQB3 hb5
  go_wp2_with fail
  rw [← hW5]
  refine (HIM.out _ ⟨ox, nux, tx, rox, upx, .slice Ay ny cy, .slice Ax nx cx⟩ SX W5 HX5.out).mono ?_
  rintro e w6 ⟨vg, Rg, Kg, rfl, hqg, hb⟩
  have HB6 := Lib.hid (below_step HB5.out hb)
  have HA6 := Lib.hid (HA5.out.below hb)
  have HX6 := Lib.hid (HX5.out.below hb)
  have HPX6 := Lib.hid (HPX5.out.below hb)
  have HQB6 := Lib.hid (HQB5.out.below hb)
  have HQG6 := Lib.hid hqg
  have HSG : Hid (∀ b, OwnQ.S vg Rg Kg b → W5.heap.size ≤ b) := Lib.hid fun b h => (hqg.lt h).1
  clear hb hqg hW5 d0 d1 d2 d3 d4 d5 d6 HA5 HX5 HPX5 HQB5
  go_wp2_with fail
  refine (eqPts_any vg vb Q w6 HQG6.out.has HQB6.out.has).mono ?_
  rintro e w7 ⟨rfl, hb⟩
  have HB7 := Lib.hid (below_step HB6.out hb)
  have HA7 := Lib.hid (HA6.out.below hb)
  have HX7 := Lib.hid (HX6.out.below hb)
  have HPX7 := Lib.hid (HPX6.out.below hb)
  have HQB7 := Lib.hid (HQB6.out.below hb)
  have HQG7 := Lib.hid (HQG6.out.below hb)
  have HLT7 : Hid (W5.heap.size ≤ w7.heap.size) := Lib.hid (by have := HPX7.out.lt; have := HLT5.out; omega)
  clear hb HA6 HX6 HPX6 HQB6 HQG6
  have HK : Hid (∀ W, Below w7.heap.size w7 W → ((W.cell? ⟨w4.heap.size, 0, none⟩ = some (.int .i64 ox) ∧ W.cell? ⟨w4.heap.size, 1, none⟩ = some (.int .i64 nux) ∧ W.cell? ⟨w4.heap.size, 2, none⟩ = some (.string tx) ∧ W.cell? ⟨w4.heap.size, 3, none⟩ = some (.bool rox) ∧ W.cell? ⟨w4.heap.size, 4, none⟩ = some (.int .i64 upx) ∧ W.cell? ⟨w4.heap.size, 5, none⟩ = some (.slice Ay ny cy) ∧ W.cell? ⟨w4.heap.size, 6, none⟩ = some (.slice Ax nx cx)) ∧ (W.cell? ⟨w.heap.size, 0, none⟩ = some (.int .i64 o0) ∧ W.cell? ⟨w.heap.size, 1, none⟩ = some (.int .i64 nu0) ∧ W.cell? ⟨w.heap.size, 2, none⟩ = some (.string tx0) ∧ W.cell? ⟨w.heap.size, 3, none⟩ = some (.bool ro0) ∧ W.cell? ⟨w.heap.size, 4, none⟩ = some (.int .i64 up0) ∧ W.cell? ⟨w.heap.size, 5, none⟩ = some (.slice A3 n3 c3) ∧ W.cell? ⟨w.heap.size, 6, none⟩ = some (.slice A n c)) ∧ Below w7.heap.size w7 W)) := Lib.hid fun W hb => ⟨(HPX7.out.below hb).tell, (HA7.out.below hb).tell, hb⟩
  obtain ⟨⟨a0, a1, a2, a3, a4, a5, a6⟩, ⟨c0, c1, c2, c3', c4, c5, c6⟩, -⟩ := HK.out _ (Below.refl _ _)
  go_wp2
  go_region_held3 (fun W => (W.cell? ⟨w4.heap.size, 0, none⟩ = some (.int .i64 ox) ∧ W.cell? ⟨w4.heap.size, 1, none⟩ = some (.int .i64 nux) ∧ W.cell? ⟨w4.heap.size, 2, none⟩ = some (.string tx) ∧ W.cell? ⟨w4.heap.size, 3, none⟩ = some (.bool rox) ∧ W.cell? ⟨w4.heap.size, 4, none⟩ = some (.int .i64 upx) ∧ W.cell? ⟨w4.heap.size, 5, none⟩ = some (.slice Ay ny cy) ∧ W.cell? ⟨w4.heap.size, 6, none⟩ = some (.slice Ax nx cx)) ∧ (W.cell? ⟨w.heap.size, 0, none⟩ = some (.int .i64 o0) ∧ W.cell? ⟨w.heap.size, 1, none⟩ = some (.int .i64 nu0) ∧ W.cell? ⟨w.heap.size, 2, none⟩ = some (.string tx0) ∧ W.cell? ⟨w.heap.size, 3, none⟩ = some (.bool ro0) ∧ W.cell? ⟨w.heap.size, 4, none⟩ = some (.int .i64 up0) ∧ W.cell? ⟨w.heap.size, 5, none⟩ = some (.slice A3 n3 c3) ∧ W.cell? ⟨w.heap.size, 6, none⟩ = some (.slice A n c)) ∧ Below w7.heap.size w7 W) (first | exact HK.out _ (Below.refl _ _).drew | exact HK.out _ (below_step (by assumption : _ ∧ _ ∧ Below _ _ _).2.2 hbm) | go_keep)
    (first
      | (go_at_call 6; refine (HTA.out _ (below_step HB7.out (by assumption : _ ∧ _ ∧ Below _ _ _).2.2)).mono ?_; rintro e wr ⟨vr, SR, rfl, hor, hbm⟩)
      | (go_at_call 9; refine (eqE_any D0 ⟨ox, nux, tx, rox, upx, .slice Ay ny cy, .slice Ax nx cx⟩ vr t0 _ (HX7.out.rd.below (by assumption : _ ∧ _ ∧ Below _ _ _).2.2) hor.rd).mono ?_; rintro e w8 ⟨rfl, hbm⟩))
  have hb8 : Below w7.heap.size w7 w8 := (by assumption : _ ∧ _ ∧ Below w7.heap.size w7 w8).2.2
  have HB8 := Lib.hid (below_step HB7.out hb8)
  have HA8 := Lib.hid (HA7.out.below hb8)
  have HX8 := Lib.hid (HX7.out.below hb8)
  have HPX8 := Lib.hid (HPX7.out.below hb8)
  have HQB8 := Lib.hid (HQB7.out.below hb8)
  have HQG8 := Lib.hid (HQG7.out.below hb8)
  have HLT8 : Hid (W5.heap.size ≤ w8.heap.size) := Lib.hid (by have := hb8.size; have := HLT7.out; omega)
  clear hb8 HK HX7 HPX7 HA7 HQB7 HQG7 hor a0 a1 a2 a3 a4 a5 a6 c0 c1 c2 c3' c4 c5 c6
  obtain ⟨d0, d1, d2, d3, d4, d5, d6⟩ := HPX8.out.tell
  go_wp2_with fail
  refine (HMK.out _ ⟨ox, nux, tx, rox, upx, .slice Ay ny cy, .slice Ax nx cx⟩ SX w8 HX8.out).mono ?_
  rintro e w9 ⟨⟨k9, rfl⟩, ht⟩
  have HB9 := Lib.hid (HB8.out.trans (ht.below (by have := HLT8.out; have := HLT5.out; have := HLT4.out; have := HLT3.out; have := HLT2.out; omega) (fun b hb => by have := (HSX.out b hb).1; have := HLT3.out; have := HLT2.out; omega)))
  have HA9 : Hid (EBox 27 w9 w.heap.size ⟨o0, nu0, tx0, ro0, up0, .slice A3 n3 c3, .slice A n c⟩) := Lib.hid ((ht.block _ HA8.out.lt (fun h => by have := (HSX.out _ h).1; have := HLT3.out; have := HLT2.out; omega)).trans HA8.out)
  have HQB9 := Lib.hid (HQB8.out.apart ht (fun b h1 h2 => by have := (HSB.out b h1).2; have := (HSX.out b h2).1; omega))
  have HQG9 := Lib.hid (HQG8.out.apart ht (fun b h1 h2 => by have := HSG.out b h1; have := (HSX.out b h2).2; have := HLT5.out; omega))
  have HLT9 : Hid (W5.heap.size ≤ w9.heap.size) := Lib.hid (by have := ht.size; have := HLT8.out; omega)
  have hk9 : ¬ (k9 : Int) < 0 := by omega
  clear ht d0 d1 d2 d3 d4 d5 d6 HA8 HX8 HPX8 HQB8 HQG8
  go_wp2_with fail
  refine (eqPts_any vg vb Q w9 HQG9.out.has HQB9.out.has).mono ?_
  rintro e w10 ⟨rfl, hb⟩
  have HB10 := Lib.hid (below_step HB9.out hb)
  have HA10 := Lib.hid (HA9.out.below hb)
  have HQB10 := Lib.hid (HQB9.out.below hb)
  have HQG10 := Lib.hid (HQG9.out.below hb)
  have HLT10 : Hid (W5.heap.size ≤ w10.heap.size) := Lib.hid (by have := hb.size; have := HLT9.out; omega)
  clear hb HA9 HQB9 HQG9
  go_wp2_with fail
  refine (HMP.out _ vg Rg Kg w10 HQG10.out).mono ?_
  rintro e w11 ⟨rfl, ⟨Rm, hRm, hqm⟩, ht⟩
  have HB11 := Lib.hid (HB10.out.trans (ht.below (by have := HLT10.out; have := HLT5.out; have := HLT4.out; have := HLT3.out; have := HLT2.out; omega) (fun b hb => by have := HSG.out b hb; have := HLT5.out; have := HLT4.out; have := HLT3.out; have := HLT2.out; omega)))
  have HA11 : Hid (EBox 27 w11 w.heap.size ⟨o0, nu0, tx0, ro0, up0, .slice A3 n3 c3, .slice A n c⟩) := Lib.hid ((ht.block _ HA10.out.lt (fun h => by have := HSG.out _ h; have := HLT5.out; have := HLT4.out; have := HLT3.out; have := HLT2.out; omega)).trans HA10.out)
  have HQB11 := Lib.hid (HQB10.out.apart ht (fun b h1 h2 => by have := (HSB.out b h1).2; have := HSG.out b h2; have := HLT5.out; have := HLT4.out; omega))
  have HQG11 := Lib.hid hqm
  clear ht hqm HA10 HQB10 HQG10
  go_wp2_with fail
  refine (HHP.out vg w11 HQG11.out.has).mono ?_
  rintro e w12 ⟨rfl, hb⟩
  have HB12 := Lib.hid (below_step HB11.out hb)
  have HA12 := Lib.hid (HA11.out.below hb)
  have HQB12 := Lib.hid (HQB11.out.below hb)
  have HQG12 := Lib.hid (HQG11.out.below hb)
  clear hb HA11 HQB11 HQG11
  obtain ⟨a0, a1, a2, a3, a4, a5, a6⟩ := HA12.out.tell
  go_wp2_with fail
  refine (HTA.out _ HB12.out).mono ?_
  rintro e w13 ⟨vz, SZ, rfl, hoz, hb⟩
  have HB13 := Lib.hid (below_step HB12.out hb)
  have HQB13 := Lib.hid (HQB12.out.below hb)
  have HQG13 := Lib.hid (HQG12.out.below hb)
  have HZ13 := Lib.hid hoz
  clear hb hoz a0 a1 a2 a3 a4 a5 a6 HA12 HQB12 HQG12
  go_wp2_with fail
  refine (HIM.out _ vz SZ w13 HZ13.out).mono ?_
  rintro e w14 ⟨vh, Rh, Kh, rfl, hqh, hb⟩
  have HB14 := Lib.hid (below_step HB13.out hb)
  have HQB14 := Lib.hid (HQB13.out.below hb)
  have HQG14 := Lib.hid (HQG13.out.below hb)
  have HQH14 := Lib.hid hqh
  clear hb hqh HZ13 HQB13 HQG13
  go_wp2_with fail
  refine (eqPts_any vh vb Q w14 HQH14.out.has HQB14.out.has).mono ?_
  rintro e w15 ⟨rfl, hb⟩
  have HB15 := Lib.hid (below_step HB14.out hb)
  have HQG15 := Lib.hid (HQG14.out.below hb)
  clear hb HQB14 HQG14 HQH14
  go_wp2_with fail
  refine (HHP.out vg w15 HQG15.out.has).mono ?_
  rintro e w16 ⟨rfl, hb⟩
  have HB16 := Lib.hid (below_step HB15.out hb)
  clear hb HQG15
  go_wp2
  go_ret
  exact ⟨rfl, HB16.out⟩

/-! ### THE ROW's STEP -/
set_option maxRecDepth 100000 in
theorem lifted (os : Os) (started : os.Started) (H : Type) (enc : TypeId × Value → H) :
    ReturnsInHanded {} Try.checked os 3 .any (Rows.fnExactPathsOfSpec.pre6 enc Try.prog Try.f3 Rows.fnExactPathsOfRow.domain false) (Rows.fnExactPathsOfSpec.post enc Try.prog Try.f3 false true false false) := by
  refine returnsInHanded_of_change (C := Try.checked) own started (by kernel_rfl) Try.func3
    (ChangeSpec.witness6 (enc := enc) (C := Try.checked) false ⟨#[], #[.agg #[.int .i64 0, .int .i64 0, .string ⟨#[]⟩, .bool false, .int .i64 0, .slice none 0 0, .slice none 0 0]], []⟩ 8 (by kernel_rfl) (by kernel_rfl) (by kernel_rfl) (by kernel_rfl)) ?_
  intro W base args ds gs before hval0 hW hcnd _
  have hval : ∀ (j : Nat) t v, Try.f3.params[j]? = some t → args[j]? = some v → Value.okWide Try.prog W .any base t v := hval0
  have hW' := hW
  obtain ⟨p, q, hA0, hV, rfl, hfz, hnd⟩ := hW
  have hA : DataW.TrodAll enc Try.prog W 0 (fun _ => true) true Try.f3.params.toList args.toList ds p := hA0
  rw [Try.params3] at hA hval
  obtain ⟨v0, vs0, d0, ds0, p0, q0, hargs, rfl, rfl, h0, r0⟩ := trodAll_cons hA
  obtain ⟨rfl, rfl, rfl⟩ := trodAll_nil r0
  obtain rfl : args = #[v0] := by cases args; simp_all
  obtain ⟨rfl, rfl⟩ := trodVars_none hV
  obtain ⟨y0, t0, D0, rfl, w0, s0⟩ := ex_open (hval 0 27 v0 rfl rfl) h0
  have k0 := h0
  have lt0 : ∀ x ∈ p0, x.block < W.heap.size := by obtain ⟨m, hm⟩ := k0; exact DataW.trod_lt m _ _ _ hm
  clear hA0 hval0
  refine (walk y0 t0 D0 W w0 s0).mono fun e W' ⟨he, bel⟩ => ?_
  subst he
  exact ⟨_, rfl, _, _, _, [], _, [], hW', trodAll_mk1 (shut_bool Try.underlying4 _), (trodAll_cons_mk (Below.trod laidOut (by kernel_rfl) (of_decide_eq_true (by kernel_rfl)) k0 bel lt0) trodAll_mk0), rfl, bel.frame _, fun h => by cases h⟩

theorem over : Rows.fnExactPathsOfRow.holds Try.pinned (OpenSpec.ofChange Rows.fnExactPathsOfSpec) :=
  OpenClaim.holds_of_wide 3 Try.f3 rfl rfl rfl rfl rfl rfl rfl ⟨rfl, rfl, rfl, rfl, rfl⟩ rfl rfl rfl rfl rfl (by kernel_rfl) Try.func3 (by kernel_rfl)
    (of_decide_eq_true (by kernel_rfl)) (by unfold Func.isWrapper; first | (rw [if_pos (by decide +kernel)]; kernel_rfl) | (rw [if_neg (by decide +kernel)]; exact ⟨rfl, rfl⟩))
    (fun os started H enc _ => lifted os started H enc)

theorem proved : Rows.FnExactPathsOfSaid := over
#print axioms proved
end Go.Proofs.Ythmjffijhlkgcaa.fnExactPathsOf
