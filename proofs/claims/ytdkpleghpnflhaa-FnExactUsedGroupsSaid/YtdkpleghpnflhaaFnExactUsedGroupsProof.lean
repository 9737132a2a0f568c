/- For every module and every list of nodes laws.FnExactUsedGroups returns true: impl.UsedGroups answers as spec.UsedGroups does, writes into nothing, and its answer owns its memory (arguments of more than 1048576 nodes, expressions, texts' bytes and so on, as the law counts them, the law itself lets pass); no condition. -/
import Derived.Test.YtdkpleghpnflhaaUsB
import Derived.Test.YtdkpleghpnflhaaUsD
import Derived.Test.YtdkpleghpnflhaaMoM
import Derived.Test.YtdkpleghpnflhaaMoB
import Derived.Test.YtdkpleghpnflhaaMoC
import Derived.Test.YtdkpleghpnflhaaMoA
import Derived.Test.YtdkpleghpnflhaaRows
import Derived.WalkKit
import Derived.ProofKit
import Derived.OpenShut
import Derived.ShutString
import Derived.ChangeOld
import Derived.Below
namespace Go.Proofs.Ytdkpleghpnflhaa.fnExactUsedGroups
open Go.ChangeShapes Go.WideShapes Go.ChangeAt Go.RowKit
open Go.ChangeMaps (open_string shut_string)
set_option linter.unusedVariables false

theorem own : ownKnob Try.prog.godebug = none := by kernel_rfl
theorem laidOut : laidOutB Try.prog = true := by kernel_rfl

set_option maxRecDepth 100000 in
set_option maxHeartbeats 16000000 in
theorem walk (y0 : MoV) (t0 : Mod) (y1 : Value) (t1 : List Sc) (w : World) (hin0 : HasMo w y0 t0) (s0 : ModWf t0) (hin1 : ∃ d, RdL scK d w y1 t1) (s1 : ∀ e, FitT ScWf e t1) :
    Calls Try.prog 3 #[y0.val, y1] w fun e w' => e = .returned (.bool true) ∧ Below w.heap.size w w' := by
  obtain ⟨d, hd⟩ := hin1
  have HSM := Lib.hid (fun W (hb : Below w.heap.size w W) => szMo_any y0 t0 W 1048576 (hin0.below hb) s0 (by omega) (by omega))
  have HSZ := Lib.hid (fun x h0 h1 W (hb : Below w.heap.size w W) => szSS_any d y1 t1 W x (hd.below hb) (s1 d) h0 h1)
  have HTM := Lib.hid (fun (hz : ModSz t0) W (hb : Below w.heap.size w W) => toMo_any y0 t0 W (hin0.below hb) hz)
  have HTS := Lib.hid (fun (hz : ScsSz t1) W (hb : Below w.heap.size w W) => toSS_any d y1 t1 W (hd.below hb) (hz d))
  have HEQ := Lib.hid (fun u v W (h1 : RdL scK d W u t1) (h2 : RdL scK d W v t1) => eqSS_any d u v t1 W h1 h2)
  have HEM := Lib.hid (fun u v W (h1 : HasMo W u t0) (h2 : HasMo W v t0) => eqMo_any u v t0 W h1 h2)
  have HDP := Lib.hid (rd_deepT hd)
  obtain ⟨A, cap, hy⟩ := hd.form
  generalize t1.length = n at hy
  obtain ⟨⟨A1, n1, c1, f1⟩, ⟨A2, n2, c2, f2⟩, ⟨A3, n3, c3, f3⟩⟩ := hin0.forms
  obtain ⟨na, g1, g2, g3⟩ := y0
  dsimp only at f1 f2 f3
  subst hy f1 f2 f3
  have HB0 := Lib.hid (Below.refl w.heap.size w)
  have HA0 := Lib.hid (MBox.new 26 w ⟨na, .slice A1 n1 c1, .slice A2 n2 c2, .slice A3 n3 c3⟩)
  clear hin0 hd s0 s1
  go_enter Try.func3, Try.ntmps3
  go_wp2_with fail
  refine (HSM.out _ (below_al HB0.out _)).mono ?_
  rintro e w1 ⟨⟨x, rfl, hx, hx1, hx2⟩, hb1⟩
  have HB1 := Lib.hid (below_step (below_al HB0.out _) hb1)
  have HA1 := Lib.hid (HA0.out.below hb1)
  clear hb1 HA0 HSM
  by_cases hx0 : x < 0
  · clear hx
    go_wp2
    go_ret
    exact ⟨rfl, HB1.out⟩
  have HZM := Lib.hid (hx (by omega))
  clear hx
  go_wp2_with fail
  refine (HSZ.out x (by omega) (by omega) _ HB1.out).mono ?_
  rintro e w2 ⟨z, rfl, hz, hz1, hz2, hb2⟩
  have HB2 := Lib.hid (below_step HB1.out hb2)
  have HA2 := Lib.hid (HA1.out.below hb2)
  clear hb2 HA1 HSZ
  by_cases hz0 : z < 0
  · clear hz
    go_wp2
    go_ret
    exact ⟨rfl, HB2.out⟩
  have HZS := Lib.hid (hz (by omega))
  have HTOT : Hid (wG t0.gs + wszS t0.b + wA t0.us + wszS t1 ≤ 1048576) := Lib.hid (by have h1 := HZM.out.2; have h2 := HZS.out.2.2; generalize wG t0.gs + wszS t0.b + wA t0.us = U at h1 ⊢; generalize wszS t1 = V at h2 ⊢; omega)
  have HSN : Hid (sizeS t1 ≤ 1048576) := Lib.hid (by have h1 := HTOT.out; have h2 := sizeS_wsz t1; omega)
  have HSS : Hid (ScsSz t1) := Lib.hid (SizT.all HZS.out.1 HDP.out)
  have HTM := Lib.hid (HTM.out HZM.out.1)
  have HTS := Lib.hid (HTS.out HSS.out)
  have HSP := Lib.hid (fun mv (hm : MoForm mv) v W (h : RdL scK d W v t1) => sUs_any d mv v t1 W hm h HSN.out)
  have HIM := Lib.hid (fun B v S mv (hm : MoForm mv) W (h : OwL scK d B W v t1 S) => iUs_any d B mv v t1 W S hm h HSN.out)
  have HMM := Lib.hid (fun B v K W (h : OwnMo B W v t0 K) => mkMo_any B v t0 K W h HZM.out.1 (Nat.le_trans (Nat.le_add_right _ _) HTOT.out))
  have HMS := Lib.hid (fun k B v S W (h : OwL scK d B W v t1 S) (h0 : 0 < k) (hk : k ≤ 1099512676354 + 2199024304133 * (wG t0.gs + wszS t0.b + wA t0.us)) => mkSs_any B k v t1 S W ⟨d, h⟩ HSS.out h0 (bud9 hk HTOT.out))
  have HNL : Hid ((usL t1).length ≤ 1048576) := Lib.hid (Nat.le_trans (usL_len t1) HSN.out)
  obtain ⟨N, hN⟩ : ∃ N, N = usL t1 := ⟨_, rfl⟩
  rw [← hN] at HSP HIM HNL
  have HO1 : Hid (w.heap.size < w2.heap.size) := Lib.hid HA2.out.lt
  clear hz hx1 hx2 hz1 hz2 HZS HZM HDP HSN HSS HTOT hN
  obtain ⟨a0, a1, a2, a3⟩ := HA2.out.tell
  go_wp2_with fail
  refine (HTM.out _ HB2.out).mono ?_
  rintro e w3 ⟨vm, KM, rfl, hom, hb⟩
  have HB3 := Lib.hid (below_step HB2.out hb)
  have HA3 := Lib.hid (HA2.out.below hb)
  have HFM := Lib.hid hom.rd.forms
  have h23 := hb.size
  clear a0 a1 a2 a3 hb hom HA2
  go_wp2_with fail
  refine (HTS.out _ HB3.out).mono ?_
  rintro e w4 ⟨vs, SS, rfl, hos, hb⟩
  have HB4 := Lib.hid (below_step HB3.out hb)
  have HA4 := Lib.hid (HA3.out.below hb)
  have HR4 := Lib.hid hos.rd
  have HO2 : Hid (w2.heap.size ≤ w4.heap.size) := Lib.hid (Nat.le_trans h23 hb.size)
  clear hb hos HA3 h23
  go_wp2_with fail
  refine (HSP.out vm HFM.out vs _ HR4.out).mono ?_
  rintro e w5 ⟨vb, rfl, hvb, hb⟩
  have HB5 := Lib.hid (below_step HB4.out hb)
  have HA5 := Lib.hid (HA4.out.below hb)
  have HWB5 := Lib.hid hvb
  have HSB : Hid (∀ b, vb.ownBlock = some b → w4.heap.size ≤ b ∧ b < w5.heap.size) := Lib.hid fun b h => hvb.lt h
  have HO3 : Hid (w4.heap.size ≤ w5.heap.size) := Lib.hid hb.size
  clear hb hvb HR4 HA4 HFM
  obtain ⟨a0, a1, a2, a3⟩ := HA5.out.tell
  go_wp2_with fail
  refine (HTM.out _ HB5.out).mono ?_
  rintro e w6 ⟨vx, KX, rfl, hox, hb⟩
  have HFX := Lib.hid hox.rd.forms
  obtain ⟨⟨Ax, nx, cx, g1⟩, ⟨Ay, ny, cy, g2⟩, ⟨Az, nz, cz, g3⟩⟩ := hox.rd.forms
  obtain ⟨nax, gx, bx, ax⟩ := vx
  dsimp only at g1 g2 g3
  subst g1 g2 g3
  have HSX : Hid (∀ b, (∃ i, i < 3 ∧ KX i b) → w5.heap.size ≤ b ∧ b < w6.heap.size) := Lib.hid fun b h => by obtain ⟨i, hi, h⟩ := h; exact hox.lt hi h
  obtain ⟨W7, hW7⟩ : ∃ X, X = w6.alloc (.cells #[.string nax, .slice Ax nx cx, .slice Ay ny cy, .slice Az nz cz] 35) := ⟨_, rfl⟩
  have hb7 : Below w6.heap.size w6 W7 := by rw [hW7]; exact below_al (Below.refl _ _) _
  have HO4 : Hid (w5.heap.size ≤ w6.heap.size ∧ W7.heap.size = w6.heap.size + 1) := Lib.hid ⟨hb.size, by rw [hW7]; simp⟩
  have HB7 := Lib.hid (below_step (below_step HB5.out hb) hb7)
  have HA7 := Lib.hid ((HA5.out.below hb).below hb7)
  have HX7 : Hid (OwnMo w5.heap.size W7 ⟨nax, .slice Ax nx cx, .slice Ay ny cy, .slice Az nz cz⟩ t0 KX) := Lib.hid (hox.below hb7)
  have HPX7 : Hid (MBox 35 W7 w6.heap.size ⟨nax, .slice Ax nx cx, .slice Ay ny cy, .slice Az nz cz⟩) := Lib.hid (by rw [hW7]; exact MBox.new 35 w6 ⟨nax, .slice Ax nx cx, .slice Ay ny cy, .slice Az nz cz⟩)
  have HWB7 := Lib.hid ((HWB5.out.below hb).below hb7)
  clear a0 a1 a2 a3 hb hb7 hox HA5 HWB5
  go_wp2_with fail
  rw [← hW7]
  refine (HTS.out _ HB7.out).mono ?_
  rintro e w8 ⟨vl, SL, rfl, hol, hb⟩
  have HB8 := Lib.hid (below_step HB7.out hb)
  have HA8 := Lib.hid (HA7.out.below hb)
  have HX8 := Lib.hid (HX7.out.below hb)
  have HPX8 := Lib.hid (HPX7.out.below hb)
  have HWB8 := Lib.hid (HWB7.out.below hb)
  have HL8 := Lib.hid hol
  have HO5 : Hid (W7.heap.size ≤ w8.heap.size) := Lib.hid hb.size
  have HSL : Hid (∀ b, SL b → W7.heap.size ≤ b ∧ b < w8.heap.size) := Lib.hid fun b h => hol.lt b h
  clear hb hol hW7 HA7 HX7 HPX7 HWB7
  obtain ⟨d0, d1, d2, d3⟩ := HPX8.out.tell
  go_wp2_with fail
  refine (HIM.out _ vl SL ⟨nax, .slice Ax nx cx, .slice Ay ny cy, .slice Az nz cz⟩ HFX.out w8 HL8.out).mono ?_
  rintro e w9 ⟨vg, rfl, hvg, hb⟩
  have HB9 := Lib.hid (below_step HB8.out hb)
  have HA9 := Lib.hid (HA8.out.below hb)
  have HX9 := Lib.hid (HX8.out.below hb)
  have HPX9 := Lib.hid (HPX8.out.below hb)
  have HWB9 := Lib.hid (HWB8.out.below hb)
  have HL9 := Lib.hid (HL8.out.below hb)
  have HWG9 := Lib.hid hvg
  have HSG : Hid (∀ b, vg.ownBlock = some b → w8.heap.size ≤ b) := Lib.hid fun b h => (hvg.lt h).1
  clear hb hvg d0 d1 d2 d3 HA8 HX8 HPX8 HWB8 HL8
  go_wp2_with fail
  refine (eqStrs_any vg vb N w9 HWG9.out.has HWB9.out.has).mono ?_
  rintro e w10 ⟨rfl, hb⟩
  have HB10 := Lib.hid (below_step HB9.out hb)
  have HA10 := Lib.hid (HA9.out.below hb)
  have HX10 := Lib.hid (HX9.out.below hb)
  have HPX10 := Lib.hid (HPX9.out.below hb)
  have HWB10 := Lib.hid (HWB9.out.below hb)
  have HL10 := Lib.hid (HL9.out.below hb)
  have HWG10 := Lib.hid (HWG9.out.below hb)
  clear hb HA9 HX9 HPX9 HWB9 HL9 HWG9
  have HK : Hid (∀ W, Below w10.heap.size w10 W → ((W.cell? ⟨w6.heap.size, 0, none⟩ = some (.string nax) ∧ W.cell? ⟨w6.heap.size, 1, none⟩ = some (.slice Ax nx cx) ∧ W.cell? ⟨w6.heap.size, 2, none⟩ = some (.slice Ay ny cy) ∧ W.cell? ⟨w6.heap.size, 3, none⟩ = some (.slice Az nz cz)) ∧ (W.cell? ⟨w.heap.size, 0, none⟩ = some (.string na) ∧ W.cell? ⟨w.heap.size, 1, none⟩ = some (.slice A1 n1 c1) ∧ W.cell? ⟨w.heap.size, 2, none⟩ = some (.slice A2 n2 c2) ∧ W.cell? ⟨w.heap.size, 3, none⟩ = some (.slice A3 n3 c3)) ∧ Below w10.heap.size w10 W)) := Lib.hid fun W hb => ⟨(HPX10.out.below hb).tell, (HA10.out.below hb).tell, hb⟩
  obtain ⟨⟨a0, a1, a2, a3⟩, ⟨d0, d1, d2, d3⟩, -⟩ := HK.out _ (Below.refl _ _)
  go_wp2
  go_region_held3 (fun W => (W.cell? ⟨w6.heap.size, 0, none⟩ = some (.string nax) ∧ W.cell? ⟨w6.heap.size, 1, none⟩ = some (.slice Ax nx cx) ∧ W.cell? ⟨w6.heap.size, 2, none⟩ = some (.slice Ay ny cy) ∧ W.cell? ⟨w6.heap.size, 3, none⟩ = some (.slice Az nz cz)) ∧ (W.cell? ⟨w.heap.size, 0, none⟩ = some (.string na) ∧ W.cell? ⟨w.heap.size, 1, none⟩ = some (.slice A1 n1 c1) ∧ W.cell? ⟨w.heap.size, 2, none⟩ = some (.slice A2 n2 c2) ∧ W.cell? ⟨w.heap.size, 3, none⟩ = some (.slice A3 n3 c3)) ∧ Below w10.heap.size w10 W) (first | exact HK.out _ (Below.refl _ _).drew | exact HK.out _ (below_step (by assumption : _ ∧ _ ∧ Below _ _ _).2.2 hbm) | go_keep)
    (first
      | (go_at_call 7; refine (HTM.out _ (below_step HB10.out (by assumption : _ ∧ _ ∧ Below _ _ _).2.2)).mono ?_; rintro e wr ⟨vr, SR, rfl, hor, hbm⟩)
      | (go_at_call 11; refine (HEM.out ⟨nax, .slice Ax nx cx, .slice Ay ny cy, .slice Az nz cz⟩ vr _ (HX10.out.rd.below (by assumption : _ ∧ _ ∧ Below _ _ _).2.2) hor.rd).mono ?_; rintro e w11 ⟨rfl, hbm⟩))
  have hb11 : Below w10.heap.size w10 w11 := (by assumption : _ ∧ _ ∧ Below w10.heap.size w10 w11).2.2
  have HB11 := Lib.hid (below_step HB10.out hb11)
  have HA11 := Lib.hid (HA10.out.below hb11)
  have HX11 := Lib.hid (HX10.out.below hb11)
  have HPX11 := Lib.hid (HPX10.out.below hb11)
  have HWB11 := Lib.hid (HWB10.out.below hb11)
  have HL11 := Lib.hid (HL10.out.below hb11)
  have HWG11 := Lib.hid (HWG10.out.below hb11)
  clear hb11 HK HA10 HX10 HPX10 HWB10 HL10 HWG10 hor a0 a1 a2 a3 d0 d1 d2 d3
  go_wp2_with fail
  refine (HTS.out _ HB11.out).mono ?_
  rintro e w12 ⟨vq, SQ, rfl, hoq, hb⟩
  have HB12 := Lib.hid (below_step HB11.out hb)
  have HA12 := Lib.hid (HA11.out.below hb)
  have HX12 := Lib.hid (HX11.out.below hb)
  have HPX12 := Lib.hid (HPX11.out.below hb)
  have HWB12 := Lib.hid (HWB11.out.below hb)
  have HL12 := Lib.hid (HL11.out.below hb)
  have HWG12 := Lib.hid (HWG11.out.below hb)
  have HQ12 := Lib.hid hoq.rd
  clear hb hoq HA11 HX11 HPX11 HWB11 HL11 HWG11
  go_wp2_with fail
  refine (HEQ.out _ _ _ HL12.out.rd HQ12.out).mono ?_
  rintro e w13 ⟨rfl, hb⟩
  have HB13 := Lib.hid (below_step HB12.out hb)
  have HA13 := Lib.hid (HA12.out.below hb)
  have HX13 := Lib.hid (HX12.out.below hb)
  have HPX13 := Lib.hid (HPX12.out.below hb)
  have HWB13 := Lib.hid (HWB12.out.below hb)
  have HL13 := Lib.hid (HL12.out.below hb)
  have HWG13 := Lib.hid (HWG12.out.below hb)
  clear hb HA12 HX12 HPX12 HWB12 HL12 HWG12 HQ12
  obtain ⟨d0, d1, d2, d3⟩ := HPX13.out.tell
  go_wp2_with fail
  refine (HMM.out _ ⟨nax, .slice Ax nx cx, .slice Ay ny cy, .slice Az nz cz⟩ KX w13 HX13.out).mono ?_
  rintro e w14 ⟨⟨k14, rfl, hk0, hk⟩, ht⟩
  have HB14 := Lib.hid (HB13.out.trans (ht.below (HB13.out.size) (fun b hb => by have := (HSX.out b hb).1; have := HO1.out; have := HO2.out; have := HO3.out; have := HO4.out; have := HO5.out; omega)))
  have HA14 : Hid (MBox 26 w14 w.heap.size ⟨na, .slice A1 n1 c1, .slice A2 n2 c2, .slice A3 n3 c3⟩) := Lib.hid ((ht.block _ HA13.out.lt (fun h => by have := (HSX.out _ h).1; have := HO1.out; have := HO2.out; have := HO3.out; have := HO4.out; have := HO5.out; omega)).trans HA13.out)
  have HWB14 := Lib.hid (row_apart9 HWB13.out ht (fun b h1 h2 => by have := (HSB.out b h1).2; have := (HSX.out b h2).1; omega))
  have HL14 := Lib.hid (HL13.out.apart ht (fun b h1 h2 => by have := (HSL.out b h1).1; have := (HSX.out b h2).2; have := HO1.out; have := HO2.out; have := HO3.out; have := HO4.out; have := HO5.out; omega))
  have HWG14 := Lib.hid (row_apart9 HWG13.out ht (fun b h1 h2 => by have := HSG.out b h1; have := (HSX.out b h2).2; have := HO1.out; have := HO2.out; have := HO3.out; have := HO4.out; have := HO5.out; omega))
  have HK0 := Lib.hid hk0
  have HK1 := Lib.hid hk
  clear ht hk hk0 d0 d1 d2 d3 HA13 HX13 HPX13 HWB13 HL13 HWG13
  go_wp2_with fail
  refine (HMS.out k14 _ vl SL w14 HL14.out HK0.out HK1.out).mono ?_
  rintro e w15 ⟨⟨k15, rfl, -, -⟩, ht⟩
  have HB15 := Lib.hid (HB14.out.trans (ht.below (HB14.out.size) (fun b hb => by have := (HSL.out b hb).1; have := HO1.out; have := HO2.out; have := HO3.out; have := HO4.out; have := HO5.out; omega)))
  have HA15 : Hid (MBox 26 w15 w.heap.size ⟨na, .slice A1 n1 c1, .slice A2 n2 c2, .slice A3 n3 c3⟩) := Lib.hid ((ht.block _ HA14.out.lt (fun h => by have := (HSL.out _ h).1; have := HO1.out; have := HO2.out; have := HO3.out; have := HO4.out; have := HO5.out; omega)).trans HA14.out)
  have HWB15 := Lib.hid (row_apart9 HWB14.out ht (fun b h1 h2 => by have := (HSB.out b h1).2; have := (HSL.out b h2).1; have := HO1.out; have := HO2.out; have := HO3.out; have := HO4.out; have := HO5.out; omega))
  have HWG15 := Lib.hid (row_apart9 HWG14.out ht (fun b h1 h2 => by have := HSG.out b h1; have := (HSL.out b h2).2; omega))
  have hk15 : ¬ (k15 : Int) < 0 := by omega
  clear ht HA14 HWB14 HL14 HWG14
  go_wp2_with fail
  refine (eqStrs_any vg vb N w15 HWG15.out.has HWB15.out.has).mono ?_
  rintro e w16 ⟨rfl, hb⟩
  have HB16 := Lib.hid (below_step HB15.out hb)
  have HA16 := Lib.hid (HA15.out.below hb)
  have HWB16 := Lib.hid (HWB15.out.below hb)
  have HWG16 := Lib.hid (HWG15.out.below hb)
  clear hb HA15 HWB15 HWG15
  go_wp2_with fail
  refine (markStrs1 _ vg N w16 HWG16.out HNL.out).mono ?_
  rintro e w17 ⟨rfl, hm, hg⟩
  have HB17 := Lib.hid (HB16.out.grown hg HB16.out.size (fun b hb => by have := HSG.out b hb; have := HO1.out; have := HO2.out; have := HO3.out; have := HO4.out; have := HO5.out; omega))
  have HA17 : Hid (MBox 26 w17 w.heap.size ⟨na, .slice A1 n1 c1, .slice A2 n2 c2, .slice A3 n3 c3⟩) := Lib.hid ((hg.block _ HA16.out.lt (fun h => by have := HSG.out _ h.symm; have := HO1.out; have := HO2.out; have := HO3.out; have := HO4.out; have := HO5.out; omega)).trans HA16.out)
  have HWB17 := Lib.hid (HWB16.out.other hg (fun b h1 h2 => by have := (HSB.out b h1).2; have := HSG.out b h2; have := HO1.out; have := HO2.out; have := HO3.out; have := HO4.out; have := HO5.out; omega))
  have HWG17 := Lib.hid hm
  have hn0 : ¬ (1 + (N.length : Int)) < 0 := by omega
  have hnn : ((1 + (N.length : Int)) != (1 + (N.length : Int))) = false := by simp
  clear hm hg HA16 HWB16 HWG16
  go_wp2_with fail
  refine (heldStrs1 vg N.length w17 HWG17.out.has HNL.out).mono ?_
  rintro e w18 ⟨rfl, hb⟩
  have HB18 := Lib.hid (below_step HB17.out hb)
  have HA18 := Lib.hid (HA17.out.below hb)
  have HWB18 := Lib.hid (HWB17.out.below hb)
  have HWG18 := Lib.hid (HWG17.out.below hb)
  clear hb HA17 HWB17 HWG17
  obtain ⟨a0, a1, a2, a3⟩ := HA18.out.tell
  go_wp2_with fail
  refine (HTM.out _ HB18.out).mono ?_
  rintro e w19 ⟨vm2, KM2, rfl, hom, hb⟩
  have HB19 := Lib.hid (below_step HB18.out hb)
  have HFM2 := Lib.hid hom.rd.forms
  have HWB19 := Lib.hid (HWB18.out.below hb)
  have HWG19 := Lib.hid (HWG18.out.below hb)
  clear hb hom HA18 HWB18 HWG18 a0 a1 a2 a3
  go_wp2_with fail
  refine (HTS.out _ HB19.out).mono ?_
  rintro e w20 ⟨vs2, SS2, rfl, hos, hb⟩
  have HB20 := Lib.hid (below_step HB19.out hb)
  have HL20 := Lib.hid hos
  have HWB20 := Lib.hid (HWB19.out.below hb)
  have HWG20 := Lib.hid (HWG19.out.below hb)
  clear hb hos HWB19 HWG19
  go_wp2_with fail
  refine (HIM.out _ vs2 SS2 vm2 HFM2.out w20 HL20.out).mono ?_
  rintro e w21 ⟨vh, rfl, hvh, hb⟩
  have HB21 := Lib.hid (below_step HB20.out hb)
  have HWB21 := Lib.hid (HWB20.out.below hb)
  have HWG21 := Lib.hid (HWG20.out.below hb)
  have HWH21 := Lib.hid hvh
  clear hb hvh HL20 HWB20 HWG20
  go_wp2_with fail
  refine (eqStrs_any vh vb N w21 HWH21.out.has HWB21.out.has).mono ?_
  rintro e w22 ⟨rfl, hb⟩
  have HB22 := Lib.hid (below_step HB21.out hb)
  have HWG22 := Lib.hid (HWG21.out.below hb)
  clear hb HWB21 HWG21 HWH21
  go_wp2_with fail
  refine (heldStrs1 vg N.length w22 HWG22.out.has HNL.out).mono ?_
  rintro e w23 ⟨rfl, hb⟩
  have HB23 := Lib.hid (below_step HB22.out hb)
  clear hb HWG22
  go_wp2
  go_ret
  exact ⟨rfl, HB23.out⟩

/-! ### THE ROW's STEP -/
set_option maxRecDepth 100000 in
theorem lifted (os : Os) (started : os.Started) (H : Type) (enc : TypeId × Value → H) :
    ReturnsInHanded {} Try.checked os 3 .any (Rows.fnExactUsedGroupsSpec.pre6 enc Try.prog Try.f3 Rows.fnExactUsedGroupsRow.domain false) (Rows.fnExactUsedGroupsSpec.post enc Try.prog Try.f3 false true false false) := by
  refine returnsInHanded_of_change (C := Try.checked) own started (by kernel_rfl) Try.func3
    (ChangeSpec.witness6 (enc := enc) (C := Try.checked) false ⟨#[], #[.agg #[.string ⟨#[]⟩, .slice none 0 0, .slice none 0 0, .slice none 0 0], .slice none 0 0], []⟩ 8 (by kernel_rfl) (by kernel_rfl) (by kernel_rfl) (by kernel_rfl)) ?_
  intro W base args ds gs before hval0 hW hcnd _
  have hval : ∀ (j : Nat) t v, Try.f3.params[j]? = some t → args[j]? = some v → Value.okWide Try.prog W .any base t v := hval0
  have hW' := hW
  obtain ⟨p, q, hA0, hV, rfl, hfz, hnd⟩ := hW
  have hA : DataW.TrodAll enc Try.prog W 0 (fun _ => true) true Try.f3.params.toList args.toList ds p := hA0
  rw [Try.params3] at hA hval
  obtain ⟨v0, vs0, d0, ds0, p0, q0, hargs, rfl, rfl, h0, r0⟩ := trodAll_cons hA
  obtain ⟨v1, vs1, d1, ds1, p1, q1, rfl, rfl, rfl, h1, r1⟩ := trodAll_cons r0
  obtain ⟨rfl, rfl, rfl⟩ := trodAll_nil r1
  obtain rfl : args = #[v0, v1] := by cases args; simp_all
  obtain ⟨rfl, rfl⟩ := trodVars_none hV
  obtain ⟨y0, t0, rfl, w0, s0⟩ := mo_open (hval 0 26 v0 rfl rfl) h0
  have k0 := h0
  have lt0 : ∀ x ∈ p0, x.block < W.heap.size := by obtain ⟨m, hm⟩ := k0; exact DataW.trod_lt m _ _ _ hm
  obtain ⟨a1, len1, cap1, rfl⟩ := okWide_slice Try.underlying23 (hval 1 23 v1 rfl rfl)
  have k1 := h1
  have lt1 : ∀ x ∈ p1, x.block < W.heap.size := by obtain ⟨m, hm⟩ := k1; exact DataW.trod_lt m _ _ _ hm
  obtain ⟨t1, w1, s1⟩ : ∃ l, (∃ d, RdL scK d W (.slice a1 len1 cap1) l) ∧ ∀ e, FitT ScWf e l := by
    obtain ⟨fuel, hf⟩ := h1
    obtain ⟨v, l, hcs, hw, hg⟩ := scs_open hf
    simp [Value.cells] at hcs
    subst hcs
    exact ⟨l, hw, hg⟩
  clear hA0 hval0
  refine (walk y0 t0 (.slice a1 len1 cap1) t1 W w0 s0 w1 s1).mono fun e W' ⟨he, bel⟩ => ?_
  subst he
  exact ⟨_, rfl, _, _, _, [], _, [], hW', trodAll_mk1 (shut_bool Try.underlying4 _), (trodAll_cons_mk (Below.trod laidOut (by kernel_rfl) (of_decide_eq_true (by kernel_rfl)) k0 bel lt0) (trodAll_cons_mk (Below.trod laidOut (by kernel_rfl) (of_decide_eq_true (by kernel_rfl)) k1 bel lt1) trodAll_mk0)), rfl, bel.frame _, fun h => by cases h⟩

theorem over : Rows.fnExactUsedGroupsRow.holds Try.pinned (OpenSpec.ofChange Rows.fnExactUsedGroupsSpec) :=
  OpenClaim.holds_of_wide 3 Try.f3 rfl rfl rfl rfl rfl rfl rfl ⟨rfl, rfl, rfl, rfl, rfl⟩ rfl rfl rfl rfl rfl (by kernel_rfl) Try.func3 (by kernel_rfl)
    (of_decide_eq_true (by kernel_rfl)) (by unfold Func.isWrapper; first | (rw [if_pos (by decide +kernel)]; kernel_rfl) | (rw [if_neg (by decide +kernel)]; exact ⟨rfl, rfl⟩))
    (fun os started H enc _ => lifted os started H enc)

theorem proved : Rows.FnExactUsedGroupsSaid := over
#print axioms proved
end Go.Proofs.Ytdkpleghpnflhaa.fnExactUsedGroups
