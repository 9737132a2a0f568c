/- For every expression laws.FnExactIsExpr returns true: impl.IsExpr answers as spec.IsExpr does and writes into nothing (expressions of more than 1048576 parts and bytes the law itself lets pass); no condition. -/
import Derived.Test.YtnpgeneahjlkpaaExV
import Derived.Test.YtnpgeneahjlkpaaRows
import Derived.WalkKit
import Derived.ProofKit
import Derived.OpenShut
import Derived.ShutString
import Derived.ChangeOld
import Derived.Below
namespace Go.Proofs.Ytnpgeneahjlkpaa.fnExactIsExpr
open Go.ChangeShapes Go.WideShapes Go.ChangeAt Go.RowKit
open Go.ChangeMaps (open_string shut_string)
set_option linter.unusedVariables false

theorem own : ownKnob Try.prog.godebug = none := by kernel_rfl
theorem laidOut : laidOutB Try.prog = true := by kernel_rfl

set_option maxRecDepth 100000 in
set_option maxHeartbeats 16000000 in
theorem walk (y0 : ExR) (t0 : Tr ExX) (D0 : Nat) (w : World) (hin : RdN exK D0 w y0 t0) (s0 : ExWf t0.x ∧ FitT ExWf D0 t0.kids) :
    Calls Try.prog 3 #[y0.val] w fun e w' => e = .returned (.bool true) ∧ Below w.heap.size w w' := by
  have HSA := Lib.hid (fun W (hb : Below w.heap.size w W) => szE_any D0 y0 t0 W 1048576 (hin.below hb) s0.2 s0.1 (by omega) (by omega))
  have HTA := Lib.hid (fun hx hk W (hb : Below w.heap.size w W) => toE_any D0 y0 t0 W (hin.below hb) hx hk)
  obtain ⟨b, hb⟩ : ∃ b, b = dB (okE 8 t0) := ⟨_, rfl⟩
  have HSP : Hid (ExSz t0.x → SizT ExSz D0 t0.kids → DeepT 1048576 t0.kids → ∀ v W, RdN exK D0 W v t0 → Calls Try.prog 9 #[v.val] W fun e w' => e = .returned (.bool b) ∧ Below W.heap.size W w') := Lib.hid fun h1 h2 h3 v W h => by rw [hb]; exact sIsEx_any D0 v t0 W h h1 h2 h3
  have HIM : Hid (ExSz t0.x → SizT ExSz D0 t0.kids → ∀ v W, RdN exC D0 W v t0 → Calls Try.prog 11 #[v.val] W fun e w' => e = .returned (.bool b) ∧ Below W.heap.size W w') := Lib.hid fun h1 h2 v W h => by rw [hb]; exact iIsEx_any D0 v t0 W h h1 h2
  have hbb : (b != b) = false := by simp
  obtain ⟨A, c, h1⟩ := hin.2.form
  generalize t0.kids.length = n at h1
  obtain ⟨A3, n3, c3, h3⟩ : ∃ A n c, y0.sv = .slice A n c := by obtain ⟨A, c, hv, _⟩ := hin.1.2.st.at; exact ⟨A, _, c, hv⟩
  obtain ⟨o0, nu0, tx0, ro0, up0, sv0, v0⟩ := y0
  change v0 = _ at h1
  dsimp only at h3
  subst h1 h3
  have HB0 := Lib.hid (Below.refl w.heap.size w)
  have HA0 := Lib.hid (EBox.new 27 w ⟨o0, nu0, tx0, ro0, up0, .slice A3 n3 c3, .slice A n c⟩)
  clear hin s0 hb
  go_enter Try.func3, Try.ntmps3
  go_wp2_with fail
  refine (HSA.out _ (below_al HB0.out _)).mono ?_
  rintro e w1 ⟨x, rfl, hx, hx1, hx2, hb1⟩
  have HB1 := Lib.hid (below_step (below_al HB0.out _) hb1)
  by_cases hx0 : x < 0
  · clear hx
    go_wp2
    go_ret
    exact ⟨rfl, HB1.out⟩
  have HZ := Lib.hid (hx (by omega))
  have HDP : Hid (DeepT 1048576 t0.kids) := Lib.hid (DeepT.more HZ.out.2 (by omega))
  have HA1 := Lib.hid (HA0.out.below hb1)
  have HTA := Lib.hid (HTA.out HZ.out.1.1 HZ.out.1.2)
  have HSP := Lib.hid (HSP.out HZ.out.1.1 HZ.out.1.2 HDP.out)
  have HIM := Lib.hid (HIM.out HZ.out.1.1 HZ.out.1.2)
  clear hx hb1 hx1 hx2 HZ HDP HA0
  obtain ⟨a0, a1, a2, a3, a4, a5, a6⟩ := HA1.out.tell
  go_wp2_with fail
  refine (HTA.out _ HB1.out).mono ?_
  rintro e w2 ⟨va, SA, rfl, hoa, hb2⟩
  have HB2 := Lib.hid (below_step HB1.out hb2)
  have HA2 := Lib.hid (HA1.out.below hb2)
  have HOA := Lib.hid hoa
  clear a0 a1 a2 a3 a4 a5 a6 hb2 hoa HA1
  go_wp2_with fail
  refine (HSP.out va _ HOA.out.rd).mono ?_
  rintro e w3 ⟨rfl, hb3⟩
  have HB3 := Lib.hid (below_step HB2.out hb3)
  have HA3 := Lib.hid (HA2.out.below hb3)
  clear hb3 HA2 HOA
  obtain ⟨a0, a1, a2, a3, a4, a5, a6⟩ := HA3.out.tell
  go_wp2_with fail
  refine (HTA.out _ HB3.out).mono ?_
  rintro e w4 ⟨vx, SX, rfl, hox, hb⟩
  obtain ⟨Ax, nx, cx, g1⟩ : ∃ A n c, vx.kv = .slice A n c := by obtain ⟨A, c, hv⟩ := hox.rd.2.form; exact ⟨A, _, c, hv⟩
  obtain ⟨Ay, ny, cy, g2⟩ : ∃ A n c, vx.sv = .slice A n c := by obtain ⟨A, c, hv, _⟩ := hox.rd.1.2.st.at; exact ⟨A, _, c, hv⟩
  obtain ⟨ox, nux, tx, rox, upx, svx, kvx⟩ := vx
  dsimp only at g1 g2
  subst g1 g2
  have HB4 := Lib.hid (below_step HB3.out hb)
  have HA4 := Lib.hid (HA3.out.below hb)
  have HX4 := Lib.hid hox.rd
  have HC4 := Lib.hid (rdNC_of hox)
  clear a0 a1 a2 a3 a4 a5 a6 hb hox HA3
  go_wp2_with fail
  refine (HIM.out ⟨ox, nux, tx, rox, upx, .slice Ay ny cy, .slice Ax nx cx⟩ _ (HC4.out.below (below_al (Below.refl _ _) _))).mono ?_
  rintro e w6 ⟨rfl, hb⟩
  have hbE := below_step (below_al (Below.refl w4.heap.size w4) (.cells (ExR.enc ⟨ox, nux, tx, rox, upx, .slice Ay ny cy, .slice Ax nx cx⟩).toArray 35)) hb
  have HB6 := Lib.hid (below_step HB4.out hbE)
  have HA6 := Lib.hid (HA4.out.below hbE)
  have HX6 := Lib.hid (HX4.out.below hbE)
  have HPX6 := Lib.hid ((EBox.new 35 w4 ⟨ox, nux, tx, rox, upx, .slice Ay ny cy, .slice Ax nx cx⟩).below hb)
  clear hb hbE HA4 HX4 HC4
  have HK : Hid (∀ W, Below w6.heap.size w6 W → ((W.cell? ⟨w4.heap.size, 0, none⟩ = some (.int .i64 ox) ∧ W.cell? ⟨w4.heap.size, 1, none⟩ = some (.int .i64 nux) ∧ W.cell? ⟨w4.heap.size, 2, none⟩ = some (.string tx) ∧ W.cell? ⟨w4.heap.size, 3, none⟩ = some (.bool rox) ∧ W.cell? ⟨w4.heap.size, 4, none⟩ = some (.int .i64 upx) ∧ W.cell? ⟨w4.heap.size, 5, none⟩ = some (.slice Ay ny cy) ∧ W.cell? ⟨w4.heap.size, 6, none⟩ = some (.slice Ax nx cx)) ∧ (W.cell? ⟨w.heap.size, 0, none⟩ = some (.int .i64 o0) ∧ W.cell? ⟨w.heap.size, 1, none⟩ = some (.int .i64 nu0) ∧ W.cell? ⟨w.heap.size, 2, none⟩ = some (.string tx0) ∧ W.cell? ⟨w.heap.size, 3, none⟩ = some (.bool ro0) ∧ W.cell? ⟨w.heap.size, 4, none⟩ = some (.int .i64 up0) ∧ W.cell? ⟨w.heap.size, 5, none⟩ = some (.slice A3 n3 c3) ∧ W.cell? ⟨w.heap.size, 6, none⟩ = some (.slice A n c)) ∧ Below w6.heap.size w6 W)) := Lib.hid fun W hb => ⟨(HPX6.out.below hb).tell, (HA6.out.below hb).tell, hb⟩
  obtain ⟨⟨a0, a1, a2, a3, a4, a5, a6⟩, ⟨c0, c1, c2, c3', c4, c5, c6⟩, -⟩ := HK.out _ (Below.refl _ _)
  go_wp2
  go_region_held3 (fun W => (W.cell? ⟨w4.heap.size, 0, none⟩ = some (.int .i64 ox) ∧ W.cell? ⟨w4.heap.size, 1, none⟩ = some (.int .i64 nux) ∧ W.cell? ⟨w4.heap.size, 2, none⟩ = some (.string tx) ∧ W.cell? ⟨w4.heap.size, 3, none⟩ = some (.bool rox) ∧ W.cell? ⟨w4.heap.size, 4, none⟩ = some (.int .i64 upx) ∧ W.cell? ⟨w4.heap.size, 5, none⟩ = some (.slice Ay ny cy) ∧ W.cell? ⟨w4.heap.size, 6, none⟩ = some (.slice Ax nx cx)) ∧ (W.cell? ⟨w.heap.size, 0, none⟩ = some (.int .i64 o0) ∧ W.cell? ⟨w.heap.size, 1, none⟩ = some (.int .i64 nu0) ∧ W.cell? ⟨w.heap.size, 2, none⟩ = some (.string tx0) ∧ W.cell? ⟨w.heap.size, 3, none⟩ = some (.bool ro0) ∧ W.cell? ⟨w.heap.size, 4, none⟩ = some (.int .i64 up0) ∧ W.cell? ⟨w.heap.size, 5, none⟩ = some (.slice A3 n3 c3) ∧ W.cell? ⟨w.heap.size, 6, none⟩ = some (.slice A n c)) ∧ Below w6.heap.size w6 W) (first | exact HK.out _ (Below.refl _ _).drew | exact HK.out _ (below_step (by assumption : _ ∧ _ ∧ Below _ _ _).2.2 hbm) | go_keep)
    (first
      | (go_at_call 10; refine (HTA.out _ (below_step HB6.out (by assumption : _ ∧ _ ∧ Below _ _ _).2.2)).mono ?_; rintro e wr ⟨vr, SR, rfl, hor, hbm⟩)
      | (go_at_call 12; refine (eqE_any D0 ⟨ox, nux, tx, rox, upx, .slice Ay ny cy, .slice Ax nx cx⟩ vr t0 _ (HX6.out.below (by assumption : _ ∧ _ ∧ Below _ _ _).2.2) hor.rd).mono ?_; rintro e w7 ⟨rfl, hbm⟩))
  have HB7 := below_step HB6.out (by assumption : _ ∧ _ ∧ Below w6.heap.size w6 w7).2.2
  clear HK HX6 HPX6 HA6 hor a0 a1 a2 a3 a4 a5 a6 c0 c1 c2 c3' c4 c5 c6
  go_wp2
  go_ret
  exact ⟨rfl, HB7⟩

/-! ### THE ROW's STEP -/
set_option maxRecDepth 100000 in
theorem lifted (os : Os) (started : os.Started) (H : Type) (enc : TypeId × Value → H) :
    ReturnsInHanded {} Try.checked os 3 .any (Rows.fnExactIsExprSpec.pre6 enc Try.prog Try.f3 Rows.fnExactIsExprRow.domain false) (Rows.fnExactIsExprSpec.post enc Try.prog Try.f3 false true false false) := by
  refine returnsInHanded_of_change (C := Try.checked) own started (by kernel_rfl) Try.func3
    (ChangeSpec.witness6 (enc := enc) (C := Try.checked) false ⟨#[], #[.agg #[.int .i64 0, .int .i64 0, .string ⟨#[]⟩, .bool false, .int .i64 0, .slice none 0 0, .slice none 0 0]], []⟩ 8 (by kernel_rfl) (by kernel_rfl) (by kernel_rfl) (by kernel_rfl)) ?_
  intro W base args ds gs before hval0 hW hcnd _
  have hval : ∀ (j : Nat) t v, Try.f3.params[j]? = some t → args[j]? = some v → Value.okWide Try.prog W .any base t v := hval0
  have hW' := hW
  obtain ⟨p, q, hA0, hV, rfl, hfz, hnd⟩ := hW
  have hA : DataW.TrodAll enc Try.prog W 0 (fun _ => true) true Try.f3.params.toList args.toList ds p := hA0
  rw [Try.params3] at hA hval
  obtain ⟨v0, vs0, d0, ds0, p0, q0, hargs, rfl, rfl, h0, r0⟩ := trodAll_cons hA
  obtain ⟨rfl, rfl, rfl⟩ := trodAll_nil r0
  obtain rfl : args = #[v0] := by cases args; simp_all
  obtain ⟨rfl, rfl⟩ := trodVars_none hV
  obtain ⟨y0, t0, D0, rfl, w0, s0⟩ := ex_open (hval 0 27 v0 rfl rfl) h0
  have k0 := h0
  have lt0 : ∀ x ∈ p0, x.block < W.heap.size := by obtain ⟨m, hm⟩ := k0; exact DataW.trod_lt m _ _ _ hm
  clear hA0 hval0
  refine (walk y0 t0 D0 W w0 s0).mono fun e W' ⟨he, bel⟩ => ?_
  subst he
  exact ⟨_, rfl, _, _, _, [], _, [], hW', trodAll_mk1 (shut_bool Try.underlying4 _), (trodAll_cons_mk (Below.trod laidOut (by kernel_rfl) (of_decide_eq_true (by kernel_rfl)) k0 bel lt0) trodAll_mk0), rfl, bel.frame _, fun h => by cases h⟩

theorem over : Rows.fnExactIsExprRow.holds Try.pinned (OpenSpec.ofChange Rows.fnExactIsExprSpec) :=
  OpenClaim.holds_of_wide 3 Try.f3 rfl rfl rfl rfl rfl rfl rfl ⟨rfl, rfl, rfl, rfl, rfl⟩ rfl rfl rfl rfl rfl (by kernel_rfl) Try.func3 (by kernel_rfl)
    (of_decide_eq_true (by kernel_rfl)) (by unfold Func.isWrapper; first | (rw [if_pos (by decide +kernel)]; kernel_rfl) | (rw [if_neg (by decide +kernel)]; exact ⟨rfl, rfl⟩))
    (fun os started H enc _ => lifted os started H enc)

theorem proved : Rows.FnExactIsExprSaid := over
#print axioms proved
end Go.Proofs.Ytnpgeneahjlkpaa.fnExactIsExpr
