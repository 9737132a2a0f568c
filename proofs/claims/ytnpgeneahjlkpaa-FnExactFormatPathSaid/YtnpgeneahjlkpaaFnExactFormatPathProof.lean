/- For every path laws.FnExactFormatPath returns true: impl.FormatPath answers as spec.FormatPath does and writes into nothing (paths of more than 1048576 steps, tests and bytes the law itself lets pass); no condition. -/
import Derived.Test.YtnpgeneahjlkpaaPthV
import Derived.Test.YtnpgeneahjlkpaaPthE
import Derived.Test.YtnpgeneahjlkpaaRows
import Derived.WalkKit
import Derived.ProofKit
import Derived.OpenShut
import Derived.ShutString
import Derived.ChangeOld
import Derived.Below
namespace Go.Proofs.Ytnpgeneahjlkpaa.fnExactFormatPath
open Go.ChangeShapes Go.WideShapes Go.ChangeAt Go.RowKit
open Go.ChangeMaps (open_string shut_string)
set_option linter.unusedVariables false

theorem own : ownKnob Try.prog.godebug = none := by kernel_rfl
theorem laidOut : laidOutB Try.prog = true := by kernel_rfl

/-- a variable of the call's own that holds a path -/
def PBox (T : TypeId) (w : World) (b : Nat) (r : Bool) (u : Int) (sv : Value) : Prop := w.heap[b]? = some (.cells #[.bool r, .int .i64 u, sv] T (0, 0))
theorem PBox.below {T : TypeId} {w w' : World} {b : Nat} {r : Bool} {u : Int} {sv : Value} (h : PBox T w b r u sv) (hb : Below w.heap.size w w') : PBox T w' b r u sv := (hb.block b (Array.getElem?_eq_some_iff.1 h).1).trans h
theorem PBox.lt {T : TypeId} {w : World} {b : Nat} {r : Bool} {u : Int} {sv : Value} (h : PBox T w b r u sv) : b < w.heap.size := (Array.getElem?_eq_some_iff.1 h).1
theorem PBox.tell {T : TypeId} {w : World} {b : Nat} {r : Bool} {u : Int} {sv : Value} (h : PBox T w b r u sv) : w.cell? ⟨b, 0, none⟩ = some (.bool r) ∧ w.cell? ⟨b, 1, none⟩ = some (.int .i64 u) ∧ w.cell? ⟨b, 2, none⟩ = some sv := three_cells' h

set_option maxRecDepth 100000 in
set_option maxHeartbeats 16000000 in
theorem walk (y0 : PthV) (t0 : Pth) (w : World) (hin : HasP7 w y0 t0) (s0 : PthWf t0) :
    Calls Try.prog 5 #[y0.val] w fun e w' => e = .returned (.bool true) ∧ Below w.heap.size w w' := by
  have HSA := Lib.hid (fun x (h0 : 0 ≤ x) (h1 : x ≤ 1048576) W (hb : Below w.heap.size w W) => szPth_any y0 t0 s0 x h0 h1 W (hin.below hb))
  have HTA := Lib.hid (fun hz W (hb : Below w.heap.size w W) => toPth_any y0 t0 W (hin.below hb) hz)
  obtain ⟨A, c, h1, -⟩ := hin.st.at
  generalize t0.st.length = n at h1
  obtain ⟨r0, u0, v0⟩ := y0
  dsimp only at h1
  subst h1
  have HB0 := Lib.hid (Below.refl w.heap.size w)
  clear hin s0
  obtain ⟨b, hb⟩ : ∃ b, b = fmtA t0 := ⟨_, rfl⟩
  have HSP : Hid (PthSz t0 → ∀ v W, HasP7 W v t0 → Calls Try.prog 20 #[v.val] W fun e w' => e = .returned (.string b) ∧ Below W.heap.size W w') := Lib.hid fun hz v W h => by rw [hb]; exact sFmt_any v t0 W h hz
  have HIM : Hid (PthSz t0 → ∀ v W, HasP7 W v t0 → HasSC W v.sv t0.st → Calls Try.prog 22 #[v.val] W fun e w' => e = .returned (.string b) ∧ Below W.heap.size W w') := Lib.hid fun hz v W h hsc => by rw [hb]; exact iFmt_any v t0 W h hsc hz
  have hbb : (b.toList == b.toList) = true := by simp
  clear hb
  go_enter Try.func5, Try.ntmps5
  go_wp2_with fail
  refine (HSA.out 1048576 (by omega) (by omega) _ (below_al HB0.out _)).mono ?_
  rintro e w1 ⟨⟨x, rfl, hx, hx1, hx2⟩, hb1⟩
  have HB1 := Lib.hid (below_step (below_al HB0.out _) hb1)
  by_cases hx0 : x < 0
  · clear hx
    go_wp2
    go_ret
    exact ⟨rfl, HB1.out⟩
  have HZ0 := Lib.hid (hx (by omega))
  have HA1 : Hid (PBox 24 w1 w.heap.size r0 u0 (.slice A n c)) := Lib.hid ((hb1.block _ (by simp)).trans (alloc_new_at' _ _ rfl))
  have HTA := Lib.hid (HTA.out HZ0.out)
  have HSP := Lib.hid (HSP.out HZ0.out)
  have HIM := Lib.hid (HIM.out HZ0.out)
  clear hx hb1 hx1 hx2
  obtain ⟨a0, a1, a2⟩ := HA1.out.tell
  go_wp2_with fail
  refine (HTA.out _ HB1.out).mono ?_
  rintro e w2 ⟨va, SA, rfl, hoa, hb2⟩
  have HB2 := Lib.hid (below_step HB1.out hb2)
  have HA2 := Lib.hid (HA1.out.below hb2)
  have HOA := Lib.hid hoa
  clear a0 a1 a2 hb2 hoa HA1
  go_wp2_with fail
  refine (HSP.out va _ HOA.out.has).mono ?_
  rintro e w3 ⟨rfl, hb3⟩
  have HB3 := Lib.hid (below_step HB2.out hb3)
  have HA3 := Lib.hid (HA2.out.below hb3)
  clear hb3 HA2 HOA
  obtain ⟨a0, a1, a2⟩ := HA3.out.tell
  go_wp2_with fail
  refine (HTA.out _ HB3.out).mono ?_
  rintro e w4 ⟨vx, SX, rfl, hox, hb⟩
  obtain ⟨Ax, nx, cx, g1⟩ : ∃ A n c, vx.sv = .slice A n c := by obtain ⟨A, c, hv, _⟩ := hox.has.st.at; exact ⟨A, _, c, hv⟩
  obtain ⟨rx, ux, svx⟩ := vx
  dsimp only at g1
  subst g1
  have HB4 := Lib.hid (below_step HB3.out hb)
  have HA4 := Lib.hid (HA3.out.below hb)
  have HX4 := Lib.hid hox.has
  have HC4 := Lib.hid (OwnS.hasC hox.st)
  clear a0 a1 a2 hb hox HA3
  go_wp2_with fail
  refine (HIM.out ⟨rx, ux, .slice Ax nx cx⟩ _ (HX4.out.below (below_al (Below.refl _ _) _)) (HasSC.below HC4.out (below_al (Below.refl _ _) _))).mono ?_
  rintro e w6 ⟨rfl, hb⟩
  have hbE := below_step (below_al (Below.refl w4.heap.size w4) (.cells #[.bool rx, .int .i64 ux, .slice Ax nx cx] 32)) hb
  have HB6 := Lib.hid (below_step HB4.out hbE)
  have HA6 := Lib.hid (HA4.out.below hbE)
  have HX6 := Lib.hid (HX4.out.below hbE)
  have HPX6 : Hid (PBox 32 w6 w4.heap.size rx ux (.slice Ax nx cx)) := Lib.hid ((hb.block _ (by simp)).trans (alloc_new_at' _ _ rfl))
  clear hb hbE HA4 HX4 HC4
  have HK : Hid (∀ W, Below w6.heap.size w6 W → ((W.cell? ⟨w4.heap.size, 0, none⟩ = some (.bool rx) ∧ W.cell? ⟨w4.heap.size, 1, none⟩ = some (.int .i64 ux) ∧ W.cell? ⟨w4.heap.size, 2, none⟩ = some (.slice Ax nx cx)) ∧ (W.cell? ⟨w.heap.size, 0, none⟩ = some (.bool r0) ∧ W.cell? ⟨w.heap.size, 1, none⟩ = some (.int .i64 u0) ∧ W.cell? ⟨w.heap.size, 2, none⟩ = some (.slice A n c)) ∧ Below w6.heap.size w6 W)) := Lib.hid fun W hb => ⟨(HPX6.out.below hb).tell, (HA6.out.below hb).tell, hb⟩
  obtain ⟨⟨a0, a1, a2⟩, ⟨c0, c1, c2⟩, -⟩ := HK.out _ (Below.refl _ _)
  go_wp2
  go_region_held3 (fun W => (W.cell? ⟨w4.heap.size, 0, none⟩ = some (.bool rx) ∧ W.cell? ⟨w4.heap.size, 1, none⟩ = some (.int .i64 ux) ∧ W.cell? ⟨w4.heap.size, 2, none⟩ = some (.slice Ax nx cx)) ∧ (W.cell? ⟨w.heap.size, 0, none⟩ = some (.bool r0) ∧ W.cell? ⟨w.heap.size, 1, none⟩ = some (.int .i64 u0) ∧ W.cell? ⟨w.heap.size, 2, none⟩ = some (.slice A n c)) ∧ Below w6.heap.size w6 W) (first | exact HK.out _ (Below.refl _ _).drew | exact HK.out _ (below_step (by assumption : _ ∧ _ ∧ Below _ _ _).2.2 hbm) | go_keep)
    (first
      | (go_at_call 21; refine (HTA.out _ (below_step HB6.out (by assumption : _ ∧ _ ∧ Below _ _ _).2.2)).mono ?_; rintro e wr ⟨vr, SR, rfl, hor, hbm⟩)
      | (go_at_call 23; refine (eqPth_any ⟨rx, ux, .slice Ax nx cx⟩ vr t0 _ (HX6.out.below (by assumption : _ ∧ _ ∧ Below _ _ _).2.2) hor.has).mono ?_; rintro e w7 ⟨rfl, hbm⟩))
  have HB7 := below_step HB6.out (by assumption : _ ∧ _ ∧ Below w6.heap.size w6 w7).2.2
  clear HK HX6 HPX6 HA6 hor a0 a1 a2 c0 c1 c2
  go_wp2
  go_ret
  exact ⟨rfl, HB7⟩

/-! ### THE ROW's STEP -/
set_option maxRecDepth 100000 in
theorem lifted (os : Os) (started : os.Started) (H : Type) (enc : TypeId × Value → H) :
    ReturnsInHanded {} Try.checked os 5 .any (Rows.fnExactFormatPathSpec.pre6 enc Try.prog Try.f5 Rows.fnExactFormatPathRow.domain false) (Rows.fnExactFormatPathSpec.post enc Try.prog Try.f5 false true false false) := by
  refine returnsInHanded_of_change (C := Try.checked) own started (by kernel_rfl) Try.func5
    (ChangeSpec.witness6 (enc := enc) (C := Try.checked) false ⟨#[], #[.agg #[.bool false, .int .i64 0, .slice none 0 0]], []⟩ 8 (by kernel_rfl) (by kernel_rfl) (by kernel_rfl) (by kernel_rfl)) ?_
  intro W base args ds gs before hval0 hW hcnd _
  have hval : ∀ (j : Nat) t v, Try.f5.params[j]? = some t → args[j]? = some v → Value.okWide Try.prog W .any base t v := hval0
  have hW' := hW
  obtain ⟨p, q, hA0, hV, rfl, hfz, hnd⟩ := hW
  have hA : DataW.TrodAll enc Try.prog W 0 (fun _ => true) true Try.f5.params.toList args.toList ds p := hA0
  rw [Try.params5] at hA hval
  obtain ⟨v0, vs0, d0, ds0, p0, q0, hargs, rfl, rfl, h0, r0⟩ := trodAll_cons hA
  obtain ⟨rfl, rfl, rfl⟩ := trodAll_nil r0
  obtain rfl : args = #[v0] := by cases args; simp_all
  obtain ⟨rfl, rfl⟩ := trodVars_none hV
  obtain ⟨y0, t0, rfl, w0, s0⟩ := pth_open (hval 0 24 v0 rfl rfl) h0
  have k0 := h0
  have lt0 : ∀ x ∈ p0, x.block < W.heap.size := by obtain ⟨m, hm⟩ := k0; exact DataW.trod_lt m _ _ _ hm
  clear hA0 hval0
  refine (walk y0 t0 W w0 s0).mono fun e W' ⟨he, bel⟩ => ?_
  subst he
  exact ⟨_, rfl, _, _, _, [], _, [], hW', trodAll_mk1 (shut_bool Try.underlying4 _), (trodAll_cons_mk (Below.trod laidOut (by kernel_rfl) (of_decide_eq_true (by kernel_rfl)) k0 bel lt0) trodAll_mk0), rfl, bel.frame _, fun h => by cases h⟩

theorem over : Rows.fnExactFormatPathRow.holds Try.pinned (OpenSpec.ofChange Rows.fnExactFormatPathSpec) :=
  OpenClaim.holds_of_wide 5 Try.f5 rfl rfl rfl rfl rfl rfl rfl ⟨rfl, rfl, rfl, rfl, rfl⟩ rfl rfl rfl rfl rfl (by kernel_rfl) Try.func5 (by kernel_rfl)
    (of_decide_eq_true (by kernel_rfl)) (by unfold Func.isWrapper; first | (rw [if_pos (by decide +kernel)]; kernel_rfl) | (rw [if_neg (by decide +kernel)]; exact ⟨rfl, rfl⟩))
    (fun os started H enc _ => lifted os started H enc)

theorem proved : Rows.FnExactFormatPathSaid := over
#print axioms proved
end Go.Proofs.Ytnpgeneahjlkpaa.fnExactFormatPath
