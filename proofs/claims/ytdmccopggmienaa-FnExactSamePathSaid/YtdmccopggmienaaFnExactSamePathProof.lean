/- For every two paths laws.FnExactSamePath returns true: impl.SamePath answers as spec.SamePath does and writes into neither (paths of more than 1048576 steps, tests and bytes the law itself lets pass); no condition. -/
import Derived.Test.YtdmccopggmienaaPthD
import Derived.Test.YtdmccopggmienaaPthE
import Derived.Test.YtdmccopggmienaaRows
import Derived.WalkKit
import Derived.ProofKit
import Derived.OpenShut
import Derived.ShutString
import Derived.ChangeOld
import Derived.Below
namespace Go.Proofs.Ytdmccopggmienaa.fnExactSamePath
open Go.ChangeShapes Go.WideShapes Go.ChangeAt Go.RowKit
open Go.ChangeMaps (open_string shut_string)
set_option linter.unusedVariables false

theorem own : ownKnob Try.prog.godebug = none := by kernel_rfl
theorem laidOut : laidOutB Try.prog = true := by kernel_rfl

/-- a variable of the call's own that holds a path -/
def PBox (T : TypeId) (w : World) (b : Nat) (r : Bool) (u : Int) (sv : Value) : Prop := w.heap[b]? = some (.cells #[.bool r, .int .i64 u, sv] T (0, 0))
theorem PBox.below {T : TypeId} {w w' : World} {b : Nat} {r : Bool} {u : Int} {sv : Value} (h : PBox T w b r u sv) (hb : Below w.heap.size w w') : PBox T w' b r u sv := (hb.block b (Array.getElem?_eq_some_iff.1 h).1).trans h
theorem PBox.lt {T : TypeId} {w : World} {b : Nat} {r : Bool} {u : Int} {sv : Value} (h : PBox T w b r u sv) : b < w.heap.size := (Array.getElem?_eq_some_iff.1 h).1
theorem PBox.tell {T : TypeId} {w : World} {b : Nat} {r : Bool} {u : Int} {sv : Value} (h : PBox T w b r u sv) : w.cell? ⟨b, 0, none⟩ = some (.bool r) ∧ w.cell? ⟨b, 1, none⟩ = some (.int .i64 u) ∧ w.cell? ⟨b, 2, none⟩ = some sv := three_cells h

set_option maxRecDepth 100000 in
set_option maxHeartbeats 16000000 in
theorem walk (y0 : PthV) (t0 : Pth) (y1 : PthV) (t1 : Pth) (w : World) (hin0 : HasP7 w y0 t0) (s0 : PthWf t0) (hin1 : HasP7 w y1 t1) (s1 : PthWf t1) :
    Calls Try.prog 6 #[y0.val, y1.val] w fun e w' => e = .returned (.bool true) ∧ Below w.heap.size w w' := by
  have HSA := Lib.hid (fun x (h0 : 0 ≤ x) (h1 : x ≤ 1048576) W (hb : Below w.heap.size w W) => szPth_any y0 t0 s0 x h0 h1 W (hin0.below hb))
  have HSB := Lib.hid (fun x (h0 : 0 ≤ x) (h1 : x ≤ 1048576) W (hb : Below w.heap.size w W) => szPth_any y1 t1 s1 x h0 h1 W (hin1.below hb))
  have HTA := Lib.hid (fun hz W (hb : Below w.heap.size w W) => toPth_any y0 t0 W (hin0.below hb) hz)
  have HTB := Lib.hid (fun hz W (hb : Below w.heap.size w W) => toPth_any y1 t1 W (hin1.below hb) hz)
  obtain ⟨A, c, h1, -⟩ := hin0.st.at
  obtain ⟨A', c', h2, -⟩ := hin1.st.at
  generalize t0.st.length = n at h1
  generalize t1.st.length = m at h2
  obtain ⟨r0, u0, v0⟩ := y0
  obtain ⟨r1, u1, v1⟩ := y1
  dsimp only at h1 h2
  subst h1 h2
  have HB0 := Lib.hid (Below.refl w.heap.size w)
  clear hin0 hin1 s0 s1
  obtain ⟨b, hb⟩ : ∃ b, b = dB (t0 = t1) := ⟨_, rfl⟩
  have HSP : Hid (∀ u v W, HasP7 W u t0 → HasP7 W v t1 → Calls Try.prog 18 #[u.val, v.val] W fun e w' => e = .returned (.bool b) ∧ Below W.heap.size W w') := Lib.hid fun u v W h1 h2 => by rw [hb]; exact sSame_any u v t0 t1 W h1 h2
  have HIM : Hid (∀ u v W, HasP7 W u t0 → HasP7 W v t1 → Calls Try.prog 19 #[u.val, v.val] W fun e w' => e = .returned (.bool b) ∧ Below W.heap.size W w') := Lib.hid fun u v W h1 h2 => by rw [hb]; exact iSame_any u v t0 t1 W h1 h2
  have hbb : (b != b) = false := by simp
  clear hb
  go_enter Try.func6, Try.ntmps6
  go_wp2_with fail
  refine (HSA.out 1048576 (by omega) (by omega) _ (below_al (below_al HB0.out _) _)).mono ?_
  rintro e w1 ⟨⟨x, rfl, hx, hx1, hx2⟩, hb1⟩
  have HB1 := Lib.hid (below_step (below_al (below_al HB0.out _) _) hb1)
  by_cases hx0 : x < 0
  · clear hx
    go_wp2
    go_ret
    exact ⟨rfl, HB1.out⟩
  have HZ0 := Lib.hid (hx (by omega))
  have HA1 : Hid (PBox 24 w1 w.heap.size r0 u0 (.slice A n c)) := Lib.hid ((hb1.block _ (by simp; omega)).trans (by rw [Below.heap_alloc _ _ _ (by simp)]; exact alloc_new_at' _ _ rfl))
  have HC1 : Hid (PBox 24 w1 (w.heap.size + 1) r1 u1 (.slice A' m c')) := Lib.hid ((hb1.block _ (by simp)).trans (alloc_new_at' _ _ (by simp)))
  clear hx hb1
  obtain ⟨a0, a1, a2⟩ := HC1.out.tell
  go_wp2_with fail
  refine (HSB.out x (by omega) hx2 _ HB1.out).mono ?_
  rintro e w2 ⟨⟨y, rfl, hy, hy1, hy2⟩, hb2⟩
  have HB2 := Lib.hid (below_step HB1.out hb2)
  clear a0 a1 a2
  by_cases hy0 : y < 0
  · clear hy
    go_wp2
    go_ret
    exact ⟨rfl, HB2.out⟩
  have HZ1 := Lib.hid (hy (by omega))
  have HA2 := Lib.hid (HA1.out.below hb2)
  have HC2 := Lib.hid (HC1.out.below hb2)
  have HTA := Lib.hid (HTA.out HZ0.out)
  have HTB := Lib.hid (HTB.out HZ1.out)
  clear hy hb2 HA1 HC1 hx1 hx2 hy1 hy2
  have HK8 : Hid (∀ W, Below w2.heap.size w2 W → ((W.cell? ⟨w.heap.size, 0, none⟩ = some (.bool r0) ∧ W.cell? ⟨w.heap.size, 1, none⟩ = some (.int .i64 u0) ∧ W.cell? ⟨w.heap.size, 2, none⟩ = some (.slice A n c)) ∧ (W.cell? ⟨w.heap.size + 1, 0, none⟩ = some (.bool r1) ∧ W.cell? ⟨w.heap.size + 1, 1, none⟩ = some (.int .i64 u1) ∧ W.cell? ⟨w.heap.size + 1, 2, none⟩ = some (.slice A' m c')) ∧ Below w2.heap.size w2 W)) := Lib.hid fun W hb => ⟨(HA2.out.below hb).tell, (HC2.out.below hb).tell, hb⟩
  obtain ⟨⟨a0, a1, a2⟩, ⟨c0, c1, c2⟩, -⟩ := HK8.out _ (Below.refl _ _)
  go_wp2
  go_region_held3 (fun W => (W.cell? ⟨w.heap.size, 0, none⟩ = some (.bool r0) ∧ W.cell? ⟨w.heap.size, 1, none⟩ = some (.int .i64 u0) ∧ W.cell? ⟨w.heap.size, 2, none⟩ = some (.slice A n c)) ∧ (W.cell? ⟨w.heap.size + 1, 0, none⟩ = some (.bool r1) ∧ W.cell? ⟨w.heap.size + 1, 1, none⟩ = some (.int .i64 u1) ∧ W.cell? ⟨w.heap.size + 1, 2, none⟩ = some (.slice A' m c')) ∧ Below w2.heap.size w2 W) (first | exact HK8.out _ (Below.refl _ _).drew | exact HK8.out _ (below_step (by assumption : _ ∧ _ ∧ Below _ _ _).2.2 hbm) | go_keep)
    (first
      | (go_at_call 9; (with_reducible refine (HTA.out _ (below_step HB2.out (by assumption : _ ∧ _ ∧ Below _ _ _).2.2)).mono ?_); rintro e wa ⟨va, SA, rfl, hoa, hbm⟩; have HOA := Lib.hid hoa)
      | (go_at_call 9; (with_reducible refine (HTB.out _ (below_step HB2.out (by assumption : _ ∧ _ ∧ Below _ _ _).2.2)).mono ?_); rintro e wb ⟨vb, SB, rfl, hob, hbm⟩; have HOA2 := Lib.hid (HOA.out.below hbm); have HOB := Lib.hid hob)
      | (go_at_call 18; refine (HSP.out va vb _ HOA2.out.has HOB.out.has).mono ?_; rintro e w3 ⟨rfl, hbm⟩))
  have hb3 := (by assumption : _ ∧ _ ∧ Below w2.heap.size w2 w3).2.2
  have HB3 := Lib.hid (below_step HB2.out hb3)
  have HA3 := Lib.hid (HA2.out.below hb3)
  have HC3 := Lib.hid (HC2.out.below hb3)
  clear hb3 a0 a1 a2 c0 c1 c2 HK8 HA2 HC2 hoa hob
  obtain ⟨a0, a1, a2⟩ := HA3.out.tell
  go_wp2_with fail
  refine (HTA.out _ HB3.out).mono ?_
  rintro e w4 ⟨vx, SX, rfl, hox, hb⟩
  obtain ⟨Ax, nx, cx, g1⟩ : ∃ A n c, vx.sv = .slice A n c := by obtain ⟨A, c, hv, _⟩ := hox.has.st.at; exact ⟨A, _, c, hv⟩
  obtain ⟨rx, ux, svx⟩ := vx
  dsimp only at g1
  subst g1
  have HB4 := Lib.hid (below_step HB3.out hb)
  have HA4 := Lib.hid (HA3.out.below hb)
  have HC4 := Lib.hid (HC3.out.below hb)
  have HX4 := Lib.hid hox
  clear a0 a1 a2 hb hox HA3 HC3
  have hq4 : w.heap.size + 1 < w4.heap.size := HC4.out.lt
  obtain ⟨a0, a1, a2⟩ := HC4.out.tell
  go_wp2_with fail
  refine (HTB.out _ (below_al HB4.out _)).mono ?_
  rintro e w5 ⟨vy, SY, rfl, hoy, hb⟩
  obtain ⟨Ay, ny, cy, g1⟩ : ∃ A n c, vy.sv = .slice A n c := by obtain ⟨A, c, hv, _⟩ := hoy.has.st.at; exact ⟨A, _, c, hv⟩
  obtain ⟨ry, uy, svy⟩ := vy
  dsimp only at g1
  subst g1
  have hbE := below_step (below_al (Below.refl w4.heap.size w4) (.cells #[.bool rx, .int .i64 ux, .slice Ax nx cx] 29)) hb
  have HB5 := Lib.hid (below_step HB4.out hbE)
  have HA5 := Lib.hid (HA4.out.below hbE)
  have HC5 := Lib.hid (HC4.out.below hbE)
  have HX5 := Lib.hid (HX4.out.below hbE)
  have HPX5 : Hid (PBox 29 w5 w4.heap.size rx ux (.slice Ax nx cx)) := Lib.hid ((hb.block _ (by simp)).trans (alloc_new_at' _ _ rfl))
  have HY5 := Lib.hid hoy
  clear a0 a1 a2 hb hbE hoy HA4 HC4 hq4
  have hq5 : w4.heap.size < w5.heap.size := HPX5.out.lt
  obtain ⟨a0, a1, a2⟩ := HPX5.out.tell
  go_wp2_with fail
  refine (HIM.out ⟨rx, ux, .slice Ax nx cx⟩ ⟨ry, uy, .slice Ay ny cy⟩ _ (HX5.out.has.below (below_al (Below.refl _ _) _)) (HY5.out.has.below (below_al (Below.refl _ _) _))).mono ?_
  rintro e w6 ⟨rfl, hb⟩
  have hbE := below_step (below_al (Below.refl w5.heap.size w5) (.cells #[.bool ry, .int .i64 uy, .slice Ay ny cy] 29)) hb
  have HB6 := Lib.hid (below_step HB5.out hbE)
  have HA6 := Lib.hid (HA5.out.below hbE)
  have HC6 := Lib.hid (HC5.out.below hbE)
  have HX6 := Lib.hid (HX5.out.has.below hbE)
  have HY6 := Lib.hid (HY5.out.has.below hbE)
  have HPX6 := Lib.hid (HPX5.out.below hbE)
  have HPY6 : Hid (PBox 29 w6 w5.heap.size ry uy (.slice Ay ny cy)) := Lib.hid ((hb.block _ (by simp)).trans (alloc_new_at' _ _ rfl))
  clear a0 a1 a2 hb hbE hq5 HA5 HC5 HPX5 HX5 HY5
  have HK : Hid (∀ W, Below w6.heap.size w6 W → ((W.cell? ⟨w4.heap.size, 0, none⟩ = some (.bool rx) ∧ W.cell? ⟨w4.heap.size, 1, none⟩ = some (.int .i64 ux) ∧ W.cell? ⟨w4.heap.size, 2, none⟩ = some (.slice Ax nx cx)) ∧ (W.cell? ⟨w.heap.size, 0, none⟩ = some (.bool r0) ∧ W.cell? ⟨w.heap.size, 1, none⟩ = some (.int .i64 u0) ∧ W.cell? ⟨w.heap.size, 2, none⟩ = some (.slice A n c)) ∧ Below w6.heap.size w6 W)) := Lib.hid fun W hb => ⟨(HPX6.out.below hb).tell, (HA6.out.below hb).tell, hb⟩
  obtain ⟨⟨a0, a1, a2⟩, ⟨c0, c1, c2⟩, -⟩ := HK.out _ (Below.refl _ _)
  go_wp2
  go_region_held3 (fun W => (W.cell? ⟨w4.heap.size, 0, none⟩ = some (.bool rx) ∧ W.cell? ⟨w4.heap.size, 1, none⟩ = some (.int .i64 ux) ∧ W.cell? ⟨w4.heap.size, 2, none⟩ = some (.slice Ax nx cx)) ∧ (W.cell? ⟨w.heap.size, 0, none⟩ = some (.bool r0) ∧ W.cell? ⟨w.heap.size, 1, none⟩ = some (.int .i64 u0) ∧ W.cell? ⟨w.heap.size, 2, none⟩ = some (.slice A n c)) ∧ Below w6.heap.size w6 W) (first | exact HK.out _ (Below.refl _ _).drew | exact HK.out _ (below_step (by assumption : _ ∧ _ ∧ Below _ _ _).2.2 hbm) | go_keep)
    (first
      | (go_at_call 9; refine (HTA.out _ (below_step HB6.out (by assumption : _ ∧ _ ∧ Below _ _ _).2.2)).mono ?_; rintro e wr ⟨vr, SR, rfl, hor, hbm⟩)
      | (go_at_call 11; refine (eqPth_any ⟨rx, ux, .slice Ax nx cx⟩ vr t0 _ (HX6.out.below (by assumption : _ ∧ _ ∧ Below _ _ _).2.2) hor.has).mono ?_; rintro e w7 ⟨rfl, hbm⟩))
  have hb7 := (by assumption : _ ∧ _ ∧ Below w6.heap.size w6 w7).2.2
  have HB7 := Lib.hid (below_step HB6.out hb7)
  have HC7 := Lib.hid (HC6.out.below hb7)
  have HY7 := Lib.hid (HY6.out.below hb7)
  have HPY7 := Lib.hid (HPY6.out.below hb7)
  clear hb7 a0 a1 a2 c0 c1 c2 HK HA6 HC6 HX6 HY6 HPX6 HPY6 hor
  have HK : Hid (∀ W, Below w7.heap.size w7 W → ((W.cell? ⟨w5.heap.size, 0, none⟩ = some (.bool ry) ∧ W.cell? ⟨w5.heap.size, 1, none⟩ = some (.int .i64 uy) ∧ W.cell? ⟨w5.heap.size, 2, none⟩ = some (.slice Ay ny cy)) ∧ (W.cell? ⟨w.heap.size + 1, 0, none⟩ = some (.bool r1) ∧ W.cell? ⟨w.heap.size + 1, 1, none⟩ = some (.int .i64 u1) ∧ W.cell? ⟨w.heap.size + 1, 2, none⟩ = some (.slice A' m c')) ∧ Below w7.heap.size w7 W)) := Lib.hid fun W hb => ⟨(HPY7.out.below hb).tell, (HC7.out.below hb).tell, hb⟩
  obtain ⟨⟨a0, a1, a2⟩, ⟨c0, c1, c2⟩, -⟩ := HK.out _ (Below.refl _ _)
  go_wp2
  go_region_held3 (fun W => (W.cell? ⟨w5.heap.size, 0, none⟩ = some (.bool ry) ∧ W.cell? ⟨w5.heap.size, 1, none⟩ = some (.int .i64 uy) ∧ W.cell? ⟨w5.heap.size, 2, none⟩ = some (.slice Ay ny cy)) ∧ (W.cell? ⟨w.heap.size + 1, 0, none⟩ = some (.bool r1) ∧ W.cell? ⟨w.heap.size + 1, 1, none⟩ = some (.int .i64 u1) ∧ W.cell? ⟨w.heap.size + 1, 2, none⟩ = some (.slice A' m c')) ∧ Below w7.heap.size w7 W) (first | exact HK.out _ (Below.refl _ _).drew | exact HK.out _ (below_step (by assumption : _ ∧ _ ∧ Below _ _ _).2.2 hbm) | go_keep)
    (first
      | (go_at_call 9; refine (HTB.out _ (below_step HB7.out (by assumption : _ ∧ _ ∧ Below _ _ _).2.2)).mono ?_; rintro e wr ⟨vr, SR, rfl, hor, hbm⟩)
      | (go_at_call 11; refine (eqPth_any ⟨ry, uy, .slice Ay ny cy⟩ vr t1 _ (HY7.out.below (by assumption : _ ∧ _ ∧ Below _ _ _).2.2) hor.has).mono ?_; rintro e w8 ⟨rfl, hbm⟩))
  have HB8 := below_step HB7.out (by assumption : _ ∧ _ ∧ Below w7.heap.size w7 w8).2.2
  clear HK HC7 HY7 HPY7 hor a0 a1 a2 c0 c1 c2
  go_wp2
  go_ret
  exact ⟨rfl, HB8⟩

/-! ### THE ROW's STEP -/
set_option maxRecDepth 100000 in
theorem lifted (os : Os) (started : os.Started) (H : Type) (enc : TypeId × Value → H) :
    ReturnsInHanded {} Try.checked os 6 .any (Rows.fnExactSamePathSpec.pre6 enc Try.prog Try.f6 Rows.fnExactSamePathRow.domain false) (Rows.fnExactSamePathSpec.post enc Try.prog Try.f6 false true false false) := by
  refine returnsInHanded_of_change (C := Try.checked) own started (by kernel_rfl) Try.func6
    (ChangeSpec.witness6 (enc := enc) (C := Try.checked) false ⟨#[], #[.agg #[.bool false, .int .i64 0, .slice none 0 0], .agg #[.bool false, .int .i64 0, .slice none 0 0]], []⟩ 8 (by kernel_rfl) (by kernel_rfl) (by kernel_rfl) (by kernel_rfl)) ?_
  intro W base args ds gs before hval0 hW hcnd _
  have hval : ∀ (j : Nat) t v, Try.f6.params[j]? = some t → args[j]? = some v → Value.okWide Try.prog W .any base t v := hval0
  have hW' := hW
  obtain ⟨p, q, hA0, hV, rfl, hfz, hnd⟩ := hW
  have hA : DataW.TrodAll enc Try.prog W 0 (fun _ => true) true Try.f6.params.toList args.toList ds p := hA0
  rw [Try.params6] at hA hval
  obtain ⟨v0, vs0, d0, ds0, p0, q0, hargs, rfl, rfl, h0, r0⟩ := trodAll_cons hA
  obtain ⟨v1, vs1, d1, ds1, p1, q1, rfl, rfl, rfl, h1, r1⟩ := trodAll_cons r0
  obtain ⟨rfl, rfl, rfl⟩ := trodAll_nil r1
  obtain rfl : args = #[v0, v1] := by cases args; simp_all
  obtain ⟨rfl, rfl⟩ := trodVars_none hV
  obtain ⟨y0, t0, rfl, w0, s0⟩ := pth_open (hval 0 24 v0 rfl rfl) h0
  have k0 := h0
  have lt0 : ∀ x ∈ p0, x.block < W.heap.size := by obtain ⟨m, hm⟩ := k0; exact DataW.trod_lt m _ _ _ hm
  obtain ⟨y1, t1, rfl, w1, s1⟩ := pth_open (hval 1 24 v1 rfl rfl) h1
  have k1 := h1
  have lt1 : ∀ x ∈ p1, x.block < W.heap.size := by obtain ⟨m, hm⟩ := k1; exact DataW.trod_lt m _ _ _ hm
  clear hA0 hval0
  refine (walk y0 t0 y1 t1 W w0 s0 w1 s1).mono fun e W' ⟨he, bel⟩ => ?_
  subst he
  exact ⟨_, rfl, _, _, _, [], _, [], hW', trodAll_mk1 (shut_bool Try.underlying4 _), (trodAll_cons_mk (Below.trod laidOut (by kernel_rfl) (of_decide_eq_true (by kernel_rfl)) k0 bel lt0) (trodAll_cons_mk (Below.trod laidOut (by kernel_rfl) (of_decide_eq_true (by kernel_rfl)) k1 bel lt1) trodAll_mk0)), rfl, bel.frame _, fun h => by cases h⟩

theorem over : Rows.fnExactSamePathRow.holds Try.pinned (OpenSpec.ofChange Rows.fnExactSamePathSpec) :=
  OpenClaim.holds_of_wide 6 Try.f6 rfl rfl rfl rfl rfl rfl rfl ⟨rfl, rfl, rfl, rfl, rfl⟩ rfl rfl rfl rfl rfl (by kernel_rfl) Try.func6 (by kernel_rfl)
    (of_decide_eq_true (by kernel_rfl)) (by unfold Func.isWrapper; first | (rw [if_pos (by decide +kernel)]; kernel_rfl) | (rw [if_neg (by decide +kernel)]; exact ⟨rfl, rfl⟩))
    (fun os started H enc _ => lifted os started H enc)

theorem proved : Rows.FnExactSamePathSaid := over
#print axioms proved
end Go.Proofs.Ytdmccopggmienaa.fnExactSamePath
