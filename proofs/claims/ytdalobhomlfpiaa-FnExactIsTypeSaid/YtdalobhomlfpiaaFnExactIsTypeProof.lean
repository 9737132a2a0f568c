/- For every type laws.FnExactIsType returns true: impl.IsType answers as spec.IsType does and leaves its argument as it was (types of more than 1048576 ranges, names and bytes the law itself lets pass); no condition. -/
import Derived.Test.YtdalobhomlfpiaaTyF
import Derived.Test.YtdalobhomlfpiaaTyO
import Derived.Test.YtdalobhomlfpiaaPatAB
import Derived.Test.YtdalobhomlfpiaaRows
import Derived.WalkKit
import Derived.ProofKit
import Derived.OpenShut
import Derived.ShutString
import Derived.ChangeOld
import Derived.Below
namespace Go.Proofs.Ytdalobhomlfpiaa.fnExactIsType
open Go.ChangeShapes Go.WideShapes Go.ChangeAt Go.RowKit
open Go.ChangeMaps (open_string shut_string)
set_option linter.unusedVariables false

theorem own : ownKnob Try.prog.godebug = none := by kernel_rfl
theorem laidOut : laidOutB Try.prog = true := by kernel_rfl

set_option maxRecDepth 100000 in
set_option maxHeartbeats 4000000 in
theorem walk (y0 : TyV) (t0 : Ty) (w : World) (hin : HasTy w y0 t0) (s0 : TyWf t0) :
    Calls Try.prog 6 #[y0.val] w fun e w' => e = .returned (.bool true) ∧ Below w.heap.size w w' := by
  obtain ⟨A, c, h1, -⟩ := id hin.rg
  obtain ⟨A', c', h2, -⟩ := id hin.nm
  have HSZ := Lib.hid (fun W (hb : Below w.heap.size w W) => szTy_any y0 t0 W (hin.below hb) s0 1048576 (by omega) (by omega))
  have HTO := Lib.hid (fun W (hb : Below w.heap.size w W) => toTy_any y0 t0 W (hin.below hb))
  have HB0 := Lib.hid (Below.refl w.heap.size w)
  obtain ⟨k, vr, vn, pt, ph⟩ := y0
  obtain rfl : vr = _ := h1
  obtain rfl : vn = _ := h2
  generalize hn : t0.rg.length = n at *
  generalize hm : t0.nm.length = m at *
  clear hin s0
  go_enter Try.func6, Try.ntmps6
  go_wp2_with fail
  refine (HSZ.out _ (below_al HB0.out _)).mono ?_
  rintro e w1 ⟨⟨x, rfl, hx, hx1, hx2⟩, hb1⟩
  by_cases hx0 : x < 0
  · clear hx
    go_wp2
    go_ret
    exact ⟨rfl, below_step (below_al HB0.out _) hb1⟩
  · have HS := Lib.hid (hx (by omega))
    clear hx hn hm
    have HSP : Hid (∀ v W, HasTy W v t0 → Calls Try.prog 19 #[v.val] W fun e w' => e = .returned (.bool (isTyB t0)) ∧ Below W.heap.size W w') := Lib.hid fun v W h => sIsTy_any v t0 W h HS.out.2.2
    have HIM : Hid (∀ v W, HasTy W v t0 → CapN v.vn → Calls Try.prog 21 #[v.val] W fun e w' => e = .returned (.bool (isTyB t0)) ∧ Below W.heap.size W w') := Lib.hid fun v W h hc => iIsTy_any v t0 W h hc HS.out.2.2
    generalize isTyB t0 = b at HSP HIM
    have HB1 := Lib.hid (below_step (below_al HB0.out _) hb1)
    have A1 : w1.heap[w.heap.size]? = some (.cells #[.int .i64 k, .slice A n c, .slice A' m c', .string pt, .string ph] 42 (0, 0)) := (hb1.block _ (by simp)).trans (heap_alloc_new' _ _ rfl)
    have hz1 : w.heap.size < w1.heap.size := (Array.getElem?_eq_some_iff.1 A1).1
    obtain ⟨⟨x0, x1, x2, x3, x4⟩, -⟩ := five A1
    clear hb1
    cases b
    all_goals
      go_wp2_with fail
      refine (HTO.out _ HB1.out HS.out.1 HS.out.2.1).mono ?_
      rintro e w2 ⟨v2, rfl, hown2, hb2⟩
      have HB2 := Lib.hid (below_step HB1.out hb2)
      have A2 := (hb2.block _ hz1).trans A1
      have hz2 : w.heap.size < w2.heap.size := (Array.getElem?_eq_some_iff.1 A2).1
      clear x0 x1 x2 x3 x4 hb2 A1
      go_wp2_with fail
      refine (HSP.out v2 _ hown2.has).mono ?_
      rintro e w3 ⟨rfl, hb3⟩
      have HB3 := Lib.hid (below_step HB2.out hb3)
      have A3 := (hb3.block _ hz2).trans A2
      have hz3 : w.heap.size < w3.heap.size := (Array.getElem?_eq_some_iff.1 A3).1
      obtain ⟨⟨x0, x1, x2, x3, x4⟩, -⟩ := five A3
      clear hown2 hb3 A2
      go_wp2_with fail
      refine (HTO.out _ HB3.out HS.out.1 HS.out.2.1).mono ?_
      rintro e w4 ⟨v4, rfl, hown4, hb4⟩
      have HB4 := Lib.hid (below_step HB3.out hb4)
      have A4 := (hb4.block _ hz3).trans A3
      have hz4 : w.heap.size < w4.heap.size := (Array.getElem?_eq_some_iff.1 A4).1
      clear x0 x1 x2 x3 x4 hb4 A3
      have HO := Lib.hid hown4
      have HCN := Lib.hid hown4.nm.capN
      obtain ⟨F, d, e1, -⟩ := id hown4.has.rg
      obtain ⟨F', d', e2, -⟩ := id hown4.has.nm
      clear hown4
      obtain ⟨k2, vr2, vn2, pt2, ph2⟩ := v4
      obtain rfl : vr2 = _ := e1
      obtain rfl : vn2 = _ := e2
      generalize t0.rg.length = n2 at *
      generalize t0.nm.length = m2 at *
      go_wp2_with fail
      refine (HIM.out ⟨k2, .slice F n2 d, .slice F' m2 d', pt2, ph2⟩ _ (HO.out.has.below (below_al (Below.refl _ _) _)) HCN.out).mono ?_
      rintro e w5 ⟨rfl, hb5⟩
      have HB5 := Lib.hid (below_step (below_al HB4.out _) hb5)
      have B5 := (hb5.block w4.heap.size (by simp)).trans (heap_alloc_new' _ _ rfl)
      have A5 := (hb5.block w.heap.size (by simp; omega)).trans ((Below.heap_alloc _ _ _ hz4).trans A4)
      have HO5 := Lib.hid (HO.out.has.below (below_step (below_al (Below.refl w4.heap.size w4) _) hb5))
      obtain ⟨⟨x0, x1, x2, x3, x4⟩, -⟩ := five A5
      obtain ⟨⟨y0, y1, y2, y3, y4⟩, -⟩ := five B5
      clear hb5 A4
      have hz5 : w4.heap.size < w5.heap.size := (Array.getElem?_eq_some_iff.1 B5).1
      have ha5 : w.heap.size < w5.heap.size := (Array.getElem?_eq_some_iff.1 A5).1
      have HH : Hid (∀ W, Below w5.heap.size w5 W → W.heap[w4.heap.size]? = some (.cells #[.int .i64 k2, .slice F n2 d, .slice F' m2 d', .string pt2, .string ph2] 47 (0, 0)) ∧ W.heap[w.heap.size]? = some (.cells #[.int .i64 k, .slice A n c, .slice A' m c', .string pt, .string ph] 42 (0, 0)) ∧ HasTy W ⟨k2, .slice F n2 d, .slice F' m2 d', pt2, ph2⟩ t0 ∧ Below w.heap.size w W) := Lib.hid fun W hb => ⟨(hb.block _ hz5).trans B5, (hb.block _ ha5).trans A5, HO5.out.below hb, below_step HB5.out hb⟩
      clear A5 B5
      go_wp2
      go_region_with (first
        | (go_at_call 20; refine (HTO.out _ (HB5.out.drew) HS.out.1 HS.out.2.1).mono ?_; rintro e w6 ⟨v6, rfl, hown6, hb6⟩; have HB6 := Lib.hid (below_step (Below.refl w5.heap.size w5).drew hb6); obtain ⟨⟨z0, z1, z2, z3, z4⟩, -⟩ := five (HH.out _ HB6.out).1)
        | (go_at_call 22; refine (eqTy_any ⟨k2, .slice F n2 d, .slice F' m2 d', pt2, ph2⟩ v6 t0 _ ((HH.out _ HB6.out).2.2.1) hown6.has).mono ?_; rintro e w7 ⟨rfl, hb7⟩; have HB7 := Lib.hid (below_step HB6.out hb7)))
      all_goals
        go_wp2
        go_ret
        exact ⟨rfl, (HH.out _ HB7.out).2.2.2⟩

/-! ### THE ROW's STEP -/
set_option maxRecDepth 100000 in
theorem lifted (os : Os) (started : os.Started) (H : Type) (enc : TypeId × Value → H) :
    ReturnsInHanded {} Try.checked os 6 .any (Rows.fnExactIsTypeSpec.pre6 enc Try.prog Try.f6 Rows.fnExactIsTypeRow.domain false) (Rows.fnExactIsTypeSpec.post enc Try.prog Try.f6 false true false false) := by
  refine returnsInHanded_of_change (C := Try.checked) own started (by kernel_rfl) Try.func6
    (ChangeSpec.witness6 (enc := enc) (C := Try.checked) false ⟨#[], #[.agg #[.int .i64 0, .slice none 0 0, .slice none 0 0, .string ⟨#[]⟩, .string ⟨#[]⟩]], []⟩ 8 (by kernel_rfl) (by kernel_rfl) (by kernel_rfl) (by kernel_rfl)) ?_
  intro W base args ds gs before hval0 hW hcnd _
  have hval : ∀ (j : Nat) t v, Try.f6.params[j]? = some t → args[j]? = some v → Value.okWide Try.prog W .any base t v := hval0
  have hW' := hW
  obtain ⟨p, q, hA0, hV, rfl, hfz, hnd⟩ := hW
  have hA : DataW.TrodAll enc Try.prog W 0 (fun _ => true) true Try.f6.params.toList args.toList ds p := hA0
  rw [Try.params6] at hA hval
  obtain ⟨v0, vs0, d0, ds0, p0, q0, hargs, rfl, rfl, h0, r0⟩ := trodAll_cons hA
  obtain ⟨rfl, rfl, rfl⟩ := trodAll_nil r0
  obtain rfl : args = #[v0] := by cases args; simp_all
  obtain ⟨rfl, rfl⟩ := trodVars_none hV
  obtain ⟨y0, t0, rfl, w0, s0⟩ := ty_open (hval 0 42 v0 rfl rfl) h0
  have k0 := h0
  have lt0 : ∀ x ∈ p0, x.block < W.heap.size := by obtain ⟨m, hm⟩ := k0; exact DataW.trod_lt m _ _ _ hm
  clear hA0 hval0
  refine (walk y0 t0 W w0 s0).mono fun e W' ⟨he, bel⟩ => ?_
  subst he
  exact ⟨_, rfl, _, _, _, [], _, [], hW', trodAll_mk1 (shut_bool Try.underlying4 _), (trodAll_cons_mk (Below.trod laidOut (by kernel_rfl) (of_decide_eq_true (by kernel_rfl)) k0 bel lt0) trodAll_mk0), rfl, bel.frame _, fun h => by cases h⟩

theorem over : Rows.fnExactIsTypeRow.holds Try.pinned (OpenSpec.ofChange Rows.fnExactIsTypeSpec) :=
  OpenClaim.holds_of_wide 6 Try.f6 rfl rfl rfl rfl rfl rfl rfl ⟨rfl, rfl, rfl, rfl, rfl⟩ rfl rfl rfl rfl rfl (by kernel_rfl) Try.func6 (by kernel_rfl)
    (of_decide_eq_true (by kernel_rfl)) (by unfold Func.isWrapper; first | (rw [if_pos (by decide +kernel)]; kernel_rfl) | (rw [if_neg (by decide +kernel)]; exact ⟨rfl, rfl⟩))
    (fun os started H enc _ => lifted os started H enc)

theorem proved : Rows.FnExactIsTypeSaid := over
#print axioms proved
end Go.Proofs.Ytdalobhomlfpiaa.fnExactIsType
