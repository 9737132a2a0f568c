/- For every type and every text laws.FnExactIsValue returns true: impl.IsValue answers as spec.IsValue does and leaves its arguments as they were (texts of more than 1048576 bytes and types of more than 1048576 ranges, names and bytes the law itself lets pass); no condition. -/
import Derived.Test.YtdmccopggmienaaGreatTyI
import Derived.Test.YtdmccopggmienaaGreatTyJ
import Derived.Test.YtdmccopggmienaaGreatTyO
import Derived.Test.YtdmccopggmienaaGreatRows
import Derived.WalkKit
import Derived.ProofKit
import Derived.OpenShut
import Derived.ShutString
import Derived.ChangeOld
import Derived.Below
namespace Go.Proofs.YtdmccopggmienaaGreat.fnExactIsValue
open Go.ChangeShapes Go.WideShapes Go.ChangeAt Go.RowKit
open Go.ChangeMaps (open_string shut_string)
set_option linter.unusedVariables false

theorem own : ownKnob Tryz.prog.godebug = none := by kernel_rfl
theorem laidOut : laidOutB Tryz.prog = true := by kernel_rfl

set_option maxRecDepth 100000 in
set_option maxHeartbeats 4000000 in
theorem walk (y0 : TyV) (t0 : Ty) (x1 : ByteArray) (w : World) (hin : HasTy w y0 t0) (s0 : TyWf t0) (s1 : x1.size ≤ maxLen) :
    Calls Tryz.prog 4 #[y0.val, .string x1] w fun e w' => e = .returned (.bool true) ∧ Below w.heap.size w w' := by
  obtain ⟨A, c, h1, -⟩ := id hin.rg
  obtain ⟨A', c', h2, -⟩ := id hin.nm
  have HSZ := Lib.hid (fun W (hb : Below w.heap.size w W) => szTy_any y0 t0 W (hin.below hb) s0 1048576 (by omega) (by omega))
  have HTO := Lib.hid (fun W (hb : Below w.heap.size w W) => toTy_any y0 t0 W (hin.below hb))
  have HWF := Lib.hid s0
  have HB0 := Lib.hid (Below.refl w.heap.size w)
  obtain ⟨k, vr, vn, pt, ph⟩ := y0
  obtain rfl : vr = _ := h1
  obtain rfl : vn = _ := h2
  generalize hn : t0.rg.length = n at *
  generalize hm : t0.nm.length = m at *
  clear hin s0
  by_cases hbig : 1048576 < x1.size
  · go_enter Tryz.func4, Tryz.ntmps4
    go_wp2
    go_ret
    exact ⟨rfl, below_al HB0.out _⟩
  have hs1 : ¬ (1048576 : Int) < (x1.size : Int) := by omega
  have HS1 : Hid (x1.size ≤ 1048576) := Lib.hid (by omega)
  clear hbig s1
  go_enter Tryz.func4, Tryz.ntmps4
  go_wp2_with fail
  refine (HSZ.out _ (below_al HB0.out _)).mono ?_
  rintro e w1 ⟨⟨x, rfl, hx, hx1, hx2⟩, hb1⟩
  by_cases hx0 : x < 0
  · clear hx
    go_wp2
    go_ret
    exact ⟨rfl, below_step (below_al HB0.out _) hb1⟩
  have HS := Lib.hid (hx (by omega))
  clear hx hn hm
  have HSP : Hid (∀ v W, HasTy W v t0 → Calls Tryz.prog 11 #[v.val, .string x1] W fun e w' => e = .returned (.bool (isValB t0 x1)) ∧ Below W.heap.size W w') := Lib.hid fun v W h => sIsVal_any v t0 x1 W h HS.out.2.2 HS1.out
  have HIM : Hid (∀ v W, HasTy W v t0 → CapN v.vn → Calls Tryz.prog 12 #[v.val, .string x1] W fun e w' => e = .returned (.bool (isValB t0 x1)) ∧ Below W.heap.size W w') := Lib.hid fun v W h hc => iIsVal_any v t0 x1 W h hc HS.out.2.2 HS1.out
  generalize isValB t0 x1 = o at HSP HIM
  have HB1 := Lib.hid (below_step (below_al HB0.out _) hb1)
  have A1 : w1.heap[w.heap.size]? = some (.cells #[.int .i64 k, .slice A n c, .slice A' m c', .string pt, .string ph] 25 (0, 0)) := (hb1.block _ (by simp)).trans (heap_alloc_new' _ _ rfl)
  have hz1 : w.heap.size < w1.heap.size := (Array.getElem?_eq_some_iff.1 A1).1
  obtain ⟨⟨k0, k1, k2, k3, k4⟩, -⟩ := five A1
  clear hb1
  cases o
  all_goals
    go_wp2_with fail
    refine (HTO.out _ HB1.out HS.out.1 HS.out.2.1).mono ?_
    rintro e w2 ⟨v2, rfl, hown2, hb2⟩
    have HB2 := Lib.hid (below_step HB1.out hb2)
    have A2 := (hb2.block _ hz1).trans A1
    have hz2 : w.heap.size < w2.heap.size := (Array.getElem?_eq_some_iff.1 A2).1
    clear k0 k1 k2 k3 k4 hb2 A1
    go_wp2_with fail
    refine (HSP.out v2 _ hown2.has).mono ?_
    rintro e w3 ⟨rfl, hb3⟩
    have HB3 := Lib.hid (below_step HB2.out hb3)
    have A3 := (hb3.block _ hz2).trans A2
    have hz3 : w.heap.size < w3.heap.size := (Array.getElem?_eq_some_iff.1 A3).1
    obtain ⟨⟨k0, k1, k2, k3, k4⟩, -⟩ := five A3
    clear hown2 hb3 A2
    go_wp2_with fail
    refine (HTO.out _ HB3.out HS.out.1 HS.out.2.1).mono ?_
    rintro e w4 ⟨v4, rfl, hown4, hb4⟩
    have HB4 := Lib.hid (below_step HB3.out hb4)
    have A4 := (hb4.block _ hz3).trans A3
    have hz4 : w.heap.size < w4.heap.size := (Array.getElem?_eq_some_iff.1 A4).1
    clear k0 k1 k2 k3 k4 hb4 A3
    have HO := Lib.hid hown4
    have HCN := Lib.hid hown4.nm.capN
    obtain ⟨F, d, e1, -⟩ := id hown4.has.rg
    obtain ⟨F', d', e2, -⟩ := id hown4.has.nm
    clear hown4
    obtain ⟨q, vr2, vn2, pt2, ph2⟩ := v4
    obtain rfl : vr2 = _ := e1
    obtain rfl : vn2 = _ := e2
    generalize t0.rg.length = n2 at *
    generalize t0.nm.length = m2 at *
    go_wp2_with fail
    refine (HIM.out ⟨q, .slice F n2 d, .slice F' m2 d', pt2, ph2⟩ _ (HO.out.has.below (below_al (Below.refl _ _) _)) HCN.out).mono ?_
    rintro e w5 ⟨rfl, hb5⟩
    have HB5 := Lib.hid (below_step (below_al HB4.out _) hb5)
    have B5 := (hb5.block w4.heap.size (by simp)).trans (heap_alloc_new' _ _ rfl)
    have A5 := (hb5.block w.heap.size (by simp; omega)).trans ((Below.heap_alloc _ _ _ hz4).trans A4)
    have HO5 := Lib.hid (HO.out.has.below (below_step (below_al (Below.refl w4.heap.size w4) _) hb5))
    obtain ⟨⟨k0, k1, k2, k3, k4⟩, -⟩ := five A5
    obtain ⟨⟨j0, j1, j2, j3, j4⟩, -⟩ := five B5
    clear hb5 A4
    have hz5 : w4.heap.size < w5.heap.size := (Array.getElem?_eq_some_iff.1 B5).1
    have ha5 : w.heap.size < w5.heap.size := (Array.getElem?_eq_some_iff.1 A5).1
    have HH : Hid (∀ W, Below w5.heap.size w5 W → W.heap[w4.heap.size]? = some (.cells #[.int .i64 q, .slice F n2 d, .slice F' m2 d', .string pt2, .string ph2] 31 (0, 0)) ∧ W.heap[w.heap.size]? = some (.cells #[.int .i64 k, .slice A n c, .slice A' m c', .string pt, .string ph] 25 (0, 0)) ∧ HasTy W ⟨q, .slice F n2 d, .slice F' m2 d', pt2, ph2⟩ t0 ∧ Below w.heap.size w W) := Lib.hid fun W hb => ⟨(hb.block _ hz5).trans B5, (hb.block _ ha5).trans A5, HO5.out.below hb, below_step HB5.out hb⟩
    clear A5 B5
    go_wp2
    go_region_with (first
      | (go_at_call 8; refine (HTO.out _ (HB5.out.drew) HS.out.1 HS.out.2.1).mono ?_; rintro e w6 ⟨v6, rfl, hown6, hb6⟩; have HB6 := Lib.hid (below_step (Below.refl w5.heap.size w5).drew hb6); obtain ⟨⟨z0, z1, z2, z3, z4⟩, -⟩ := five (HH.out _ HB6.out).1)
      | (go_at_call 10; refine (eqTy_any ⟨q, .slice F n2 d, .slice F' m2 d', pt2, ph2⟩ v6 t0 _ ((HH.out _ HB6.out).2.2.1) hown6.has).mono ?_; rintro e w7 ⟨rfl, hb7⟩; have HB7 := Lib.hid (below_step HB6.out hb7)))
    all_goals
      go_wp2
      go_ret
      exact ⟨rfl, (HH.out _ HB7.out).2.2.2⟩

/-! ### THE ROW's STEP -/
set_option maxRecDepth 100000 in
theorem lifted (os : Os) (started : os.Started) (H : Type) (enc : TypeId × Value → H) :
    ReturnsInHanded {} Tryz.checked os 4 .any (Rows.fnExactIsValueSpec.pre6 enc Tryz.prog Tryz.f4 Rows.fnExactIsValueRow.domain false) (Rows.fnExactIsValueSpec.post enc Tryz.prog Tryz.f4 false true false false) := by
  refine returnsInHanded_of_change (C := Tryz.checked) own started (by kernel_rfl) Tryz.func4
    (ChangeSpec.witness6 (enc := enc) (C := Tryz.checked) false ⟨#[], #[.agg #[.int .i64 0, .slice none 0 0, .slice none 0 0, .string ⟨#[]⟩, .string ⟨#[]⟩], .string ByteArray.empty], []⟩ 8 (by kernel_rfl) (by kernel_rfl) (by kernel_rfl) (by kernel_rfl)) ?_
  intro W base args ds gs before hval0 hW hcnd _
  have hval : ∀ (j : Nat) t v, Tryz.f4.params[j]? = some t → args[j]? = some v → Value.okWide Tryz.prog W .any base t v := hval0
  have hW' := hW
  obtain ⟨p, q, hA0, hV, rfl, hfz, hnd⟩ := hW
  have hA : DataW.TrodAll enc Tryz.prog W 0 (fun _ => true) true Tryz.f4.params.toList args.toList ds p := hA0
  rw [Tryz.params4] at hA hval
  obtain ⟨v0, vs0, d0, ds0, p0, q0, hargs, rfl, rfl, h0, r0⟩ := trodAll_cons hA
  obtain ⟨v1, vs1, d1, ds1, p1, q1, rfl, rfl, rfl, h1, r1⟩ := trodAll_cons r0
  obtain ⟨rfl, rfl, rfl⟩ := trodAll_nil r1
  obtain rfl : args = #[v0, v1] := by cases args; simp_all
  obtain ⟨rfl, rfl⟩ := trodVars_none hV
  obtain ⟨y0, t0, rfl, w0, s0⟩ := ty_open (hval 0 25 v0 rfl rfl) h0
  have k0 := h0
  have lt0 : ∀ x ∈ p0, x.block < W.heap.size := by obtain ⟨m, hm⟩ := k0; exact DataW.trod_lt m _ _ _ hm
  have k1 := h1
  have lt1 : ∀ x ∈ p1, x.block < W.heap.size := by obtain ⟨m, hm⟩ := k1; exact DataW.trod_lt m _ _ _ hm
  obtain ⟨x1, rfl, rfl, rfl, s1⟩ := open_string Tryz.underlying9 (hval 1 9 v1 rfl rfl) h1
  clear hA0 hval0
  refine (walk y0 t0 x1 W w0 s0 s1).mono fun e W' ⟨he, bel⟩ => ?_
  subst he
  exact ⟨_, rfl, _, _, _, [], _, [], hW', trodAll_mk1 (shut_bool Tryz.underlying4 _), (trodAll_cons_mk (Below.trod laidOut (by kernel_rfl) (of_decide_eq_true (by kernel_rfl)) k0 bel lt0) (trodAll_cons_mk (Below.trod laidOut (by kernel_rfl) (of_decide_eq_true (by kernel_rfl)) k1 bel lt1) trodAll_mk0)), rfl, bel.frame _, fun h => by cases h⟩

theorem over : Rows.fnExactIsValueRow.holds Tryz.pinned (OpenSpec.ofChange Rows.fnExactIsValueSpec) :=
  OpenClaim.holds_of_wide 4 Tryz.f4 rfl rfl rfl rfl rfl rfl rfl ⟨rfl, rfl, rfl, rfl, rfl⟩ rfl rfl rfl rfl rfl (by kernel_rfl) Tryz.func4 (by kernel_rfl)
    (of_decide_eq_true (by kernel_rfl)) (by unfold Func.isWrapper; first | (rw [if_pos (by decide +kernel)]; kernel_rfl) | (rw [if_neg (by decide +kernel)]; exact ⟨rfl, rfl⟩))
    (fun os started H enc _ => lifted os started H enc)

theorem proved : Rows.FnExactIsValueSaid := over
#print axioms proved
end Go.Proofs.YtdmccopggmienaaGreat.fnExactIsValue
