/- For every list of nodes laws.FnExactCountSchema returns true: impl.CountSchema answers as spec.CountSchema does and leaves its argument as it was (lists of more than 1048576 nodes, texts' bytes and so on, as the law counts them, the law itself lets pass); no condition. -/
import Derived.Test.YtlgooejoohcmfaaWkC
import Derived.Test.YtlgooejoohcmfaaScG
import Derived.Test.YtlgooejoohcmfaaScEb
import Derived.Test.YtlgooejoohcmfaaRows
import Derived.WalkKit
import Derived.ProofKit
import Derived.OpenShut
import Derived.ShutString
import Derived.ChangeOld
import Derived.Below
namespace Go.Proofs.Ytlgooejoohcmfaa.fnExactCountSchema
open Go.ChangeShapes Go.WideShapes Go.ChangeAt Go.RowKit
open Go.ChangeMaps (open_string shut_string)
set_option linter.unusedVariables false

theorem own : ownKnob Try.prog.godebug = none := by kernel_rfl
theorem laidOut : laidOutB Try.prog = true := by kernel_rfl

set_option maxRecDepth 100000 in
set_option maxHeartbeats 8000000 in
theorem walk (y0 : Value) (t0 : List Sc) (w : World) (hin : ∃ d, RdL scK d w y0 t0) (s0 : ∀ e, FitT ScWf e t0) :
    Calls Try.prog 3 #[y0] w fun e w' => e = .returned (.bool true) ∧ Below w.heap.size w w' := by
  obtain ⟨d, hd⟩ := hin
  have HSZ := Lib.hid (szSS_any d y0 t0 w 1048576 hd (s0 d) (by omega) (by omega))
  have HTO := Lib.hid (fun (hs : SizT ScSz d t0) W (hb : Below w.heap.size w W) => toSS_any d y0 t0 W (hd.below hb) hs)
  have HSC := Lib.hid (fun B v S W (h : OwL scK d B W v t0 S) => sCnt_any d v t0 W h.rd)
  have HIC := Lib.hid (fun B v S W (h : OwL scK d B W v t0 S) (hs : sizeS t0 ≤ 549755813888) => iCnt_any d B v t0 W S h hs)
  have HEQ := Lib.hid (fun u v W (h1 : RdL scK d W u t0) (h2 : RdL scK d W v t0) => eqSS_any d u v t0 W h1 h2)
  have HCS := Lib.hid (fun (h : DeepT d t0) => cnt_size d t0 h)
  have HDP := Lib.hid (rd_deepT hd)
  obtain ⟨A, cap, hy⟩ := hd.form
  generalize t0.length = n at hy
  subst hy
  clear hd s0
  have HB0 := Lib.hid (Below.refl w.heap.size w)
  go_enter Try.func3, Try.ntmps3
  go_wp2_with fail
  refine HSZ.out.mono ?_
  rintro e w1 ⟨x, rfl, hx, hx1, hx2, hb1⟩
  by_cases hx0 : x < 0
  · clear hx
    go_wp2
    go_ret
    exact ⟨rfl, hb1⟩
  have hS := (hx (by omega)).1
  have hN : sizeS t0 ≤ 549755813888 := by have := (hx (by omega)).2.2; omega
  have HSI := Lib.hid hS
  have HNN := Lib.hid hN
  have HB1 := Lib.hid hb1
  clear hx hS hN hb1 HSZ
  go_wp2_with fail
  refine (HTO.out HSI.out _ HB1.out).mono ?_
  rintro e w2 ⟨v2, S2, rfl, hv2, hb2⟩
  have HB2 := Lib.hid (below_step HB1.out hb2)
  have HV2 := Lib.hid hv2
  clear hv2 hb2
  go_wp2_with fail
  refine (HSC.out _ _ _ _ HV2.out).mono ?_
  rintro e w3 ⟨y, rfl, hy, hb3⟩
  have HY := Lib.hid hy
  have HB3 := Lib.hid (below_step HB2.out hb3)
  clear hy hb3 HV2
  go_wp2_with fail
  refine (HTO.out HSI.out _ HB3.out).mono ?_
  rintro e w4 ⟨v4, S4, rfl, hv4, hb4⟩
  have HB4 := Lib.hid (below_step HB3.out hb4)
  have HV4 := Lib.hid hv4
  clear hv4 hb4
  go_wp2_with fail
  refine (HIC.out _ _ _ _ HV4.out HNN.out).mono ?_
  rintro e w5 ⟨rfl, hb5⟩
  have HB5 := Lib.hid (below_step HB4.out hb5)
  have HV5 := Lib.hid (HV4.out.below hb5)
  have hyz : y = (sizeS t0 : Int) := by
    have h1 := HCS.out HDP.out
    rw [HY.out, h1, IntKind.wrap_i64]
    have := HNN.out
    omega
  subst hyz
  clear hb5 HY HV4
  obtain ⟨z, hz⟩ : ∃ z : Int, z = (sizeS t0 : Int) := ⟨_, rfl⟩
  rw [← hz]
  clear hz
  go_wp2_with fail
  refine (HTO.out HSI.out _ HB5.out).mono ?_
  rintro e w6 ⟨v6, S6, rfl, hv6, hb6⟩
  have HB6 := Lib.hid (below_step HB5.out hb6)
  have HV6 := Lib.hid hv6
  have HW6 := Lib.hid (HV5.out.below hb6)
  clear hv6 hb6 HV5
  go_wp2_with fail
  refine (HEQ.out _ _ _ HW6.out.rd HV6.out.rd).mono ?_
  rintro e w7 ⟨rfl, hb7⟩
  have HB7 := Lib.hid (below_step HB6.out hb7)
  clear hb7
  go_wp2
  go_ret
  exact ⟨rfl, HB7.out⟩

/-! ### THE ROW's STEP -/
set_option maxRecDepth 100000 in
theorem lifted (os : Os) (started : os.Started) (H : Type) (enc : TypeId × Value → H) :
    ReturnsInHanded {} Try.checked os 3 .any (Rows.fnExactCountSchemaSpec.pre6 enc Try.prog Try.f3 Rows.fnExactCountSchemaRow.domain false) (Rows.fnExactCountSchemaSpec.post enc Try.prog Try.f3 false true false false) := by
  refine returnsInHanded_of_change (C := Try.checked) own started (by kernel_rfl) Try.func3
    (ChangeSpec.witness6 (enc := enc) (C := Try.checked) false ⟨#[], #[.slice none 0 0], []⟩ 8 (by kernel_rfl) (by kernel_rfl) (by kernel_rfl) (by kernel_rfl)) ?_
  intro W base args ds gs before hval0 hW hcnd _
  have hval : ∀ (j : Nat) t v, Try.f3.params[j]? = some t → args[j]? = some v → Value.okWide Try.prog W .any base t v := hval0
  have hW' := hW
  obtain ⟨p, q, hA0, hV, rfl, hfz, hnd⟩ := hW
  have hA : DataW.TrodAll enc Try.prog W 0 (fun _ => true) true Try.f3.params.toList args.toList ds p := hA0
  rw [Try.params3] at hA hval
  obtain ⟨v0, vs0, d0, ds0, p0, q0, hargs, rfl, rfl, h0, r0⟩ := trodAll_cons hA
  obtain ⟨rfl, rfl, rfl⟩ := trodAll_nil r0
  obtain rfl : args = #[v0] := by cases args; simp_all
  obtain ⟨rfl, rfl⟩ := trodVars_none hV
  obtain ⟨a0, len0, cap0, rfl⟩ := okWide_slice Try.underlying22 (hval 0 22 v0 rfl rfl)
  have k0 := h0
  have lt0 : ∀ x ∈ p0, x.block < W.heap.size := by obtain ⟨m, hm⟩ := k0; exact DataW.trod_lt m _ _ _ hm
  obtain ⟨t0, w0, s0⟩ : ∃ l, (∃ d, RdL scK d W (.slice a0 len0 cap0) l) ∧ ∀ e, FitT ScWf e l := by
    obtain ⟨fuel, hf⟩ := h0
    obtain ⟨v, l, hcs, hw, hg⟩ := scs_open hf
    simp [Value.cells] at hcs
    subst hcs
    exact ⟨l, hw, hg⟩
  clear hA0 hval0
  refine (walk (.slice a0 len0 cap0) t0 W w0 s0).mono fun e W' ⟨he, bel⟩ => ?_
  subst he
  exact ⟨_, rfl, _, _, _, [], _, [], hW', trodAll_mk1 (shut_bool Try.underlying4 _), (trodAll_cons_mk (Below.trod laidOut (by kernel_rfl) (of_decide_eq_true (by kernel_rfl)) k0 bel lt0) trodAll_mk0), rfl, bel.frame _, fun h => by cases h⟩

theorem over : Rows.fnExactCountSchemaRow.holds Try.pinned (OpenSpec.ofChange Rows.fnExactCountSchemaSpec) :=
  OpenClaim.holds_of_wide 3 Try.f3 rfl rfl rfl rfl rfl rfl rfl ⟨rfl, rfl, rfl, rfl, rfl⟩ rfl rfl rfl rfl rfl (by kernel_rfl) Try.func3 (by kernel_rfl)
    (of_decide_eq_true (by kernel_rfl)) (by unfold Func.isWrapper; first | (rw [if_pos (by decide +kernel)]; kernel_rfl) | (rw [if_neg (by decide +kernel)]; exact ⟨rfl, rfl⟩))
    (fun os started H enc _ => lifted os started H enc)

theorem proved : Rows.FnExactCountSchemaSaid := over
#print axioms proved
end Go.Proofs.Ytlgooejoohcmfaa.fnExactCountSchema
