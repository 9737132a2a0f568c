/- For every list of ranges laws.FnExactFormatRanges returns true: impl.FormatRanges answers as spec.FormatRanges does and leaves its argument as it was (lists of more than 1048576 ranges the law itself lets pass); no condition. -/
import Derived.Test.YtldjkjdmadoaoaaRngF
import Derived.Test.YtldjkjdmadoaoaaRows
import Derived.WalkKit
import Derived.ProofKit
import Derived.OpenShut
import Derived.ShutString
import Derived.ChangeOld
import Derived.Below
namespace Go.Proofs.Ytldjkjdmadoaoaa.fnExactFormatRanges
open Go.ChangeShapes Go.WideShapes Go.ChangeAt Go.RowKit
open Go.ChangeMaps (open_string shut_string)
set_option linter.unusedVariables false

theorem own : ownKnob Try.prog.godebug = none := by kernel_rfl
theorem laidOut : laidOutB Try.prog = true := by kernel_rfl

theorem walk (a0 : Option Addr) (len0 cap0 : Nat) (l0 : List Rg) (w : World) (hin : HasG w (.slice a0 len0 cap0) l0) (s0 : ∀ x ∈ l0, RgWf x) :
    Calls Try.prog 7 #[.slice a0 len0 cap0] w fun e w' => e = .returned (.bool true) ∧ Below w.heap.size w w' := by
  have hB0 := Below.refl w.heap.size w
  have HS := Lib.hid s0
  clear s0
  go_enter Try.func7, Try.ntmps7
  go_wp2_with (first
        | (go_at_call 8; ((with_reducible refine (szRngsX _ l0 1048576 _ hin (by omega) (by omega)).mono ?_); rintro e w' ⟨⟨x, rfl, hx⟩, rfl⟩; have HX0 := Lib.hid hx; clear hx))
        | (go_at_call 10; ((with_reducible refine (toRngs_any _ l0 _ (hin.below hB0) (by have := HX0.out (by omega); omega)).mono ?_); rintro e w1 ⟨va0, rfl, hrn, hb⟩; have hs1 : Hid (w.heap.size ≤ w1.heap.size) := Lib.hid hb.size; have hB1 := below_step hB0 hb; clear hb; clear hB0; have b_a0 : Hid (∀ j, va0.ownBlock = some j → w.heap.size ≤ j ∧ j < w1.heap.size) := Lib.hid fun j hj => RowR.lt hrn hj; have a0_1 := hrn; clear hrn))
        | (go_at_call 21; ((with_reducible refine (sFormatR_any _ l0 _ (RowR.hasG a0_1) (by have := HX0.out (by omega); omega) HS.out).mono ?_); rintro e w2 ⟨rfl, hb⟩; have hs2 : Hid (w1.heap.size ≤ w2.heap.size) := Lib.hid hb.size; clear a0_1; have hB2 := below_step hB1 hb; clear hb; clear hB1))
        | (go_at_call 10; ((with_reducible refine (toRngs_any _ l0 _ (hin.below hB2) (by have := HX0.out (by omega); omega)).mono ?_); rintro e w3 ⟨vc0, rfl, hrn, hb⟩; have hs3 : Hid (w2.heap.size ≤ w3.heap.size) := Lib.hid hb.size; have hB3 := below_step hB2 hb; clear hb; clear hB2; have b_c0 : Hid (∀ j, vc0.ownBlock = some j → w2.heap.size ≤ j ∧ j < w3.heap.size) := Lib.hid fun j hj => RowR.lt hrn hj; have c0_3 := hrn; clear hrn))
        | (go_at_call 22; ((with_reducible refine (iFormatR_any _ l0 _ (RowR.hasG c0_3) (by have := HX0.out (by omega); omega) HS.out).mono ?_); rintro e w4 ⟨rfl, hb⟩; have hs4 : Hid (w3.heap.size ≤ w4.heap.size) := Lib.hid hb.size; have c0_4 := RowR.below c0_3 hb; clear c0_3; have hB4 := below_step hB3 hb; clear hb; clear hB3))
        | (go_at_call 10; ((with_reducible refine (toRngs_any _ l0 _ (hin.below hB4) (by have := HX0.out (by omega); omega)).mono ?_); rintro e w5 ⟨ve0, rfl, hrn, hb⟩; have hs5 : Hid (w4.heap.size ≤ w5.heap.size) := Lib.hid hb.size; have c0_5 := RowR.below c0_4 hb; clear c0_4; have hB5 := below_step hB4 hb; clear hb; clear hB4; have b_e0 : Hid (∀ j, ve0.ownBlock = some j → w4.heap.size ≤ j ∧ j < w5.heap.size) := Lib.hid fun j hj => RowR.lt hrn hj; have e0_5 := hrn; clear hrn))
        | (go_at_call 12; ((with_reducible refine (eqRngs_any _ _ _ _ (RowR.hasG c0_5) (RowR.hasG e0_5)).mono ?_); rintro e w6 ⟨rfl, hb⟩; have hs6 : Hid (w5.heap.size ≤ w6.heap.size) := Lib.hid hb.size; have c0_6 := RowR.below c0_5 hb; clear c0_5; clear e0_5; have hB6 := below_step hB5 hb; clear hb; clear hB5)))
  all_goals
    go_ret
    first
      | exact ⟨rfl, Below.refl _ _⟩
      | exact ⟨rfl, hB6⟩

/-! ### THE ROW's STEP -/
set_option maxRecDepth 100000 in
theorem lifted (os : Os) (started : os.Started) (H : Type) (enc : TypeId × Value → H) :
    ReturnsInHanded {} Try.checked os 7 .any (Rows.fnExactFormatRangesSpec.pre6 enc Try.prog Try.f7 Rows.fnExactFormatRangesRow.domain false) (Rows.fnExactFormatRangesSpec.post enc Try.prog Try.f7 false true false false) := by
  refine returnsInHanded_of_change (C := Try.checked) own started (by kernel_rfl) Try.func7
    (ChangeSpec.witness6 (enc := enc) (C := Try.checked) false ⟨#[], #[.slice none 0 0], []⟩ 8 (by kernel_rfl) (by kernel_rfl) (by kernel_rfl) (by kernel_rfl)) ?_
  intro W base args ds gs before hval0 hW hcnd _
  have hval : ∀ (j : Nat) t v, Try.f7.params[j]? = some t → args[j]? = some v → Value.okWide Try.prog W .any base t v := hval0
  have hW' := hW
  obtain ⟨p, q, hA0, hV, rfl, hfz, hnd⟩ := hW
  have hA : DataW.TrodAll enc Try.prog W 0 (fun _ => true) true Try.f7.params.toList args.toList ds p := hA0
  rw [Try.params7] at hA hval
  obtain ⟨v0, vs0, d0, ds0, p0, q0, hargs, rfl, rfl, h0, r0⟩ := trodAll_cons hA
  obtain ⟨rfl, rfl, rfl⟩ := trodAll_nil r0
  obtain rfl : args = #[v0] := by cases args; simp_all
  obtain ⟨rfl, rfl⟩ := trodVars_none hV
  obtain ⟨a0, len0, cap0, rfl⟩ := okWide_slice Try.underlying22 (hval 0 22 v0 rfl rfl)
  have k0 := h0
  have lt0 : ∀ x ∈ p0, x.block < W.heap.size := by obtain ⟨m, hm⟩ := k0; exact DataW.trod_lt m _ _ _ hm
  obtain ⟨l0, w0, s0⟩ : ∃ l, HasG W (.slice a0 len0 cap0) l ∧ ∀ x ∈ l, RgWf x := by
    obtain ⟨fuel, hf⟩ := h0
    obtain ⟨a, len, cap, l, hcs, hw, hg⟩ := rngs_open hf
    simp [Value.cells] at hcs
    obtain ⟨rfl, rfl, rfl⟩ := hcs
    exact ⟨l, hw, hg⟩
  clear hA0 hval0
  refine (walk a0 len0 cap0 l0 W w0 s0).mono fun e W' ⟨he, bel⟩ => ?_
  subst he
  exact ⟨_, rfl, _, _, _, [], _, [], hW', trodAll_mk1 (shut_bool Try.underlying4 _), (trodAll_cons_mk (Below.trod laidOut (by kernel_rfl) (of_decide_eq_true (by kernel_rfl)) k0 bel lt0) trodAll_mk0), rfl, bel.frame _, fun h => by cases h⟩

theorem over : Rows.fnExactFormatRangesRow.holds Try.pinned (OpenSpec.ofChange Rows.fnExactFormatRangesSpec) :=
  OpenClaim.holds_of_wide 7 Try.f7 rfl rfl rfl rfl rfl rfl rfl ⟨rfl, rfl, rfl, rfl, rfl⟩ rfl rfl rfl rfl rfl (by kernel_rfl) Try.func7 (by kernel_rfl)
    (of_decide_eq_true (by kernel_rfl)) (by unfold Func.isWrapper; first | (rw [if_pos (by decide +kernel)]; kernel_rfl) | (rw [if_neg (by decide +kernel)]; exact ⟨rfl, rfl⟩))
    (fun os started H enc _ => lifted os started H enc)

theorem proved : Rows.FnExactFormatRangesSaid := over
#print axioms proved
end Go.Proofs.Ytldjkjdmadoaoaa.fnExactFormatRanges
