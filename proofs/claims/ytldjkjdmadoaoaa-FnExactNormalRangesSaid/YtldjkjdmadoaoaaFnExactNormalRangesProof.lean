/- For every list of ranges laws.FnExactNormalRanges returns true: impl.NormalRanges answers as spec.NormalRanges does, leaves its argument as it was, and shares no memory with it nor between calls (lists of more than 1048576 ranges the law itself lets pass); no condition. -/
import Derived.Test.YtldjkjdmadoaoaaRngOpen
import Derived.Test.YtldjkjdmadoaoaaRngO
import Derived.Test.YtldjkjdmadoaoaaRows
import Derived.WalkKit
import Derived.ProofKit
import Derived.OpenShut
import Derived.ShutString
import Derived.ChangeOld
import Derived.Below
namespace Go.Proofs.Ytldjkjdmadoaoaa.fnExactNormalRanges
open Go.ChangeShapes Go.WideShapes Go.ChangeAt Go.RowKit
open Go.ChangeMaps (open_string shut_string)
set_option linter.unusedVariables false

theorem own : ownKnob Try.prog.godebug = none := by kernel_rfl
theorem laidOut : laidOutB Try.prog = true := by kernel_rfl

theorem walk (a0 : Option Addr) (len0 cap0 : Nat) (l0 : List Rg) (w : World) (hin : HasG w (.slice a0 len0 cap0) l0) (s0 : ∀ x ∈ l0, RgWf x) :
    Calls Try.prog 5 #[.slice a0 len0 cap0] w fun e w' => e = .returned (.bool true) ∧ Below w.heap.size w w' := by
  have hB0 := Below.refl w.heap.size w
  go_enter Try.func5, Try.ntmps5
  go_wp2_with (first
        | (go_at_call 8; ((with_reducible refine (szRngsX _ l0 1048576 _ hin (by omega) (by omega)).mono ?_); rintro e w' ⟨⟨x, rfl, hx⟩, rfl⟩; have HX0 := Lib.hid hx; clear hx))
        | (go_at_call 10; ((with_reducible refine (toRngs_any _ l0 _ (hin.below hB0) (by have := HX0.out (by omega); omega)).mono ?_); rintro e w1 ⟨va0, rfl, hrn, hb⟩; have hs1 : Hid (w.heap.size ≤ w1.heap.size) := Lib.hid hb.size; have hB1 := below_step hB0 hb; clear hb; clear hB0; have b_a0 : Hid (∀ j, va0.ownBlock = some j → w.heap.size ≤ j ∧ j < w1.heap.size) := Lib.hid fun j hj => RowR.lt hrn hj; have a0_1 := hrn; clear hrn))
        | (go_at_call 15; ((with_reducible refine (sNorm_any _ l0 _ (RowR.hasG a0_1) (by have := HX0.out (by omega); omega)).mono ?_); rintro e w2 ⟨vb, rfl, hrn, hb⟩; have hs2 : Hid (w1.heap.size ≤ w2.heap.size) := Lib.hid hb.size; clear a0_1; have hB2 := below_step hB1 hb; clear hb; clear hB1; have b_b : Hid (∀ j, vb.ownBlock = some j → w1.heap.size ≤ j ∧ j < w2.heap.size) := Lib.hid fun j hj => RowR.lt hrn hj; have b_2 := hrn; clear hrn))
        | (go_at_call 10; ((with_reducible refine (toRngs_any _ l0 _ (hin.below hB2) (by have := HX0.out (by omega); omega)).mono ?_); rintro e w3 ⟨vc0, rfl, hrn, hb⟩; have hs3 : Hid (w2.heap.size ≤ w3.heap.size) := Lib.hid hb.size; have b_3 := RowR.below b_2 hb; clear b_2; have hB3 := below_step hB2 hb; clear hb; clear hB2; have b_c0 : Hid (∀ j, vc0.ownBlock = some j → w2.heap.size ≤ j ∧ j < w3.heap.size) := Lib.hid fun j hj => RowR.lt hrn hj; have c0_3 := hrn; clear hrn))
        | (go_at_call 16; ((with_reducible refine (iNorm_any _ l0 _ (RowR.hasG c0_3) (by have := HX0.out (by omega); omega)).mono ?_); rintro e w4 ⟨vd, rfl, hrn, hb⟩; have hs4 : Hid (w3.heap.size ≤ w4.heap.size) := Lib.hid hb.size; have b_4 := RowR.below b_3 hb; clear b_3; have c0_4 := RowR.below c0_3 hb; clear c0_3; have hB4 := below_step hB3 hb; clear hb; clear hB3; have b_d : Hid (∀ j, vd.ownBlock = some j → w3.heap.size ≤ j ∧ j < w4.heap.size) := Lib.hid fun j hj => RowR.lt hrn hj; have d_4 := hrn; clear hrn))
        | (go_at_call 12; ((with_reducible refine (eqRngs_any _ _ _ _ (RowR.hasG d_4) (RowR.hasG b_4)).mono ?_); rintro e w5 ⟨rfl, hb⟩; have hs5 : Hid (w4.heap.size ≤ w5.heap.size) := Lib.hid hb.size; have b_5 := RowR.below b_4 hb; clear b_4; have c0_5 := RowR.below c0_4 hb; clear c0_4; have d_5 := RowR.below d_4 hb; clear d_4; have hB5 := below_step hB4 hb; clear hb; clear hB4))
        | (go_at_call 10; ((with_reducible refine (toRngs_any _ l0 _ (hin.below hB5) (by have := HX0.out (by omega); omega)).mono ?_); rintro e w6 ⟨ve0, rfl, hrn, hb⟩; have hs6 : Hid (w5.heap.size ≤ w6.heap.size) := Lib.hid hb.size; have b_6 := RowR.below b_5 hb; clear b_5; have c0_6 := RowR.below c0_5 hb; clear c0_5; have d_6 := RowR.below d_5 hb; clear d_5; have hB6 := below_step hB5 hb; clear hb; clear hB5; have b_e0 : Hid (∀ j, ve0.ownBlock = some j → w5.heap.size ≤ j ∧ j < w6.heap.size) := Lib.hid fun j hj => RowR.lt hrn hj; have e0_6 := hrn; clear hrn))
        | (go_at_call 12; ((with_reducible refine (eqRngs_any _ _ _ _ (RowR.hasG c0_6) (RowR.hasG e0_6)).mono ?_); rintro e w7 ⟨rfl, hb⟩; have hs7 : Hid (w6.heap.size ≤ w7.heap.size) := Lib.hid hb.size; have b_7 := RowR.below b_6 hb; clear b_6; have c0_7 := RowR.below c0_6 hb; clear c0_6; have d_7 := RowR.below d_6 hb; clear d_6; clear e0_6; have hB7 := below_step hB6 hb; clear hb; clear hB6))
        | (go_at_call 17; ((with_reducible refine (markRngs1 _ _ l0 _ c0_7 (by have := HX0.out (by omega); omega)).mono ?_); rintro e w8 ⟨rfl, hm, hg⟩; have hs8 : Hid (w7.heap.size ≤ w8.heap.size) := Lib.hid hg.size; have b_8 := RowR.other b_7 hg (fun j h1 h2 => absurd (b_b.out j h1).2 (Nat.not_lt.2 (Nat.le_trans (Nat.le_refl _) (b_c0.out j h2).1))); clear b_7; have c0_8 := hm; clear c0_7; have d_8 := RowR.other d_7 hg (fun j h1 h2 => absurd (b_c0.out j h2).2 (Nat.not_lt.2 (Nat.le_trans (Nat.le_refl _) (b_d.out j h1).1))); clear d_7; have hB8 := hB7.grown hg hB7.size (fun j hj => Nat.le_trans (Nat.le_trans hs1.out hs2.out) (b_c0.out j hj).1); clear hg; clear hB7))
        | (go_at_call 12; ((with_reducible refine (eqRngs_any _ _ _ _ (RowR.hasG d_8) (RowR.hasG b_8)).mono ?_); rintro e w9 ⟨rfl, hb⟩; have hs9 : Hid (w8.heap.size ≤ w9.heap.size) := Lib.hid hb.size; have b_9 := RowR.below b_8 hb; clear b_8; clear c0_8; have d_9 := RowR.below d_8 hb; clear d_8; have hB9 := below_step hB8 hb; clear hb; clear hB8))
        | (go_at_call 17; ((with_reducible refine (markRngs1 _ _ (normS l0) _ d_9 (Nat.le_trans (normS_length l0) (by have := HX0.out (by omega); omega))).mono ?_); rintro e w10 ⟨rfl, hm, hg⟩; have hs10 : Hid (w9.heap.size ≤ w10.heap.size) := Lib.hid hg.size; have b_10 := RowR.other b_9 hg (fun j h1 h2 => absurd (b_b.out j h1).2 (Nat.not_lt.2 (Nat.le_trans hs3.out (b_d.out j h2).1))); clear b_9; have d_10 := hm; clear d_9; have hB10 := hB9.grown hg hB9.size (fun j hj => Nat.le_trans (Nat.le_trans hs1.out (Nat.le_trans hs2.out hs3.out)) (b_d.out j hj).1); clear hg; clear hB9))
        | (go_at_call 18; ((with_reducible refine (heldRngs1 _ _ _ (RowR.hasG d_10) (Nat.le_trans (normS_length l0) (by have := HX0.out (by omega); omega))).mono ?_); rintro e w11 ⟨rfl, hb⟩; have hs11 : Hid (w10.heap.size ≤ w11.heap.size) := Lib.hid hb.size; have b_11 := RowR.below b_10 hb; clear b_10; have d_11 := RowR.below d_10 hb; clear d_10; have hB11 := below_step hB10 hb; clear hb; clear hB10))
        | (go_at_call 10; ((with_reducible refine (toRngs_any _ l0 _ (hin.below hB11) (by have := HX0.out (by omega); omega)).mono ?_); rintro e w12 ⟨vf0, rfl, hrn, hb⟩; have hs12 : Hid (w11.heap.size ≤ w12.heap.size) := Lib.hid hb.size; have b_12 := RowR.below b_11 hb; clear b_11; have d_12 := RowR.below d_11 hb; clear d_11; have hB12 := below_step hB11 hb; clear hb; clear hB11; have b_f0 : Hid (∀ j, vf0.ownBlock = some j → w11.heap.size ≤ j ∧ j < w12.heap.size) := Lib.hid fun j hj => RowR.lt hrn hj; have f0_12 := hrn; clear hrn))
        | (go_at_call 16; ((with_reducible refine (iNorm_any _ l0 _ (RowR.hasG f0_12) (by have := HX0.out (by omega); omega)).mono ?_); rintro e w13 ⟨vg, rfl, hrn, hb⟩; have hs13 : Hid (w12.heap.size ≤ w13.heap.size) := Lib.hid hb.size; have b_13 := RowR.below b_12 hb; clear b_12; have d_13 := RowR.below d_12 hb; clear d_12; clear f0_12; have hB13 := below_step hB12 hb; clear hb; clear hB12; have b_g : Hid (∀ j, vg.ownBlock = some j → w12.heap.size ≤ j ∧ j < w13.heap.size) := Lib.hid fun j hj => RowR.lt hrn hj; have g_13 := hrn; clear hrn))
        | (go_at_call 12; ((with_reducible refine (eqRngs_any _ _ _ _ (RowR.hasG g_13) (RowR.hasG b_13)).mono ?_); rintro e w14 ⟨rfl, hb⟩; have hs14 : Hid (w13.heap.size ≤ w14.heap.size) := Lib.hid hb.size; clear b_13; have d_14 := RowR.below d_13 hb; clear d_13; clear g_13; have hB14 := below_step hB13 hb; clear hb; clear hB13))
        | (go_at_call 18; ((with_reducible refine (heldRngs1 _ _ _ (RowR.hasG d_14) (Nat.le_trans (normS_length l0) (by have := HX0.out (by omega); omega))).mono ?_); rintro e w15 ⟨rfl, hb⟩; have hs15 : Hid (w14.heap.size ≤ w15.heap.size) := Lib.hid hb.size; have d_15 := RowR.below d_14 hb; clear d_14; have hB15 := below_step hB14 hb; clear hb; clear hB14)))
  all_goals
    go_ret
    first
      | exact ⟨rfl, Below.refl _ _⟩
      | exact ⟨rfl, hB15⟩

/-! ### THE ROW's STEP -/
set_option maxRecDepth 100000 in
theorem lifted (os : Os) (started : os.Started) (H : Type) (enc : TypeId × Value → H) :
    ReturnsInHanded {} Try.checked os 5 .any (Rows.fnExactNormalRangesSpec.pre6 enc Try.prog Try.f5 Rows.fnExactNormalRangesRow.domain false) (Rows.fnExactNormalRangesSpec.post enc Try.prog Try.f5 false true false false) := by
  refine returnsInHanded_of_change (C := Try.checked) own started (by kernel_rfl) Try.func5
    (ChangeSpec.witness6 (enc := enc) (C := Try.checked) false ⟨#[], #[.slice none 0 0], []⟩ 8 (by kernel_rfl) (by kernel_rfl) (by kernel_rfl) (by kernel_rfl)) ?_
  intro W base args ds gs before hval0 hW hcnd _
  have hval : ∀ (j : Nat) t v, Try.f5.params[j]? = some t → args[j]? = some v → Value.okWide Try.prog W .any base t v := hval0
  have hW' := hW
  obtain ⟨p, q, hA0, hV, rfl, hfz, hnd⟩ := hW
  have hA : DataW.TrodAll enc Try.prog W 0 (fun _ => true) true Try.f5.params.toList args.toList ds p := hA0
  rw [Try.params5] at hA hval
  obtain ⟨v0, vs0, d0, ds0, p0, q0, hargs, rfl, rfl, h0, r0⟩ := trodAll_cons hA
  obtain ⟨rfl, rfl, rfl⟩ := trodAll_nil r0
  obtain rfl : args = #[v0] := by cases args; simp_all
  obtain ⟨rfl, rfl⟩ := trodVars_none hV
  obtain ⟨a0, len0, cap0, rfl⟩ := okWide_slice Try.underlying22 (hval 0 22 v0 rfl rfl)
  have k0 := h0
  have lt0 : ∀ x ∈ p0, x.block < W.heap.size := by obtain ⟨m, hm⟩ := k0; exact DataW.trod_lt m _ _ _ hm
  obtain ⟨l0, w0, s0⟩ : ∃ l, HasG W (.slice a0 len0 cap0) l ∧ ∀ x ∈ l, RgWf x := by
    obtain ⟨fuel, hf⟩ := h0
    obtain ⟨a, len, cap, l, hcs, hw, hg⟩ := rngs_open hf
    simp [Value.cells] at hcs
    obtain ⟨rfl, rfl, rfl⟩ := hcs
    exact ⟨l, hw, hg⟩
  clear hA0 hval0
  refine (walk a0 len0 cap0 l0 W w0 s0).mono fun e W' ⟨he, bel⟩ => ?_
  subst he
  exact ⟨_, rfl, _, _, _, [], _, [], hW', trodAll_mk1 (shut_bool Try.underlying4 _), (trodAll_cons_mk (Below.trod laidOut (by kernel_rfl) (of_decide_eq_true (by kernel_rfl)) k0 bel lt0) trodAll_mk0), rfl, bel.frame _, fun h => by cases h⟩

theorem over : Rows.fnExactNormalRangesRow.holds Try.pinned (OpenSpec.ofChange Rows.fnExactNormalRangesSpec) :=
  OpenClaim.holds_of_wide 5 Try.f5 rfl rfl rfl rfl rfl rfl rfl ⟨rfl, rfl, rfl, rfl, rfl⟩ rfl rfl rfl rfl rfl (by kernel_rfl) Try.func5 (by kernel_rfl)
    (of_decide_eq_true (by kernel_rfl)) (by unfold Func.isWrapper; first | (rw [if_pos (by decide +kernel)]; kernel_rfl) | (rw [if_neg (by decide +kernel)]; exact ⟨rfl, rfl⟩))
    (fun os started H enc _ => lifted os started H enc)

theorem proved : Rows.FnExactNormalRangesSaid := over
#print axioms proved
end Go.Proofs.Ytldjkjdmadoaoaa.fnExactNormalRanges
