/- For every two lists of ranges laws.FnExactMeetRanges returns true: impl.MeetRanges answers as spec.MeetRanges does, leaves its arguments as they were, and shares no memory with them nor between calls (lists of more than 1048576 ranges together the law itself lets pass); no condition. -/
import Derived.Test.YtldjkjdmadoaoaaRngOpen
import Derived.Test.YtldjkjdmadoaoaaRngO
import Derived.Test.YtldjkjdmadoaoaaRows
import Derived.WalkKit
import Derived.ProofKit
import Derived.OpenShut
import Derived.ShutString
import Derived.ChangeOld
import Derived.Below
namespace Go.Proofs.Ytldjkjdmadoaoaa.fnExactMeetRanges
open Go.ChangeShapes Go.WideShapes Go.ChangeAt Go.RowKit
open Go.ChangeMaps (open_string shut_string)
set_option linter.unusedVariables false

theorem own : ownKnob Try.prog.godebug = none := by kernel_rfl
theorem laidOut : laidOutB Try.prog = true := by kernel_rfl

theorem walk (a0 : Option Addr) (len0 cap0 : Nat) (l0 : List Rg) (a1 : Option Addr) (len1 cap1 : Nat) (l1 : List Rg) (w : World) (hin0 : HasG w (.slice a0 len0 cap0) l0) (s0 : ∀ x ∈ l0, RgWf x) (hin1 : HasG w (.slice a1 len1 cap1) l1) (s1 : ∀ x ∈ l1, RgWf x) :
    Calls Try.prog 6 #[.slice a0 len0 cap0, .slice a1 len1 cap1] w fun e w' => e = .returned (.bool true) ∧ Below w.heap.size w w' := by
  have hB0 := Below.refl w.heap.size w
  go_enter Try.func6, Try.ntmps6
  go_wp2_with (first
        | (go_at_call 8; ((with_reducible refine (szRngsX _ l0 1048576 _ hin0 (by omega) (by omega)).mono ?_); rintro e w' ⟨⟨x, rfl, hx⟩, rfl⟩; have HX0 := Lib.hid hx; clear hx))
        | (go_at_call 8; ((with_reducible refine (szRngsX _ l1 x _ hin1 (by omega) (by have := HX0.out (by omega); omega)).mono ?_); rintro e w' ⟨⟨y, rfl, hy⟩, rfl⟩; have HN0 : Hid (0 ≤ y → l0.length ≤ 1048576 ∧ l1.length ≤ 1048576 ∧ l0.length * l1.length ≤ 274877906944) := Lib.hid (fun h => (by have h1 := HX0.out (by omega); have h2 := hy h; exact ⟨by omega, by omega, amgm (by omega)⟩)); clear hy))
        | (go_at_call 10; ((with_reducible refine (toRngs_any _ l0 _ (hin0.below hB0) (HN0.out (by omega)).1).mono ?_); rintro e w1 ⟨va0, rfl, hrn, hb⟩; have hs1 : Hid (w.heap.size ≤ w1.heap.size) := Lib.hid hb.size; have hB1 := below_step hB0 hb; clear hb; clear hB0; have b_a0 : Hid (∀ j, va0.ownBlock = some j → w.heap.size ≤ j ∧ j < w1.heap.size) := Lib.hid fun j hj => RowR.lt hrn hj; have a0_1 := hrn; clear hrn))
        | (go_at_call 10; ((with_reducible refine (toRngs_any _ l1 _ (hin1.below hB1) (HN0.out (by omega)).2.1).mono ?_); rintro e w2 ⟨va1, rfl, hrn, hb⟩; have hs2 : Hid (w1.heap.size ≤ w2.heap.size) := Lib.hid hb.size; have a0_2 := RowR.below a0_1 hb; clear a0_1; have hB2 := below_step hB1 hb; clear hb; clear hB1; have b_a1 : Hid (∀ j, va1.ownBlock = some j → w1.heap.size ≤ j ∧ j < w2.heap.size) := Lib.hid fun j hj => RowR.lt hrn hj; have a1_2 := hrn; clear hrn))
        | (go_at_call 19; ((with_reducible refine (sMeet_any _ _ l0 l1 _ (RowR.hasG a0_2) (RowR.hasG a1_2) (HN0.out (by omega)).1 (HN0.out (by omega)).2.1 (HN0.out (by omega)).2.2).mono ?_); rintro e w3 ⟨vb, rfl, hrn, hb⟩; have hs3 : Hid (w2.heap.size ≤ w3.heap.size) := Lib.hid hb.size; clear a0_2; clear a1_2; have hB3 := below_step hB2 hb; clear hb; clear hB2; have b_b : Hid (∀ j, vb.ownBlock = some j → w2.heap.size ≤ j ∧ j < w3.heap.size) := Lib.hid fun j hj => RowR.lt hrn hj; have b_3 := hrn; clear hrn))
        | (go_at_call 10; ((with_reducible refine (toRngs_any _ l0 _ (hin0.below hB3) (HN0.out (by omega)).1).mono ?_); rintro e w4 ⟨vc0, rfl, hrn, hb⟩; have hs4 : Hid (w3.heap.size ≤ w4.heap.size) := Lib.hid hb.size; have b_4 := RowR.below b_3 hb; clear b_3; have hB4 := below_step hB3 hb; clear hb; clear hB3; have b_c0 : Hid (∀ j, vc0.ownBlock = some j → w3.heap.size ≤ j ∧ j < w4.heap.size) := Lib.hid fun j hj => RowR.lt hrn hj; have c0_4 := hrn; clear hrn))
        | (go_at_call 10; ((with_reducible refine (toRngs_any _ l1 _ (hin1.below hB4) (HN0.out (by omega)).2.1).mono ?_); rintro e w5 ⟨vc1, rfl, hrn, hb⟩; have hs5 : Hid (w4.heap.size ≤ w5.heap.size) := Lib.hid hb.size; have b_5 := RowR.below b_4 hb; clear b_4; have c0_5 := RowR.below c0_4 hb; clear c0_4; have hB5 := below_step hB4 hb; clear hb; clear hB4; have b_c1 : Hid (∀ j, vc1.ownBlock = some j → w4.heap.size ≤ j ∧ j < w5.heap.size) := Lib.hid fun j hj => RowR.lt hrn hj; have c1_5 := hrn; clear hrn))
        | (go_at_call 20; ((with_reducible refine (iMeet_any _ _ l0 l1 _ (RowR.hasG c0_5) (RowR.hasG c1_5) (HN0.out (by omega)).1 (HN0.out (by omega)).2.1 (HN0.out (by omega)).2.2).mono ?_); rintro e w6 ⟨vd, rfl, hrn, hb⟩; have hs6 : Hid (w5.heap.size ≤ w6.heap.size) := Lib.hid hb.size; have b_6 := RowR.below b_5 hb; clear b_5; have c0_6 := RowR.below c0_5 hb; clear c0_5; have c1_6 := RowR.below c1_5 hb; clear c1_5; have hB6 := below_step hB5 hb; clear hb; clear hB5; have b_d : Hid (∀ j, vd.ownBlock = some j → w5.heap.size ≤ j ∧ j < w6.heap.size) := Lib.hid fun j hj => RowR.lt hrn hj; have d_6 := hrn; clear hrn))
        | (go_at_call 12; ((with_reducible refine (eqRngs_any _ _ _ _ (RowR.hasG d_6) (RowR.hasG b_6)).mono ?_); rintro e w7 ⟨rfl, hb⟩; have hs7 : Hid (w6.heap.size ≤ w7.heap.size) := Lib.hid hb.size; have b_7 := RowR.below b_6 hb; clear b_6; have c0_7 := RowR.below c0_6 hb; clear c0_6; have c1_7 := RowR.below c1_6 hb; clear c1_6; have d_7 := RowR.below d_6 hb; clear d_6; have hB7 := below_step hB6 hb; clear hb; clear hB6))
        | (go_at_call 10; ((with_reducible refine (toRngs_any _ l0 _ (hin0.below hB7) (HN0.out (by omega)).1).mono ?_); rintro e w8 ⟨ve0, rfl, hrn, hb⟩; have hs8 : Hid (w7.heap.size ≤ w8.heap.size) := Lib.hid hb.size; have b_8 := RowR.below b_7 hb; clear b_7; have c0_8 := RowR.below c0_7 hb; clear c0_7; have c1_8 := RowR.below c1_7 hb; clear c1_7; have d_8 := RowR.below d_7 hb; clear d_7; have hB8 := below_step hB7 hb; clear hb; clear hB7; have b_e0 : Hid (∀ j, ve0.ownBlock = some j → w7.heap.size ≤ j ∧ j < w8.heap.size) := Lib.hid fun j hj => RowR.lt hrn hj; have e0_8 := hrn; clear hrn))
        | (go_at_call 12; ((with_reducible refine (eqRngs_any _ _ _ _ (RowR.hasG c0_8) (RowR.hasG e0_8)).mono ?_); rintro e w9 ⟨rfl, hb⟩; have hs9 : Hid (w8.heap.size ≤ w9.heap.size) := Lib.hid hb.size; have b_9 := RowR.below b_8 hb; clear b_8; have c0_9 := RowR.below c0_8 hb; clear c0_8; have c1_9 := RowR.below c1_8 hb; clear c1_8; have d_9 := RowR.below d_8 hb; clear d_8; clear e0_8; have hB9 := below_step hB8 hb; clear hb; clear hB8))
        | (go_at_call 10; ((with_reducible refine (toRngs_any _ l1 _ (hin1.below hB9) (HN0.out (by omega)).2.1).mono ?_); rintro e w10 ⟨ve1, rfl, hrn, hb⟩; have hs10 : Hid (w9.heap.size ≤ w10.heap.size) := Lib.hid hb.size; have b_10 := RowR.below b_9 hb; clear b_9; have c0_10 := RowR.below c0_9 hb; clear c0_9; have c1_10 := RowR.below c1_9 hb; clear c1_9; have d_10 := RowR.below d_9 hb; clear d_9; have hB10 := below_step hB9 hb; clear hb; clear hB9; have b_e1 : Hid (∀ j, ve1.ownBlock = some j → w9.heap.size ≤ j ∧ j < w10.heap.size) := Lib.hid fun j hj => RowR.lt hrn hj; have e1_10 := hrn; clear hrn))
        | (go_at_call 12; ((with_reducible refine (eqRngs_any _ _ _ _ (RowR.hasG c1_10) (RowR.hasG e1_10)).mono ?_); rintro e w11 ⟨rfl, hb⟩; have hs11 : Hid (w10.heap.size ≤ w11.heap.size) := Lib.hid hb.size; have b_11 := RowR.below b_10 hb; clear b_10; have c0_11 := RowR.below c0_10 hb; clear c0_10; have c1_11 := RowR.below c1_10 hb; clear c1_10; have d_11 := RowR.below d_10 hb; clear d_10; clear e1_10; have hB11 := below_step hB10 hb; clear hb; clear hB10))
        | (go_at_call 17; ((with_reducible refine (markRngsQ1 _ _ l0 _ c0_11 (HN0.out (by omega)).1).mono ?_); rintro e w12 ⟨⟨q0, rfl, hq0⟩, hm, hg⟩; have hs12 : Hid (w11.heap.size ≤ w12.heap.size) := Lib.hid hg.size; have b_12 := RowR.other b_11 hg (fun j h1 h2 => absurd (b_b.out j h1).2 (Nat.not_lt.2 (Nat.le_trans (Nat.le_refl _) (b_c0.out j h2).1))); clear b_11; have c0_12 := hm; clear c0_11; have c1_12 := RowR.other c1_11 hg (fun j h1 h2 => absurd (b_c0.out j h2).2 (Nat.not_lt.2 (Nat.le_trans (Nat.le_refl _) (b_c1.out j h1).1))); clear c1_11; have d_12 := RowR.other d_11 hg (fun j h1 h2 => absurd (b_c0.out j h2).2 (Nat.not_lt.2 (Nat.le_trans hs5.out (b_d.out j h1).1))); clear d_11; have hB12 := hB11.grown hg hB11.size (fun j hj => Nat.le_trans (Nat.le_trans hs1.out (Nat.le_trans hs2.out hs3.out)) (b_c0.out j hj).1); clear hg; clear hB11))
        | (go_at_call 17; ((with_reducible refine (markRngsQ _ _ l1 _ _ c1_12 (HN0.out (by omega)).2.1 (by omega)).mono ?_); rintro e w13 ⟨⟨q1, rfl, hq1⟩, hm, hg⟩; have hs13 : Hid (w12.heap.size ≤ w13.heap.size) := Lib.hid hg.size; have b_13 := RowR.other b_12 hg (fun j h1 h2 => absurd (b_b.out j h1).2 (Nat.not_lt.2 (Nat.le_trans hs4.out (b_c1.out j h2).1))); clear b_12; have c0_13 := RowR.other c0_12 hg (fun j h1 h2 => absurd (b_c0.out j h1).2 (Nat.not_lt.2 (Nat.le_trans (Nat.le_refl _) (b_c1.out j h2).1))); clear c0_12; have c1_13 := hm; clear c1_12; have d_13 := RowR.other d_12 hg (fun j h1 h2 => absurd (b_c1.out j h2).2 (Nat.not_lt.2 (Nat.le_trans (Nat.le_refl _) (b_d.out j h1).1))); clear d_12; have hB13 := hB12.grown hg hB12.size (fun j hj => Nat.le_trans (Nat.le_trans hs1.out (Nat.le_trans hs2.out (Nat.le_trans hs3.out hs4.out))) (b_c1.out j hj).1); clear hg; clear hB12))
        | (go_at_call 12; ((with_reducible refine (eqRngs_any _ _ _ _ (RowR.hasG d_13) (RowR.hasG b_13)).mono ?_); rintro e w14 ⟨rfl, hb⟩; have hs14 : Hid (w13.heap.size ≤ w14.heap.size) := Lib.hid hb.size; have b_14 := RowR.below b_13 hb; clear b_13; clear c0_13; clear c1_13; have d_14 := RowR.below d_13 hb; clear d_13; have hB14 := below_step hB13 hb; clear hb; clear hB13))
        | (go_at_call 17; ((with_reducible refine (markRngs1 _ _ (meetS l0 l1) _ d_14 (meetS_length l0 l1 (HN0.out (by omega)).1 (HN0.out (by omega)).2.1 (HN0.out (by omega)).2.2)).mono ?_); rintro e w15 ⟨rfl, hm, hg⟩; have hs15 : Hid (w14.heap.size ≤ w15.heap.size) := Lib.hid hg.size; have b_15 := RowR.other b_14 hg (fun j h1 h2 => absurd (b_b.out j h1).2 (Nat.not_lt.2 (Nat.le_trans (Nat.le_trans hs4.out hs5.out) (b_d.out j h2).1))); clear b_14; have d_15 := hm; clear d_14; have hB15 := hB14.grown hg hB14.size (fun j hj => Nat.le_trans (Nat.le_trans hs1.out (Nat.le_trans hs2.out (Nat.le_trans hs3.out (Nat.le_trans hs4.out hs5.out)))) (b_d.out j hj).1); clear hg; clear hB14))
        | (go_at_call 18; ((with_reducible refine (heldRngs1 _ _ _ (RowR.hasG d_15) (meetS_length l0 l1 (HN0.out (by omega)).1 (HN0.out (by omega)).2.1 (HN0.out (by omega)).2.2)).mono ?_); rintro e w16 ⟨rfl, hb⟩; have hs16 : Hid (w15.heap.size ≤ w16.heap.size) := Lib.hid hb.size; have b_16 := RowR.below b_15 hb; clear b_15; have d_16 := RowR.below d_15 hb; clear d_15; have hB16 := below_step hB15 hb; clear hb; clear hB15))
        | (go_at_call 10; ((with_reducible refine (toRngs_any _ l0 _ (hin0.below hB16) (HN0.out (by omega)).1).mono ?_); rintro e w17 ⟨vf0, rfl, hrn, hb⟩; have hs17 : Hid (w16.heap.size ≤ w17.heap.size) := Lib.hid hb.size; have b_17 := RowR.below b_16 hb; clear b_16; have d_17 := RowR.below d_16 hb; clear d_16; have hB17 := below_step hB16 hb; clear hb; clear hB16; have b_f0 : Hid (∀ j, vf0.ownBlock = some j → w16.heap.size ≤ j ∧ j < w17.heap.size) := Lib.hid fun j hj => RowR.lt hrn hj; have f0_17 := hrn; clear hrn))
        | (go_at_call 10; ((with_reducible refine (toRngs_any _ l1 _ (hin1.below hB17) (HN0.out (by omega)).2.1).mono ?_); rintro e w18 ⟨vf1, rfl, hrn, hb⟩; have hs18 : Hid (w17.heap.size ≤ w18.heap.size) := Lib.hid hb.size; have b_18 := RowR.below b_17 hb; clear b_17; have d_18 := RowR.below d_17 hb; clear d_17; have f0_18 := RowR.below f0_17 hb; clear f0_17; have hB18 := below_step hB17 hb; clear hb; clear hB17; have b_f1 : Hid (∀ j, vf1.ownBlock = some j → w17.heap.size ≤ j ∧ j < w18.heap.size) := Lib.hid fun j hj => RowR.lt hrn hj; have f1_18 := hrn; clear hrn))
        | (go_at_call 20; ((with_reducible refine (iMeet_any _ _ l0 l1 _ (RowR.hasG f0_18) (RowR.hasG f1_18) (HN0.out (by omega)).1 (HN0.out (by omega)).2.1 (HN0.out (by omega)).2.2).mono ?_); rintro e w19 ⟨vg, rfl, hrn, hb⟩; have hs19 : Hid (w18.heap.size ≤ w19.heap.size) := Lib.hid hb.size; have b_19 := RowR.below b_18 hb; clear b_18; have d_19 := RowR.below d_18 hb; clear d_18; clear f0_18; clear f1_18; have hB19 := below_step hB18 hb; clear hb; clear hB18; have b_g : Hid (∀ j, vg.ownBlock = some j → w18.heap.size ≤ j ∧ j < w19.heap.size) := Lib.hid fun j hj => RowR.lt hrn hj; have g_19 := hrn; clear hrn))
        | (go_at_call 12; ((with_reducible refine (eqRngs_any _ _ _ _ (RowR.hasG g_19) (RowR.hasG b_19)).mono ?_); rintro e w20 ⟨rfl, hb⟩; have hs20 : Hid (w19.heap.size ≤ w20.heap.size) := Lib.hid hb.size; clear b_19; have d_20 := RowR.below d_19 hb; clear d_19; clear g_19; have hB20 := below_step hB19 hb; clear hb; clear hB19))
        | (go_at_call 18; ((with_reducible refine (heldRngs1 _ _ _ (RowR.hasG d_20) (meetS_length l0 l1 (HN0.out (by omega)).1 (HN0.out (by omega)).2.1 (HN0.out (by omega)).2.2)).mono ?_); rintro e w21 ⟨rfl, hb⟩; have hs21 : Hid (w20.heap.size ≤ w21.heap.size) := Lib.hid hb.size; have d_21 := RowR.below d_20 hb; clear d_20; have hB21 := below_step hB20 hb; clear hb; clear hB20)))
  all_goals
    go_ret
    first
      | exact ⟨rfl, Below.refl _ _⟩
      | exact ⟨rfl, hB21⟩

/-! ### THE ROW's STEP -/
set_option maxRecDepth 100000 in
theorem lifted (os : Os) (started : os.Started) (H : Type) (enc : TypeId × Value → H) :
    ReturnsInHanded {} Try.checked os 6 .any (Rows.fnExactMeetRangesSpec.pre6 enc Try.prog Try.f6 Rows.fnExactMeetRangesRow.domain false) (Rows.fnExactMeetRangesSpec.post enc Try.prog Try.f6 false true false false) := by
  refine returnsInHanded_of_change (C := Try.checked) own started (by kernel_rfl) Try.func6
    (ChangeSpec.witness6 (enc := enc) (C := Try.checked) false ⟨#[], #[.slice none 0 0, .slice none 0 0], []⟩ 8 (by kernel_rfl) (by kernel_rfl) (by kernel_rfl) (by kernel_rfl)) ?_
  intro W base args ds gs before hval0 hW hcnd _
  have hval : ∀ (j : Nat) t v, Try.f6.params[j]? = some t → args[j]? = some v → Value.okWide Try.prog W .any base t v := hval0
  have hW' := hW
  obtain ⟨p, q, hA0, hV, rfl, hfz, hnd⟩ := hW
  have hA : DataW.TrodAll enc Try.prog W 0 (fun _ => true) true Try.f6.params.toList args.toList ds p := hA0
  rw [Try.params6] at hA hval
  obtain ⟨v0, vs0, d0, ds0, p0, q0, hargs, rfl, rfl, h0, r0⟩ := trodAll_cons hA
  obtain ⟨v1, vs1, d1, ds1, p1, q1, rfl, rfl, rfl, h1, r1⟩ := trodAll_cons r0
  obtain ⟨rfl, rfl, rfl⟩ := trodAll_nil r1
  obtain rfl : args = #[v0, v1] := by cases args; simp_all
  obtain ⟨rfl, rfl⟩ := trodVars_none hV
  obtain ⟨a0, len0, cap0, rfl⟩ := okWide_slice Try.underlying22 (hval 0 22 v0 rfl rfl)
  have k0 := h0
  have lt0 : ∀ x ∈ p0, x.block < W.heap.size := by obtain ⟨m, hm⟩ := k0; exact DataW.trod_lt m _ _ _ hm
  obtain ⟨l0, w0, s0⟩ : ∃ l, HasG W (.slice a0 len0 cap0) l ∧ ∀ x ∈ l, RgWf x := by
    obtain ⟨fuel, hf⟩ := h0
    obtain ⟨a, len, cap, l, hcs, hw, hg⟩ := rngs_open hf
    simp [Value.cells] at hcs
    obtain ⟨rfl, rfl, rfl⟩ := hcs
    exact ⟨l, hw, hg⟩
  obtain ⟨a1, len1, cap1, rfl⟩ := okWide_slice Try.underlying22 (hval 1 22 v1 rfl rfl)
  have k1 := h1
  have lt1 : ∀ x ∈ p1, x.block < W.heap.size := by obtain ⟨m, hm⟩ := k1; exact DataW.trod_lt m _ _ _ hm
  obtain ⟨l1, w1, s1⟩ : ∃ l, HasG W (.slice a1 len1 cap1) l ∧ ∀ x ∈ l, RgWf x := by
    obtain ⟨fuel, hf⟩ := h1
    obtain ⟨a, len, cap, l, hcs, hw, hg⟩ := rngs_open hf
    simp [Value.cells] at hcs
    obtain ⟨rfl, rfl, rfl⟩ := hcs
    exact ⟨l, hw, hg⟩
  clear hA0 hval0
  refine (walk a0 len0 cap0 l0 a1 len1 cap1 l1 W w0 s0 w1 s1).mono fun e W' ⟨he, bel⟩ => ?_
  subst he
  exact ⟨_, rfl, _, _, _, [], _, [], hW', trodAll_mk1 (shut_bool Try.underlying4 _), (trodAll_cons_mk (Below.trod laidOut (by kernel_rfl) (of_decide_eq_true (by kernel_rfl)) k0 bel lt0) (trodAll_cons_mk (Below.trod laidOut (by kernel_rfl) (of_decide_eq_true (by kernel_rfl)) k1 bel lt1) trodAll_mk0)), rfl, bel.frame _, fun h => by cases h⟩

theorem over : Rows.fnExactMeetRangesRow.holds Try.pinned (OpenSpec.ofChange Rows.fnExactMeetRangesSpec) :=
  OpenClaim.holds_of_wide 6 Try.f6 rfl rfl rfl rfl rfl rfl rfl ⟨rfl, rfl, rfl, rfl, rfl⟩ rfl rfl rfl rfl rfl (by kernel_rfl) Try.func6 (by kernel_rfl)
    (of_decide_eq_true (by kernel_rfl)) (by unfold Func.isWrapper; first | (rw [if_pos (by decide +kernel)]; kernel_rfl) | (rw [if_neg (by decide +kernel)]; exact ⟨rfl, rfl⟩))
    (fun os started H enc _ => lifted os started H enc)

theorem proved : Rows.FnExactMeetRangesSaid := over
#print axioms proved
end Go.Proofs.Ytldjkjdmadoaoaa.fnExactMeetRanges
