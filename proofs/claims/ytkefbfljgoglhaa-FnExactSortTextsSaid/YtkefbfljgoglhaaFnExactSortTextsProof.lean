/- For every list of texts laws.FnExactSortTexts returns true: impl.SortTexts answers as spec.SortTexts does, leaves its argument as it was, and shares no memory with it nor between calls (lists of more than 1048576 places and bytes together the law itself lets pass); no condition. -/
import Derived.Test.YtkefbfljgoglhaaSortB
import Derived.Test.YtkefbfljgoglhaaMark
import Derived.Test.YtkefbfljgoglhaaRows
import Derived.WalkKit
import Derived.ProofKit
import Derived.OpenShut
import Derived.ShutString
import Derived.SliceStrings
import Derived.ChangeOld
import Derived.Below
namespace Go.Proofs.Ytkefbfljgoglhaa.fnExactSortTexts
open Go.ChangeShapes Go.WideShapes Go.ChangeAt Go.RowKit
open Go.ChangeMaps (open_string shut_string)
set_option linter.unusedVariables false

theorem own : ownKnob Try.prog.godebug = none := by kernel_rfl
theorem laidOut : laidOutB Try.prog = true := by kernel_rfl

/-! ### THE WALK -/
theorem walk (a0 : Option Addr) (len0 cap0 : Nat) (l0 : List ByteArray) (w : World) (hin : Has w (.slice a0 len0 cap0) l0) (s0 : ∀ s ∈ l0, s.size ≤ 9223372036854775807) :
    Calls Try.prog 8 #[.slice a0 len0 cap0] w fun e w' => e = .returned (.bool true) ∧ Below w.heap.size w w' := by
  by_cases hn : l0.length ≤ 1048576
  · have hB0 := Below.refl w.heap.size w
    have hnr : (sortS l0).length ≤ 1048576 := by rw [sortS_length]; exact hn
    go_enter Try.func8, Try.ntmps8
    go_wp2_with (first
        | (go_at_call 21; refine (szStrs_any _ l0 1048576 _ hin s0 (by omega) (by omega)).mono ?_; rintro e w' ⟨⟨x, rfl, hx⟩, rfl⟩)
        | (go_at_call 23; ((with_reducible refine (toStrs_any _ l0 _ (hin.below hB0) hn).mono ?_); rintro e w1 ⟨va, rfl, hrn, hb⟩; have hs1 : Hid (w.heap.size ≤ w1.heap.size) := Lib.hid hb.size; have hB1 := below_step hB0 hb; clear hb; clear hB0; have b_a : Hid (∀ j, va.ownBlock = some j → w.heap.size ≤ j ∧ j < w1.heap.size) := Lib.hid fun j hj => hrn.lt hj; have a_1 := hrn; clear hrn))
        | (go_at_call 22; ((with_reducible refine (sSort_any _ l0 _ a_1.has hn).mono ?_); rintro e w2 ⟨vb, rfl, hrn, hb⟩; have hs2 : Hid (w1.heap.size ≤ w2.heap.size) := Lib.hid hb.size; clear a_1; have hB2 := below_step hB1 hb; clear hb; clear hB1; have b_b : Hid (∀ j, vb.ownBlock = some j → w1.heap.size ≤ j ∧ j < w2.heap.size) := Lib.hid fun j hj => hrn.lt hj; have b_2 := hrn; clear hrn))
        | (go_at_call 23; ((with_reducible refine (toStrs_any _ l0 _ (hin.below hB2) hn).mono ?_); rintro e w3 ⟨vc, rfl, hrn, hb⟩; have hs3 : Hid (w2.heap.size ≤ w3.heap.size) := Lib.hid hb.size; have b_3 := b_2.below hb; clear b_2; have hB3 := below_step hB2 hb; clear hb; clear hB2; have b_c : Hid (∀ j, vc.ownBlock = some j → w2.heap.size ≤ j ∧ j < w3.heap.size) := Lib.hid fun j hj => hrn.lt hj; have c_3 := hrn; clear hrn))
        | (go_at_call 14; ((with_reducible refine (iSort_any _ l0 _ c_3.has hn).mono ?_); rintro e w4 ⟨vd, rfl, hrn, hb⟩; have hs4 : Hid (w3.heap.size ≤ w4.heap.size) := Lib.hid hb.size; have b_4 := b_3.below hb; clear b_3; have c_4 := c_3.below hb; clear c_3; have hB4 := below_step hB3 hb; clear hb; clear hB3; have b_d : Hid (∀ j, vd.ownBlock = some j → w3.heap.size ≤ j ∧ j < w4.heap.size) := Lib.hid fun j hj => hrn.lt hj; have d_4 := hrn; clear hrn))
        | (go_at_call 24; ((with_reducible refine (eqStrs_any _ _ _ _ d_4.has b_4.has).mono ?_); rintro e w5 ⟨rfl, hb⟩; have hs5 : Hid (w4.heap.size ≤ w5.heap.size) := Lib.hid hb.size; have b_5 := b_4.below hb; clear b_4; have c_5 := c_4.below hb; clear c_4; have d_5 := d_4.below hb; clear d_4; have hB5 := below_step hB4 hb; clear hb; clear hB4))
        | (go_at_call 23; ((with_reducible refine (toStrs_any _ l0 _ (hin.below hB5) hn).mono ?_); rintro e w6 ⟨ve, rfl, hrn, hb⟩; have hs6 : Hid (w5.heap.size ≤ w6.heap.size) := Lib.hid hb.size; have b_6 := b_5.below hb; clear b_5; have c_6 := c_5.below hb; clear c_5; have d_6 := d_5.below hb; clear d_5; have hB6 := below_step hB5 hb; clear hb; clear hB5; have b_e : Hid (∀ j, ve.ownBlock = some j → w5.heap.size ≤ j ∧ j < w6.heap.size) := Lib.hid fun j hj => hrn.lt hj; have e_6 := hrn; clear hrn))
        | (go_at_call 24; ((with_reducible refine (eqStrs_any _ _ _ _ c_6.has e_6.has).mono ?_); rintro e w7 ⟨rfl, hb⟩; have hs7 : Hid (w6.heap.size ≤ w7.heap.size) := Lib.hid hb.size; have b_7 := b_6.below hb; clear b_6; have c_7 := c_6.below hb; clear c_6; have d_7 := d_6.below hb; clear d_6; clear e_6; have hB7 := below_step hB6 hb; clear hb; clear hB6))
        | (go_at_call 25; ((with_reducible refine (markStrs1 _ _ l0 _ c_7 hn).mono ?_); rintro e w8 ⟨rfl, hm, hg⟩; have hs8 : Hid (w7.heap.size ≤ w8.heap.size) := Lib.hid hg.size; have b_8 := b_7.other hg (fun j h1 h2 => absurd (b_b.out j h1).2 (Nat.not_lt.2 (Nat.le_trans (Nat.le_refl _) (b_c.out j h2).1))); clear b_7; have c_8 := hm; clear c_7; have d_8 := d_7.other hg (fun j h1 h2 => absurd (b_c.out j h2).2 (Nat.not_lt.2 (Nat.le_trans (Nat.le_refl _) (b_d.out j h1).1))); clear d_7; have hB8 := hB7.grown hg hB7.size (fun j hj => Nat.le_trans (Nat.le_trans hs1.out hs2.out) (b_c.out j hj).1); clear hg; clear hB7))
        | (go_at_call 24; ((with_reducible refine (eqStrs_any _ _ _ _ d_8.has b_8.has).mono ?_); rintro e w9 ⟨rfl, hb⟩; have hs9 : Hid (w8.heap.size ≤ w9.heap.size) := Lib.hid hb.size; have b_9 := b_8.below hb; clear b_8; clear c_8; have d_9 := d_8.below hb; clear d_8; have hB9 := below_step hB8 hb; clear hb; clear hB8))
        | (go_at_call 25; ((with_reducible refine (markStrs1 _ _ (sortS l0) _ d_9 hnr).mono ?_); rintro e w10 ⟨rfl, hm, hg⟩; have hs10 : Hid (w9.heap.size ≤ w10.heap.size) := Lib.hid hg.size; have b_10 := b_9.other hg (fun j h1 h2 => absurd (b_b.out j h1).2 (Nat.not_lt.2 (Nat.le_trans hs3.out (b_d.out j h2).1))); clear b_9; have d_10 := hm; clear d_9; have hB10 := hB9.grown hg hB9.size (fun j hj => Nat.le_trans (Nat.le_trans hs1.out (Nat.le_trans hs2.out hs3.out)) (b_d.out j hj).1); clear hg; clear hB9))
        | (go_at_call 26; ((with_reducible refine (heldStrs1 _ _ _ d_10.has hnr).mono ?_); rintro e w11 ⟨rfl, hb⟩; have hs11 : Hid (w10.heap.size ≤ w11.heap.size) := Lib.hid hb.size; have b_11 := b_10.below hb; clear b_10; have d_11 := d_10.below hb; clear d_10; have hB11 := below_step hB10 hb; clear hb; clear hB10))
        | (go_at_call 23; ((with_reducible refine (toStrs_any _ l0 _ (hin.below hB11) hn).mono ?_); rintro e w12 ⟨vf, rfl, hrn, hb⟩; have hs12 : Hid (w11.heap.size ≤ w12.heap.size) := Lib.hid hb.size; have b_12 := b_11.below hb; clear b_11; have d_12 := d_11.below hb; clear d_11; have hB12 := below_step hB11 hb; clear hb; clear hB11; have b_f : Hid (∀ j, vf.ownBlock = some j → w11.heap.size ≤ j ∧ j < w12.heap.size) := Lib.hid fun j hj => hrn.lt hj; have f_12 := hrn; clear hrn))
        | (go_at_call 14; ((with_reducible refine (iSort_any _ l0 _ f_12.has hn).mono ?_); rintro e w13 ⟨vg, rfl, hrn, hb⟩; have hs13 : Hid (w12.heap.size ≤ w13.heap.size) := Lib.hid hb.size; have b_13 := b_12.below hb; clear b_12; have d_13 := d_12.below hb; clear d_12; clear f_12; have hB13 := below_step hB12 hb; clear hb; clear hB12; have b_g : Hid (∀ j, vg.ownBlock = some j → w12.heap.size ≤ j ∧ j < w13.heap.size) := Lib.hid fun j hj => hrn.lt hj; have g_13 := hrn; clear hrn))
        | (go_at_call 24; ((with_reducible refine (eqStrs_any _ _ _ _ g_13.has b_13.has).mono ?_); rintro e w14 ⟨rfl, hb⟩; have hs14 : Hid (w13.heap.size ≤ w14.heap.size) := Lib.hid hb.size; clear b_13; have d_14 := d_13.below hb; clear d_13; clear g_13; have hB14 := below_step hB13 hb; clear hb; clear hB13))
        | (go_at_call 26; ((with_reducible refine (heldStrs1 _ _ _ d_14.has hnr).mono ?_); rintro e w15 ⟨rfl, hb⟩; have hs15 : Hid (w14.heap.size ≤ w15.heap.size) := Lib.hid hb.size; have d_15 := d_14.below hb; clear d_14; have hB15 := below_step hB14 hb; clear hb; clear hB14)))
    all_goals
      go_ret
      first
        | exact ⟨rfl, Below.refl _ _⟩
        | exact ⟨rfl, hB15⟩
  · go_enter Try.func8, Try.ntmps8
    go_wp2_with (go_at_call 21; refine (szStrs_any _ l0 1048576 _ hin s0 (by omega) (by omega)).mono ?_; rintro e w' ⟨⟨x, rfl, hx⟩, rfl⟩; have hx0 : x < 0 := (by rcases Int.lt_or_le x 0 with h | h; exact h; exact absurd (hx h) hn); clear hx)
    go_ret
    exact ⟨rfl, Below.refl _ _⟩

/-! ### THE ROW's STEP -/
set_option maxRecDepth 100000 in
theorem lifted (os : Os) (started : os.Started) (H : Type) (enc : TypeId × Value → H) :
    ReturnsInHanded {} Try.checked os 8 .any (Rows.fnExactSortTextsSpec.pre6 enc Try.prog Try.f8 Rows.fnExactSortTextsRow.domain false) (Rows.fnExactSortTextsSpec.post enc Try.prog Try.f8 false true false false) := by
  refine returnsInHanded_of_change (C := Try.checked) own started (by kernel_rfl) Try.func8
    (ChangeSpec.witness6 (enc := enc) (C := Try.checked) false ⟨#[], #[.slice none 0 0], []⟩ 8 (by kernel_rfl) (by kernel_rfl) (by kernel_rfl) (by kernel_rfl)) ?_
  intro W base args ds gs before hval0 hW hcnd _
  have hval : ∀ (j : Nat) t v, Try.f8.params[j]? = some t → args[j]? = some v → Value.okWide Try.prog W .any base t v := hval0
  have hW' := hW
  obtain ⟨p, q, hA0, hV, rfl, hfz, hnd⟩ := hW
  have hA : DataW.TrodAll enc Try.prog W 0 (fun _ => true) true Try.f8.params.toList args.toList ds p := hA0
  rw [Try.params8] at hA hval
  obtain ⟨v0, vs0, d0, ds0, p0, q0, hargs, rfl, rfl, h0, r0⟩ := trodAll_cons hA
  obtain ⟨rfl, rfl, rfl⟩ := trodAll_nil r0
  obtain rfl : args = #[v0] := by cases args; simp_all
  obtain ⟨rfl, rfl⟩ := trodVars_none hV
  obtain ⟨a0, len0, cap0, rfl⟩ := okWide_slice Try.underlying28 (hval 0 28 v0 rfl rfl)
  have k0 := h0
  have lt0 : ∀ x ∈ p0, x.block < W.heap.size := by obtain ⟨m, hm⟩ := k0; exact DataW.trod_lt m _ _ _ hm
  obtain ⟨l0, w0, s0⟩ : ∃ l, Has W (.slice a0 len0 cap0) l ∧ ∀ s ∈ l, s.size ≤ 9223372036854775807 := by
    obtain ⟨fuel, hf⟩ := h0
    rcases open_strings Try.underlying28 Try.underlying9 (by kernel_rfl) hf with ⟨hcs, _⟩ | ⟨x, l, c, ss, hcs, _, hl, hm, hz, _, hcell, hwz⟩
    · simp [Value.cells] at hcs
      obtain ⟨rfl, rfl, rfl⟩ := hcs
      exact ⟨[], has_nil W, by simp⟩
    · simp [Value.cells] at hcs
      obtain ⟨rfl, rfl, rfl⟩ := hcs
      have hz' : ss.length = cap0 := by simpa using hz
      exact ⟨ss.take len0, has_of (by omega) (by omega) hcell, fun s hs => hwz s (List.mem_of_mem_take hs)⟩
  clear hA0 hval0
  refine (walk a0 len0 cap0 l0 W w0 s0).mono fun e W' ⟨he, bel⟩ => ?_
  subst he
  exact ⟨_, rfl, _, _, _, [], _, [], hW', trodAll_mk1 (shut_bool Try.underlying4 _), (trodAll_cons_mk (Below.trod laidOut (by kernel_rfl) (of_decide_eq_true (by kernel_rfl)) k0 bel lt0) trodAll_mk0), rfl, bel.frame _, fun h => by cases h⟩

theorem over : Rows.fnExactSortTextsRow.holds Try.pinned (OpenSpec.ofChange Rows.fnExactSortTextsSpec) :=
  OpenClaim.holds_of_wide 8 Try.f8 rfl rfl rfl rfl rfl rfl rfl ⟨rfl, rfl, rfl, rfl, rfl⟩ rfl rfl rfl rfl rfl (by kernel_rfl) Try.func8 (by kernel_rfl)
    (of_decide_eq_true (by kernel_rfl)) (by unfold Func.isWrapper; first | (rw [if_pos (by decide +kernel)]; kernel_rfl) | (rw [if_neg (by decide +kernel)]; exact ⟨rfl, rfl⟩))
    (fun os started H enc _ => lifted os started H enc)

theorem proved : Rows.FnExactSortTextsSaid := over
#print axioms proved
end Go.Proofs.Ytkefbfljgoglhaa.fnExactSortTexts
