/- For every token laws.FnExactTokenText returns true: impl.TokenText answers as spec.TokenText does (tokens whose text takes more than 1048576 bytes the law itself lets pass); no condition. -/
import Derived.Test.YthediljoioahpaaTokOpen
import Derived.Test.YthediljoioahpaaRows
import Derived.WalkKit
import Derived.ProofKit
import Derived.OpenShut
import Derived.ShutString
import Derived.ChangeOld
import Derived.Below
namespace Go.Proofs.Ythediljoioahpaa.fnExactTokenText
open Go.ChangeShapes Go.WideShapes Go.ChangeAt Go.RowKit
open Go.ChangeMaps (open_string shut_string)
set_option linter.unusedVariables false

theorem own : ownKnob Try.prog.godebug = none := by kernel_rfl
theorem laidOut : laidOutB Try.prog = true := by kernel_rfl

/-! ### THE WALK -/
theorem walk (x0 : Tok) (w : World) (s0 : x0.t.size ≤ 9223372036854775807) :
    Calls Try.prog 3 #[.agg #[.int .i64 x0.k, .string x0.t, .int .i64 x0.p]] w fun e w' => e = .returned (.bool true) ∧ Below w.heap.size w w' := by
  have hbd := szI_bd (left := 1048576) (t := x0.t) (by omega)
  generalize hz : szI 1048576 x0.t = z at hbd
  have HZ := Lib.hid hz
  clear hz
  by_cases hz0 : z < 0
  · go_enter Try.func3, Try.ntmps3
    go_wp2_with (go_at_call 5; refine (szTok_any _ _ _ 1048576 (by omega) (by omega) s0 _).mono ?_; rw [HZ.out]; rintro e w1 ⟨rfl, hb1⟩)
    go_ret
    exact ⟨rfl, below_step (below_al (Below.refl _ _) _) hb1⟩
  · have hs : x0.t.size ≤ 1048576 := by omega
    go_enter Try.func3, Try.ntmps3
    go_wp2_with (first
      | (go_at_call 5; ((with_reducible refine (szTok_any _ _ _ 1048576 (by omega) (by omega) s0 _).mono ?_); rw [HZ.out]; rintro e w1 ⟨rfl, hb1⟩; obtain ⟨c0, c1, c2⟩ := box3 hb1))
      | (go_at_call 7; ((with_reducible refine (toTok_any _ _ _ w1).mono ?_); rintro e w2 ⟨rfl, hb⟩; have hb2 := below_step hb1 hb; obtain ⟨c0, c1, c2⟩ := box3 hb2; clear hb))
      | (go_at_call 6; ((with_reducible refine (sTokText_any _ _ _ hs _).mono ?_); rintro e w3 ⟨rfl, hb⟩; have hb3 := below_step hb2 hb; obtain ⟨c0, c1, c2⟩ := box3 hb3; clear hb))
      | (go_at_call 7; ((with_reducible refine (toTok_any _ _ _ w3).mono ?_); rintro e w4 ⟨rfl, hb⟩; have hb4 := below_step hb3 hb; obtain ⟨c0, c1, c2⟩ := box3 hb4; clear hb))
      | (go_at_call 8; ((with_reducible refine (iTokText_any _ _ _ hs _).mono ?_); rintro e w5 ⟨rfl, hb⟩; have hb5 := below_step hb4 hb; clear hb)))
    go_ret
    exact ⟨rfl, below_step (below_al (Below.refl _ _) _) hb5⟩

/-! ### THE ROW's STEP -/
set_option maxRecDepth 100000 in
theorem lifted (os : Os) (started : os.Started) (H : Type) (enc : TypeId × Value → H) :
    ReturnsInHanded {} Try.checked os 3 .any (Rows.fnExactTokenTextSpec.pre6 enc Try.prog Try.f3 Rows.fnExactTokenTextRow.domain false) (Rows.fnExactTokenTextSpec.post enc Try.prog Try.f3 false true false false) := by
  refine returnsInHanded_of_change (C := Try.checked) own started (by kernel_rfl) Try.func3
    (ChangeSpec.witness6 (enc := enc) (C := Try.checked) false ⟨#[], #[.agg #[.int .i64 0, .string ⟨#[]⟩, .int .i64 0]], []⟩ 8 (by kernel_rfl) (by kernel_rfl) (by kernel_rfl) (by kernel_rfl)) ?_
  intro W base args ds gs before hval0 hW hcnd _
  have hval : ∀ (j : Nat) t v, Try.f3.params[j]? = some t → args[j]? = some v → Value.okWide Try.prog W .any base t v := hval0
  have hW' := hW
  obtain ⟨p, q, hA0, hV, rfl, hfz, hnd⟩ := hW
  have hA : DataW.TrodAll enc Try.prog W 0 (fun _ => true) true Try.f3.params.toList args.toList ds p := hA0
  rw [Try.params3] at hA hval
  obtain ⟨v0, vs0, d0, ds0, p0, q0, hargs, rfl, rfl, h0, r0⟩ := trodAll_cons hA
  obtain ⟨rfl, rfl, rfl⟩ := trodAll_nil r0
  obtain rfl : args = #[v0] := by cases args; simp_all
  obtain ⟨rfl, rfl⟩ := trodVars_none hV
  obtain ⟨x0, rfl, s0⟩ := tok_open (hval 0 23 v0 rfl rfl) h0
  have k0 := h0
  have lt0 : ∀ x ∈ p0, x.block < W.heap.size := by obtain ⟨m, hm⟩ := k0; exact DataW.trod_lt m _ _ _ hm
  clear hA0 hval0
  refine (walk x0 W s0).mono fun e W' ⟨he, bel⟩ => ?_
  subst he
  exact ⟨_, rfl, _, _, _, [], _, [], hW', trodAll_mk1 (shut_bool Try.underlying4 _), (trodAll_cons_mk (Below.trod laidOut (by kernel_rfl) (of_decide_eq_true (by kernel_rfl)) k0 bel lt0) trodAll_mk0), rfl, bel.frame _, fun h => by cases h⟩

theorem over : Rows.fnExactTokenTextRow.holds Try.pinned (OpenSpec.ofChange Rows.fnExactTokenTextSpec) :=
  OpenClaim.holds_of_wide 3 Try.f3 rfl rfl rfl rfl rfl rfl rfl ⟨rfl, rfl, rfl, rfl, rfl⟩ rfl rfl rfl rfl rfl (by kernel_rfl) Try.func3 (by kernel_rfl)
    (of_decide_eq_true (by kernel_rfl)) (by unfold Func.isWrapper; first | (rw [if_pos (by decide +kernel)]; kernel_rfl) | (rw [if_neg (by decide +kernel)]; exact ⟨rfl, rfl⟩))
    (fun os started H enc _ => lifted os started H enc)

theorem proved : Rows.FnExactTokenTextSaid := over
#print axioms proved
end Go.Proofs.Ythediljoioahpaa.fnExactTokenText
