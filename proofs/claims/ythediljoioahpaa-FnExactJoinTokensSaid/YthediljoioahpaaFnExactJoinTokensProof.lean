/- For every list of tokens laws.FnExactJoinTokens returns true: impl.JoinTokens answers as spec.JoinTokens does and leaves its argument as it was (lists of more than 1048576 places and bytes together the law itself lets pass); no condition. -/
import Derived.Test.YthediljoioahpaaTokOpen
import Derived.Test.YthediljoioahpaaJoin
import Derived.Test.YthediljoioahpaaRows
import Derived.WalkKit
import Derived.ProofKit
import Derived.OpenShut
import Derived.ShutString
import Derived.ChangeOld
import Derived.Below
namespace Go.Proofs.Ythediljoioahpaa.fnExactJoinTokens
open Go.ChangeShapes Go.WideShapes Go.ChangeAt Go.RowKit
open Go.ChangeMaps (open_string shut_string)
set_option linter.unusedVariables false

theorem own : ownKnob Try.prog.godebug = none := by kernel_rfl
theorem laidOut : laidOutB Try.prog = true := by kernel_rfl

/-! ### THE WALK -/
theorem walk (a0 : Option Addr) (len0 cap0 : Nat) (l0 : List Tok) (w : World) (hin : HasT w (.slice a0 len0 cap0) l0) (s0 : ∀ x ∈ l0, x.t.size ≤ 9223372036854775807) :
    Calls Try.prog 4 #[.slice a0 len0 cap0] w fun e w' => e = .returned (.bool true) ∧ Below w.heap.size w w' := by
  by_cases hn : l0.length ≤ 1048576 ∧ ∀ x ∈ l0, x.t.size ≤ 1048576
  · obtain ⟨hn, hs⟩ := hn
    have HS := Lib.hid hs
    clear hs
    go_enter Try.func4, Try.ntmps4
    go_wp2_with (first
      | (go_at_call 9; refine (szToks_any _ l0 1048576 _ hin s0 (by omega) (by omega)).mono ?_; rintro e w1 ⟨⟨x, rfl, hx⟩, hb1⟩)
      | (go_at_call 11; ((with_reducible refine (toToks_any _ l0 _ (hin.below hb1) hn).mono ?_); rintro e w2 ⟨va, rfl, ha, hb⟩; have hb2 := below_step hb1 hb; clear hb))
      | (go_at_call 10; ((with_reducible refine (sJoin_any _ l0 _ (RowR.has Tok.enc_len ha) hn HS.out).mono ?_); rintro e w3 ⟨rfl, hb⟩; have hb3 := below_step hb2 hb; clear hb))
      | (go_at_call 11; ((with_reducible refine (toToks_any _ l0 _ (hin.below hb3) hn).mono ?_); rintro e w4 ⟨vb, rfl, hrb, hb⟩; have hb4 := below_step hb3 hb; clear hb))
      | (go_at_call 12; ((with_reducible refine (iJoin_any _ l0 _ (RowR.has Tok.enc_len hrb) hn HS.out).mono ?_); rintro e w5 ⟨rfl, hb⟩; have hb5 := below_step hb4 hb; have hrb5 := RowR.below hrb hb; clear hb hrb))
      | (go_at_call 11; ((with_reducible refine (toToks_any _ l0 _ (hin.below hb5) hn).mono ?_); rintro e w6 ⟨vc, rfl, hrc, hb⟩; have hb6 := below_step hb5 hb; have hrb6 := RowR.below hrb5 hb; clear hb hrb5))
      | (go_at_call 13; ((with_reducible refine (eqToks_any _ _ l0 _ (RowR.has Tok.enc_len hrb6) (RowR.has Tok.enc_len hrc)).mono ?_); rintro e w7 ⟨rfl, hb⟩; have hb7 := below_step hb6 hb; clear hb)))
    all_goals
      go_ret
      first
        | exact ⟨rfl, hb7⟩
        | exact ⟨rfl, hb1⟩
  · go_enter Try.func4, Try.ntmps4
    go_wp2_with (go_at_call 9; refine (szToks_any _ l0 1048576 _ hin s0 (by omega) (by omega)).mono ?_; rintro e w1 ⟨⟨x, rfl, hx⟩, hb1⟩; have hx0 : x < 0 := (by rcases Int.lt_or_le x 0 with h | h; exact h; exact absurd (hx h) hn); clear hx)
    go_ret
    exact ⟨rfl, hb1⟩

/-! ### THE ROW's STEP -/
set_option maxRecDepth 100000 in
theorem lifted (os : Os) (started : os.Started) (H : Type) (enc : TypeId × Value → H) :
    ReturnsInHanded {} Try.checked os 4 .any (Rows.fnExactJoinTokensSpec.pre6 enc Try.prog Try.f4 Rows.fnExactJoinTokensRow.domain false) (Rows.fnExactJoinTokensSpec.post enc Try.prog Try.f4 false true false false) := by
  refine returnsInHanded_of_change (C := Try.checked) own started (by kernel_rfl) Try.func4
    (ChangeSpec.witness6 (enc := enc) (C := Try.checked) false ⟨#[], #[.slice none 0 0], []⟩ 8 (by kernel_rfl) (by kernel_rfl) (by kernel_rfl) (by kernel_rfl)) ?_
  intro W base args ds gs before hval0 hW hcnd _
  have hval : ∀ (j : Nat) t v, Try.f4.params[j]? = some t → args[j]? = some v → Value.okWide Try.prog W .any base t v := hval0
  have hW' := hW
  obtain ⟨p, q, hA0, hV, rfl, hfz, hnd⟩ := hW
  have hA : DataW.TrodAll enc Try.prog W 0 (fun _ => true) true Try.f4.params.toList args.toList ds p := hA0
  rw [Try.params4] at hA hval
  obtain ⟨v0, vs0, d0, ds0, p0, q0, hargs, rfl, rfl, h0, r0⟩ := trodAll_cons hA
  obtain ⟨rfl, rfl, rfl⟩ := trodAll_nil r0
  obtain rfl : args = #[v0] := by cases args; simp_all
  obtain ⟨rfl, rfl⟩ := trodVars_none hV
  obtain ⟨a0, len0, cap0, rfl⟩ := okWide_slice Try.underlying29 (hval 0 29 v0 rfl rfl)
  have k0 := h0
  have lt0 : ∀ x ∈ p0, x.block < W.heap.size := by obtain ⟨m, hm⟩ := k0; exact DataW.trod_lt m _ _ _ hm
  obtain ⟨l0, w0, s0⟩ : ∃ l, HasT W (.slice a0 len0 cap0) l ∧ ∀ x ∈ l, x.t.size ≤ 9223372036854775807 := by
    obtain ⟨fuel, hf⟩ := h0
    obtain ⟨a, len, cap, l, hcs, hw, hg⟩ := toks_open hf
    simp [Value.cells] at hcs
    obtain ⟨rfl, rfl, rfl⟩ := hcs
    exact ⟨l, hw, hg⟩
  clear hA0 hval0
  refine (walk a0 len0 cap0 l0 W w0 s0).mono fun e W' ⟨he, bel⟩ => ?_
  subst he
  exact ⟨_, rfl, _, _, _, [], _, [], hW', trodAll_mk1 (shut_bool Try.underlying4 _), (trodAll_cons_mk (Below.trod laidOut (by kernel_rfl) (of_decide_eq_true (by kernel_rfl)) k0 bel lt0) trodAll_mk0), rfl, bel.frame _, fun h => by cases h⟩

theorem over : Rows.fnExactJoinTokensRow.holds Try.pinned (OpenSpec.ofChange Rows.fnExactJoinTokensSpec) :=
  OpenClaim.holds_of_wide 4 Try.f4 rfl rfl rfl rfl rfl rfl rfl ⟨rfl, rfl, rfl, rfl, rfl⟩ rfl rfl rfl rfl rfl (by kernel_rfl) Try.func4 (by kernel_rfl)
    (of_decide_eq_true (by kernel_rfl)) (by unfold Func.isWrapper; first | (rw [if_pos (by decide +kernel)]; kernel_rfl) | (rw [if_neg (by decide +kernel)]; exact ⟨rfl, rfl⟩))
    (fun os started H enc _ => lifted os started H enc)

theorem proved : Rows.FnExactJoinTokensSaid := over
#print axioms proved
end Go.Proofs.Ythediljoioahpaa.fnExactJoinTokens
