/- For every text laws.FnExactParseRanges returns true: impl.ParseRanges answers as spec.ParseRanges does, in both results, and shares no memory between calls (texts of more than 1048576 bytes the law itself lets pass); under the card's ties alone: the two tables of unicode/utf8 that the row lists hold what the program's text lays, and no proof step reads them. -/
import Derived.Test.YtldjkjdmadoaoaaDoorParW
import Derived.Test.YtldjkjdmadoaoaaDoorRows
import Derived.WalkKit
import Derived.ProofKit
import Derived.OpenShut
import Derived.ShutString
import Derived.ChangeOld
import Derived.Below
import Derived.Test.YtldjkjdmadoaoaaDoorCards
import Derived.Test.YtldjkjdmadoaoaaDoorTie
import Derived.PinnedBridge
import Derived.Lay
import Derived.LaidOnce
import Derived.SevenTiedAt
namespace Go.Proofs.YtldjkjdmadoaoaaDoor.fnExactParseRanges
open Go.ChangeShapes Go.WideShapes Go.ChangeAt Go.RowKit
open Go.ChangeMaps (open_string shut_string)
set_option linter.unusedVariables false

theorem own : ownKnob Tryd.prog.godebug = none := by kernel_rfl
theorem laidOut : laidOutB Tryd.prog = true := by kernel_rfl

theorem walk (x0 : ByteArray) (w : World) (s0 : x0.size ≤ maxLen) :
    Calls Tryd.prog 4 #[.string x0] w fun e w' => e = .returned (.bool true) ∧ Below w.heap.size w w' := by
  by_cases hbig : 1048576 < x0.size
  · go_enter Tryd.func4, Tryd.ntmps4
    go_wp2
    go_ret
    exact ⟨rfl, Below.refl _ _⟩
  · have hs : x0.size ≤ 1048576 := by omega
    obtain ⟨T, e, hL⟩ := Lx.exists x0.size x0.data.toList
    have hl : (lexT T e).length ≤ 1048576 := by
      have h0 := hL.bd.1
      have h1 : x0.data.toList.length = x0.size := by simp
      cases e with
      | some p => simp [lexT]
      | none => show T.length ≤ _; omega
    have ht : ∀ x ∈ lexT T e, x.t.size ≤ 1048576 := lex_texts hL hs
    obtain ⟨res, hr⟩ := Run.exists (lexT T e) (lexT T e).length 0 [] (by omega)
    have hRl : ∀ R, parS e (lexT T e).length res = some R → R.length ≤ 1048576 := fun R h => by
      cases e with
      | some p => cases h
      | none =>
        match res, h with
        | some (Q, m), h =>
          have h3 := (hr.bd (Nat.le_refl _) Q m rfl)
          unfold parS at h
          simp only at h
          split at h
          · cases h; omega
          · cases h
    have C1 := sPr_any x0 hs T e hL hl ht res hr
    have C2 := iPr_any x0 hs T e hL hl ht res hr
    clear hL hr ht
    generalize parS e (lexT T e).length res = o at C1 C2 hRl
    clear hl
    have hB0 := Below.refl w.heap.size w
    cases o with
    | none =>
      have C1 : Hid (∀ w, Calls Tryd.prog 15 #[.string x0] w fun en w' => (∃ v', en = .returned (.tuple #[v', .bool false]) ∧ RowG w.heap.size w' v' []) ∧ Below w.heap.size w w') := Lib.hid C1
      have C2 : Hid (∀ w, Calls Tryd.prog 13 #[.string x0] w fun en w' => (∃ v', en = .returned (.tuple #[v', .bool false]) ∧ RowG w.heap.size w' v' []) ∧ Below w.heap.size w w') := Lib.hid C2
      have hlen : ([] : List Rg).length ≤ 274877906944 := by simp
      obtain ⟨L, hLL⟩ : ∃ L : List Rg, L = [] := ⟨_, rfl⟩
      rw [← hLL] at C1 C2 hlen
      clear hLL hRl
      go_enter Tryd.func4, Tryd.ntmps4
      go_wp2_with (first
        | (go_at_call 15; refine (C1.out _).mono ?_; rintro e w1 ⟨⟨va, rfl, hra⟩, hb⟩; have hB1 := below_step hB0 hb; have ha1 := fun j hj => (RowR.lt hra (k := j) hj).2; clear hb)
        | (go_at_call 13; ((with_reducible refine (C2.out w1).mono ?_); rintro e w2 ⟨⟨vb, rfl, hrb⟩, hb⟩; have hB2 := below_step hB1 hb; have hra2 := RowR.below hra hb; have hb1 := fun j hj => (RowR.lt hrb (k := j) hj).1; have HD : Hid (∀ j, va.ownBlock = some j → vb.ownBlock ≠ some j) := Lib.hid (fun j h1 h2 => absurd (ha1 j h1) (Nat.not_lt.2 (hb1 j h2))); have HG : Hid (∀ j, vb.ownBlock = some j → w.heap.size ≤ j) := Lib.hid (fun j h => Nat.le_trans hB1.size (hb1 j h)); clear hb hra ha1 hb1))
        | (go_at_call 16; ((with_reducible refine (eqRngs_any _ _ L w2 (RowR.hasG hrb) (RowR.hasG hra2)).mono ?_); rintro e w3 ⟨rfl, hb⟩; have hB3 := below_step hB2 hb; have hra3 := RowR.below hra2 hb; have hrb3 := RowR.below hrb hb; clear hb hra2 hrb))
        | (go_at_call 17; ((with_reducible refine (markRngs1 _ _ L w3 hrb3 hlen).mono ?_); rintro e w4 ⟨rfl, hrb4, hg⟩; have hB4 := hB3.grown hg hB3.size HG.out; have hra4 := RowR.other hra3 hg HD.out; clear hg hra3 hrb3))
        | (go_at_call 18; ((with_reducible refine (heldRngs1 _ _ w4 (RowR.hasG hrb4) hlen).mono ?_); rintro e w5 ⟨rfl, hb⟩; have hB5 := below_step hB4 hb; have hra5 := RowR.below hra4 hb; have hrb5 := RowR.below hrb4 hb; clear hb hra4 hrb4))
        | (go_at_call 13; ((with_reducible refine (C2.out w5).mono ?_); rintro e w6 ⟨⟨vc, rfl, hrc⟩, hb⟩; have hB6 := below_step hB5 hb; have hra6 := RowR.below hra5 hb; have hrb6 := RowR.below hrb5 hb; clear hb hra5 hrb5))
        | (go_at_call 16; ((with_reducible refine (eqRngs_any _ _ L w6 (RowR.hasG hrc) (RowR.hasG hra6)).mono ?_); rintro e w7 ⟨rfl, hb⟩; have hB7 := below_step hB6 hb; have hrb7 := RowR.below hrb6 hb; clear hb hra6 hrb6 hrc))
        | (go_at_call 18; ((with_reducible refine (heldRngs1 _ _ w7 (RowR.hasG hrb7) hlen).mono ?_); rintro e w8 ⟨rfl, hb⟩; have hB8 := below_step hB7 hb; clear hb hrb7)))
      go_ret
      exact ⟨rfl, hB8⟩
    | some L =>
      have C1 : Hid (∀ w, Calls Tryd.prog 15 #[.string x0] w fun en w' => (∃ v', en = .returned (.tuple #[v', .bool true]) ∧ RowG w.heap.size w' v' L) ∧ Below w.heap.size w w') := Lib.hid C1
      have C2 : Hid (∀ w, Calls Tryd.prog 13 #[.string x0] w fun en w' => (∃ v', en = .returned (.tuple #[v', .bool true]) ∧ RowG w.heap.size w' v' L) ∧ Below w.heap.size w w') := Lib.hid C2
      have hlen : L.length ≤ 274877906944 := Nat.le_trans (hRl L rfl) (by omega)
      clear hRl
      go_enter Tryd.func4, Tryd.ntmps4
      go_wp2_with (first
        | (go_at_call 15; refine (C1.out _).mono ?_; rintro e w1 ⟨⟨va, rfl, hra⟩, hb⟩; have hB1 := below_step hB0 hb; have ha1 := fun j hj => (RowR.lt hra (k := j) hj).2; clear hb)
        | (go_at_call 13; ((with_reducible refine (C2.out w1).mono ?_); rintro e w2 ⟨⟨vb, rfl, hrb⟩, hb⟩; have hB2 := below_step hB1 hb; have hra2 := RowR.below hra hb; have hb1 := fun j hj => (RowR.lt hrb (k := j) hj).1; have HD : Hid (∀ j, va.ownBlock = some j → vb.ownBlock ≠ some j) := Lib.hid (fun j h1 h2 => absurd (ha1 j h1) (Nat.not_lt.2 (hb1 j h2))); have HG : Hid (∀ j, vb.ownBlock = some j → w.heap.size ≤ j) := Lib.hid (fun j h => Nat.le_trans hB1.size (hb1 j h)); clear hb hra ha1 hb1))
        | (go_at_call 16; ((with_reducible refine (eqRngs_any _ _ L w2 (RowR.hasG hrb) (RowR.hasG hra2)).mono ?_); rintro e w3 ⟨rfl, hb⟩; have hB3 := below_step hB2 hb; have hra3 := RowR.below hra2 hb; have hrb3 := RowR.below hrb hb; clear hb hra2 hrb))
        | (go_at_call 17; ((with_reducible refine (markRngs1 _ _ L w3 hrb3 hlen).mono ?_); rintro e w4 ⟨rfl, hrb4, hg⟩; have hB4 := hB3.grown hg hB3.size HG.out; have hra4 := RowR.other hra3 hg HD.out; clear hg hra3 hrb3))
        | (go_at_call 18; ((with_reducible refine (heldRngs1 _ _ w4 (RowR.hasG hrb4) hlen).mono ?_); rintro e w5 ⟨rfl, hb⟩; have hB5 := below_step hB4 hb; have hra5 := RowR.below hra4 hb; have hrb5 := RowR.below hrb4 hb; clear hb hra4 hrb4))
        | (go_at_call 13; ((with_reducible refine (C2.out w5).mono ?_); rintro e w6 ⟨⟨vc, rfl, hrc⟩, hb⟩; have hB6 := below_step hB5 hb; have hra6 := RowR.below hra5 hb; have hrb6 := RowR.below hrb5 hb; clear hb hra5 hrb5))
        | (go_at_call 16; ((with_reducible refine (eqRngs_any _ _ L w6 (RowR.hasG hrc) (RowR.hasG hra6)).mono ?_); rintro e w7 ⟨rfl, hb⟩; have hB7 := below_step hB6 hb; have hrb7 := RowR.below hrb6 hb; clear hb hra6 hrb6 hrc))
        | (go_at_call 18; ((with_reducible refine (heldRngs1 _ _ w7 (RowR.hasG hrb7) hlen).mono ?_); rintro e w8 ⟨rfl, hb⟩; have hB8 := below_step hB7 hb; clear hb hrb7)))
      go_ret
      exact ⟨rfl, hB8⟩

/-! ### THE ROW's STEP -/
set_option maxRecDepth 100000 in
theorem lifted (os : Os) (started : os.Started) (H : Type) (enc : TypeId × Value → H) :
    ReturnsInHanded {} Tryd.checked os 4 .any (fun w args => (Rows.fnExactParseRangesSpec.pre enc Tryd.prog Tryd.f4 Rows.fnExactParseRangesRow.domain false w args ∧ laidMetH Tryd.prog Rows.fnExactParseRangesRow.laid w) ∧ sizedMet enc Tryd.prog Tryd.f4 (OpenSpec.ofChange Rows.fnExactParseRangesSpec) false w args) (Rows.fnExactParseRangesSpec.post enc Tryd.prog Tryd.f4 false true false false) := by
  refine returnsInHanded_of_change_and (C := Tryd.checked) (X := fun w _ => laidMetH Tryd.prog Rows.fnExactParseRangesRow.laid w) (fun _ _ _ hh h => h.of_heap hh) own started (by kernel_rfl) Tryd.func4
    (ChangeSpec.witness_shaped (enc := enc) (C := Tryd.checked) (os := os) (X := fun w _ => laidMetH Tryd.prog Rows.fnExactParseRangesRow.laid w) false (World.laidAll Tryd.prog os Rows.fnExactParseRangesRow.laid) #[.string ByteArray.empty] 8 (World.laidAll_os _ _ _)
      (World.shaped_of_ZipB (by kernel_rfl) (by kernel_rfl)) (by kernel_rfl) (by kernel_rfl) (by kernel_rfl)
      (by rw [MakeChecks.laidMetH_plain _ _ _ (by kernel_rfl)]; exact laidMet_laidAll _ (by kernel_rfl) (by kernel_rfl))) ?_
  intro W base args ds gs before hval0 hW hcnd _ _ _
  have hval : ∀ (j : Nat) t v, Tryd.f4.params[j]? = some t → args[j]? = some v → Value.okWide Tryd.prog W .any base t v := hval0
  have hW' := hW
  obtain ⟨p, q, hA0, hV, rfl, hfz, hnd⟩ := hW
  have hA : DataW.TrodAll enc Tryd.prog W 0 (fun _ => true) true Tryd.f4.params.toList args.toList ds p := hA0
  rw [Tryd.params4] at hA hval
  obtain ⟨v0, vs0, d0, ds0, p0, q0, hargs, rfl, rfl, h0, r0⟩ := trodAll_cons hA
  obtain ⟨rfl, rfl, rfl⟩ := trodAll_nil r0
  obtain rfl : args = #[v0] := by cases args; simp_all
  obtain ⟨rfl, rfl⟩ := trodVars_none hV
  have k0 := h0
  have lt0 : ∀ x ∈ p0, x.block < W.heap.size := by obtain ⟨m, hm⟩ := k0; exact DataW.trod_lt m _ _ _ hm
  obtain ⟨x0, rfl, rfl, rfl, s0⟩ := open_string Tryd.underlying9 (hval 0 9 v0 rfl rfl) h0
  clear hA0 hval0
  refine (walk x0 W s0).mono fun e W' ⟨he, bel⟩ => ?_
  subst he
  exact ⟨_, rfl, _, _, _, [], _, [], hW', trodAll_mk1 (shut_bool Tryd.underlying4 _), (trodAll_cons_mk (Below.trod laidOut (by kernel_rfl) (of_decide_eq_true (by kernel_rfl)) k0 bel lt0) trodAll_mk0), rfl, bel.frame _, fun h => by cases h⟩

theorem over : Rows.fnExactParseRangesRow.holds Tryd.pinned (OpenSpec.ofChange Rows.fnExactParseRangesSpec) :=
  OpenClaim.holds_of_wide 4 Tryd.f4 rfl rfl rfl rfl rfl rfl rfl ⟨rfl, rfl, rfl, rfl, rfl⟩ rfl rfl rfl rfl rfl (by kernel_rfl) Tryd.func4 (by kernel_rfl)
    (of_decide_eq_true (by kernel_rfl)) (by unfold Func.isWrapper; first | (rw [if_pos (by decide +kernel)]; kernel_rfl) | (rw [if_neg (by decide +kernel)]; exact ⟨rfl, rfl⟩))
    (fun os started H enc _ => lifted os started H enc)

/-- no parameter wants a stand-in; the program's own looks are off -/
theorem plain (f : FuncId) (fn : Func) (hf : Tryd.pinned.checked.prog.funcNamed "loop.example/g03013/laws.FnExactParseRanges" = some f) (hfn : Tryd.pinned.checked.prog.funcs[f]? = some fn) :
    false = Tryd.pinned.checked.prog.looks [] ∧ ∀ (j : Nat) t, fn.params[j]? = some t → Tryd.pinned.checked.prog.wantsStandIn t = false := by
  obtain rfl : f = 4 := Option.some.inj ((show Tryd.prog.funcNamed "loop.example/g03013/laws.FnExactParseRanges" = some 4 by kernel_rfl).symm.trans hf) |>.symm
  obtain rfl : fn = Tryd.f4 := (Option.some.inj (Tryd.func4.symm.trans hfn)).symm
  refine ⟨by kernel_rfl, fun j t ht => ?_⟩
  rw [Tryd.params4] at ht
  have hm : t ∈ [9] := by simpa using Array.mem_of_getElem? ht
  have hall : ([9].all fun u => !Tryd.prog.wantsStandIn u) = true := by kernel_rfl
  exact (show Tryd.prog.wantsStandIn t = false by simpa using List.all_eq_true.1 hall t hm)
theorem proved : Rows.FnExactParseRangesCardSaid :=
  Claim7.holds_tied_plain_at .later [] _ _ _ _ over (fun _ h => by cases h) (by kernel_rfl) (fun _ h => by cases h) fnExactParseRanges_row_tie rfl ⟨rfl, rfl⟩ (by kernel_rfl) rfl plain (by kernel_rfl)
#print axioms proved
end Go.Proofs.YtldjkjdmadoaoaaDoor.fnExactParseRanges
