/- For every list of bytes laws.FnNumbers returns true: what FormatInt writes of a drawn number ParseInt and ReadInt read again exactly if it is in the range, and a drawn text that ReadInt accepts stands for a number in the range; no condition (codes of more than 4096 bytes the law itself lets pass). -/
import Derived.Test.YtpjhllffjabnfaaDrawA
import Derived.Test.YtpjhllffjabnfaaRows
import Derived.WalkKit
import Derived.ProofKit
import Derived.OpenShut
import Derived.ShutString
import Derived.ChangeOld
import Derived.Below
namespace Go.Proofs.Ytpjhllffjabnfaa.fnNumbers
open Go.ChangeShapes Go.WideShapes Go.ChangeAt Go.RowKit
open Go.ChangeMaps (open_string shut_string)
set_option linter.unusedVariables false

theorem own : ownKnob Try.prog.godebug = none := by kernel_rfl
theorem laidOut : laidOutB Try.prog = true := by kernel_rfl

/-- WHAT THE WALK IS TOLD OF A SLICE OF INTEGERS THAT CAME IN: it is nil; or it leads to a row of 'cap' cells, the numbers 'zs' (the first 'len' are its elements, the rest its spare room), each fitting its kind. -/
def IsRow (k : IntKind) (w : World) (a : Option Addr) (len cap : Nat) (zs : List Int) : Prop :=
  (a = none ∧ len = 0 ∧ cap = 0 ∧ zs = []) ∨
  ∃ x, a = some x ∧ len ≤ cap ∧ cap ≤ maxLen ∧ zs.length = cap ∧ (∀ i, i < zs.length → w.cell? (x.add i) = some (.int k (zs.getD i 0))) ∧ ∀ n ∈ zs, (Lit.int k n).wf = true

theorem src_of {w : World} {A : Option Addr} {n c : Nat} {z : List Int} (h : IsRow .u8 w A n c z) : Src w A n := by
  rcases h with ⟨_, rfl, _, _⟩ | ⟨x, rfl, hl, hm, hz, hc, hw⟩
  · exact ⟨by omega, fun j hj => by omega⟩
  · refine ⟨by unfold maxLen at hm; omega, fun j hj => ?_⟩
    have hcell := hc j (by omega)
    have hb := bounds_u8 (hw (z.getD j 0) (by rw [List.getD_eq_getElem?_getD, List.getElem?_eq_getElem (by omega), Option.getD_some]; exact List.getElem_mem _))
    have hlt : (x.add j).block < w.heap.size := by
      rcases Nat.lt_or_ge (x.add j).block w.heap.size with hlt | hge
      · exact hlt
      · unfold World.cell? at hcell; rw [Array.getElem?_eq_none hge] at hcell; cases hcell
    exact ⟨x, _, rfl, by rw [← add_block x j]; exact hlt, by omega, by omega, hcell⟩
theorem src_below {w w' : World} {A : Option Addr} {n : Nat} (h : Src w A n) (hb : Below w.heap.size w w') : Src w' A n :=
  ⟨h.1, fun j hj => by
    obtain ⟨a, x, h1, h2, h3, h4, h5⟩ := h.2 j hj
    exact ⟨a, x, h1, Nat.lt_of_lt_of_le h2 hb.size, h3, h4, by rw [hb.cell (by rw [add_block]; exact h2)]; exact h5⟩⟩
theorem below_step {w w1 w2 : World} (h : Below w.heap.size w w1) (k : Below w1.heap.size w1 w2) : Below w.heap.size w w2 := h.trans (k.mono h.size)
theorem fmt_data (n : Int) : (NumP.fmtS n).data.toList = NumP.fmtL n := by simp [NumP.fmtS]
theorem min_in {z : Int} (h : z ≤ 1000000000) (w : World) :
    Calls Try.prog 16 #[.int .i64 z, .int .i64 1000000000] w fun e w' => e = .returned (.int .i64 z) ∧ w = w' :=
  (iMin_any z _ w).mono fun _ _ ⟨he, hw⟩ => ⟨by rw [he]; exact ret_int (by omega), hw⟩
theorem max_in {z : Int} (h : -1000000000 ≤ z) (w : World) :
    Calls Try.prog 15 #[.int .i64 z, .int .i64 (-1000000000)] w fun e w' => e = .returned (.int .i64 z) ∧ w = w' :=
  (iMax_any z _ w).mono fun _ _ ⟨he, hw⟩ => ⟨by rw [he]; exact ret_int (by omega), hw⟩
theorem parse_fmt_any (n : Int) (o : Option Int) (h : NumP.parseL (NumP.fmtL n) = o) (hs : (NumP.fmtS n).size ≤ maxLen) (w : World) :
    Calls Try.prog 12 #[.string (NumP.fmtS n)] w fun e w' => e = .returned (tupI o) ∧ Below w.heap.size w w' :=
  (iParse_any _ hs w).mono fun _ _ ⟨he, hw⟩ => ⟨by rw [he, fmt_data, h], hw⟩
theorem read_fmt_any (n : Int) (o : Option Int) (h : NumP.readL (NumP.fmtL n) = o) (hs : (NumP.fmtS n).size ≤ maxLen) (w : World) :
    Calls Try.prog 13 #[.string (NumP.fmtS n)] w fun e w' => e = .returned (tupI o) ∧ w = w' :=
  (iRead_any _ hs w).mono fun _ _ ⟨he, hw⟩ => ⟨by rw [he, fmt_data, h], hw⟩
theorem read_some_any (s : ByteArray) (o : Option Int) (h : NumP.readL s.data.toList = o) (hs : s.size ≤ maxLen) (w : World) :
    Calls Try.prog 13 #[.string s] w fun e w' => e = .returned (tupI o) ∧ w = w' :=
  (iRead_any _ hs w).mono fun _ _ ⟨he, hw⟩ => ⟨by rw [he, h], hw⟩
theorem fmt_le {n : Int} (h : P64 n) : (NumP.fmtS n).size ≤ maxLen := by
  have := fmt_small h.bd
  simp [small] at this
  unfold maxLen; omega

/-! ### THE WALK -/
theorem walk (a0 : Option Addr) (len0 cap0 : Nat) (z0 : List Int) (w : World) (w0 : IsRow .u8 w a0 len0 cap0 z0) :
    Calls Try.prog 3 #[.slice a0 len0 cap0] w fun e w' => e = .returned (.bool true) ∧ Below w.heap.size w w' := by
  have hsrc := src_of w0
  have hB := Below.refl w.heap.size w
  clear w0
  by_cases hbig : 4096 < len0
  · have hd : decide (4096 < len0) = true := by simpa using hbig
    go_enter Try.func3, Try.ntmps3
    go_wp2_with (go_at_call 9; refine (big_any _ _ _ _).mono ?_; rw [hd]; rintro e w' ⟨rfl, rfl⟩)
    go_ret
    exact ⟨rfl, hB⟩
  · have hd : decide (4096 < len0) = false := by simpa using hbig
    go_enter Try.func3, Try.ntmps3
    go_wp2_with (first
      | (go_at_call 9; refine (big_any _ _ _ _).mono ?_; rw [hd]; rintro e w' ⟨rfl, rfl⟩)
      | (go_at_call 10; ((with_reducible refine (drawN_any _ _ _ _ hsrc).mono ?_); rintro e w1 ⟨n, hn, rfl, hb1⟩; have hB1 := below_step hB hb1; clear hb1; have hn' := hn.bd)))
    have hfl := fmt_le hn
    by_cases hsm : -1000000000 ≤ n ∧ n ≤ 1000000000
    · obtain ⟨hs1, hs2⟩ := hsm
      have HP := Lib.hid (NumP.parseL_fmt hs1 hs2)
      have HR := Lib.hid (NumP.readL_fmt hs1 hs2)
      refine (iFmt_any n hn'.1 hn'.2 _).mono ?_
      rintro e w2 ⟨rfl, hb2⟩
      have hB2 := below_step hB1 hb2
      clear hb2 hB1
      go_wp2_with (first
        | (go_at_call 12; ((with_reducible refine (parse_fmt_any n (some n) HP.out hfl _).mono ?_); unfold tupI; rintro e w3 ⟨rfl, hb3⟩; have hB3 := below_step hB2 hb3; clear hb3))
        | (go_at_call 13; ((with_reducible refine (read_fmt_any n (some n) HR.out hfl _).mono ?_); unfold tupI; rintro e w4 ⟨rfl, rfl⟩))
        | (go_at_call 14; ((with_reducible refine (drawS_any _ _ _ _ (src_below hsrc hB3)).mono ?_); rintro e w5 ⟨v, hv, rfl, hb5⟩; have hB5 := below_step hB3 hb5; clear hb5)))
      have hvs : v.size ≤ maxLen := by simp [small] at hv; unfold maxLen; omega
      cases hz : NumP.readL v.data.toList with
      | none =>
        have HZ := Lib.hid hz
        clear hz
        refine (read_some_any v none HZ.out hvs _).mono ?_
        unfold tupI
        rintro e w6 ⟨rfl, rfl⟩
        go_wp2
        go_ret
        exact ⟨rfl, hB5⟩
      | some z =>
        have hzb := NumP.readL_bd hz
        have HZ := Lib.hid hz
        clear hz
        refine (read_some_any v (some z) HZ.out hvs _).mono ?_
        unfold tupI
        rintro e w6 ⟨rfl, rfl⟩
        go_wp2_with (first
          | (go_at_call 16; ((with_reducible refine (min_in hzb.2 _).mono ?_); rintro e w' ⟨rfl, rfl⟩))
          | (go_at_call 15; ((with_reducible refine (max_in hzb.1 _).mono ?_); rintro e w' ⟨rfl, rfl⟩))
          | (go_at_call 11; ((with_reducible refine (iFmt_any z (by omega) (by omega) _).mono ?_); rintro e w7 ⟨rfl, hb7⟩; have hB7 := below_step (by assumption) hb7; clear hb7)))
        go_ret
        exact ⟨rfl, by assumption⟩
    · have hsm' : n < -1000000000 ∨ 1000000000 < n := by omega
      have HP := Lib.hid (NumP.parseL_fmt_none hsm')
      have HR := Lib.hid (NumP.readL_fmt_none hsm')
      clear hsm
      rcases hsm' with hsm' | hsm'
      all_goals
        refine (iFmt_any n hn'.1 hn'.2 _).mono ?_
        rintro e w2 ⟨rfl, hb2⟩
        have hB2 := below_step hB1 hb2
        clear hb2 hB1
        go_wp2_with (first
          | (go_at_call 12; ((with_reducible refine (parse_fmt_any n none HP.out hfl _).mono ?_); unfold tupI; rintro e w3 ⟨rfl, hb3⟩; have hB3 := below_step hB2 hb3; clear hb3))
          | (go_at_call 13; ((with_reducible refine (read_fmt_any n none HR.out hfl _).mono ?_); unfold tupI; rintro e w4 ⟨rfl, rfl⟩))
          | (go_at_call 14; ((with_reducible refine (drawS_any _ _ _ _ (src_below hsrc hB3)).mono ?_); rintro e w5 ⟨v, hv, rfl, hb5⟩; have hB5 := below_step hB3 hb5; clear hb5)))
        have hvs : v.size ≤ maxLen := by simp [small] at hv; unfold maxLen; omega
        cases hz : NumP.readL v.data.toList with
        | none =>
          have HZ := Lib.hid hz
          clear hz
          refine (read_some_any v none HZ.out hvs _).mono ?_
          unfold tupI
          rintro e w6 ⟨rfl, rfl⟩
          go_wp2
          go_ret
          exact ⟨rfl, hB5⟩
        | some z =>
          have hzb := NumP.readL_bd hz
          have HZ := Lib.hid hz
          clear hz
          refine (read_some_any v (some z) HZ.out hvs _).mono ?_
          unfold tupI
          rintro e w6 ⟨rfl, rfl⟩
          go_wp2_with (first
            | (go_at_call 16; ((with_reducible refine (min_in hzb.2 _).mono ?_); rintro e w' ⟨rfl, rfl⟩))
            | (go_at_call 15; ((with_reducible refine (max_in hzb.1 _).mono ?_); rintro e w' ⟨rfl, rfl⟩))
            | (go_at_call 11; ((with_reducible refine (iFmt_any z (by omega) (by omega) _).mono ?_); rintro e w7 ⟨rfl, hb7⟩; have hB7 := below_step (by assumption) hb7; clear hb7)))
          go_ret
          exact ⟨rfl, by assumption⟩

/-! ### THE ROW's STEP: WRITTEN OUT: LEAVE IT -/
set_option maxRecDepth 100000 in
theorem lifted (os : Os) (started : os.Started) (H : Type) (enc : TypeId × Value → H) :
    ReturnsInHanded {} Try.checked os 3 .any (Rows.fnNumbersSpec.pre6 enc Try.prog Try.f3 Rows.fnNumbersRow.domain false) (Rows.fnNumbersSpec.post enc Try.prog Try.f3 false true false false) := by
  refine returnsInHanded_of_change (C := Try.checked) own started (by kernel_rfl) Try.func3
    (ChangeSpec.witness6 (enc := enc) (C := Try.checked) false ⟨#[], #[.slice none 0 0], []⟩ 8 (by kernel_rfl) (by kernel_rfl) (by kernel_rfl) (by kernel_rfl)) ?_
  intro W base args ds gs before hval0 hW hcnd _
  have hval : ∀ (j : Nat) t v, Try.f3.params[j]? = some t → args[j]? = some v → Value.okWide Try.prog W .any base t v := hval0
  have hW' := hW
  obtain ⟨p, q, hA0, hV, rfl, hfz, hnd⟩ := hW
  have hA : DataW.TrodAll enc Try.prog W 0 (fun _ => true) true Try.f3.params.toList args.toList ds p := hA0
  rw [Try.params3] at hA hval
  obtain ⟨v0, vs0, d0, ds0, p0, q0, hargs, rfl, rfl, h0, r0⟩ := trodAll_cons hA
  obtain ⟨rfl, rfl, rfl⟩ := trodAll_nil r0
  obtain rfl : args = #[v0] := by cases args; simp_all
  obtain ⟨rfl, rfl⟩ := trodVars_none hV
  obtain ⟨a0, len0, cap0, rfl⟩ := okWide_slice Try.underlying22 (hval 0 22 v0 rfl rfl)
  have k0 := h0
  have lt0 : ∀ x ∈ p0, x.block < W.heap.size := by obtain ⟨m, hm⟩ := k0; exact DataW.trod_lt m _ _ _ hm
  obtain ⟨z0, w0⟩ : ∃ zs, IsRow .u8 W a0 len0 cap0 zs := by
    obtain ⟨fuel, hf⟩ := h0
    rcases open_ints Try.underlying22 Try.underlying5 (by kernel_rfl) hf with ⟨hcs, _⟩ | ⟨x, l, c, zs, hcs, _, hl, hm, hz, _, hcell, hwz⟩
    · simp [Value.cells] at hcs
      obtain ⟨rfl, rfl, rfl⟩ := hcs
      exact ⟨[], .inl ⟨rfl, rfl, rfl, rfl⟩⟩
    · simp [Value.cells] at hcs
      obtain ⟨rfl, rfl, rfl⟩ := hcs
      exact ⟨zs, .inr ⟨_, rfl, hl, hm, by simpa using hz, hcell, hwz⟩⟩
  clear hA0 hval0
  refine (walk a0 len0 cap0 z0 W w0).mono fun e W' ⟨he, bel⟩ => ?_
  subst he
  exact ⟨_, rfl, _, _, _, [], _, [], hW', trodAll_mk1 (shut_bool Try.underlying4 _), (trodAll_cons_mk (Below.trod laidOut (by kernel_rfl) (of_decide_eq_true (by kernel_rfl)) k0 bel lt0) trodAll_mk0), rfl, bel.frame _, fun h => by cases h⟩

theorem over : Rows.fnNumbersRow.holds Try.pinned (OpenSpec.ofChange Rows.fnNumbersSpec) :=
  OpenClaim.holds_of_wide 3 Try.f3 rfl rfl rfl rfl rfl rfl rfl ⟨rfl, rfl, rfl, rfl, rfl⟩ rfl rfl rfl rfl rfl (by kernel_rfl) Try.func3 (by kernel_rfl)
    (of_decide_eq_true (by kernel_rfl)) (by unfold Func.isWrapper; first | (rw [if_pos (by decide +kernel)]; kernel_rfl) | (rw [if_neg (by decide +kernel)]; exact ⟨rfl, rfl⟩))
    (fun os started H enc _ => lifted os started H enc)

/-- ████ THE STATEMENT ████ -/
theorem proved : Rows.FnNumbersSaid := over
#print axioms proved
end Go.Proofs.Ytpjhllffjabnfaa.fnNumbers
