/- For every pattern and every text laws.FnExactMatchPattern returns true: impl.MatchPattern answers as spec.MatchPattern does and writes into nothing (patterns of more than 1048576 parts and bytes, and texts of more than 1048576 bytes, the law itself lets pass); no condition. -/
import Derived.Test.YtnpgeneahjlkpaaMacOm
import Derived.Test.YtnpgeneahjlkpaaMatZ
import Derived.Test.YtnpgeneahjlkpaaPatO
import Derived.Test.YtnpgeneahjlkpaaRows
import Derived.WalkKit
import Derived.ProofKit
import Derived.OpenShut
import Derived.ShutString
import Derived.ChangeOld
import Derived.Below
namespace Go.Proofs.Ytnpgeneahjlkpaa.fnExactMatchPattern
open Go.ChangeShapes Go.WideShapes Go.ChangeAt Go.RowKit
open Go.ChangeMaps (open_string shut_string)
set_option linter.unusedVariables false

theorem own : ownKnob Try.prog.godebug = none := by kernel_rfl
theorem laidOut : laidOutB Try.prog = true := by kernel_rfl

/-- a variable of the call's own that holds a pattern -/
def PatBox (T : TypeId) (w : World) (b : Nat) (o : Int) (t : ByteArray) (kv : Value) : Prop := w.heap[b]? = some (.cells #[.int .i64 o, .string t, kv] T (0, 0))
theorem PatBox.below {T : TypeId} {w w' : World} {b : Nat} {o : Int} {t : ByteArray} {kv : Value} (h : PatBox T w b o t kv) (hb : Below w.heap.size w w') : PatBox T w' b o t kv := (hb.block b (Array.getElem?_eq_some_iff.1 h).1).trans h
theorem PatBox.tell {T : TypeId} {w : World} {b : Nat} {o : Int} {t : ByteArray} {kv : Value} (h : PatBox T w b o t kv) : w.cell? ⟨b, 0, none⟩ = some (.int .i64 o) ∧ w.cell? ⟨b, 1, none⟩ = some (.string t) ∧ w.cell? ⟨b, 2, none⟩ = some kv := three_cellsT h
/-- the truth of what is asked -/
noncomputable def dM (p : Prop) : Bool := @decide p (Classical.propDecidable _)
theorem dM_of {p : Prop} {b : Bool} (h : b = true ↔ p) : b = dM p := by
  unfold dM
  cases b
  · exact (@decide_eq_false _ (Classical.propDecidable _) (fun hh => by have := h.2 hh; cases this)).symm
  · exact (@decide_eq_true _ (Classical.propDecidable _) (h.1 rfl)).symm

set_option maxRecDepth 100000 in
set_option maxHeartbeats 16000000 in
theorem walk (y0 : PatR) (t0 : Pat) (D0 : Nat) (x1 : ByteArray) (w : World) (hin : RdN patK D0 w y0 t0) (s0 : TxFit D0 t0.kids ∧ t0.x.text.size ≤ 9223372036854775807) (s1 : x1.size ≤ maxLen) :
    Calls Try.prog 6 #[.agg #[.int .i64 y0.op, .string y0.text, y0.kv], .string x1] w fun e w' => e = .returned (.bool true) ∧ Below w.heap.size w w' := by
  by_cases hbig : 1048576 < x1.size
  · go_enter Try.func6, Try.ntmps6
    go_wp2
    go_ret
    exact ⟨rfl, below_al (Below.refl _ _) _⟩
  have hs : x1.size ≤ 1048576 := by omega
  have HSA := Lib.hid (fun W (hb : Below w.heap.size w W) => szp_any D0 y0 t0 W 1048576 (hin.below hb) s0.1 s0.2 (by omega) (by omega))
  have HTA := Lib.hid (fun hz W (hb : Below w.heap.size w W) => toP_any D0 y0 t0 W (hin.below hb) hz)
  obtain ⟨b, hb⟩ : ∃ b, b = dM (Mt x1 D0 t0 0 x1.size) := ⟨_, rfl⟩
  have HSP : Hid (∀ v W, RdN patK D0 W v t0 → Calls Try.prog 25 #[.agg #[.int .i64 v.op, .string v.text, v.kv], .string x1] W fun e w' => e = .returned (.bool b) ∧ Below W.heap.size W w') := Lib.hid fun v W h => (smatch x1 hs D0 v t0 W h s0.1 s0.2).mono fun e w' ⟨b', he, h, hb'⟩ => ⟨by rw [he, hb, dM_of h.out], hb'⟩
  have HIM : Hid (1 + cntL D0 t0.kids ≤ 2147483647 → ∀ v W, RdN patK D0 W v t0 → Calls Try.prog 27 #[.agg #[.int .i64 v.op, .string v.text, v.kv], .string x1] W fun e w' => e = .returned (.bool b) ∧ Below W.heap.size W w') := Lib.hid fun hc v W h => (imatch x1 (by omega) D0 v t0 W h s0.1 s0.2 hc).mono fun e w' ⟨b', he, h, hb'⟩ => ⟨by rw [he, hb, dM_of h.out], hb'⟩
  have hbb : (b != b) = false := by simp
  have HC0 := Lib.hid (cnt_le_cost D0 t0.kids)
  have HSH0 := Lib.hid (short_of_cost D0 t0.kids)
  obtain ⟨A, c, h1⟩ := hin.2.form
  generalize t0.kids.length = n at h1
  obtain ⟨o0, tx0, v0⟩ := y0
  change v0 = _ at h1
  subst h1
  have HB0 := Lib.hid (Below.refl w.heap.size w)
  clear hin s0 hb
  go_enter Try.func6, Try.ntmps6
  go_wp2_with fail
  refine (HSA.out _ (below_al HB0.out _)).mono ?_
  rintro e w1 ⟨x, rfl, hx, hx1, hx2, hb1⟩
  have HB1 := Lib.hid (below_step (below_al HB0.out _) hb1)
  by_cases hx0 : x < 0
  · clear hx
    go_wp2
    go_ret
    exact ⟨rfl, HB1.out⟩
  have HCO : Hid (t0.x.text.size + costL D0 t0.kids ≤ 1048576) := Lib.hid (by have := hx (by omega); omega)
  have HA1 : Hid (PatBox 51 w1 w.heap.size o0 tx0 (.slice A n c)) := Lib.hid ((hb1.block _ (by simp)).trans (alloc_new_atP _ _ rfl))
  have HTA := Lib.hid (HTA.out (HSH0.out (by have := HCO.out; omega)))
  have HIM := Lib.hid (HIM.out (by have := HCO.out; have := HC0.out; omega))
  clear hx hb1 hx1 hx2 HCO HC0 HSH0
  obtain ⟨a0, a1, a2⟩ := HA1.out.tell
  go_wp2_with fail
  refine (HTA.out _ HB1.out).mono ?_
  rintro e w2 ⟨va, SA, rfl, hoa, hb2⟩
  have HB2 := Lib.hid (below_step HB1.out hb2)
  have HA2 := Lib.hid (HA1.out.below hb2)
  have HOA := Lib.hid hoa
  clear a0 a1 a2 hb2 hoa HA1
  go_wp2_with fail
  refine (HSP.out va _ HOA.out.rd).mono ?_
  rintro e w3 ⟨rfl, hb3⟩
  have HB3 := Lib.hid (below_step HB2.out hb3)
  have HA3 := Lib.hid (HA2.out.below hb3)
  clear hb3 HA2 HOA
  obtain ⟨a0, a1, a2⟩ := HA3.out.tell
  go_wp2_with fail
  refine (HTA.out _ HB3.out).mono ?_
  rintro e w4 ⟨vx, SX, rfl, hox, hb⟩
  obtain ⟨Ax, nx, cx, g1⟩ : ∃ A n c, vx.kv = .slice A n c := by obtain ⟨A, c, hv⟩ := hox.rd.2.form; exact ⟨A, _, c, hv⟩
  obtain ⟨ox, tx, kvx⟩ := vx
  dsimp only at g1
  subst g1
  have HB4 := Lib.hid (below_step HB3.out hb)
  have HA4 := Lib.hid (HA3.out.below hb)
  have HX4 := Lib.hid hox.rd
  clear a0 a1 a2 hb hox HA3
  go_wp2_with fail
  refine (HIM.out ⟨ox, tx, .slice Ax nx cx⟩ _ (HX4.out.below (below_al (Below.refl _ _) _))).mono ?_
  rintro e w6 ⟨rfl, hb⟩
  have hbE := below_step (below_al (Below.refl w4.heap.size w4) (.cells #[.int .i64 ox, .string tx, .slice Ax nx cx] 56)) hb
  have HB6 := Lib.hid (below_step HB4.out hbE)
  have HA6 := Lib.hid (HA4.out.below hbE)
  have HX6 := Lib.hid (HX4.out.below hbE)
  have HPX6 : Hid (PatBox 56 w6 w4.heap.size ox tx (.slice Ax nx cx)) := Lib.hid ((hb.block _ (by simp)).trans (alloc_new_atP _ _ rfl))
  clear hb hbE HA4 HX4
  have HK : Hid (∀ W, Below w6.heap.size w6 W → ((W.cell? ⟨w4.heap.size, 0, none⟩ = some (.int .i64 ox) ∧ W.cell? ⟨w4.heap.size, 1, none⟩ = some (.string tx) ∧ W.cell? ⟨w4.heap.size, 2, none⟩ = some (.slice Ax nx cx)) ∧ (W.cell? ⟨w.heap.size, 0, none⟩ = some (.int .i64 o0) ∧ W.cell? ⟨w.heap.size, 1, none⟩ = some (.string tx0) ∧ W.cell? ⟨w.heap.size, 2, none⟩ = some (.slice A n c)) ∧ Below w6.heap.size w6 W)) := Lib.hid fun W hb => ⟨(HPX6.out.below hb).tell, (HA6.out.below hb).tell, hb⟩
  obtain ⟨⟨a0, a1, a2⟩, ⟨c0, c1, c2⟩, -⟩ := HK.out _ (Below.refl _ _)
  go_wp2
  go_region_held3 (fun W => (W.cell? ⟨w4.heap.size, 0, none⟩ = some (.int .i64 ox) ∧ W.cell? ⟨w4.heap.size, 1, none⟩ = some (.string tx) ∧ W.cell? ⟨w4.heap.size, 2, none⟩ = some (.slice Ax nx cx)) ∧ (W.cell? ⟨w.heap.size, 0, none⟩ = some (.int .i64 o0) ∧ W.cell? ⟨w.heap.size, 1, none⟩ = some (.string tx0) ∧ W.cell? ⟨w.heap.size, 2, none⟩ = some (.slice A n c)) ∧ Below w6.heap.size w6 W) (first | exact HK.out _ (Below.refl _ _).drew | exact HK.out _ (below_step (by assumption : _ ∧ _ ∧ Below _ _ _).2.2 hbm) | go_keep)
    (first
      | (go_at_call 26; refine (HTA.out _ (below_step HB6.out (by assumption : _ ∧ _ ∧ Below _ _ _).2.2)).mono ?_; rintro e wr ⟨vr, SR, rfl, hor, hbm⟩)
      | (go_at_call 28; refine (eqPat_any D0 ⟨ox, tx, .slice Ax nx cx⟩ vr t0 _ (HX6.out.below (by assumption : _ ∧ _ ∧ Below _ _ _).2.2) hor.rd).mono ?_; rintro e w7 ⟨rfl, hbm⟩))
  have HB7 := below_step HB6.out (by assumption : _ ∧ _ ∧ Below w6.heap.size w6 w7).2.2
  clear HK HX6 HPX6 HA6 hor a0 a1 a2 c0 c1 c2
  go_wp2
  go_ret
  exact ⟨rfl, HB7⟩

/-! ### THE ROW's STEP -/
set_option maxRecDepth 100000 in
theorem lifted (os : Os) (started : os.Started) (H : Type) (enc : TypeId × Value → H) :
    ReturnsInHanded {} Try.checked os 6 .any (Rows.fnExactMatchPatternSpec.pre6 enc Try.prog Try.f6 Rows.fnExactMatchPatternRow.domain false) (Rows.fnExactMatchPatternSpec.post enc Try.prog Try.f6 false true false false) := by
  refine returnsInHanded_of_change (C := Try.checked) own started (by kernel_rfl) Try.func6
    (ChangeSpec.witness6 (enc := enc) (C := Try.checked) false ⟨#[], #[.agg #[.int .i64 0, .string ⟨#[]⟩, .slice none 0 0], .string ByteArray.empty], []⟩ 8 (by kernel_rfl) (by kernel_rfl) (by kernel_rfl) (by kernel_rfl)) ?_
  intro W base args ds gs before hval0 hW hcnd _
  have hval : ∀ (j : Nat) t v, Try.f6.params[j]? = some t → args[j]? = some v → Value.okWide Try.prog W .any base t v := hval0
  have hW' := hW
  obtain ⟨p, q, hA0, hV, rfl, hfz, hnd⟩ := hW
  have hA : DataW.TrodAll enc Try.prog W 0 (fun _ => true) true Try.f6.params.toList args.toList ds p := hA0
  rw [Try.params6] at hA hval
  obtain ⟨v0, vs0, d0, ds0, p0, q0, hargs, rfl, rfl, h0, r0⟩ := trodAll_cons hA
  obtain ⟨v1, vs1, d1, ds1, p1, q1, rfl, rfl, rfl, h1, r1⟩ := trodAll_cons r0
  obtain ⟨rfl, rfl, rfl⟩ := trodAll_nil r1
  obtain rfl : args = #[v0, v1] := by cases args; simp_all
  obtain ⟨rfl, rfl⟩ := trodVars_none hV
  obtain ⟨y0, t0, D0, rfl, w0, s0⟩ := pat_open (hval 0 51 v0 rfl rfl) h0
  have k0 := h0
  have lt0 : ∀ x ∈ p0, x.block < W.heap.size := by obtain ⟨m, hm⟩ := k0; exact DataW.trod_lt m _ _ _ hm
  have k1 := h1
  have lt1 : ∀ x ∈ p1, x.block < W.heap.size := by obtain ⟨m, hm⟩ := k1; exact DataW.trod_lt m _ _ _ hm
  obtain ⟨x1, rfl, rfl, rfl, s1⟩ := open_string Try.underlying9 (hval 1 9 v1 rfl rfl) h1
  clear hA0 hval0
  refine (walk y0 t0 D0 x1 W w0 s0 s1).mono fun e W' ⟨he, bel⟩ => ?_
  subst he
  exact ⟨_, rfl, _, _, _, [], _, [], hW', trodAll_mk1 (shut_bool Try.underlying4 _), (trodAll_cons_mk (Below.trod laidOut (by kernel_rfl) (of_decide_eq_true (by kernel_rfl)) k0 bel lt0) (trodAll_cons_mk (Below.trod laidOut (by kernel_rfl) (of_decide_eq_true (by kernel_rfl)) k1 bel lt1) trodAll_mk0)), rfl, bel.frame _, fun h => by cases h⟩

theorem over : Rows.fnExactMatchPatternRow.holds Try.pinned (OpenSpec.ofChange Rows.fnExactMatchPatternSpec) :=
  OpenClaim.holds_of_wide 6 Try.f6 rfl rfl rfl rfl rfl rfl rfl ⟨rfl, rfl, rfl, rfl, rfl⟩ rfl rfl rfl rfl rfl (by kernel_rfl) Try.func6 (by kernel_rfl)
    (of_decide_eq_true (by kernel_rfl)) (by unfold Func.isWrapper; first | (rw [if_pos (by decide +kernel)]; kernel_rfl) | (rw [if_neg (by decide +kernel)]; exact ⟨rfl, rfl⟩))
    (fun os started H enc _ => lifted os started H enc)

theorem proved : Rows.FnExactMatchPatternSaid := over
#print axioms proved
end Go.Proofs.Ytnpgeneahjlkpaa.fnExactMatchPattern
