/- For every text laws.FnExactParsePattern returns true: impl.ParsePattern answers as spec.ParsePattern does, in both results and every field, and shares no memory between calls (texts of more than 1048576 bytes the law itself lets pass); no condition. -/
import Derived.Test.YtoldfejclimhgaaPatAA
import Derived.Test.YtoldfejclimhgaaPatAB
import Derived.Test.YtoldfejclimhgaaRows
import Derived.WalkKit
import Derived.ProofKit
import Derived.OpenShut
import Derived.ShutString
namespace Go.Proofs.Ytoldfejclimhgaa.fnExactParsePattern
open Go.ChangeShapes Go.WideShapes Go.ChangeAt Go.RowKit
open Go.ChangeMaps (open_string shut_string)
set_option linter.unusedVariables false      -- a walk need not use every 'w<i>' (that an integer argument fits its kind)

theorem own : ownKnob Try.prog.godebug = none := by kernel_rfl

/-- what both parsers leave, well read or not -/
def zeroP : Pat := .mk ⟨0, ⟨#[]⟩⟩ []
def PrsC (f : Nat) (s : ByteArray) (p : Pat) (ok : Bool) : Prop := ∀ w, Calls Try.prog f #[.string s] w fun e w' => ∃ (A : Option Addr) (c : Nat) (S : Nat → Prop), e = .returned (.tuple #[.agg #[.int .i64 p.x.op, .string p.x.text, .slice A p.kids.length c], .bool ok]) ∧ Hid (OwN patK 124 w.heap.size w' ⟨p.x.op, p.x.text, .slice A p.kids.length c⟩ p S) ∧ Hid (Below w.heap.size w w')
theorem prs_of {f : Nat} {s : ByteArray} {o : Option Pat} (h : ∀ w, Calls Try.prog f #[.string s] w (ParseOut o w)) : PrsC f s (o.getD zeroP) o.isSome := fun w => by
  cases o with
  | none => exact (h w).mono fun e w' ⟨h1, h2⟩ => ⟨none, 0, fun _ => False, h1, Lib.hid (owN_leaf _ _ _ _ _), Lib.hid h2⟩
  | some p => exact (h w).mono fun e w' ⟨A, c, S, h1, h2, h3⟩ => ⟨A, c, S, h1, Lib.hid h2, Lib.hid h3⟩
theorem prs_bound {l : List UInt8} (d : Nat) : (mkL d 1 ((patS l).getD zeroP).kids).2 ≤ 2305843009213693952 := by
  cases h : patS l with
  | none => rw [mk_cnt]; show 1 + 2 * cntL d [] ≤ _; rw [cntL_nil]; omega
  | some p => exact (patS_few h).2 d
/-- a record in a variable of the call's own -/
def Bx (w : World) (b : Nat) (r : PatR) : Prop := w.heap[b]? = some (.cells #[.int .i64 r.op, .string r.text, r.kv] 30 (0, 0))
theorem Bx.cells {w : World} {b : Nat} {r : PatR} (h : Bx w b r) : (w.cell? ⟨b, 0, none⟩ = some (.int .i64 r.op) ∧ w.cell? ⟨b, 1, none⟩ = some (.string r.text) ∧ w.cell? ⟨b, 2, none⟩ = some r.kv) ∧ b < w.heap.size :=
  ⟨⟨by rw [cell_of_row w b 0 _ _ _ h]; rfl, by rw [cell_of_row w b 1 _ _ _ h]; rfl, by rw [cell_of_row w b 2 _ _ _ h]; rfl⟩, (Array.getElem?_eq_some_iff.1 h).1⟩
theorem Bx.turns {S : Nat → Prop} {w w' : World} {b : Nat} {r : PatR} (h : Bx w b r) (ht : TurnsAt S w w') (hn : ¬ S b) : Bx w' b r := (ht.block b (Array.getElem?_eq_some_iff.1 h).1 hn).trans h
theorem Bx.below {w w' : World} {b : Nat} {r : PatR} (h : Bx w b r) (hb : Below w.heap.size w w') : Bx w' b r := (hb.block b (Array.getElem?_eq_some_iff.1 h).1).trans h
theorem Bx.new (w : World) (r : PatR) : Bx (w.alloc (.cells #[.int .i64 r.op, .string r.text, r.kv] 30)) w.heap.size r := heap_alloc_new w _
theorem mark_rd {d : Nat} {w : World} {p : Pat} {r : PatR} {S : Nat → Prop} {B : Nat} (h : OwN patK d B w r (.mk p.x (mkL d 1 p.kids).1) S) : RdL patK d w r.kv (mkL d 1 p.kids).1 := h.rd.2

/-! ### THE WALK -/
theorem walk (a0 : ByteArray) (w0 : a0.size ≤ maxLen) (w : World) :
    Calls Try.prog 4 #[.string a0] w fun e w' => e = .returned (.bool true) ∧ Below w.heap.size w w' := by
  by_cases hbig : 1048576 < a0.size
  · go_enter Try.func4, Try.ntmps4
    go_wp2
    go_ret
    exact ⟨rfl, Below.refl _ _⟩
  · have hs : a0.size ≤ maxLen := by unfold maxLen; omega
    have C1 : PrsC 13 a0 _ _ := prs_of fun w => sParsePat_any (fun n => (salt_any n).2.2) a0 hs w
    have C2 : PrsC 14 a0 _ _ := prs_of fun w => iPat_any a0 hs w
    have hbd := prs_bound (l := a0.data.toList) 124
    generalize (patS a0.data.toList).getD zeroP = p at C1 C2 hbd
    generalize (patS a0.data.toList).isSome = ok at C1 C2
    have C1 := Lib.hid C1
    have C2 := Lib.hid C2
    have HBD := Lib.hid hbd
    obtain ⟨m, hm⟩ : ∃ m, m = (mkL 124 1 p.kids).2 := ⟨_, rfl⟩
    have HM := Lib.hid hm
    have hm1 : ¬ (m : Int) < 0 := by omega
    clear hs hm hbd
    cases ok
    all_goals
      go_enter Try.func4, Try.ntmps4
      go_wp2_with fail
      refine (C1.out _).mono ?_
      rintro e w1 ⟨A1, c1, S1, rfl, HO1, HB1⟩
      go_wp2_with fail
      refine (C2.out _).mono ?_
      rintro e w2 ⟨A2, c2, S2, rfl, HO2, HB2⟩
      have hw1 : w.heap.size ≤ w1.heap.size := HB1.out.size
      have hx1 := (Bx.new w1 ⟨p.x.op, p.x.text, .slice A1 p.kids.length c1⟩).below HB2.out
      have hl2 : Hid (∀ b, S2 b → w1.heap.size < b ∧ b < w2.heap.size) := Lib.hid fun b hb => by have := HO2.out.lt b hb; simp at this; omega
      have hl1 : Hid (∀ b, S1 b → b < w1.heap.size) := Lib.hid fun b hb => (HO1.out.lt b hb).2
      have ho1 := (HO1.out.al (.cells #[.int .i64 p.x.op, .string p.x.text, .slice A1 p.kids.length c1] 30)).below HB2.out
      obtain ⟨⟨k0, k1, k2⟩, z1⟩ := hx1.cells
      have HX1 := Lib.hid (hx1.below (below_al (Below.refl _ _) (.cells #[.int .i64 p.x.op, .string p.x.text, .slice A2 p.kids.length c2] 30)))
      have HX2 := Lib.hid (Bx.new w2 ⟨p.x.op, p.x.text, .slice A2 p.kids.length c2⟩)
      have HP1 := Lib.hid (ho1.al (.cells #[.int .i64 p.x.op, .string p.x.text, .slice A2 p.kids.length c2] 30))
      have HP2 := Lib.hid (HO2.out.al (.cells #[.int .i64 p.x.op, .string p.x.text, .slice A2 p.kids.length c2] 30))
      have HBa := Lib.hid (below_al (below_step (below_al HB1.out (.cells #[.int .i64 p.x.op, .string p.x.text, .slice A1 p.kids.length c1] 30)) HB2.out) (.cells #[.int .i64 p.x.op, .string p.x.text, .slice A2 p.kids.length c2] 30))
      clear hx1 ho1 HO1 HO2 HB1 HB2
      go_wp2_with fail
      refine (eqPat_any 124 ⟨p.x.op, p.x.text, .slice A2 p.kids.length c2⟩ ⟨p.x.op, p.x.text, .slice A1 p.kids.length c1⟩ p _ HP2.out.rd HP1.out.rd).mono ?_
      rintro e w3 ⟨rfl, hb⟩
      have HX1 := Lib.hid (HX1.out.below hb)
      have HX2 := Lib.hid (HX2.out.below hb)
      have HP1 := Lib.hid (HP1.out.below hb)
      have HP2 := Lib.hid (HP2.out.below hb)
      have HBa := Lib.hid (below_step HBa.out hb)
      clear hb k0 k1 k2
      obtain ⟨⟨k0, k1, k2⟩, z3⟩ := HX2.out.cells
      go_wp2_with fail
      refine (markPat_any 124 _ ⟨p.x.op, p.x.text, .slice A2 p.kids.length c2⟩ p S2 _ HP2.out HBD.out).mono ?_
      rw [← HM.out]
      rintro e w4 ⟨rfl, ho, ht⟩
      have HX1 := Lib.hid (HX1.out.turns ht (fun h => by have := hl2.out _ h; omega))
      have HX2 := Lib.hid (HX2.out.turns ht (fun h => by have := hl2.out _ h; omega))
      have HP1 := Lib.hid (HP1.out.apart ht (fun b h1 h2 => by have := hl1.out b h1; have := hl2.out b h2; omega))
      have HP2 := Lib.hid ho
      have HBa := Lib.hid (HBa.out.trans (ht.below (B := w.heap.size) HBa.out.size (fun b hb => by have := hl2.out b hb; omega)))
      clear ho ht k0 k1 k2
      obtain ⟨⟨k0, k1, k2⟩, z4⟩ := HX2.out.cells
      go_wp2_with fail
      refine (heldPat_any 124 ⟨p.x.op, p.x.text, .slice A2 p.kids.length c2⟩ p.kids _ (mark_rd HP2.out) HBD.out).mono ?_
      rw [← HM.out]
      rintro e w5 ⟨rfl, hb⟩
      have HX1 := Lib.hid (HX1.out.below hb)
      have HX2 := Lib.hid (HX2.out.below hb)
      have HP1 := Lib.hid (HP1.out.below hb)
      have HP2 := Lib.hid (HP2.out.below hb)
      have HBa := Lib.hid (below_step HBa.out hb)
      clear hb k0 k1 k2
      go_wp2_with fail
      refine (C2.out _).mono ?_
      rintro e w6 ⟨A3, c3, S3, rfl, HO3, HB3⟩
      have HX1 := Lib.hid ((HX1.out.below HB3.out).below (below_al (Below.refl _ _) (.cells #[.int .i64 p.x.op, .string p.x.text, .slice A3 p.kids.length c3] 30)))
      have HX2 := Lib.hid ((HX2.out.below HB3.out).below (below_al (Below.refl _ _) (.cells #[.int .i64 p.x.op, .string p.x.text, .slice A3 p.kids.length c3] 30)))
      have HX3 := Lib.hid (Bx.new w6 ⟨p.x.op, p.x.text, .slice A3 p.kids.length c3⟩)
      have HP1 := Lib.hid ((HP1.out.below HB3.out).al (.cells #[.int .i64 p.x.op, .string p.x.text, .slice A3 p.kids.length c3] 30))
      have HP2 := Lib.hid ((HP2.out.below HB3.out).al (.cells #[.int .i64 p.x.op, .string p.x.text, .slice A3 p.kids.length c3] 30))
      have HP3 := Lib.hid (HO3.out.al (.cells #[.int .i64 p.x.op, .string p.x.text, .slice A3 p.kids.length c3] 30))
      have HBa := Lib.hid (below_al (below_step HBa.out HB3.out) (.cells #[.int .i64 p.x.op, .string p.x.text, .slice A3 p.kids.length c3] 30))
      clear HO3 HB3
      obtain ⟨⟨k0, k1, k2⟩, z6⟩ := HX1.out.cells
      go_wp2_with fail
      refine (eqPat_any 124 ⟨p.x.op, p.x.text, .slice A3 p.kids.length c3⟩ ⟨p.x.op, p.x.text, .slice A1 p.kids.length c1⟩ p _ HP3.out.rd HP1.out.rd).mono ?_
      rintro e w7 ⟨rfl, hb⟩
      have HX2 := Lib.hid (HX2.out.below hb)
      have HP2 := Lib.hid (HP2.out.below hb)
      have HBa := Lib.hid (below_step HBa.out hb)
      clear hb k0 k1 k2 HX1 HX3 HP1 HP3
      obtain ⟨⟨k0, k1, k2⟩, z7⟩ := HX2.out.cells
      go_wp2_with fail
      refine (heldPat_any 124 ⟨p.x.op, p.x.text, .slice A2 p.kids.length c2⟩ p.kids _ (mark_rd HP2.out) HBD.out).mono ?_
      rw [← HM.out]
      rintro e w8 ⟨rfl, hb⟩
      have HBa := Lib.hid (below_step HBa.out hb)
      clear hb k0 k1 k2 HP2 HX2
      go_wp2
      go_ret
      exact ⟨rfl, HBa.out⟩

/-! ### THE ROW's STEP: WRITTEN OUT: LEAVE IT -/
set_option maxRecDepth 100000 in
theorem lifted (os : Os) (started : os.Started) (H : Type) (enc : TypeId × Value → H) :
    ReturnsInHanded {} Try.checked os 4 .any (Rows.fnExactParsePatternSpec.pre6 enc Try.prog Try.f4 Rows.fnExactParsePatternRow.domain false) (Rows.fnExactParsePatternSpec.post enc Try.prog Try.f4 false true false false) := by
  refine returnsInHanded_of_change (C := Try.checked) own started (by kernel_rfl) Try.func4
    (ChangeSpec.witness6 (enc := enc) (C := Try.checked) false ⟨#[], #[.string ByteArray.empty], []⟩ 8 (by kernel_rfl) (by kernel_rfl) (by kernel_rfl) (by kernel_rfl)) ?_
  intro W base args ds gs before hval0 hW hcnd _
  have hval : ∀ (j : Nat) t v, Try.f4.params[j]? = some t → args[j]? = some v → Value.okWide Try.prog W .any base t v := hval0
  have hW' := hW
  obtain ⟨p, q, hA0, hV, rfl, hfz, hnd⟩ := hW
  have hA : DataW.TrodAll enc Try.prog W 0 (fun _ => true) true Try.f4.params.toList args.toList ds p := hA0
  rw [Try.params4] at hA hval
  obtain ⟨v0, vs0, d0, ds0, p0, q0, hargs, rfl, rfl, h0, r0⟩ := trodAll_cons hA
  obtain ⟨rfl, rfl, rfl⟩ := trodAll_nil r0
  obtain rfl : args = #[v0] := by cases args; simp_all
  obtain ⟨rfl, rfl⟩ := trodVars_none hV
  obtain ⟨a0, rfl, rfl, rfl, w0⟩ := open_string Try.underlying9 (hval 0 9 v0 rfl rfl) h0
  clear hA0 hval0
  simp only [List.append_nil] at hW'
  refine (walk a0 w0 W).mono fun e W' ⟨he, hg⟩ => ?_
  subst he
  exact ⟨_, rfl, _, _, _, [], [], [], hW', (trodAll_cons_mk (shut_bool Try.underlying4 _) trodAll_mk0), (trodAll_cons_mk (shut_string Try.underlying9 w0) trodAll_mk0), rfl, hg.frame _, fun h => by cases h⟩

theorem over : Rows.fnExactParsePatternRow.holds Try.pinned (OpenSpec.ofChange Rows.fnExactParsePatternSpec) :=
  OpenClaim.holds_of_wide 4 Try.f4 rfl rfl rfl rfl rfl rfl rfl ⟨rfl, rfl, rfl, rfl, rfl⟩ rfl rfl rfl rfl rfl (by kernel_rfl) Try.func4 (by kernel_rfl)
    (of_decide_eq_true (by kernel_rfl)) (by unfold Func.isWrapper; first | (rw [if_pos (by decide +kernel)]; kernel_rfl) | (rw [if_neg (by decide +kernel)]; exact ⟨rfl, rfl⟩))
    (fun os started H enc _ => lifted os started H enc)

/-- ████ THE STATEMENT ████ -/
theorem proved : Rows.FnExactParsePatternSaid :=
  over
#print axioms proved
end Go.Proofs.Ytoldfejclimhgaa.fnExactParsePattern
