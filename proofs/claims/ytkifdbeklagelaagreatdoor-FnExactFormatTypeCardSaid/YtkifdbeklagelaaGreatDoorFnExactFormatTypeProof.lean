/- For every type laws.FnExactFormatType returns true: impl.FormatType answers as spec.FormatType does and leaves its argument as it was (types of more than 1048576 ranges, names and bytes the law itself lets pass); under the card's tie alone: the table of words holds what the program's text lays. -/
import Derived.Test.YtkifdbeklagelaaGreatDoorTyQ
import Derived.Test.YtkifdbeklagelaaGreatDoorTyO
import Derived.Test.YtkifdbeklagelaaGreatDoorPatAB
import Derived.Test.YtkifdbeklagelaaGreatDoorRows
import Derived.WalkKit
import Derived.ProofKit
import Derived.OpenShut
import Derived.ShutString
import Derived.ChangeOld
import Derived.Below
import Derived.Test.YtkifdbeklagelaaGreatDoorCards
import Derived.Test.YtkifdbeklagelaaGreatDoorTie
import Derived.PinnedBridge
import Derived.Lay
import Derived.LaidOnce
import Derived.SevenTiedAt
import Derived.Test.YtkifdbeklagelaaGreatDoorTabS
import Derived.ChangeVars
import Derived.LaidMore
namespace Go.Proofs.YtkifdbeklagelaaGreatDoor.fnExactFormatType
open Go.ChangeShapes Go.WideShapes Go.ChangeAt Go.RowKit
open Go.ChangeMaps (open_string shut_string)
set_option linter.unusedVariables false

theorem own : ownKnob Tryz.prog.godebug = none := by kernel_rfl
theorem laidOut : laidOutB Tryz.prog = true := by kernel_rfl

theorem gVar : Tryz.prog.globalNamed "loop.example/g03013/impl.typeWords" = some 0 := by kernel_rfl
theorem gType : (Tryz.prog.globals[0]?).map (·.type) = some 55 ∧ Tryz.prog.underlying 55 = some (.array 7 9) := ⟨by kernel_rfl, by kernel_rfl⟩
theorem var?_below {P : Program} {W W' : World} {n : String} {g : Nat} {cs : Array Value} (hg : P.globalNamed n = some g) (h : W.var? P n = some cs) (hb : Below W.heap.size W W') : W'.var? P n = some cs := by
  simp only [World.var?, hg, Option.bind_some] at h ⊢
  have hlt : g < W.heap.size := by
    rcases Nat.lt_or_ge g W.heap.size with h' | h'
    · exact h'
    · simp [Array.getElem?_eq_none h'] at h
  rw [hb.block g hlt]; exact h

set_option maxRecDepth 100000 in
set_option maxHeartbeats 8000000 in
theorem walk (y0 : TyV) (t0 : Ty) (w : World) (hin : HasTy w y0 t0) (s0 : TyWf t0) (hT : ∀ i s, i < 7 → typeWs[i]? = some s → w.cell? ⟨0, i, none⟩ = some (.string ⟨s.toArray⟩)) :
    Calls Tryz.prog 3 #[y0.val] w fun e w' => e = .returned (.bool true) ∧ Below w.heap.size w w' := by
  obtain ⟨A, c, h1, -⟩ := id hin.rg
  obtain ⟨A', c', h2, -⟩ := id hin.nm
  have HSZ := Lib.hid (fun W (hb : Below w.heap.size w W) => szTy_any y0 t0 W (hin.below hb) s0 1048576 (by omega) (by omega))
  have HTO := Lib.hid (fun W (hb : Below w.heap.size w W) => toTy_any y0 t0 W (hin.below hb))
  have HB0 := Lib.hid (Below.refl w.heap.size w)
  have HTB := Lib.hid (fun W (hb : Below w.heap.size w W) i s (hi : i < 7) (hs : typeWs[i]? = some s) => (hb.cell (lt_of_cell (hT i s hi hs))).trans (hT i s hi hs))
  have HWF := Lib.hid s0
  obtain ⟨k, vr, vn, pt, ph⟩ := y0
  obtain rfl : vr = _ := h1
  obtain rfl : vn = _ := h2
  generalize hn : t0.rg.length = n at *
  generalize hm : t0.nm.length = m at *
  clear hin s0 hT
  go_enter Tryz.func3, Tryz.ntmps3
  go_wp2_with fail
  refine (HSZ.out _ (below_al HB0.out _)).mono ?_
  rintro e w1 ⟨⟨x, rfl, hx, hx1, hx2⟩, hb1⟩
  by_cases hx0 : x < 0
  · clear hx
    go_wp2
    go_ret
    exact ⟨rfl, below_step (below_al HB0.out _) hb1⟩
  have HS := Lib.hid (hx (by omega))
  have HFM : Hid (TyFm t0) := Lib.hid ⟨by rw [hn]; exact HS.out.1, HWF.out.2.1, by rw [hm]; exact HS.out.2.1, HS.out.2.2.1, HS.out.2.2.2.1, HS.out.2.2.2.2⟩
  clear hx hn hm
  obtain ⟨b, hb⟩ : ∃ b, b = fmtTy t0 := ⟨_, rfl⟩
  have HSP : Hid (∀ v W, HasTy W v t0 → Calls Tryz.prog 7 #[v.val] W fun e w' => e = .returned (.string b) ∧ Below W.heap.size W w') := Lib.hid fun v W h => by rw [hb]; exact sFmtTy_any v t0 W h HFM.out
  have HIM : Hid (∀ v W, HasTy W v t0 → CapN v.vn → NilTy v → Below w.heap.size w W → Calls Tryz.prog 9 #[v.val] W fun e w' => e = .returned (.string b) ∧ Below W.heap.size W w') := Lib.hid fun v W h hc hk hbl => by rw [hb]; exact iFmtTy_any v t0 W h hc hk HFM.out (HTB.out W hbl)
  have hbb : (b.toList == b.toList) = true := by simp
  clear hb
  have HB1 := Lib.hid (below_step (below_al HB0.out _) hb1)
  have A1 : w1.heap[w.heap.size]? = some (.cells #[.int .i64 k, .slice A n c, .slice A' m c', .string pt, .string ph] 25 (0, 0)) := (hb1.block _ (by simp)).trans (heap_alloc_new' _ _ rfl)
  have hz1 : w.heap.size < w1.heap.size := (Array.getElem?_eq_some_iff.1 A1).1
  obtain ⟨⟨x0, x1, x2, x3, x4⟩, -⟩ := five A1
  clear hb1
  go_wp2_with fail
  refine (HTO.out _ HB1.out HS.out.1 HS.out.2.1).mono ?_
  rintro e w2 ⟨v2, rfl, hown2, hb2⟩
  have HB2 := Lib.hid (below_step HB1.out hb2)
  have A2 := (hb2.block _ hz1).trans A1
  have hz2 : w.heap.size < w2.heap.size := (Array.getElem?_eq_some_iff.1 A2).1
  clear x0 x1 x2 x3 x4 hb2 A1
  go_wp2_with fail
  refine (HSP.out v2 _ hown2.has).mono ?_
  rintro e w3 ⟨rfl, hb3⟩
  have HB3 := Lib.hid (below_step HB2.out hb3)
  have A3 := (hb3.block _ hz2).trans A2
  have hz3 : w.heap.size < w3.heap.size := (Array.getElem?_eq_some_iff.1 A3).1
  obtain ⟨⟨x0, x1, x2, x3, x4⟩, -⟩ := five A3
  clear hown2 hb3 A2
  go_wp2_with fail
  refine (HTO.out _ HB3.out HS.out.1 HS.out.2.1).mono ?_
  rintro e w4 ⟨v4, rfl, hown4, hb4⟩
  have HB4 := Lib.hid (below_step HB3.out hb4)
  have A4 := (hb4.block _ hz3).trans A3
  have hz4 : w.heap.size < w4.heap.size := (Array.getElem?_eq_some_iff.1 A4).1
  clear x0 x1 x2 x3 x4 hb4 A3
  have HO := Lib.hid hown4
  have HCN := Lib.hid hown4.nm.capN
  have HNT := Lib.hid hown4.nilTy
  obtain ⟨F, d, e1, -⟩ := id hown4.has.rg
  obtain ⟨F', d', e2, -⟩ := id hown4.has.nm
  clear hown4
  obtain ⟨k2, vr2, vn2, pt2, ph2⟩ := v4
  obtain rfl : vr2 = _ := e1
  obtain rfl : vn2 = _ := e2
  generalize t0.rg.length = n2 at *
  generalize t0.nm.length = m2 at *
  go_wp2_with fail
  refine (HIM.out ⟨k2, .slice F n2 d, .slice F' m2 d', pt2, ph2⟩ _ (HO.out.has.below (below_al (Below.refl _ _) _)) HCN.out HNT.out (below_al HB4.out _)).mono ?_
  rintro e w5 ⟨rfl, hb5⟩
  have HB5 := Lib.hid (below_step (below_al HB4.out _) hb5)
  have B5 := (hb5.block w4.heap.size (by simp)).trans (heap_alloc_new' _ _ rfl)
  have A5 := (hb5.block w.heap.size (by simp; omega)).trans ((Below.heap_alloc _ _ _ hz4).trans A4)
  have HO5 := Lib.hid (HO.out.has.below (below_step (below_al (Below.refl w4.heap.size w4) _) hb5))
  obtain ⟨⟨x0, x1, x2, x3, x4⟩, -⟩ := five A5
  obtain ⟨⟨y0, y1, y2, y3, y4⟩, -⟩ := five B5
  clear hb5 A4
  have hz5 : w4.heap.size < w5.heap.size := (Array.getElem?_eq_some_iff.1 B5).1
  have ha5 : w.heap.size < w5.heap.size := (Array.getElem?_eq_some_iff.1 A5).1
  have HH : Hid (∀ W, Below w5.heap.size w5 W → W.heap[w4.heap.size]? = some (.cells #[.int .i64 k2, .slice F n2 d, .slice F' m2 d', .string pt2, .string ph2] 30 (0, 0)) ∧ W.heap[w.heap.size]? = some (.cells #[.int .i64 k, .slice A n c, .slice A' m c', .string pt, .string ph] 25 (0, 0)) ∧ HasTy W ⟨k2, .slice F n2 d, .slice F' m2 d', pt2, ph2⟩ t0 ∧ Below w.heap.size w W) := Lib.hid fun W hb => ⟨(hb.block _ hz5).trans B5, (hb.block _ ha5).trans A5, HO5.out.below hb, below_step HB5.out hb⟩
  clear A5 B5
  go_wp2
  go_region_with (first
    | (go_at_call 8; refine (HTO.out _ (HB5.out.drew) HS.out.1 HS.out.2.1).mono ?_; rintro e w6 ⟨v6, rfl, hown6, hb6⟩; have HB6 := Lib.hid (below_step (Below.refl w5.heap.size w5).drew hb6); obtain ⟨⟨z0, z1, z2, z3, z4⟩, -⟩ := five (HH.out _ HB6.out).1)
    | (go_at_call 10; refine (eqTy_any ⟨k2, .slice F n2 d, .slice F' m2 d', pt2, ph2⟩ v6 t0 _ ((HH.out _ HB6.out).2.2.1) hown6.has).mono ?_; rintro e w7 ⟨rfl, hb7⟩; have HB7 := Lib.hid (below_step HB6.out hb7)))
  all_goals
    go_wp2
    go_ret
    exact ⟨rfl, (HH.out _ HB7.out).2.2.2⟩

/-! ### THE ROW's STEP -/
set_option maxRecDepth 100000 in
theorem lifted (os : Os) (started : os.Started) (H : Type) (enc : TypeId × Value → H) :
    ReturnsInHanded {} Tryz.checked os 3 .any (fun w args => (Rows.fnExactFormatTypeSpec.pre enc Tryz.prog Tryz.f3 Rows.fnExactFormatTypeRow.domain false w args ∧ laidMetH Tryz.prog Rows.fnExactFormatTypeRow.laid w) ∧ sizedMet enc Tryz.prog Tryz.f3 (OpenSpec.ofChange Rows.fnExactFormatTypeSpec) false w args) (Rows.fnExactFormatTypeSpec.post enc Tryz.prog Tryz.f3 false true false false) := by
  refine returnsInHanded_of_change_and (C := Tryz.checked) (X := fun w _ => laidMetH Tryz.prog Rows.fnExactFormatTypeRow.laid w) (fun _ _ _ hh h => h.of_heap hh) own started (by kernel_rfl) Tryz.func3
    (ChangeSpec.witness_shaped (enc := enc) (C := Tryz.checked) (os := os) (X := fun w _ => laidMetH Tryz.prog Rows.fnExactFormatTypeRow.laid w) false (World.laidAll Tryz.prog os Rows.fnExactFormatTypeRow.laid) #[.agg #[.int .i64 0, .slice none 0 0, .slice none 0 0, .string ⟨#[]⟩, .string ⟨#[]⟩]] 8 (World.laidAll_os _ _ _)
      (World.shaped_of_ZipB (by kernel_rfl) (by kernel_rfl)) (by kernel_rfl) (by kernel_rfl) (by kernel_rfl)
      (by rw [MakeChecks.laidMetH_plain _ _ _ (by kernel_rfl)]; exact laidMet_laidAll _ (by kernel_rfl) (by kernel_rfl))) ?_
  intro W base args ds gs before hval0 hW hcnd _ hLaid _
  have hval : ∀ (j : Nat) t v, Tryz.f3.params[j]? = some t → args[j]? = some v → Value.okWide Tryz.prog W .any base t v := hval0
  have hW' := hW
  obtain ⟨p, q, hA0, hV, rfl, hfz, hnd⟩ := hW
  have hA : DataW.TrodAll enc Tryz.prog W 0 (fun _ => true) true Tryz.f3.params.toList args.toList ds p := hA0
  rw [Tryz.params3] at hA hval
  obtain ⟨v0, vs0, d0, ds0, p0, q0, hargs, rfl, rfl, h0, r0⟩ := trodAll_cons hA
  obtain ⟨rfl, rfl, rfl⟩ := trodAll_nil r0
  obtain rfl : args = #[v0] := by cases args; simp_all
  have hV' : DataW.TrodVars enc Tryz.prog W (fun _ => true) ["loop.example/g03013/impl.typeWords"] gs q := hV
  obtain ⟨gg, tt, cs, fuel, dg, pg, rfl, hg, htt, hvar, hd, rfl⟩ := trodVars_one hV'
  have hgg := Option.some.inj (gVar.symm.trans hg)
  subst hgg
  have hTab : ∀ i s, i < 7 → typeWs[i]? = some s → W.cell? ⟨0, i, none⟩ = some (.string ⟨s.toArray⟩) := by
    obtain ⟨g2, g3⟩ := gType
    rw [MakeChecks.laidMetH_plain _ _ _ (by kernel_rfl)] at hLaid
    exact fun i s => strTab (ss := typeWs) (Go.Lib.laidMet.reads hLaid (by simp [Rows.fnExactFormatTypeRow]; first | rfl | exact .inl rfl | exact .inr rfl | exact .inr (.inl rfl))) gVar g2 g3 Tryz.underlying9 (by kernel_rfl) i s
  have hltg : ∀ x ∈ pg, x.block < W.heap.size := DataW.trod_lt fuel _ _ _ hd
  have hTrod : DataW.Trod enc Tryz.prog W 0 (fun _ => true) true tt (.agg cs) dg pg := ⟨fuel, hd⟩
  obtain ⟨y0, t0, rfl, w0, s0⟩ := ty_open (hval 0 25 v0 rfl rfl) h0
  have k0 := h0
  have lt0 : ∀ x ∈ p0, x.block < W.heap.size := by obtain ⟨m, hm⟩ := k0; exact DataW.trod_lt m _ _ _ hm
  clear hA0 hval0
  refine (walk y0 t0 W w0 s0 hTab).mono fun e W' ⟨he, bel⟩ => ?_
  subst he
  obtain ⟨g2, g3⟩ := gType
  obtain rfl := Option.some.inj (g2.symm.trans htt)
  obtain ⟨fuel2, hd2⟩ := Below.trod laidOut (by kernel_rfl) (of_decide_eq_true (by kernel_rfl)) hTrod bel hltg
  exact ⟨_, rfl, _, _, _, [], _, _, hW', trodAll_mk1 (shut_bool Tryz.underlying4 _), (trodAll_cons_mk (Below.trod laidOut (by kernel_rfl) (of_decide_eq_true (by kernel_rfl)) k0 bel lt0) trodAll_mk0), trodVars_mk1 hg htt (var?_below hg hvar bel) hd2, bel.frame _, fun h => by cases h⟩

theorem over : Rows.fnExactFormatTypeRow.holds Tryz.pinned (OpenSpec.ofChange Rows.fnExactFormatTypeSpec) :=
  OpenClaim.holds_of_wide 3 Tryz.f3 rfl rfl rfl rfl rfl rfl rfl ⟨rfl, rfl, rfl, rfl, rfl⟩ rfl rfl rfl rfl rfl (by kernel_rfl) Tryz.func3 (by kernel_rfl)
    (of_decide_eq_true (by kernel_rfl)) (by unfold Func.isWrapper; first | (rw [if_pos (by decide +kernel)]; kernel_rfl) | (rw [if_neg (by decide +kernel)]; exact ⟨rfl, rfl⟩))
    (fun os started H enc _ => lifted os started H enc)

/-- no parameter wants a stand-in; the program's own looks are off -/
theorem plain (f : FuncId) (fn : Func) (hf : Tryz.pinned.checked.prog.funcNamed "loop.example/g03013/laws.FnExactFormatType" = some f) (hfn : Tryz.pinned.checked.prog.funcs[f]? = some fn) :
    true = Tryz.pinned.checked.prog.looks [] ∧ ∀ (j : Nat) t, fn.params[j]? = some t → Tryz.pinned.checked.prog.wantsStandIn t = false := by
  obtain rfl : f = 3 := Option.some.inj ((show Tryz.prog.funcNamed "loop.example/g03013/laws.FnExactFormatType" = some 3 by kernel_rfl).symm.trans hf) |>.symm
  obtain rfl : fn = Tryz.f3 := (Option.some.inj (Tryz.func3.symm.trans hfn)).symm
  refine ⟨by kernel_rfl, fun j t ht => ?_⟩
  rw [Tryz.params3] at ht
  have hm : t ∈ [25] := by simpa using Array.mem_of_getElem? ht
  have hall : ([25].all fun u => !Tryz.prog.wantsStandIn u) = true := by kernel_rfl
  exact (show Tryz.prog.wantsStandIn t = false by simpa using List.all_eq_true.1 hall t hm)
theorem proved : Rows.FnExactFormatTypeCardSaid :=
  Claim7.holds_tied_plain_at .later [] _ _ _ _ over (fun _ h => by cases h) (by kernel_rfl) (fun _ h => by cases h) fnExactFormatType_row_tie rfl ⟨rfl, rfl⟩ (by kernel_rfl) rfl plain (by kernel_rfl)
#print axioms proved
end Go.Proofs.YtkifdbeklagelaaGreatDoor.fnExactFormatType
