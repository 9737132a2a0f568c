/- For every text laws.FnExactParsePath returns true: impl.ParsePath answers as spec.ParsePath does, in both results and every field, and shares no memory between calls (texts of more than 1048576 bytes the law itself lets pass); under the card's ties alone: the two tables of unicode/utf8 that the row lists hold what the program's text lays (no step of the proof reads them). -/
import Derived.Test.YtdfapkceanicoaaDoorPpL
import Derived.Test.YtdfapkceanicoaaDoorPthO
import Derived.Test.YtdfapkceanicoaaDoorRows
import Derived.WalkKit
import Derived.ProofKit
import Derived.OpenShut
import Derived.ShutString
import Derived.ChangeOld
import Derived.Below
import Derived.Test.YtdfapkceanicoaaDoorCards
import Derived.Test.YtdfapkceanicoaaDoorTie
import Derived.PinnedBridge
import Derived.Lay
import Derived.LaidOnce
import Derived.SevenTiedAt
namespace Go.Proofs.YtdfapkceanicoaaDoor.fnExactParsePath
open Go.ChangeShapes Go.WideShapes Go.ChangeAt Go.RowKit
open Go.ChangeMaps (open_string shut_string)
set_option linter.unusedVariables false

theorem own : ownKnob Tryd.prog.godebug = none := by kernel_rfl
theorem laidOut : laidOutB Tryd.prog = true := by kernel_rfl

/-- a variable of the call's own that holds a path -/
def PB7 (T : TypeId) (w : World) (b : Nat) (r : Bool) (u : Int) (sv : Value) : Prop := w.heap[b]? = some (.cells #[.bool r, .int .i64 u, sv] T (0, 0))
theorem PB7.below {T : TypeId} {w w' : World} {b : Nat} {r : Bool} {u : Int} {sv : Value} (h : PB7 T w b r u sv) (hb : Below w.heap.size w w') : PB7 T w' b r u sv := (hb.block b (Array.getElem?_eq_some_iff.1 h).1).trans h
theorem PB7.turns {T : TypeId} {S : Nat → Prop} {w w' : World} {b : Nat} {r : Bool} {u : Int} {sv : Value} (h : PB7 T w b r u sv) (ht : TurnsAt S w w') (hn : ¬ S b) : PB7 T w' b r u sv := (ht.block b (Array.getElem?_eq_some_iff.1 h).1 hn).trans h
theorem PB7.lt {T : TypeId} {w : World} {b : Nat} {r : Bool} {u : Int} {sv : Value} (h : PB7 T w b r u sv) : b < w.heap.size := (Array.getElem?_eq_some_iff.1 h).1
theorem PoV.one {B : Nat} {o : Option Pth} {e : Ending} {w' : World} (h : PoV B o e w') : ∃ sv S, e = .returned (.tuple #[.agg #[.bool (o.getD zeroPth).root, .int .i64 (o.getD zeroPth).ups, sv], .bool o.isSome]) ∧ OwnS B w' sv (o.getD zeroPth).st S := by
  match o, h with
  | none, h => exact ⟨_, _, h, owL_nil _ _ _ _⟩
  | some p, h => exact h
theorem parPth_sz {e : Option Nat} {T : List Tok} {res : Option (Pth × Nat)} (h : PthSz (pthR res)) : PthSz ((parPth e T res).getD zeroPth) := by
  unfold parPth
  split
  · exact h
  · exact ⟨Nat.zero_le _, fun s h => by cases h⟩

set_option maxRecDepth 100000 in
set_option maxHeartbeats 16000000 in
theorem walk (x0 : ByteArray) (w : World) (s0 : x0.size ≤ maxLen) :
    Calls Tryd.prog 4 #[.string x0] w fun e w' => e = .returned (.bool true) ∧ Below w.heap.size w w' := by
  by_cases hbig : 1048576 < x0.size
  · go_enter Tryd.func4, Tryd.ntmps4
    go_wp2
    go_ret
    exact ⟨rfl, Below.refl _ _⟩
  have hs : x0.size ≤ 1048576 := by omega
  obtain ⟨T, e, hL⟩ := Lx.exists x0.size x0.data.toList
  have hl : (lexT T e).length ≤ 1048576 := by
    have h0 := hL.bd.1
    have h1 : x0.data.toList.length = x0.size := by simp
    cases e with
    | some p => simp [lexT]
    | none => show T.length ≤ _; omega
  have ht : ∀ x ∈ lexT T e, x.t.size ≤ 1048576 := lex_texts hL hs
  obtain ⟨res, hr⟩ := Pthr.exists (lexT T e)
  have HLEN := Lib.hid (parPth_sz (e := e) (T := lexT T e) (pthR_sz hr ht hl).1)
  have D1 := fun W => sParPth_any x0 hs T e hL hl ht res hr W
  have D2 := fun W => iParPth_any x0 hs T e hL hl ht res hr W
  clear hL hr ht
  generalize parPth e (lexT T e) res = o at D1 D2 HLEN
  clear hl
  obtain ⟨r, u, st, b, HZ, C1, C2⟩ : ∃ (r : Bool) (u : Int) (st : List Stp) (b : Bool), Hid (PthSz ⟨r, u, st⟩) ∧
      Hid (∀ W, Calls Tryd.prog 13 #[.string x0] W fun e w' => (∃ sv S, e = .returned (.tuple #[.agg #[.bool r, .int .i64 u, sv], .bool b]) ∧ OwnP7 W.heap.size w' ⟨r, u, sv⟩ ⟨r, u, st⟩ S) ∧ Below W.heap.size W w') ∧
      Hid (∀ W, Calls Tryd.prog 7 #[.string x0] W fun e w' => (∃ sv S, e = .returned (.tuple #[.agg #[.bool r, .int .i64 u, sv], .bool b]) ∧ OwnP7 W.heap.size w' ⟨r, u, sv⟩ ⟨r, u, st⟩ S) ∧ Below W.heap.size W w') :=
    ⟨(o.getD zeroPth).root, (o.getD zeroPth).ups, (o.getD zeroPth).st, o.isSome, HLEN, Lib.hid (fun W => (D1 W).mono fun e w' h => by
      obtain ⟨sv, S, h1, h2⟩ := PoV.one h.1
      exact ⟨⟨sv, S, h1, rfl, rfl, h2⟩, h.2⟩), Lib.hid (fun W => (D2 W).mono fun e w' h => by
      obtain ⟨sv, S, h1, h2⟩ := PoV.one h.1
      exact ⟨⟨sv, S, h1, rfl, rfl, h2⟩, h.2⟩)⟩
  clear D1 D2 HLEN
  have HB0 := Lib.hid (Below.refl w.heap.size w)
  have HMK := Lib.hid (fun B (sv : Value) S W (h : OwnP7 B W ⟨r, u, sv⟩ ⟨r, u, st⟩ S) => markPthT_any B ⟨r, u, sv⟩ ⟨r, u, st⟩ S W h HZ.out)
  have HHE := Lib.hid (fun (sv : Value) W (h : HasP7 W ⟨r, u, sv⟩ (mkPth ⟨r, u, st⟩)) => heldPthT_any ⟨r, u, sv⟩ ⟨r, u, st⟩ W h HZ.out)
  generalize endPth ⟨r, u, st⟩ = mq at HMK HHE
  have hmq0 : ¬ ((mq : Int) < 0) := by omega
  go_enter Tryd.func4, Tryd.ntmps4
  cases b
  all_goals
    go_wp2_with fail
    refine (C1.out _).mono ?_
    rintro e w1 ⟨⟨sw, SW, rfl, hown⟩, hb⟩
    obtain ⟨Dw, nw, cw, rfl⟩ : ∃ A n c, sw = .slice A n c := by obtain ⟨A, c, hv, _⟩ := hown.has.st.at; exact ⟨A, _, c, hv⟩
    have HB1 := Lib.hid (below_step HB0.out hb)
    have HOW1 := Lib.hid hown
    have BW : Hid (∀ j, SW j → w.heap.size ≤ j ∧ j < w1.heap.size) := Lib.hid fun j hj => OwL.lt hown.st j hj
    clear hown hb
    go_wp2_with fail
    refine (C2.out _).mono ?_
    rintro e w2 ⟨⟨sg, SG, rfl, hown⟩, hb⟩
    obtain ⟨Dg, ng, cg, rfl⟩ : ∃ A n c, sg = .slice A n c := by obtain ⟨A, c, hv, _⟩ := hown.has.st.at; exact ⟨A, _, c, hv⟩
    have hbE := below_step (below_al (Below.refl w1.heap.size w1) (.cells #[.bool r, .int .i64 u, .slice Dw nw cw] 26)) hb
    have HOW2 := Lib.hid (HOW1.out.below hbE)
    have HW2 : Hid (PB7 26 w2 w1.heap.size r u (.slice Dw nw cw)) := Lib.hid ((hb.block _ (by simp)).trans (alloc_new_at' _ _ rfl))
    have HB2 := Lib.hid (below_step HB1.out hbE)
    have HOG2 := Lib.hid hown
    have BG : Hid (∀ j, SG j → w1.heap.size + 1 ≤ j ∧ j < w2.heap.size) := Lib.hid fun j hj => by have := OwL.lt hown.st j hj; (try simp at this); omega
    have z2 : Hid (w1.heap.size + 1 ≤ w2.heap.size) := Lib.hid (by have := hb.size; (try simp at this); omega)
    clear hown hb hbE HOW1
    obtain ⟨⟨wc0, wc1, wc2⟩, -⟩ := three_f HW2.out
    have zq1 : w1.heap.size < w2.heap.size := HW2.out.lt
    go_wp2_with fail
    refine (eqPth_any ⟨r, u, .slice Dg ng cg⟩ ⟨r, u, .slice Dw nw cw⟩ ⟨r, u, st⟩ _ (HOG2.out.below (below_al (Below.refl _ _) _)).has (HOW2.out.below (below_al (Below.refl _ _) _)).has).mono ?_
    rintro e w3 ⟨rfl, hb⟩
    have hbE := below_step (below_al (Below.refl w2.heap.size w2) (.cells #[.bool r, .int .i64 u, .slice Dg ng cg] 26)) hb
    have HOW3 := Lib.hid (HOW2.out.below hbE)
    have HW3 := Lib.hid (HW2.out.below hbE)
    have HOG3 := Lib.hid (HOG2.out.below hbE)
    have HG3 : Hid (PB7 26 w3 w2.heap.size r u (.slice Dg ng cg)) := Lib.hid ((hb.block _ (by simp)).trans (alloc_new_at' _ _ rfl))
    have HB3 := Lib.hid (below_step HB2.out hbE)
    have z3 : Hid (w2.heap.size + 1 ≤ w3.heap.size) := Lib.hid (by have := hb.size; (try simp at this); omega)
    clear hb hbE wc0 wc1 wc2 zq1 HOW2 HW2 HOG2
    obtain ⟨⟨gc0, gc1, gc2⟩, -⟩ := three_f HG3.out
    go_wp2_with fail
    refine (HMK.out _ (.slice Dg ng cg) SG _ HOG3.out).mono ?_
    rintro e w4 ⟨rfl, hown, ht⟩
    have HOG := Lib.hid hown
    have HOW4 := Lib.hid (HOW3.out.apart ht (fun j h1 h2 => by have := BW.out _ h1; have := BG.out _ h2; omega))
    have HW4 := Lib.hid (HW3.out.turns ht (fun hs => by have := BG.out _ hs; omega))
    have HG4 := Lib.hid (HG3.out.turns ht (fun hs => by have := BG.out _ hs; omega))
    have HB4 := Lib.hid (HB3.out.trans (ht.below (B := w.heap.size) HB3.out.size (fun j hj => by have := BG.out _ hj; have := HB1.out.size; omega)))
    have z4 : Hid (w3.heap.size ≤ w4.heap.size) := Lib.hid ht.size
    clear hown ht gc0 gc1 gc2 HOW3 HW3 HG3 HOG3
    obtain ⟨⟨gc0, gc1, gc2⟩, -⟩ := three_f HG4.out
    go_wp2_with fail
    refine (HHE.out (.slice Dg ng cg) _ HOG.out.has).mono ?_
    rintro e w5 ⟨rfl, hb⟩
    have HOW5 := Lib.hid (HOW4.out.below hb)
    have HW5 := Lib.hid (HW4.out.below hb)
    have HG5 := Lib.hid (HG4.out.below hb)
    have HOG5 := Lib.hid (HOG.out.below hb)
    have HB5 := Lib.hid (below_step HB4.out hb)
    clear hb gc0 gc1 gc2 HOW4 HW4 HG4 HOG
    go_wp2_with fail
    refine (C2.out _).mono ?_
    rintro e w6 ⟨⟨sz, SZ, rfl, hown⟩, hb⟩
    obtain ⟨Dz, nz, cz, rfl⟩ : ∃ A n c, sz = .slice A n c := by obtain ⟨A, c, hv, _⟩ := hown.has.st.at; exact ⟨A, _, c, hv⟩
    have HOW6 := Lib.hid (HOW5.out.below hb)
    have HW6 := Lib.hid (HW5.out.below hb)
    have HG6 := Lib.hid (HG5.out.below hb)
    have HOG6 := Lib.hid (HOG5.out.below hb)
    have HB6 := Lib.hid (below_step HB5.out hb)
    have HOZ6 := Lib.hid hown
    clear hown hb HOW5 HW5 HG5 HOG5
    obtain ⟨⟨wc0, wc1, wc2⟩, -⟩ := three_f HW6.out
    have zq1 : w1.heap.size < w6.heap.size := HW6.out.lt
    go_wp2_with fail
    refine (eqPth_any ⟨r, u, .slice Dz nz cz⟩ ⟨r, u, .slice Dw nw cw⟩ ⟨r, u, st⟩ _ (HOZ6.out.below (below_al (Below.refl _ _) _)).has (HOW6.out.below (below_al (Below.refl _ _) _)).has).mono ?_
    rintro e w7 ⟨rfl, hb⟩
    have hbE := below_step (below_al (Below.refl w6.heap.size w6) (.cells #[.bool r, .int .i64 u, .slice Dz nz cz] 26)) hb
    have HG7 := Lib.hid (HG6.out.below hbE)
    have HOG7 := Lib.hid (HOG6.out.below hbE)
    have HB7 := Lib.hid (below_step HB6.out hbE)
    clear hb hbE wc0 wc1 wc2 zq1 HOW6 HW6 HG6 HOG6 HOZ6
    obtain ⟨⟨gc0, gc1, gc2⟩, -⟩ := three_f HG7.out
    go_wp2_with fail
    refine (HHE.out (.slice Dg ng cg) _ HOG7.out.has).mono ?_
    rintro e w8 ⟨rfl, hb⟩
    have HB8 := Lib.hid (below_step HB7.out hb)
    clear hb gc0 gc1 gc2
    go_wp2
    go_ret
    exact ⟨rfl, HB8.out⟩

/-! ### THE ROW's STEP -/
set_option maxRecDepth 100000 in
theorem lifted (os : Os) (started : os.Started) (H : Type) (enc : TypeId × Value → H) :
    ReturnsInHanded {} Tryd.checked os 4 .any (fun w args => (Rows.fnExactParsePathSpec.pre enc Tryd.prog Tryd.f4 Rows.fnExactParsePathRow.domain false w args ∧ laidMetH Tryd.prog Rows.fnExactParsePathRow.laid w) ∧ sizedMet enc Tryd.prog Tryd.f4 (OpenSpec.ofChange Rows.fnExactParsePathSpec) false w args) (Rows.fnExactParsePathSpec.post enc Tryd.prog Tryd.f4 false true false false) := by
  refine returnsInHanded_of_change_and (C := Tryd.checked) (X := fun w _ => laidMetH Tryd.prog Rows.fnExactParsePathRow.laid w) (fun _ _ _ hh h => h.of_heap hh) own started (by kernel_rfl) Tryd.func4
    (ChangeSpec.witness_shaped (enc := enc) (C := Tryd.checked) (os := os) (X := fun w _ => laidMetH Tryd.prog Rows.fnExactParsePathRow.laid w) false (World.laidAll Tryd.prog os Rows.fnExactParsePathRow.laid) #[.string ByteArray.empty] 8 (World.laidAll_os _ _ _)
      (World.shaped_of_ZipB (by kernel_rfl) (by kernel_rfl)) (by kernel_rfl) (by kernel_rfl) (by kernel_rfl)
      (by rw [MakeChecks.laidMetH_plain _ _ _ (by kernel_rfl)]; exact laidMet_laidAll _ (by kernel_rfl) (by kernel_rfl))) ?_
  intro W base args ds gs before hval0 hW hcnd _ hLaid _
  have hval : ∀ (j : Nat) t v, Tryd.f4.params[j]? = some t → args[j]? = some v → Value.okWide Tryd.prog W .any base t v := hval0
  have hW' := hW
  obtain ⟨p, q, hA0, hV, rfl, hfz, hnd⟩ := hW
  have hA : DataW.TrodAll enc Tryd.prog W 0 (fun _ => true) true Tryd.f4.params.toList args.toList ds p := hA0
  rw [Tryd.params4] at hA hval
  obtain ⟨v0, vs0, d0, ds0, p0, q0, hargs, rfl, rfl, h0, r0⟩ := trodAll_cons hA
  obtain ⟨rfl, rfl, rfl⟩ := trodAll_nil r0
  obtain rfl : args = #[v0] := by cases args; simp_all
  obtain ⟨rfl, rfl⟩ := trodVars_none hV
  have k0 := h0
  have lt0 : ∀ x ∈ p0, x.block < W.heap.size := by obtain ⟨m, hm⟩ := k0; exact DataW.trod_lt m _ _ _ hm
  obtain ⟨x0, rfl, rfl, rfl, s0⟩ := open_string Tryd.underlying9 (hval 0 9 v0 rfl rfl) h0
  clear hA0 hval0
  refine (walk x0 W s0).mono fun e W' ⟨he, bel⟩ => ?_
  subst he
  exact ⟨_, rfl, _, _, _, [], _, [], hW', trodAll_mk1 (shut_bool Tryd.underlying4 _), (trodAll_cons_mk (Below.trod laidOut (by kernel_rfl) (of_decide_eq_true (by kernel_rfl)) k0 bel lt0) trodAll_mk0), rfl, bel.frame _, fun h => by cases h⟩

theorem over : Rows.fnExactParsePathRow.holds Tryd.pinned (OpenSpec.ofChange Rows.fnExactParsePathSpec) :=
  OpenClaim.holds_of_wide 4 Tryd.f4 rfl rfl rfl rfl rfl rfl rfl ⟨rfl, rfl, rfl, rfl, rfl⟩ rfl rfl rfl rfl rfl (by kernel_rfl) Tryd.func4 (by kernel_rfl)
    (of_decide_eq_true (by kernel_rfl)) (by unfold Func.isWrapper; first | (rw [if_pos (by decide +kernel)]; kernel_rfl) | (rw [if_neg (by decide +kernel)]; exact ⟨rfl, rfl⟩))
    (fun os started H enc _ => lifted os started H enc)

/-- no parameter wants a stand-in; the program's own looks are off -/
theorem plain (f : FuncId) (fn : Func) (hf : Tryd.pinned.checked.prog.funcNamed "loop.example/g03013/laws.FnExactParsePath" = some f) (hfn : Tryd.pinned.checked.prog.funcs[f]? = some fn) :
    false = Tryd.pinned.checked.prog.looks [] ∧ ∀ (j : Nat) t, fn.params[j]? = some t → Tryd.pinned.checked.prog.wantsStandIn t = false := by
  obtain rfl : f = 4 := Option.some.inj ((show Tryd.prog.funcNamed "loop.example/g03013/laws.FnExactParsePath" = some 4 by kernel_rfl).symm.trans hf) |>.symm
  obtain rfl : fn = Tryd.f4 := (Option.some.inj (Tryd.func4.symm.trans hfn)).symm
  refine ⟨by kernel_rfl, fun j t ht => ?_⟩
  rw [Tryd.params4] at ht
  have hm : t ∈ [9] := by simpa using Array.mem_of_getElem? ht
  have hall : ([9].all fun u => !Tryd.prog.wantsStandIn u) = true := by kernel_rfl
  exact (show Tryd.prog.wantsStandIn t = false by simpa using List.all_eq_true.1 hall t hm)
theorem proved : Rows.FnExactParsePathCardSaid :=
  Claim7.holds_tied_plain_at .later [] _ _ _ _ over (fun _ h => by cases h) (by kernel_rfl) (fun _ h => by cases h) fnExactParsePath_row_tie rfl ⟨rfl, rfl⟩ (by kernel_rfl) rfl plain (by kernel_rfl)
#print axioms proved
end Go.Proofs.YtdfapkceanicoaaDoor.fnExactParsePath
