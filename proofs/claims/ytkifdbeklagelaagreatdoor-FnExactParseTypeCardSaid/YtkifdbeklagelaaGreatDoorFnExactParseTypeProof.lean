/- For every text laws.FnExactParseType returns true: impl.ParseType answers as spec.ParseType does, in both results and every field, and shares no memory between calls (texts of more than 1048576 bytes the law itself lets pass); under the card's ties alone: the two tables of unicode/utf8 and the table of words that the row lists hold what the program's text lays. -/
import Derived.Test.YtkifdbeklagelaaGreatDoorTyY
import Derived.Test.YtkifdbeklagelaaGreatDoorTyO
import Derived.Test.YtkifdbeklagelaaGreatDoorRows
import Derived.WalkKit
import Derived.ProofKit
import Derived.OpenShut
import Derived.ShutString
import Derived.ChangeOld
import Derived.Below
import Derived.Test.YtkifdbeklagelaaGreatDoorCards
import Derived.Test.YtkifdbeklagelaaGreatDoorTie
import Derived.PinnedBridge
import Derived.Lay
import Derived.LaidOnce
import Derived.SevenTiedAt
import Derived.Test.YtkifdbeklagelaaGreatDoorTyW
import Derived.ChangeVars
import Derived.LaidMore
namespace Go.Proofs.YtkifdbeklagelaaGreatDoor.fnExactParseType
open Go.ChangeShapes Go.WideShapes Go.ChangeAt Go.RowKit
open Go.ChangeMaps (open_string shut_string)
set_option linter.unusedVariables false

theorem own : ownKnob Tryz.prog.godebug = none := by kernel_rfl
theorem laidOut : laidOutB Tryz.prog = true := by kernel_rfl

/-- a variable of the call's own that holds a type: kept by what leaves its block alone -/
def LBox (T : TypeId) (w : World) (b : Nat) (k : Int) (vr vn : Value) (pt ph : ByteArray) : Prop := w.heap[b]? = some (.cells #[.int .i64 k, vr, vn, .string pt, .string ph] T (0, 0))
theorem LBox.below {T : TypeId} {w w' : World} {b : Nat} {k : Int} {vr vn : Value} {pt ph : ByteArray} (h : LBox T w b k vr vn pt ph) (hb : Below w.heap.size w w') : LBox T w' b k vr vn pt ph := (hb.block b (Array.getElem?_eq_some_iff.1 h).1).trans h
theorem LBox.turns {T : TypeId} {S : Nat → Prop} {w w' : World} {b : Nat} {k : Int} {vr vn : Value} {pt ph : ByteArray} (h : LBox T w b k vr vn pt ph) (ht : TurnsAt S w w') (hn : ¬ S b) : LBox T w' b k vr vn pt ph := (ht.block b (Array.getElem?_eq_some_iff.1 h).1 hn).trans h
theorem LBox.lt {T : TypeId} {w : World} {b : Nat} {k : Int} {vr vn : Value} {pt ph : ByteArray} (h : LBox T w b k vr vn pt ph) : b < w.heap.size := (Array.getElem?_eq_some_iff.1 h).1
theorem rsL_len {T : List Tok} {res : Option (List Rg × Nat)} (hr : Run T 0 [] res) : (rsL res).length ≤ T.length := by
  match res, hr with
  | none, _ => exact Nat.zero_le _
  | some (R, k), hr => exact Nat.le_trans (hr.bd (Nat.zero_le _) R k rfl).2.2 (hr.bd (Nat.zero_le _) R k rfl).1
theorem tyT_len {T : List Tok} {res : Option (List Rg × Nat)} (hr : Run (T.drop 1) 0 [] res) (hl : T.length ≤ 1048576) : (tyT T res).1.rg.length ≤ 2097152 ∧ (tyT T res).1.nm.length ≤ 1048576 := by
  have h1 := rsL_len hr
  have h2 := namesT_len (T.drop 1)
  rw [List.length_drop] at h1 h2
  unfold tyT
  split
  · exact ⟨by simp, by simp⟩
  · unfold bodyT
    repeat' split
    · exact ⟨by show (rsL res).length ≤ _; omega, by simp⟩
    · exact ⟨by show (rsL res).length ≤ _; omega, by simp⟩
    · exact ⟨by simp, by show (namesT (T.drop 1)).length ≤ _; omega⟩
    · exact ⟨by simp, by simp⟩
    · exact ⟨by simp, by simp⟩
theorem parTy_len {e : Option Nat} {T : List Tok} {res : Option (List Rg × Nat)} (hr : Run (T.drop 1) 0 [] res) (hl : T.length ≤ 1048576) : ∀ t, parTy e T res = some t → t.rg.length ≤ 2097152 ∧ t.nm.length ≤ 1048576 := fun t h => by
  cases e with
  | some p => cases h
  | none =>
    unfold parTy at h
    simp only at h
    split at h
    · cases h; exact tyT_len hr hl
    · cases h

theorem gVar : Tryz.prog.globalNamed "loop.example/g03013/impl.typeWords" = some 0 := by kernel_rfl
theorem gType : (Tryz.prog.globals[0]?).map (·.type) = some 55 ∧ Tryz.prog.underlying 55 = some (.array 7 9) := ⟨by kernel_rfl, by kernel_rfl⟩
theorem var?_below {P : Program} {W W' : World} {n : String} {g : Nat} {cs : Array Value} (hg : P.globalNamed n = some g) (h : W.var? P n = some cs) (hb : Below W.heap.size W W') : W'.var? P n = some cs := by
  simp only [World.var?, hg, Option.bind_some] at h ⊢
  have hlt : g < W.heap.size := by
    rcases Nat.lt_or_ge g W.heap.size with h' | h'
    · exact h'
    · simp [Array.getElem?_eq_none h'] at h
  rw [hb.block g hlt]; exact h

set_option maxRecDepth 100000 in
set_option maxHeartbeats 16000000 in
theorem walk (x0 : ByteArray) (w : World) (s0 : x0.size ≤ maxLen) (hT : ∀ i s, i < 7 → typeWs[i]? = some s → w.cell? ⟨0, i, none⟩ = some (.string ⟨s.toArray⟩)) :
    Calls Tryz.prog 4 #[.string x0] w fun e w' => e = .returned (.bool true) ∧ Below w.heap.size w w' := by
  by_cases hbig : 1048576 < x0.size
  · go_enter Tryz.func4, Tryz.ntmps4
    go_wp2
    go_ret
    exact ⟨rfl, Below.refl _ _⟩
  have hs : x0.size ≤ 1048576 := by omega
  obtain ⟨T, e, hL⟩ := Lx.exists x0.size x0.data.toList
  have hl : (lexT T e).length ≤ 1048576 := by
    have h0 := hL.bd.1
    have h1 : x0.data.toList.length = x0.size := by simp
    cases e with
    | some p => simp [lexT]
    | none => show T.length ≤ _; omega
  have ht : ∀ x ∈ lexT T e, x.t.size ≤ 1048576 := lex_texts hL hs
  obtain ⟨res, hr⟩ := Run.exists ((lexT T e).drop 1) ((lexT T e).drop 1).length 0 [] (by omega)
  have hLN := parTy_len (e := e) hr hl
  have D1 := sParTy_any x0 hs T e hL hl ht res hr
  have D2 : ∀ W, Below w.heap.size w W → _ := fun W (hb : Below w.heap.size w W) => iParTy_any x0 hs T e hL hl ht res hr W (fun i s hi hs => (hb.cell (lt_of_cell (hT i s hi hs))).trans (hT i s hi hs))
  clear hL hr ht hT
  generalize parTy e (lexT T e) res = o at D1 D2 hLN
  clear hl
  obtain ⟨R, b, HLEN, C1, C2⟩ : ∃ (R : Ty) (b : Bool), Hid (R.rg.length ≤ 2097152 ∧ R.nm.length ≤ 1048576) ∧
      Hid (∀ W, Calls Tryz.prog 11 #[.string x0] W fun e w' => (∃ v' : TyV, e = .returned (.tuple #[v'.val, .bool b]) ∧ OwnTy W.heap.size w' v' R) ∧ Below W.heap.size W w') ∧
      Hid (∀ W, Below w.heap.size w W → Calls Tryz.prog 12 #[.string x0] W fun e w' => (∃ v' : TyV, e = .returned (.tuple #[v'.val, .bool b]) ∧ OwnTy W.heap.size w' v' R) ∧ Below W.heap.size W w') := by
    cases o with
    | none => exact ⟨zeroTy, false, Lib.hid ⟨by simp [zeroTy], by simp [zeroTy]⟩, Lib.hid D1, Lib.hid D2⟩
    | some t => exact ⟨t, true, Lib.hid (hLN t rfl), Lib.hid D1, Lib.hid D2⟩
  clear D1 D2 hLN
  have HB0 := Lib.hid (Below.refl w.heap.size w)
  obtain ⟨mq, hmq⟩ : ∃ mq, mq = mTyQ R := ⟨_, rfl⟩
  have HMQ := Lib.hid hmq
  have hmq0 : ¬ ((mq : Int) < 0) := by omega
  clear hmq
  go_enter Tryz.func4, Tryz.ntmps4
  cases b
  all_goals
    skip
    go_wp2_with fail
    refine (C1.out _ ).mono ?_
    rintro e w1 ⟨⟨vw, rfl, hown⟩, hb⟩
    obtain ⟨Dvw, nvw, cvw, g1⟩ : ∃ A n c, vw.vr = .slice A n c := by obtain ⟨A, c, hv, _⟩ := RowR.hasG hown.rg; exact ⟨A, _, c, hv⟩
    obtain ⟨Fvw, mvw, dvw, g2⟩ : ∃ A n c, vw.vn = .slice A n c := by obtain ⟨A, c, hv, _⟩ := Row.has hown.nm; exact ⟨A, _, c, hv⟩
    obtain ⟨kvw, rvw, svw, pvw, qvw⟩ := vw
    dsimp only at g1 g2
    subst g1 g2
    have hbE := hb
    have HB1 := Lib.hid (below_step HB0.out hbE)
    have z1 : Hid (w.heap.size + 0 ≤ w1.heap.size) := Lib.hid (by have := hb.size; (try simp at this); omega)
    have HOVW1 := Lib.hid hown
    have BOVW : Hid (∀ j, TyV.own ⟨kvw, .slice Dvw nvw cvw, .slice Fvw mvw dvw, pvw, qvw⟩ j → w.heap.size ≤ j ∧ j < w1.heap.size) := Lib.hid fun j hj => by have := hown.lt hj; (try simp at this); omega
    clear hown hb hbE
    skip
    go_wp2_with fail
    refine (C2.out _ (below_al HB1.out _)).mono ?_
    rintro e w2 ⟨⟨vg, rfl, hown⟩, hb⟩
    obtain ⟨Dvg, nvg, cvg, g1⟩ : ∃ A n c, vg.vr = .slice A n c := by obtain ⟨A, c, hv, _⟩ := RowR.hasG hown.rg; exact ⟨A, _, c, hv⟩
    obtain ⟨Fvg, mvg, dvg, g2⟩ : ∃ A n c, vg.vn = .slice A n c := by obtain ⟨A, c, hv, _⟩ := Row.has hown.nm; exact ⟨A, _, c, hv⟩
    obtain ⟨kvg, rvg, svg, pvg, qvg⟩ := vg
    dsimp only at g1 g2
    subst g1 g2
    have hbE := below_step (below_al (Below.refl _ _) (.cells #[.int .i64 kvw, .slice Dvw nvw cvw, .slice Fvw mvw dvw, .string pvw, .string qvw] 30)) hb
    have HOVW2 := Lib.hid (HOVW1.out.below hbE)
    clear HOVW1
    have HW2 : Hid (LBox 30 w2 w1.heap.size kvw (.slice Dvw nvw cvw) (.slice Fvw mvw dvw) pvw qvw) := Lib.hid ((hb.block _ (by simp)).trans (heap_alloc_new' _ _ rfl))
    have HB2 := Lib.hid (below_step HB1.out hbE)
    have z2 : Hid (w1.heap.size + 1 ≤ w2.heap.size) := Lib.hid (by have := hb.size; (try simp at this); omega)
    have HOVG2 := Lib.hid hown
    have BOVG : Hid (∀ j, TyV.own ⟨kvg, .slice Dvg nvg cvg, .slice Fvg mvg dvg, pvg, qvg⟩ j → w1.heap.size + 1 ≤ j ∧ j < w2.heap.size) := Lib.hid fun j hj => by have := hown.lt hj; (try simp at this); omega
    clear hown hb hbE
    skip
    obtain ⟨⟨wc0, wc1, wc2, wc3, wc4⟩, -⟩ := five HW2.out
    have zq1 : w1.heap.size < w2.heap.size := HW2.out.lt
    go_wp2_with fail
    refine (eqTy_any ⟨kvg, .slice Dvg nvg cvg, .slice Fvg mvg dvg, pvg, qvg⟩ ⟨kvw, .slice Dvw nvw cvw, .slice Fvw mvw dvw, pvw, qvw⟩ R _ (HOVG2.out.below (below_al (Below.refl _ _) _)).has (HOVW2.out.below (below_al (Below.refl _ _) _)).has).mono ?_
    rintro e w3 ⟨rfl, hb⟩
    have hbE := below_step (below_al (Below.refl _ _) (.cells #[.int .i64 kvg, .slice Dvg nvg cvg, .slice Fvg mvg dvg, .string pvg, .string qvg] 30)) hb
    have HOVW3 := Lib.hid (HOVW2.out.below hbE)
    clear HOVW2
    have HW3 := Lib.hid (HW2.out.below hbE)
    clear HW2
    have HOVG3 := Lib.hid (HOVG2.out.below hbE)
    clear HOVG2
    have HG3 : Hid (LBox 30 w3 w2.heap.size kvg (.slice Dvg nvg cvg) (.slice Fvg mvg dvg) pvg qvg) := Lib.hid ((hb.block _ (by simp)).trans (heap_alloc_new' _ _ rfl))
    have HB3 := Lib.hid (below_step HB2.out hbE)
    have z3 : Hid (w2.heap.size + 1 ≤ w3.heap.size) := Lib.hid (by have := hb.size; (try simp at this); omega)
    clear hb hbE
    clear wc0 wc1 wc2 wc3 wc4 zq1
    obtain ⟨⟨gc0, gc1, gc2, gc3, gc4⟩, -⟩ := five HG3.out
    go_wp2_with fail
    refine (markTy_any _ ⟨kvg, .slice Dvg nvg cvg, .slice Fvg mvg dvg, pvg, qvg⟩ R _ HOVG3.out HLEN.out.1 HLEN.out.2).mono ?_
    rw [← HMQ.out]
    rintro e w4 ⟨rfl, hown, ht⟩
    have HOG := Lib.hid hown
    have HOVW4 := Lib.hid (HOVW3.out.apart ht (fun j h1 h2 => by have := BOVW.out _ h1; have := BOVG.out _ h2; have := z1.out; have := z2.out; have := z3.out; omega))
    clear HOVW3
    have HW4 := Lib.hid (HW3.out.turns ht (fun hs => by have := BOVG.out _ hs; have := z1.out; have := z2.out; have := z3.out; omega))
    clear HW3
    clear HOVG3
    have HG4 := Lib.hid (HG3.out.turns ht (fun hs => by have := BOVG.out _ hs; have := z1.out; have := z2.out; have := z3.out; omega))
    clear HG3
    have HB4 := Lib.hid (HB3.out.trans (ht.below (B := w.heap.size) HB3.out.size (fun j hj => by have := BOVG.out _ hj; have := z1.out; have := z2.out; have := z3.out; omega)))
    have z4 : Hid (w3.heap.size + 0 ≤ w4.heap.size) := Lib.hid (by have := ht.size; omega)
    clear hown ht
    clear gc0 gc1 gc2 gc3 gc4
    obtain ⟨⟨gc0, gc1, gc2, gc3, gc4⟩, -⟩ := five HG4.out
    go_wp2_with fail
    refine (heldTy_any ⟨kvg, .slice Dvg nvg cvg, .slice Fvg mvg dvg, pvg, qvg⟩ R _ HOG.out.has HLEN.out.1 HLEN.out.2).mono ?_
    rw [← HMQ.out]
    rintro e w5 ⟨rfl, hb⟩
    have hbE := hb
    have HOVW5 := Lib.hid (HOVW4.out.below hbE)
    clear HOVW4
    have HW5 := Lib.hid (HW4.out.below hbE)
    clear HW4
    have HG5 := Lib.hid (HG4.out.below hbE)
    clear HG4
    have HOG5 := Lib.hid (HOG.out.below hbE)
    clear HOG
    have HB5 := Lib.hid (below_step HB4.out hbE)
    have z5 : Hid (w4.heap.size + 0 ≤ w5.heap.size) := Lib.hid (by have := hb.size; (try simp at this); omega)
    clear hb hbE
    clear gc0 gc1 gc2 gc3 gc4
    go_wp2_with fail
    refine (C2.out _ HB5.out).mono ?_
    rintro e w6 ⟨⟨vz, rfl, hown⟩, hb⟩
    obtain ⟨Dvz, nvz, cvz, g1⟩ : ∃ A n c, vz.vr = .slice A n c := by obtain ⟨A, c, hv, _⟩ := RowR.hasG hown.rg; exact ⟨A, _, c, hv⟩
    obtain ⟨Fvz, mvz, dvz, g2⟩ : ∃ A n c, vz.vn = .slice A n c := by obtain ⟨A, c, hv, _⟩ := Row.has hown.nm; exact ⟨A, _, c, hv⟩
    obtain ⟨kvz, rvz, svz, pvz, qvz⟩ := vz
    dsimp only at g1 g2
    subst g1 g2
    have hbE := hb
    have HOVW6 := Lib.hid (HOVW5.out.below hbE)
    clear HOVW5
    have HW6 := Lib.hid (HW5.out.below hbE)
    clear HW5
    have HG6 := Lib.hid (HG5.out.below hbE)
    clear HG5
    have HOG6 := Lib.hid (HOG5.out.below hbE)
    clear HOG5
    have HB6 := Lib.hid (below_step HB5.out hbE)
    have z6 : Hid (w5.heap.size + 0 ≤ w6.heap.size) := Lib.hid (by have := hb.size; (try simp at this); omega)
    have HOVZ6 := Lib.hid hown
    have BOVZ : Hid (∀ j, TyV.own ⟨kvz, .slice Dvz nvz cvz, .slice Fvz mvz dvz, pvz, qvz⟩ j → w5.heap.size ≤ j ∧ j < w6.heap.size) := Lib.hid fun j hj => by have := hown.lt hj; (try simp at this); omega
    clear hown hb hbE
    skip
    obtain ⟨⟨wc0, wc1, wc2, wc3, wc4⟩, -⟩ := five HW6.out
    have zq1 : w1.heap.size < w6.heap.size := HW6.out.lt
    go_wp2_with fail
    refine (eqTy_any ⟨kvz, .slice Dvz nvz cvz, .slice Fvz mvz dvz, pvz, qvz⟩ ⟨kvw, .slice Dvw nvw cvw, .slice Fvw mvw dvw, pvw, qvw⟩ R _ (HOVZ6.out.below (below_al (Below.refl _ _) _)).has (HOVW6.out.below (below_al (Below.refl _ _) _)).has).mono ?_
    rintro e w7 ⟨rfl, hb⟩
    have hbE := below_step (below_al (Below.refl _ _) (.cells #[.int .i64 kvz, .slice Dvz nvz cvz, .slice Fvz mvz dvz, .string pvz, .string qvz] 30)) hb
    clear HOVW6
    clear HW6
    have HG7 := Lib.hid (HG6.out.below hbE)
    clear HG6
    have HOG7 := Lib.hid (HOG6.out.below hbE)
    clear HOG6
    clear HOVZ6
    have HB7 := Lib.hid (below_step HB6.out hbE)
    have z7 : Hid (w6.heap.size + 1 ≤ w7.heap.size) := Lib.hid (by have := hb.size; (try simp at this); omega)
    clear hb hbE
    clear wc0 wc1 wc2 wc3 wc4 zq1
    obtain ⟨⟨gc0, gc1, gc2, gc3, gc4⟩, -⟩ := five HG7.out
    go_wp2_with fail
    refine (heldTy_any ⟨kvg, .slice Dvg nvg cvg, .slice Fvg mvg dvg, pvg, qvg⟩ R _ HOG7.out.has HLEN.out.1 HLEN.out.2).mono ?_
    rw [← HMQ.out]
    rintro e w8 ⟨rfl, hb⟩
    have hbE := hb
    clear HG7
    clear HOG7
    have HB8 := Lib.hid (below_step HB7.out hbE)
    have z8 : Hid (w7.heap.size + 0 ≤ w8.heap.size) := Lib.hid (by have := hb.size; (try simp at this); omega)
    clear hb hbE
    clear gc0 gc1 gc2 gc3 gc4
    go_wp2
    go_ret
    exact ⟨rfl, HB8.out⟩

/-! ### THE ROW's STEP -/
set_option maxRecDepth 100000 in
theorem lifted (os : Os) (started : os.Started) (H : Type) (enc : TypeId × Value → H) :
    ReturnsInHanded {} Tryz.checked os 4 .any (fun w args => (Rows.fnExactParseTypeSpec.pre enc Tryz.prog Tryz.f4 Rows.fnExactParseTypeRow.domain false w args ∧ laidMetH Tryz.prog Rows.fnExactParseTypeRow.laid w) ∧ sizedMet enc Tryz.prog Tryz.f4 (OpenSpec.ofChange Rows.fnExactParseTypeSpec) false w args) (Rows.fnExactParseTypeSpec.post enc Tryz.prog Tryz.f4 false true false false) := by
  refine returnsInHanded_of_change_and (C := Tryz.checked) (X := fun w _ => laidMetH Tryz.prog Rows.fnExactParseTypeRow.laid w) (fun _ _ _ hh h => h.of_heap hh) own started (by kernel_rfl) Tryz.func4
    (ChangeSpec.witness_shaped (enc := enc) (C := Tryz.checked) (os := os) (X := fun w _ => laidMetH Tryz.prog Rows.fnExactParseTypeRow.laid w) false (World.laidAll Tryz.prog os Rows.fnExactParseTypeRow.laid) #[.string ByteArray.empty] 8 (World.laidAll_os _ _ _)
      (World.shaped_of_ZipB (by kernel_rfl) (by kernel_rfl)) (by kernel_rfl) (by kernel_rfl) (by kernel_rfl)
      (by rw [MakeChecks.laidMetH_plain _ _ _ (by kernel_rfl)]; exact laidMet_laidAll _ (by kernel_rfl) (by kernel_rfl))) ?_
  intro W base args ds gs before hval0 hW hcnd _ hLaid _
  have hval : ∀ (j : Nat) t v, Tryz.f4.params[j]? = some t → args[j]? = some v → Value.okWide Tryz.prog W .any base t v := hval0
  have hW' := hW
  obtain ⟨p, q, hA0, hV, rfl, hfz, hnd⟩ := hW
  have hA : DataW.TrodAll enc Tryz.prog W 0 (fun _ => true) true Tryz.f4.params.toList args.toList ds p := hA0
  rw [Tryz.params4] at hA hval
  obtain ⟨v0, vs0, d0, ds0, p0, q0, hargs, rfl, rfl, h0, r0⟩ := trodAll_cons hA
  obtain ⟨rfl, rfl, rfl⟩ := trodAll_nil r0
  obtain rfl : args = #[v0] := by cases args; simp_all
  have hV' : DataW.TrodVars enc Tryz.prog W (fun _ => true) ["loop.example/g03013/impl.typeWords"] gs q := hV
  obtain ⟨gg, tt, cs, fuel, dg, pg, rfl, hg, htt, hvar, hd, rfl⟩ := trodVars_one hV'
  have hgg := Option.some.inj (gVar.symm.trans hg)
  subst hgg
  have hTab : ∀ i s, i < 7 → typeWs[i]? = some s → W.cell? ⟨0, i, none⟩ = some (.string ⟨s.toArray⟩) := by
    obtain ⟨g2, g3⟩ := gType
    rw [MakeChecks.laidMetH_plain _ _ _ (by kernel_rfl)] at hLaid
    exact fun i s => strTab (ss := typeWs) (Go.Lib.laidMet.reads hLaid (by simp [Rows.fnExactParseTypeRow]; first | rfl | exact .inl rfl | exact .inr rfl | exact .inr (.inl rfl))) gVar g2 g3 Tryz.underlying9 (by kernel_rfl) i s
  have hltg : ∀ x ∈ pg, x.block < W.heap.size := DataW.trod_lt fuel _ _ _ hd
  have hTrod : DataW.Trod enc Tryz.prog W 0 (fun _ => true) true tt (.agg cs) dg pg := ⟨fuel, hd⟩
  have k0 := h0
  have lt0 : ∀ x ∈ p0, x.block < W.heap.size := by obtain ⟨m, hm⟩ := k0; exact DataW.trod_lt m _ _ _ hm
  obtain ⟨x0, rfl, rfl, rfl, s0⟩ := open_string Tryz.underlying9 (hval 0 9 v0 rfl rfl) h0
  clear hA0 hval0
  refine (walk x0 W s0 hTab).mono fun e W' ⟨he, bel⟩ => ?_
  subst he
  obtain ⟨g2, g3⟩ := gType
  obtain rfl := Option.some.inj (g2.symm.trans htt)
  obtain ⟨fuel2, hd2⟩ := Below.trod laidOut (by kernel_rfl) (of_decide_eq_true (by kernel_rfl)) hTrod bel hltg
  exact ⟨_, rfl, _, _, _, [], _, _, hW', trodAll_mk1 (shut_bool Tryz.underlying4 _), (trodAll_cons_mk (Below.trod laidOut (by kernel_rfl) (of_decide_eq_true (by kernel_rfl)) k0 bel lt0) trodAll_mk0), trodVars_mk1 hg htt (var?_below hg hvar bel) hd2, bel.frame _, fun h => by cases h⟩

theorem over : Rows.fnExactParseTypeRow.holds Tryz.pinned (OpenSpec.ofChange Rows.fnExactParseTypeSpec) :=
  OpenClaim.holds_of_wide 4 Tryz.f4 rfl rfl rfl rfl rfl rfl rfl ⟨rfl, rfl, rfl, rfl, rfl⟩ rfl rfl rfl rfl rfl (by kernel_rfl) Tryz.func4 (by kernel_rfl)
    (of_decide_eq_true (by kernel_rfl)) (by unfold Func.isWrapper; first | (rw [if_pos (by decide +kernel)]; kernel_rfl) | (rw [if_neg (by decide +kernel)]; exact ⟨rfl, rfl⟩))
    (fun os started H enc _ => lifted os started H enc)

/-- no parameter wants a stand-in; the program's own looks are off -/
theorem plain (f : FuncId) (fn : Func) (hf : Tryz.pinned.checked.prog.funcNamed "loop.example/g03013/laws.FnExactParseType" = some f) (hfn : Tryz.pinned.checked.prog.funcs[f]? = some fn) :
    true = Tryz.pinned.checked.prog.looks [] ∧ ∀ (j : Nat) t, fn.params[j]? = some t → Tryz.pinned.checked.prog.wantsStandIn t = false := by
  obtain rfl : f = 4 := Option.some.inj ((show Tryz.prog.funcNamed "loop.example/g03013/laws.FnExactParseType" = some 4 by kernel_rfl).symm.trans hf) |>.symm
  obtain rfl : fn = Tryz.f4 := (Option.some.inj (Tryz.func4.symm.trans hfn)).symm
  refine ⟨by kernel_rfl, fun j t ht => ?_⟩
  rw [Tryz.params4] at ht
  have hm : t ∈ [9] := by simpa using Array.mem_of_getElem? ht
  have hall : ([9].all fun u => !Tryz.prog.wantsStandIn u) = true := by kernel_rfl
  exact (show Tryz.prog.wantsStandIn t = false by simpa using List.all_eq_true.1 hall t hm)
theorem proved : Rows.FnExactParseTypeCardSaid :=
  Claim7.holds_tied_plain_at .later [] _ _ _ _ over (fun _ h => by cases h) (by kernel_rfl) (fun _ h => by cases h) fnExactParseType_row_tie rfl ⟨rfl, rfl⟩ (by kernel_rfl) rfl plain (by kernel_rfl)
#print axioms proved
end Go.Proofs.YtkifdbeklagelaaGreatDoor.fnExactParseType
