/- For every list of bytes laws.FnPaths returns true: a drawn path that is written is read as the same path exactly if it is valid, which impl.IsPath and spec.IsPath tell alike, and stripped of its tests it stays valid with as many steps (codes of more than 4096 bytes the law itself lets pass); under the card's ties alone: the two tables of unicode/utf8 that the row lists hold what the program's text lays (no step of the proof reads them). -/
import Derived.Test.YtdfapkceanicoaaDoorDrawX
import Derived.Test.YtdfapkceanicoaaDoorPpR
import Derived.Test.YtdfapkceanicoaaDoorPthV
import Derived.Test.YtdfapkceanicoaaDoorPpL
import Derived.Test.YtdfapkceanicoaaDoorPthJ
import Derived.Test.YtdfapkceanicoaaDoorRows
import Derived.WalkKit
import Derived.ProofKit
import Derived.OpenShut
import Derived.ShutString
import Derived.ChangeOld
import Derived.Below
import Derived.Test.YtdfapkceanicoaaDoorCards
import Derived.Test.YtdfapkceanicoaaDoorTie
import Derived.PinnedBridge
import Derived.Lay
import Derived.LaidOnce
import Derived.SevenTiedAt
namespace Go.Proofs.YtdfapkceanicoaaDoor.fnPaths
open Go.ChangeShapes Go.WideShapes Go.ChangeAt Go.RowKit
open Go.ChangeMaps (open_string shut_string)
set_option linter.unusedVariables false

theorem own : ownKnob Tryd.prog.godebug = none := by kernel_rfl
theorem laidOut : laidOutB Tryd.prog = true := by kernel_rfl

def PB7 (T : TypeId) (w : World) (b : Nat) (r : Bool) (u : Int) (sv : Value) : Prop := w.heap[b]? = some (.cells #[.bool r, .int .i64 u, sv] T (0, 0))
theorem PB7.below {T : TypeId} {w w' : World} {b : Nat} {r : Bool} {u : Int} {sv : Value} (h : PB7 T w b r u sv) (hb : Below w.heap.size w w') : PB7 T w' b r u sv := (hb.block b (Array.getElem?_eq_some_iff.1 h).1).trans h
theorem PB7.lt {T : TypeId} {w : World} {b : Nat} {r : Bool} {u : Int} {sv : Value} (h : PB7 T w b r u sv) : b < w.heap.size := (Array.getElem?_eq_some_iff.1 h).1
theorem plP_ok {p : Pth} (h : PthOk p) : PthOk (plP p) := by
  obtain ⟨h1, h2, h3, h4, h5⟩ := h
  refine ⟨h1, by show (p.st.map plS).length ≤ 10; rw [List.length_map]; exact h2, h3, fun e => h4 ⟨e.1, e.2.1, by have := e.2.2; simpa [plP] using this⟩, fun i hi => ?_⟩
  have hi' : i < p.st.length := by simpa [plP] using hi
  have e : (plP p).st[i] = plS p.st[i] := by simp [plP]
  rw [e]
  exact ⟨(h5 i hi').1, by show (0 : Nat) ≤ 3; omega, fun k hk => absurd hk (Nat.not_lt_zero k)⟩
theorem plP_sz {p : Pth} (h : PthSz p) : PthSz (plP p) := by
  refine ⟨by show (p.st.map plS).length ≤ _; rw [List.length_map]; exact h.1, fun s hs => ?_⟩
  obtain ⟨y, hy, rfl⟩ := List.mem_map.1 hs
  exact ⟨(h.2 y hy).1, Nat.zero_le _, fun t ht => by cases ht⟩
theorem PoV.some' {B : Nat} {p : Pth} {e : Ending} {w' : World} (h : PoV B (some p) e w') : ∃ sv S, e = .returned (.tuple #[.agg #[.bool p.root, .int .i64 p.ups, sv], .bool true]) ∧ OwnS B w' sv p.st S := h
theorem parse_back (p : Pth) : ∃ q : Pth, (dB (PthOk p) = true → q = p) ∧ ∀ W, Calls Tryd.prog 7 #[.string (fmtA p)] W fun e w' => (∃ sv S, e = .returned (.tuple #[.agg #[.bool q.root, .int .i64 q.ups, sv], .bool (dB (PthOk p))]) ∧ OwnS W.heap.size w' sv q.st S) ∧ Below W.heap.size W w' := by
  by_cases h : PthOk p
  · refine ⟨p, fun _ => rfl, fun W => ?_⟩
    have hs : (fmtA p) = fmtP p := if_pos (dB_yes h)
    obtain ⟨T, h1, h2⟩ := back_path h (fmtP p).size
    have hsz := fmtP_size h
    have hbd := h1.bd
    have hl : (fmtP p).data.toList.length = (fmtP p).size := by simp
    have := iParPth_any (fmtP p) (by omega) T none h1 (by show T.length ≤ _; omega) (lex_texts h1 (by omega)) _ h2 W
    rw [show parPth none (lexT T none) (some (p, T.length)) = some p from if_pos ⟨rfl, rfl, dB_yes h⟩] at this
    rw [hs, dB_yes h]
    exact this
  · refine ⟨zeroPth, (fun e => by rw [dB_no h] at e; cases e), fun W => ?_⟩
    have hs : (fmtA p) = ⟨#[]⟩ := if_neg (by rw [dB_no h]; simp)
    have hL : Lx (⟨#[]⟩ : ByteArray).size (⟨#[]⟩ : ByteArray).data.toList [] none := .fin rfl
    have hP : Pthr [] none := .none rfl (.bad rfl (.no rfl))
    have := iParPth_any ⟨#[]⟩ (by decide) [] none hL (by decide) (fun x hx => by cases hx) none hP W
    rw [show parPth none (lexT [] none) none = none from if_neg (fun e => pthOk_zero (dB_true e.2.2))] at this
    rw [hs, dB_no h]
    refine this.mono ?_
    rintro e w' ⟨rfl, hb⟩
    exact ⟨⟨_, _, rfl, owL_nil _ _ _ _⟩, hb⟩

set_option maxRecDepth 100000 in
set_option maxHeartbeats 16000000 in
theorem walk (a0 : Option Addr) (len0 cap0 : Nat) (w : World) (w0 : Src w a0 len0) :
    Calls Tryd.prog 3 #[.slice a0 len0 cap0] w fun e w' => e = .returned (.bool true) ∧ Below w.heap.size w w' := by
  have hsrc := w0
  have HB0 := Lib.hid (Below.refl w.heap.size w)
  by_cases hbig : 4096 < len0
  · have hd : decide (4096 < len0) = true := by simpa using hbig
    go_enter Tryd.func3, Tryd.ntmps3
    go_wp2_with (go_at_call 5; refine (big_any _ _ _ _).mono ?_; rw [hd]; rintro e w' ⟨rfl, rfl⟩)
    go_ret
    exact ⟨rfl, HB0.out⟩
  have hd : decide (4096 < len0) = false := by simpa using hbig
  have HDR := Lib.hid (drawFP_any _ _ cap0 _ hsrc)
  have HBG := Lib.hid (big_any a0 len0 cap0 w)
  rw [hd] at HBG
  clear hsrc hd hbig
  go_enter Tryd.func3, Tryd.ntmps3
  go_wp2_with fail
  refine HBG.out.mono ?_
  rintro e w' ⟨rfl, rfl⟩
  go_wp2_with fail
  refine HDR.out.mono ?_
  rintro e w1 ⟨root, u, sv, st, S, rfl, hO, HSZ, hb⟩
  obtain ⟨As, ms, cs, hsv⟩ : ∃ A n c, sv = .slice A n c := by obtain ⟨A, c, hv, _⟩ := (OwnS.has hO).at; exact ⟨A, _, c, hv⟩
  have HMS : Hid (ms = st.length) := Lib.hid (by obtain ⟨A, c, hv, _⟩ := (OwnS.has hO).at; rw [hsv] at hv; injection hv)
  subst hsv
  have HB1 := Lib.hid hb
  have hb1 := below_al (Below.refl w1.heap.size w1) (.cells #[.bool root, .int .i64 u, .slice As ms cs] 26)
  have HB2 := Lib.hid (below_step HB1.out hb1)
  have HO2 := Lib.hid (OwnS.below hO hb1)
  have HP2 : Hid (PB7 26 (w1.alloc (.cells #[.bool root, .int .i64 u, .slice As ms cs] 26)) w1.heap.size root u (.slice As ms cs)) := Lib.hid (heap_alloc_new w1 _)
  have HFM := Lib.hid (fun W (hb : Below (w1.alloc (.cells #[.bool root, .int .i64 u, .slice As ms cs] 26)).heap.size (w1.alloc (.cells #[.bool root, .int .i64 u, .slice As ms cs] 26)) W) => iFmtP_any ⟨root, u, .slice As ms cs⟩ ⟨root, u, st⟩ W ⟨rfl, rfl, OwnS.has (OwnS.below HO2.out hb)⟩ (OwnS.hasC (OwnS.below HO2.out hb)) HSZ.out)
  obtain ⟨⟨qr, qu, qst⟩, HQP, HPR⟩ : ∃ q : Pth, Hid (dB (PthOk ⟨root, u, st⟩) = true → q = ⟨root, u, st⟩) ∧ Hid (∀ W, Calls Tryd.prog 7 #[.string (fmtA ⟨root, u, st⟩)] W fun e w' => (∃ sv S, e = .returned (.tuple #[.agg #[.bool q.root, .int .i64 q.ups, sv], .bool (dB (PthOk ⟨root, u, st⟩))]) ∧ OwnS W.heap.size w' sv q.st S) ∧ Below W.heap.size W w') := by
    obtain ⟨q, h1, h2⟩ := parse_back ⟨root, u, st⟩
    exact ⟨q, Lib.hid h1, Lib.hid h2⟩
  dsimp only at HPR
  have HOKP := Lib.hid (fun h : dB (PthOk ⟨root, u, st⟩) = true => plP_ok (dB_true h))
  have HII := Lib.hid (fun W (h : OwnS (w.heap.size + 1) W (.slice As ms cs) st S) => iIsPth_any ⟨root, u, .slice As ms cs⟩ ⟨root, u, st⟩ W ⟨rfl, rfl, OwnS.has h⟩ (OwnS.hasC h) HSZ.out)
  have HIS := Lib.hid (fun W (h : OwnS (w.heap.size + 1) W (.slice As ms cs) st S) => sIsPth_any ⟨root, u, .slice As ms cs⟩ ⟨root, u, st⟩ W ⟨rfl, rfl, OwnS.has h⟩ HSZ.out)
  generalize fmtA ⟨root, u, st⟩ = ft at HFM HPR
  generalize hok : dB (PthOk ⟨root, u, st⟩) = ok at HQP HPR HOKP HII HIS
  clear hok hO hb hb1 HDR HBG
  go_wp2_with fail
  refine (HFM.out _ (Below.refl _ _)).mono ?_
  rintro e w2 ⟨rfl, hb⟩
  have HB3 := Lib.hid (below_step HB2.out hb)
  have HP3 := Lib.hid (HP2.out.below hb)
  have HO3 := Lib.hid (OwnS.below HO2.out hb)
  clear hb HFM HP2 HO2
  go_wp2_with fail
  refine (HPR.out _).mono ?_
  rintro e w3 ⟨⟨qs, SQ, rfl, hq⟩, hb⟩
  obtain ⟨Aq, mq, cq, hqs⟩ : ∃ A n c, qs = .slice A n c := by obtain ⟨A, c, hv, _⟩ := (OwnS.has hq).at; exact ⟨A, _, c, hv⟩
  subst hqs
  have hbE := below_step hb (below_al (Below.refl w3.heap.size w3) (.cells #[.bool qr, .int .i64 qu, .slice Aq mq cq] 26))
  have HB4 := Lib.hid (below_step HB3.out hbE)
  have HP4 := Lib.hid (HP3.out.below hbE)
  have HO4 := Lib.hid (OwnS.below HO3.out hbE)
  have HOQ4 := Lib.hid (OwnS.below hq (below_al (Below.refl w3.heap.size w3) (.cells #[.bool qr, .int .i64 qu, .slice Aq mq cq] 26)))
  have HQ4 : Hid (PB7 26 (w3.alloc (.cells #[.bool qr, .int .i64 qu, .slice Aq mq cq] 26)) w3.heap.size qr qu (.slice Aq mq cq)) := Lib.hid (heap_alloc_new w3 _)
  have HP3w := Lib.hid (HP3.out.below hb)
  have hl3 : w1.heap.size < w3.heap.size := HP3w.out.lt
  obtain ⟨⟨a0, a1, a2⟩, -⟩ := three_f HP3w.out
  clear hb hbE hq HP3 HO3 HPR
  go_wp2_with fail
  refine (iPlain_any ⟨root, u, .slice As ms cs⟩ ⟨root, u, st⟩ _ ⟨rfl, rfl, OwnS.has HO4.out⟩ HSZ.out.1).mono ?_
  rintro e w4 ⟨⟨xr, xu, xs⟩, rfl, ⟨hx1, hx2, hx3⟩, hb⟩
  dsimp only at hx1 hx2 hx3
  subst xr
  subst xu
  obtain ⟨SX, hx4⟩ := rowT_plain hx3
  obtain ⟨Ax, mx, cx, hxs⟩ : ∃ A n c, xs = .slice A n c := by obtain ⟨A, c, hv, _⟩ := (OwnS.has hx4).at; exact ⟨A, _, c, hv⟩
  have HMX : Hid (mx = ms) := Lib.hid (by obtain ⟨A, c, hv, _⟩ := (OwnS.has hx4).at; rw [hxs] at hv; injection hv with _ h9 _; rw [h9, List.length_map, HMS.out])
  subst hxs
  have hbX := below_al (Below.refl w4.heap.size w4) (.cells #[.bool root, .int .i64 u, .slice Ax mx cx] 26)
  have hbE := below_step hb hbX
  have HB5 := Lib.hid (below_step HB4.out hbE)
  have HP5 := Lib.hid (HP4.out.below hbE)
  have HO5 := Lib.hid (OwnS.below HO4.out hbE)
  have HQ5 := Lib.hid (HQ4.out.below hbE)
  have HOQ5 := Lib.hid (OwnS.below HOQ4.out hbE)
  have HX5 : Hid (PB7 26 (w4.alloc (.cells #[.bool root, .int .i64 u, .slice Ax mx cx] 26)) w4.heap.size root u (.slice Ax mx cx)) := Lib.hid (heap_alloc_new w4 _)
  have HOX5 := Lib.hid (OwnS.below hx4 hbX)
  have HP4w := Lib.hid (HP4.out.below hb)
  have hl4 : w1.heap.size < w4.heap.size := HP4w.out.lt
  clear hb hbE hbX hx3 hx4 HP4 HO4 HQ4 HOQ4 a0 a1 a2 hl3
  obtain ⟨wx, hwx⟩ : ∃ wx, wx = (w4.alloc (.cells #[.bool root, .int .i64 u, .slice Ax mx cx] 26)) := ⟨_, rfl⟩
  rw [← hwx] at HB5 HP5 HO5 HQ5 HOQ5 HX5 HOX5
  have HK : Hid (∀ W, Below wx.heap.size wx W → (W.cell? ⟨w1.heap.size, 0, none⟩ = some (.bool root) ∧ W.cell? ⟨w1.heap.size, 1, none⟩ = some (.int .i64 u) ∧ W.cell? ⟨w1.heap.size, 2, none⟩ = some (.slice As ms cs)) ∧ Below wx.heap.size wx W) := Lib.hid fun W hb => ⟨(three_f (HP5.out.below hb)).1, hb⟩
  have HIW := Lib.hid (fun W (hb : Below wx.heap.size wx W) => HII.out W (OwnS.below HO5.out hb))
  have HSW := Lib.hid (fun W (hb : Below wx.heap.size wx W) => HIS.out W (OwnS.below HO5.out hb))
  obtain ⟨⟨a0, a1, a2⟩, -⟩ := three_f HP4w.out
  go_wp2
  rw [← hwx]
  clear a0 a1 a2 HP4w hl4 hwx
  obtain ⟨⟨a0, a1, a2⟩, -⟩ := HK.out _ (Below.refl _ _)
  go_region_held3 (fun W => (W.cell? ⟨w1.heap.size, 0, none⟩ = some (.bool root) ∧ W.cell? ⟨w1.heap.size, 1, none⟩ = some (.int .i64 u) ∧ W.cell? ⟨w1.heap.size, 2, none⟩ = some (.slice As ms cs)) ∧ Below wx.heap.size wx W) (first | exact HK.out _ (Below.refl _ _).drew | exact HK.out _ (below_step (by assumption : _ ∧ Below wx.heap.size wx _).2 hbm) | go_keep)
    (first
      | (go_at_call 10; refine (HIW.out _ (by assumption : _ ∧ Below wx.heap.size wx _).2).mono ?_; rintro e wa ⟨rfl, hbm⟩)
      | (go_at_call 11; refine (HSW.out _ (by assumption : _ ∧ Below wx.heap.size wx _).2).mono ?_; rintro e wb ⟨rfl, hbm⟩))
  have hb := (by assumption : _ ∧ Below wx.heap.size wx wb).2
  have HB6 := Lib.hid (below_step HB5.out hb)
  have HP6 := Lib.hid (HP5.out.below hb)
  have HQ6 := Lib.hid (HQ5.out.below hb)
  have HX6 := Lib.hid (HX5.out.below hb)
  have HO6 := Lib.hid (OwnS.below HO5.out hb)
  have HOQ6 := Lib.hid (OwnS.below HOQ5.out hb)
  have HOX6 := Lib.hid (OwnS.below HOX5.out hb)
  have HMM : Hid (((mx : Int) == (ms : Int)) = true) := Lib.hid (by rw [HMX.out]; simp)
  clear hb a0 a1 a2 HK HIW HSW HB5 HP5 HO5 HQ5 HOQ5 HX5 HOX5
  obtain ⟨⟨a0, a1, a2⟩, -⟩ := three_f HP6.out
  cases ok
  · go_wp2_with fail
    refine (HII.out _ HO6.out).mono ?_
    rintro e w7 ⟨rfl, hb⟩
    have HB7 := Lib.hid (below_step HB6.out hb)
    clear hb a0 a1 a2
    go_wp2
    go_ret
    exact ⟨rfl, HB7.out⟩
  · have hq9 := HQP.out (by first | exact rfl | trivial)
    cases hq9
    go_wp2_with fail
    refine (HII.out _ HO6.out).mono ?_
    rintro e w7 ⟨rfl, hb⟩
    have HB7 := Lib.hid (below_step HB6.out hb)
    have HP7 := Lib.hid (HP6.out.below hb)
    have HQ7 := Lib.hid (HQ6.out.below hb)
    have HX7 := Lib.hid (HX6.out.below hb)
    have HO7 := Lib.hid (OwnS.below HO6.out hb)
    have HOQ7 := Lib.hid (OwnS.below HOQ6.out hb)
    have HOX7 := Lib.hid (OwnS.below HOX6.out hb)
    clear hb a0 a1 a2
    obtain ⟨⟨a0, a1, a2⟩, -⟩ := three_f HP7.out
    obtain ⟨⟨b0, b1, b2⟩, -⟩ := three_f HQ7.out
    have HSM : Hid (Calls Tryd.prog 12 #[.agg #[.bool root, .int .i64 u, .slice As ms cs], .agg #[.bool root, .int .i64 u, .slice Aq mq cq]] w7 fun e w' => e = .returned (.bool true) ∧ Below w7.heap.size w7 w') := Lib.hid (by
      have h := iSame_any ⟨root, u, .slice As ms cs⟩ ⟨root, u, .slice Aq mq cq⟩ ⟨root, u, st⟩ ⟨root, u, st⟩ w7 ⟨rfl, rfl, OwnS.has HO7.out⟩ ⟨rfl, rfl, OwnS.has HOQ7.out⟩
      rw [dB_yes rfl] at h
      exact h)
    go_wp2_with fail
    refine HSM.out.mono ?_
    rintro e w8 ⟨rfl, hb⟩
    have HB8 := Lib.hid (below_step HB7.out hb)
    have HP8 := Lib.hid (HP7.out.below hb)
    have HX8 := Lib.hid (HX7.out.below hb)
    have HOX8 := Lib.hid (OwnS.below HOX7.out hb)
    clear hb a0 a1 a2 b0 b1 b2
    obtain ⟨⟨a0, a1, a2⟩, -⟩ := three_f HX8.out
    have HXX : Hid (Calls Tryd.prog 10 #[.agg #[.bool root, .int .i64 u, .slice Ax mx cx]] w8 fun e w' => e = .returned (.bool true) ∧ Below w8.heap.size w8 w') := Lib.hid (by
      have h := iIsPth_any ⟨root, u, .slice Ax mx cx⟩ (plP ⟨root, u, st⟩) w8 ⟨rfl, rfl, OwnS.has HOX8.out⟩ (OwnS.hasC HOX8.out) (plP_sz HSZ.out)
      rw [dB_yes (HOKP.out (by first | exact rfl | trivial))] at h
      exact h)
    go_wp2_with fail
    refine HXX.out.mono ?_
    rintro e w9 ⟨rfl, hb⟩
    have HB9 := Lib.hid (below_step HB8.out hb)
    have HP9 := Lib.hid (HP8.out.below hb)
    have HX9 := Lib.hid (HX8.out.below hb)
    clear hb a0 a1 a2
    obtain ⟨⟨a0, a1, a2⟩, -⟩ := three_f HP9.out
    obtain ⟨⟨b0, b1, b2⟩, -⟩ := three_f HX9.out
    have hmm := HMM.out
    have hmn : (mx == ms) = true := by have := HMX.out; simp [this]
    go_wp2
    go_ret
    exact ⟨rfl, HB9.out⟩

/-! ### THE ROW's STEP -/
set_option maxRecDepth 100000 in
theorem lifted (os : Os) (started : os.Started) (H : Type) (enc : TypeId × Value → H) :
    ReturnsInHanded {} Tryd.checked os 3 .any (fun w args => (Rows.fnPathsSpec.pre enc Tryd.prog Tryd.f3 Rows.fnPathsRow.domain false w args ∧ laidMetH Tryd.prog Rows.fnPathsRow.laid w) ∧ sizedMet enc Tryd.prog Tryd.f3 (OpenSpec.ofChange Rows.fnPathsSpec) false w args) (Rows.fnPathsSpec.post enc Tryd.prog Tryd.f3 false true false false) := by
  refine returnsInHanded_of_change_and (C := Tryd.checked) (X := fun w _ => laidMetH Tryd.prog Rows.fnPathsRow.laid w) (fun _ _ _ hh h => h.of_heap hh) own started (by kernel_rfl) Tryd.func3
    (ChangeSpec.witness_shaped (enc := enc) (C := Tryd.checked) (os := os) (X := fun w _ => laidMetH Tryd.prog Rows.fnPathsRow.laid w) false (World.laidAll Tryd.prog os Rows.fnPathsRow.laid) #[.slice none 0 0] 8 (World.laidAll_os _ _ _)
      (World.shaped_of_ZipB (by kernel_rfl) (by kernel_rfl)) (by kernel_rfl) (by kernel_rfl) (by kernel_rfl)
      (by rw [MakeChecks.laidMetH_plain _ _ _ (by kernel_rfl)]; exact laidMet_laidAll _ (by kernel_rfl) (by kernel_rfl))) ?_
  intro W base args ds gs before hval0 hW hcnd _ hLaid _
  have hval : ∀ (j : Nat) t v, Tryd.f3.params[j]? = some t → args[j]? = some v → Value.okWide Tryd.prog W .any base t v := hval0
  have hW' := hW
  obtain ⟨p, q, hA0, hV, rfl, hfz, hnd⟩ := hW
  have hA : DataW.TrodAll enc Tryd.prog W 0 (fun _ => true) true Tryd.f3.params.toList args.toList ds p := hA0
  rw [Tryd.params3] at hA hval
  obtain ⟨v0, vs0, d0, ds0, p0, q0, hargs, rfl, rfl, h0, r0⟩ := trodAll_cons hA
  obtain ⟨rfl, rfl, rfl⟩ := trodAll_nil r0
  obtain rfl : args = #[v0] := by cases args; simp_all
  obtain ⟨rfl, rfl⟩ := trodVars_none hV
  obtain ⟨a0, len0, cap0, rfl⟩ := okWide_slice Tryd.underlying22 (hval 0 22 v0 rfl rfl)
  have k0 := h0
  have lt0 : ∀ x ∈ p0, x.block < W.heap.size := by obtain ⟨m, hm⟩ := k0; exact DataW.trod_lt m _ _ _ hm
  have w0 : Src W a0 len0 := by
    obtain ⟨fuel, hf⟩ := h0
    rcases open_ints Tryd.underlying22 Tryd.underlying5 (by kernel_rfl) hf with ⟨hcs, _⟩ | ⟨x, l, c, zs, hcs, _, hl, hm, hz, _, hcell, hwz⟩
    · simp [Value.cells] at hcs
      obtain ⟨rfl, rfl, rfl⟩ := hcs
      exact src_of (.inl ⟨rfl, rfl, rfl, rfl⟩)
    · simp [Value.cells] at hcs
      obtain ⟨rfl, rfl, rfl⟩ := hcs
      exact src_of (.inr ⟨_, rfl, hl, hm, by simpa using hz, hcell, hwz⟩)
  clear hA0 hval0
  refine (walk a0 len0 cap0 W w0).mono fun e W' ⟨he, bel⟩ => ?_
  subst he
  exact ⟨_, rfl, _, _, _, [], _, [], hW', trodAll_mk1 (shut_bool Tryd.underlying4 _), (trodAll_cons_mk (Below.trod laidOut (by kernel_rfl) (of_decide_eq_true (by kernel_rfl)) k0 bel lt0) trodAll_mk0), rfl, bel.frame _, fun h => by cases h⟩

theorem over : Rows.fnPathsRow.holds Tryd.pinned (OpenSpec.ofChange Rows.fnPathsSpec) :=
  OpenClaim.holds_of_wide 3 Tryd.f3 rfl rfl rfl rfl rfl rfl rfl ⟨rfl, rfl, rfl, rfl, rfl⟩ rfl rfl rfl rfl rfl (by kernel_rfl) Tryd.func3 (by kernel_rfl)
    (of_decide_eq_true (by kernel_rfl)) (by unfold Func.isWrapper; first | (rw [if_pos (by decide +kernel)]; kernel_rfl) | (rw [if_neg (by decide +kernel)]; exact ⟨rfl, rfl⟩))
    (fun os started H enc _ => lifted os started H enc)

/-- no parameter wants a stand-in; the program's own looks are off -/
theorem plain (f : FuncId) (fn : Func) (hf : Tryd.pinned.checked.prog.funcNamed "loop.example/g03013/laws.FnPaths" = some f) (hfn : Tryd.pinned.checked.prog.funcs[f]? = some fn) :
    false = Tryd.pinned.checked.prog.looks [] ∧ ∀ (j : Nat) t, fn.params[j]? = some t → Tryd.pinned.checked.prog.wantsStandIn t = false := by
  obtain rfl : f = 3 := Option.some.inj ((show Tryd.prog.funcNamed "loop.example/g03013/laws.FnPaths" = some 3 by kernel_rfl).symm.trans hf) |>.symm
  obtain rfl : fn = Tryd.f3 := (Option.some.inj (Tryd.func3.symm.trans hfn)).symm
  refine ⟨by kernel_rfl, fun j t ht => ?_⟩
  rw [Tryd.params3] at ht
  have hm : t ∈ [22] := by simpa using Array.mem_of_getElem? ht
  have hall : ([22].all fun u => !Tryd.prog.wantsStandIn u) = true := by kernel_rfl
  exact (show Tryd.prog.wantsStandIn t = false by simpa using List.all_eq_true.1 hall t hm)
theorem proved : Rows.FnPathsCardSaid :=
  Claim7.holds_tied_plain_at .later [] _ _ _ _ over (fun _ h => by cases h) (by kernel_rfl) (fun _ h => by cases h) fnPaths_row_tie rfl ⟨rfl, rfl⟩ (by kernel_rfl) rfl plain (by kernel_rfl)
#print axioms proved
end Go.Proofs.YtdfapkceanicoaaDoor.fnPaths
