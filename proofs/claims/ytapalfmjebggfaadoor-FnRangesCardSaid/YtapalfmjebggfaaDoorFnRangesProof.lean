/- For every list of bytes laws.FnRanges returns true: what drawn normal ranges have in common has just the numbers of both, ranges made normal have the numbers of those that could stand alone and are valid where they are few, and written ranges are read (codes of more than 4096 bytes the law itself lets pass); under the card's ties alone: the two tables of unicode/utf8 that the row lists hold what the program's text lays, and no proof step reads them. -/
import Derived.Test.YtapalfmjebggfaaDoorDrawR
import Derived.Test.YtapalfmjebggfaaDoorRngO
import Derived.Test.YtapalfmjebggfaaDoorRngAi
import Derived.Test.YtapalfmjebggfaaDoorRngL
import Derived.Test.YtapalfmjebggfaaDoorRngF
import Derived.Test.YtapalfmjebggfaaDoorRngW
import Derived.Test.YtapalfmjebggfaaDoorParJ
import Derived.Test.YtapalfmjebggfaaDoorRows
import Derived.WalkKit
import Derived.ProofKit
import Derived.OpenShut
import Derived.ShutString
import Derived.ChangeOld
import Derived.Below
import Derived.Test.YtapalfmjebggfaaDoorCards
import Derived.Test.YtapalfmjebggfaaDoorTie
import Derived.PinnedBridge
import Derived.Lay
import Derived.LaidOnce
import Derived.SevenTiedAt
namespace Go.Proofs.YtapalfmjebggfaaDoor.fnRanges
open Go.ChangeShapes Go.WideShapes Go.ChangeAt Go.RowKit
open Go.ChangeMaps (open_string shut_string)
set_option linter.unusedVariables false

theorem own : ownKnob Tryd.prog.godebug = none := by kernel_rfl
theorem laidOut : laidOutB Tryd.prog = true := by kernel_rfl

open Classical in
noncomputable def memB (l : List Rg) (q : Int) : Bool := decide (MemOk l q)
theorem memB_nil (q : Int) : memB [] q = false := by unfold memB; simp [MemOk]
theorem memB_yes {l : List Rg} {q : Int} (h : MemOk l q) : memB l q = true := by unfold memB; simp [h]
theorem memB_no {l : List Rg} {q : Int} (h : ¬ MemOk l q) : memB l q = false := by unfold memB; simp [h]
theorem memB_old {l : List Rg} {x : Rg} {q : Int} (h : memB l q = true) : memB (l ++ [x]) q = true := by
  refine memB_yes ((memOk_snoc l x q).2 (.inl ?_))
  unfold memB at h; simpa using h
theorem memB_new {l : List Rg} {x : Rg} {q : Int} (h1 : x.lo ≤ q) (h2 : q ≤ x.hi) (h3 : -1000000000 ≤ x.lo) (h4 : x.hi ≤ 1000000000) : memB (l ++ [x]) q = true :=
  memB_yes ((memOk_snoc l x q).2 (.inr ⟨⟨by omega, h3, h4⟩, h1, h2⟩))
theorem memB_keep {l : List Rg} {x : Rg} {q : Int} (h : memB l q = false) (hx : ¬ (x.lo ≤ q ∧ q ≤ x.hi ∧ -1000000000 ≤ x.lo ∧ x.hi ≤ 1000000000)) : memB (l ++ [x]) q = false := by
  refine memB_no fun hm => ?_
  rcases (memOk_snoc l x q).1 hm with hm | ⟨⟨h1, h2, h3⟩, h4, h5⟩
  · rw [memB_yes hm] at h; cases h
  · exact hx ⟨h4, h5, h2, h3⟩
theorem norm_memB {l : List Rg} (h : normS l ≠ []) (q : Int) : inB (normS l) q = memB l q := by rw [norm_in h]; rfl
theorem norm_memB_none {l : List Rg} (h : normS l = []) (q : Int) : memB l q = false := memB_no (norm_none h q)
theorem wf_of_nrm {l : List Rg} (h : Nrm l) : ∀ x ∈ l, RgWf x := fun x hx => by
  have := h.2 x hx; unfold Rg.ok at this; unfold RgWf; omega
theorem format_small {l : List Rg} (h : Nrm l) (hl : l.length ≤ 3) : (formatS l).size ≤ 1048576 := by
  rw [formatS_size]
  have h := join_lenC (c := 124) (xs := (rngsT l).map (·.data.toList)) (m := 44) (fun y hy => by
    unfold rngsT at hy
    simp only [List.map_map, List.mem_map, Function.comp] at hy
    obtain ⟨x, hx, rfl⟩ := hy
    have h1 := rangeS_size (wf_of_nrm h x hx)
    have e : (rangeS x).data.toList.length = (rangeS x).size := by simp
    rw [e]; omega)
  have e : ((rngsT l).map (·.data.toList)).length = l.length := by simp [rngsT]
  rw [e] at h
  omega
theorem texts_small {s : ByteArray} {T : List Tok} (hL : Lx s.size s.data.toList T none) (hs : s.size ≤ 1048576) : ∀ x ∈ T, x.t.size ≤ 1048576 := fun x hx => by
  have h1 := (hL.bd.2.1 x hx).1
  have e : s.data.toList.length = s.size := by simp
  omega
/-- what is written of a drawn list is read -/
theorem back_any {l : List Rg} (h : Nrm l) (hl : l.length ≤ 3) (w : World) :
    Calls Tryd.prog 12 #[.string (formatS l)] w fun en w' => PrV w.heap.size (if l = [] then none else some l) en w' ∧ Below w.heap.size w w' := by
  have hs := format_small h hl
  have hz : (formatS l).data.toList.length = (formatS l).size := by simp
  by_cases h0 : l = []
  · obtain ⟨T, hL, hR, hp⟩ : ∃ T, Lx (formatS l).size (formatS l).data.toList T none ∧ Run T 0 [] none ∧ parS none T.length none = none := by rw [h0]; exact back_none _
    have hb := hL.bd.1
    have := iPr_any (formatS l) hs T none hL (by show T.length ≤ _; omega) (texts_small hL hs) none hR w
    rw [show lexT T none = T from rfl, hp] at this
    rw [if_pos h0]; exact this
  · obtain ⟨T, hL, hR, hp⟩ := back_ranges h0 ⟨by omega, h⟩ (formatS l).size
    have hb := hL.bd.1
    have := iPr_any (formatS l) hs T none hL (by show T.length ≤ _; omega) (texts_small hL hs) _ hR w
    rw [show lexT T none = T from rfl, hp] at this
    rw [if_neg h0]; exact this

set_option maxRecDepth 100000 in
set_option maxHeartbeats 4000000 in
theorem walk (a0 : Option Addr) (len0 cap0 : Nat) (w : World) (w0 : Src w a0 len0) :
    Calls Tryd.prog 3 #[.slice a0 len0 cap0] w fun e w' => e = .returned (.bool true) ∧ Below w.heap.size w w' := by
  have hsrc := w0
  have hB := Below.refl w.heap.size w
  by_cases hbig : 4096 < len0
  · have hd : decide (4096 < len0) = true := by simpa using hbig
    go_enter Tryd.func3, Tryd.ntmps3
    go_wp2_with (go_at_call 4; refine (big_any _ _ _ _).mono ?_; rw [hd]; rintro e w' ⟨rfl, rfl⟩)
    go_ret
    exact ⟨rfl, hB⟩
  · have hd : decide (4096 < len0) = false := by simpa using hbig
    go_enter Tryd.func3, Tryd.ntmps3
    go_upto_region 6 with (first
      | (go_at_call 4; refine (big_any _ _ _ _).mono ?_; rw [hd]; rintro e w' ⟨rfl, rfl⟩)
      | (go_at_call 5; ((with_reducible refine (drawMR_any _ _ _ _ hsrc).mono ?_); rintro e w1 ⟨u, v, a, b, rfl, hra, hrb, hna, hnb, hla, hlb, hb1⟩; have hsrc1 := src_below hsrc hb1; have HNA := Lib.hid hna; have HNB := Lib.hid hnb; obtain ⟨Au, cu, rfl⟩ := RowR.shape hra; obtain ⟨Av, cv, rfl⟩ := RowR.shape hrb; obtain ⟨n1, hn1⟩ : ∃ n, n = a.length := ⟨_, rfl⟩; obtain ⟨n2, hn2⟩ : ∃ n, n = b.length := ⟨_, rfl⟩; have HN1 := Lib.hid hn1; have HN2 := Lib.hid hn2; rw [← hn1] at hra hla ⊢; rw [← hn2] at hrb hlb ⊢; have hB1 := hb1; clear hn1 hn2 hna hnb hb1 hsrc))
      | (go_at_call 6; ((with_reducible refine (drawIR_any _ _ _ _ hsrc1).mono ?_); rintro e w2 ⟨u2, q, rfl, hq0, hq1, hb2⟩; have hB2 := below_step hB1 hb2; have hra2 := RowR.below hra hb2; have hrb2 := RowR.below hrb hb2; have hsrc2 := src_below hsrc1 hb2; clear hb2 hra hrb hsrc1 hB1))
      | (go_at_call 7; ((with_reducible refine (iMeet_any _ _ a b _ hra2.hasG hrb2.hasG (by have := HN1.out; omega) (by have := HN2.out; omega) (by rw [← HN1.out, ← HN2.out]; exact Nat.le_trans (Nat.mul_le_mul hla hlb) (by omega))).mono ?_); rintro e w3 ⟨vm, rfl, hrm, hb3⟩; have hB3 := below_step hB2 hb3; have hra3 := RowR.below hra2 hb3; have hrb3 := RowR.below hrb2 hb3; have hsrc3 := src_below hsrc2 hb3; obtain ⟨Am, cm, rfl⟩ := RowR.shape hrm; obtain ⟨M, hM⟩ : ∃ M, M = meetS a b := ⟨_, rfl⟩; have HM := Lib.hid hM; rw [← hM] at hrm ⊢; obtain ⟨nm, hnm⟩ : ∃ n, n = M.length := ⟨_, rfl⟩; have HNM := Lib.hid hnm; rw [← hnm] at hrm ⊢; clear hnm hM hb3 hra2 hrb2 hsrc2 hB2)))
    go_cut [79] (fun c wx => c = .bool false ∧ Below w.heap.size w wx ∧ RowG w.heap.size wx (.slice Au n1 cu) a ∧ Src wx a0 len0)
    case first =>
      have h00 : (0 : Int) ≤ (n1 : Int) := by omega
      by_cases hm : nm = 0
      · have hMe : M = [] := List.length_eq_zero_iff.1 (by rw [← HNM.out]; exact hm)
        have HME := Lib.hid hMe
        clear hMe
        obtain rfl : nm = 0 := hm
        by_cases ha : n1 = 0
        · obtain rfl : n1 = 0 := ha
          by_cases hb : n2 = 0
          · obtain rfl : n2 = 0 := hb
            go_wp2_with fail
            go_meet
            exact ⟨rfl, hB3, hra3, hsrc3⟩
          · have hq4 : decide (0 < (n2 : Int)) = true := by simp; omega
            have hp2 : 0 < n2 := by omega
            have HB0 := Lib.hid hb
            clear hb
            go_wp2_with fail
            go_meet
            exact ⟨rfl, hB3, hra3, hsrc3⟩
        · have hq3 : decide (0 < (n1 : Int)) = true := by simp; omega
          have hq4 : decide (0 < (n1 : Int) + (n2 : Int)) = true := by simp; omega
          have hp1 : 0 < n1 := by omega
          have HA0 := Lib.hid ha
          clear ha
          by_cases hb : n2 = 0
          · obtain rfl : n2 = 0 := hb
            go_wp2_with fail
            go_meet
            exact ⟨rfl, hB3, hra3, hsrc3⟩
          · have hq5 : decide (0 < (n2 : Int)) = true := by simp; omega
            have hno : (inB a q && inB b q) = false := by
              refine meet_none HNA.out HNB.out (fun e => HA0.out ?_) (fun e => hb ?_) (HM.out.symm.trans HME.out) q
              · rw [HN1.out, e]; rfl
              · rw [HN2.out, e]; rfl
            have hp2 : 0 < n2 := by omega
            have HB0 := Lib.hid hb
            clear hb
            have C1 := iInR_any (.slice Au n1 cu) a q w3 hra3.hasG
            cases e1 : inB a q
            · rw [e1] at C1
              have HE1 := Lib.hid e1
              clear e1 hno
              go_wp2_with (go_at_call 8; ((with_reducible refine C1.mono ?_); rintro e w4 ⟨rfl, hb4⟩))
              go_meet
              exact ⟨rfl, below_step hB3 hb4, RowR.below hra3 hb4, src_below hsrc3 hb4⟩
            · rw [e1, Bool.true_and] at hno
              rw [e1] at C1
              have C2 := fun w hv => iInR_any (.slice Av n2 cv) b q w hv
              rw [hno] at C2
              have HNO := Lib.hid hno
              have HE1 := Lib.hid e1
              clear hno e1
              go_wp2_with (first
                | (go_at_call 8; ((with_reducible refine C1.mono ?_); rintro e w4 ⟨rfl, hb4⟩; have hB4 := below_step hB3 hb4; have hra4 := RowR.below hra3 hb4; have hrb4 := RowR.below hrb3 hb4; have hsrc4 := src_below hsrc3 hb4; clear hB3 hra3 hrb3 hsrc3 hb4 C1))
                | (go_at_call 8; ((with_reducible refine (C2 _ hrb4.hasG).mono ?_); rintro e w5 ⟨rfl, hb5⟩)))
              go_meet
              exact ⟨rfl, below_step hB4 hb5, RowR.below hra4 hb5, src_below hsrc4 hb5⟩
      · have hq1 : decide (0 < (nm : Int)) = true := by simp; omega
        have hq2 : ((nm : Int) == 0) = false := by simp; omega
        have hin : inB M q = (inB a q && inB b q) := by
          rw [HM.out]
          refine meet_in HNA.out HNB.out (fun e => hm ?_) q
          rw [HNM.out, HM.out, e]; rfl
        have hpm : 0 < nm := by omega
        have HNM0 := Lib.hid hm
        clear hm
        have hrm3 : RowG w2.heap.size w3 (.slice Am nm cm) M := hrm
        have C0 := iInR_any (.slice Am nm cm) M q w3 hrm3.hasG
        rw [hin] at C0
        have HIN := Lib.hid hin
        clear hin
        have C1 := fun w hv => iInR_any (.slice Au n1 cu) a q w hv
        have C2 := fun w hv => iInR_any (.slice Av n2 cv) b q w hv
        generalize inB a q = x1 at C0 C1
        generalize inB b q = x2 at C0 C2
        cases x1 <;> cases x2
        all_goals
          simp only [Bool.and_true, Bool.and_false, Bool.true_and, Bool.false_and] at C0
          go_wp2_with (first
            | (go_at_call 8; ((with_reducible refine C0.mono ?_); rintro e w4 ⟨rfl, hb4⟩; have hB4 := below_step hB3 hb4; have hra4 := RowR.below hra3 hb4; have hrb4 := RowR.below hrb3 hb4; have hsrc4 := src_below hsrc3 hb4; clear hB3 hra3 hrb3 hsrc3 hb4 C0))
            | (go_at_call 8; ((with_reducible refine (C1 _ hra4.hasG).mono ?_); rintro e w5 ⟨rfl, hb5⟩; have hB5 := below_step hB4 hb5; have hra5 := RowR.below hra4 hb5; have hrb5 := RowR.below hrb4 hb5; have hsrc5 := src_below hsrc4 hb5; clear hB4 hra4 hrb4 hsrc4 hb5 C1))
            | (go_at_call 8; ((with_reducible refine (C2 _ hrb5.hasG).mono ?_); rintro e w6 ⟨rfl, hb6⟩; have hB5 := below_step hB5 hb6; have hra5 := RowR.below hra5 hb6; have hsrc5 := src_below hsrc5 hb6; clear hb6 C2)))
          go_meet
          exact ⟨rfl, hB5, hra5, hsrc5⟩
    case rest =>
      obtain ⟨rfl, hB5, hra5, hsrc5⟩ := hcut
      clear hra3 hrb3 hrm hB3 hsrc3
      go_wp2_with (go_at_call 9; ((with_reducible refine (drawNR_any _ _ _ _ hsrc5).mono ?_); rintro e w6 ⟨vr, L, rfl, hrl, hll, hwf, hb6⟩; have hB6 := below_step hB5 hb6; have hra6 := RowR.below hra5 hb6; obtain ⟨A3, c3, rfl⟩ := RowR.shape hrl; obtain ⟨n3, hn3⟩ : ∃ n, n = L.length := ⟨_, rfl⟩; have HN3 := Lib.hid hn3; rw [← hn3] at hrl hll ⊢; clear hn3 hb6 hra5 hB5 hsrc5 hwf))
      have hag := hrl.hasG
      obtain ⟨A', cap', hv', hn', hc⟩ := hag
      injection hv' with e1 e2 e3
      subst e1; subst e3; clear e2
      go_loopw [9, 10] (fun sv iv wr => ∃ k : Nat, k ≤ n3 ∧ iv = .int .i64 k ∧ sv = .bool (memB (L.take k) q) ∧ Below w6.heap.size w6 wr) (fun _ iv _ => n3 - (intOf iv).toNat)
      case atStart => exact ⟨0, Nat.zero_le _, rfl, by rw [List.take_zero, memB_nil], Below.refl _ _⟩
      case round =>
        obtain ⟨k, hk, rfl, rfl, hbel⟩ := hrel
        by_cases hlt : k < n3
        · have hkL : k < L.length := by rw [← HN3.out]; exact hlt
          obtain ⟨ad, rfl, hab, hcell0⟩ := HasG.gk hc k hkL
          have HX : Hid (L.take (k + 1) = L.take k ++ [L[k]]) := Lib.hid (List.take_succ_eq_append_getElem hkL)
          obtain ⟨x, hx⟩ : ∃ x, x = L[k]'hkL := ⟨_, rfl⟩
          rw [← hx] at hcell0 HX
          obtain ⟨d0, d1⟩ := hcell0.below hbel hab
          have HB0 : Hid (memB (L.take k) q = memB (L.take k) q) := Lib.hid rfl
          obtain ⟨l0, hl0⟩ : ∃ l0, l0 = L.take k := ⟨_, rfl⟩
          rw [← hl0] at HX ⊢
          clear hcell0 hx hc hkL HB0 hl0
          obtain ⟨b0, hb0⟩ : ∃ b0, memB l0 q = b0 := ⟨_, rfl⟩
          rw [hb0]
          cases b0
          · have HNo := fun hx => memB_keep (x := x) hb0 hx
            have HNO := Lib.hid HNo
            clear HNo hb0
            by_cases t1 : x.lo ≤ q
            · by_cases t2 : q ≤ x.hi
              · by_cases t3 : -1000000000 ≤ x.lo
                · by_cases t4 : x.hi ≤ 1000000000
                  · have HY := Lib.hid (memB_new (l := l0) t1 t2 t3 t4)
                    go_wp2
                    go_roundw
                    case rel => exact ⟨k + 1, by omega, by go_num, by rw [HX.out, HY.out], below_al hbel _⟩
                    case measure => simp [intOf]; omega
                  · have HY := Lib.hid (HNO.out (by omega))
                    go_wp2
                    go_roundw
                    case rel => exact ⟨k + 1, by omega, by go_num, by rw [HX.out, HY.out], below_al hbel _⟩
                    case measure => simp [intOf]; omega
                · have HY := Lib.hid (HNO.out (by omega))
                  go_wp2
                  go_roundw
                  case rel => exact ⟨k + 1, by omega, by go_num, by rw [HX.out, HY.out], below_al hbel _⟩
                  case measure => simp [intOf]; omega
              · have HY := Lib.hid (HNO.out (by omega))
                go_wp2
                go_roundw
                case rel => exact ⟨k + 1, by omega, by go_num, by rw [HX.out, HY.out], below_al hbel _⟩
                case measure => simp [intOf]; omega
            · have HY := Lib.hid (HNO.out (by omega))
              go_wp2
              go_roundw
              case rel => exact ⟨k + 1, by omega, by go_num, by rw [HX.out, HY.out], below_al hbel _⟩
              case measure => simp [intOf]; omega
          · have HY := Lib.hid (memB_old (x := x) hb0)
            clear hb0
            go_wp2
            go_roundw
            case rel => exact ⟨k + 1, by omega, by go_num, by rw [HX.out, HY.out], below_al hbel _⟩
            case measure => simp [intOf]; omega
        · have hB7 := below_step hB6 hbel
          have hrl7 := RowR.below hrl hbel
          have hra7 := RowR.below hra6 hbel
          rw [List.take_of_length_le (by have := HN3.out; omega)]
          have hnm := fun h => norm_memB (l := L) h q
          have hnn := fun h => norm_memB_none (l := L) h q
          have har := fun h => norm_are (l := L) h
          generalize memB L q = bs at hnm hnn
          have H1 := Lib.hid hnm
          have H2 := Lib.hid hnn
          have H3 := Lib.hid har
          clear hnm hnn har hc hB6 hrl hra6 hbel
          go_upto_region 16 with (go_at_call 10; ((with_reducible refine (iNorm_any _ L _ hrl7.hasG (by have := HN3.out; omega)).mono ?_); rintro e w8 ⟨vc, rfl, hrc, hb8⟩; have hB8 := below_step hB7 hb8; have hra8 := RowR.below hra7 hb8; obtain ⟨A4, c4, rfl⟩ := RowR.shape hrc; obtain ⟨n4, hn4⟩ : ∃ n, n = (normS L).length := ⟨_, rfl⟩; have HN4 := Lib.hid hn4; rw [← hn4] at hrc ⊢; clear hn4 hb8 hra7 hB7 hrl7))
          go_cut [144] (fun c wx => c = .bool false ∧ Below w.heap.size w wx ∧ RowG w.heap.size wx (.slice Au n1 cu) a)
          case first =>
            by_cases hn : n4 = 0
            · have he : normS L = [] := List.length_eq_zero_iff.1 (by rw [← HN4.out]; exact hn)
              obtain rfl : bs = false := H2.out he
              have C3 := iAre_any (.slice A4 n4 c4) (normS L) w8 hrc.hasG
              rw [H3.out (by rw [he]; simp)] at C3
              obtain rfl : n4 = 0 := hn
              have HE := Lib.hid he
              clear he
              go_wp2_with (go_at_call 11; ((with_reducible refine C3.mono ?_); rintro e w9 ⟨rfl, hb9⟩))
              go_meet
              exact ⟨rfl, below_step hB8 hb9, RowR.below hra8 hb9⟩
            · have hp4 : 0 < n4 := by omega
              have hq1 : decide (0 < (n4 : Int)) = true := by simp; omega
              have hq2 : ((n4 : Int) == 0) = false := by simp; omega
              have C1 := iInR_any (.slice A4 n4 c4) (normS L) q w8 hrc.hasG
              rw [H1.out (fun e => hn (by rw [HN4.out, e]; rfl))] at C1
              have HN := Lib.hid hn
              clear hn
              by_cases h6 : n4 ≤ 6
              · have hq3 : decide ((n4 : Int) ≤ 6) = true := by simp; omega
                have C3 := fun w hv => iAre_any (.slice A4 n4 c4) (normS L) w hv
                rw [H3.out (by rw [← HN4.out]; exact h6)] at C3
                cases bs
                all_goals
                  go_wp2_with (first
                    | (go_at_call 8; ((with_reducible refine C1.mono ?_); rintro e w9 ⟨rfl, hb9⟩; have hB9 := below_step hB8 hb9; have hra9 := RowR.below hra8 hb9; have hrc9 := RowR.below hrc hb9; clear hb9 hB8 hra8 hrc C1))
                    | (go_at_call 11; ((with_reducible refine (C3 _ hrc9.hasG).mono ?_); rintro e w10 ⟨rfl, hb10⟩)))
                  go_meet
                  exact ⟨rfl, below_step hB9 hb10, RowR.below hra9 hb10⟩
              · have hq3 : decide ((n4 : Int) ≤ 6) = false := by simp; omega
                have h6' : 6 < n4 := by omega
                cases bs
                all_goals
                  go_wp2_with (go_at_call 8; ((with_reducible refine C1.mono ?_); rintro e w9 ⟨rfl, hb9⟩))
                  go_meet
                  exact ⟨rfl, below_step hB8 hb9, RowR.below hra8 hb9⟩
          case rest =>
            obtain ⟨rfl, hB9, hra9⟩ := hcut
            clear hrc hra8 hB8
            have C4 := fun v w hv => iFormatR_any v a w hv (by have := HN1.out; omega) (wf_of_nrm HNA.out)
            have C5 := fun w => back_any HNA.out (by have := HN1.out; omega) w
            generalize formatS a = S at C4 C5
            by_cases h0 : n1 = 0
            · have he : a = [] := List.length_eq_zero_iff.1 (by rw [← HN1.out]; exact h0)
              rw [if_pos he] at C5
              obtain rfl : n1 = 0 := h0
              have HE := Lib.hid he
              clear he
              go_wp2_with (first
                | (go_at_call 13; ((with_reducible refine (C4 _ _ hra9.hasG).mono ?_); rintro e w10 ⟨rfl, hb10⟩; have hB10 := below_step hB9 hb10; clear hB9))
                | (go_at_call 12; ((with_reducible refine (C5 _).mono ?_); rintro e w11 ⟨hpv, hb11⟩; obtain ⟨vp, rfl, hrp⟩ := hpv)))
              go_ret
              exact ⟨rfl, below_step hB10 hb11⟩
            · rw [if_neg (fun e => h0 (by rw [HN1.out, e]; rfl))] at C5
              have hp1 : 0 < n1 := by omega
              have hq1 : decide (0 < (n1 : Int)) = true := by simp; omega
              have hss : (S.toList == S.toList) = true := by simp
              have HN := Lib.hid h0
              clear h0
              go_wp2_with (first
                | (go_at_call 13; ((with_reducible refine (C4 (.slice Au n1 cu) _ hra9.hasG).mono ?_); rintro e w10 ⟨rfl, hb10⟩; have hB10 := below_step hB9 hb10; have hra10 := RowR.below hra9 hb10; clear hB9 hra9 hb10))
                | (go_at_call 12; ((with_reducible refine (C5 _).mono ?_); rintro e w11 ⟨hpv, hb11⟩; obtain ⟨vp, rfl, hrp⟩ := hpv; obtain ⟨Ap, cp, rfl⟩ := RowR.shape hrp; have hB11 := below_step hB10 hb11; have hra11 := RowR.below hra10 hb11; clear hb11 hra10 hB10))
                | (go_at_call 13; ((with_reducible refine (C4 (.slice Ap _ cp) _ hrp.hasG).mono ?_); rintro e w12 ⟨rfl, hb12⟩; have hB12 := below_step hB11 hb12; have hra12 := RowR.below hra11 hb12; clear hb12 hra11 hB11 hrp))
                | (go_at_call 13; ((with_reducible refine (C4 (.slice Au n1 cu) _ hra12.hasG).mono ?_); rintro e w13 ⟨rfl, hb13⟩)))
              go_ret
              exact ⟨rfl, below_step hB12 hb13⟩

/-! ### THE ROW's STEP -/
set_option maxRecDepth 100000 in
theorem lifted (os : Os) (started : os.Started) (H : Type) (enc : TypeId × Value → H) :
    ReturnsInHanded {} Tryd.checked os 3 .any (fun w args => (Rows.fnRangesSpec.pre enc Tryd.prog Tryd.f3 Rows.fnRangesRow.domain false w args ∧ laidMetH Tryd.prog Rows.fnRangesRow.laid w) ∧ sizedMet enc Tryd.prog Tryd.f3 (OpenSpec.ofChange Rows.fnRangesSpec) false w args) (Rows.fnRangesSpec.post enc Tryd.prog Tryd.f3 false true false false) := by
  refine returnsInHanded_of_change_and (C := Tryd.checked) (X := fun w _ => laidMetH Tryd.prog Rows.fnRangesRow.laid w) (fun _ _ _ hh h => h.of_heap hh) own started (by kernel_rfl) Tryd.func3
    (ChangeSpec.witness_shaped (enc := enc) (C := Tryd.checked) (os := os) (X := fun w _ => laidMetH Tryd.prog Rows.fnRangesRow.laid w) false (World.laidAll Tryd.prog os Rows.fnRangesRow.laid) #[.slice none 0 0] 8 (World.laidAll_os _ _ _)
      (World.shaped_of_ZipB (by kernel_rfl) (by kernel_rfl)) (by kernel_rfl) (by kernel_rfl) (by kernel_rfl)
      (by rw [MakeChecks.laidMetH_plain _ _ _ (by kernel_rfl)]; exact laidMet_laidAll _ (by kernel_rfl) (by kernel_rfl))) ?_
  intro W base args ds gs before hval0 hW hcnd _ _ _
  have hval : ∀ (j : Nat) t v, Tryd.f3.params[j]? = some t → args[j]? = some v → Value.okWide Tryd.prog W .any base t v := hval0
  have hW' := hW
  obtain ⟨p, q, hA0, hV, rfl, hfz, hnd⟩ := hW
  have hA : DataW.TrodAll enc Tryd.prog W 0 (fun _ => true) true Tryd.f3.params.toList args.toList ds p := hA0
  rw [Tryd.params3] at hA hval
  obtain ⟨v0, vs0, d0, ds0, p0, q0, hargs, rfl, rfl, h0, r0⟩ := trodAll_cons hA
  obtain ⟨rfl, rfl, rfl⟩ := trodAll_nil r0
  obtain rfl : args = #[v0] := by cases args; simp_all
  obtain ⟨rfl, rfl⟩ := trodVars_none hV
  obtain ⟨a0, len0, cap0, rfl⟩ := okWide_slice Tryd.underlying22 (hval 0 22 v0 rfl rfl)
  have k0 := h0
  have lt0 : ∀ x ∈ p0, x.block < W.heap.size := by obtain ⟨m, hm⟩ := k0; exact DataW.trod_lt m _ _ _ hm
  have w0 : Src W a0 len0 := by
    obtain ⟨fuel, hf⟩ := h0
    rcases open_ints Tryd.underlying22 Tryd.underlying5 (by kernel_rfl) hf with ⟨hcs, _⟩ | ⟨x, l, c, zs, hcs, _, hl, hm, hz, _, hcell, hwz⟩
    · simp [Value.cells] at hcs
      obtain ⟨rfl, rfl, rfl⟩ := hcs
      exact src_of (.inl ⟨rfl, rfl, rfl, rfl⟩)
    · simp [Value.cells] at hcs
      obtain ⟨rfl, rfl, rfl⟩ := hcs
      exact src_of (.inr ⟨_, rfl, hl, hm, by simpa using hz, hcell, hwz⟩)
  clear hA0 hval0
  refine (walk a0 len0 cap0 W w0).mono fun e W' ⟨he, bel⟩ => ?_
  subst he
  exact ⟨_, rfl, _, _, _, [], _, [], hW', trodAll_mk1 (shut_bool Tryd.underlying4 _), (trodAll_cons_mk (Below.trod laidOut (by kernel_rfl) (of_decide_eq_true (by kernel_rfl)) k0 bel lt0) trodAll_mk0), rfl, bel.frame _, fun h => by cases h⟩

theorem over : Rows.fnRangesRow.holds Tryd.pinned (OpenSpec.ofChange Rows.fnRangesSpec) :=
  OpenClaim.holds_of_wide 3 Tryd.f3 rfl rfl rfl rfl rfl rfl rfl ⟨rfl, rfl, rfl, rfl, rfl⟩ rfl rfl rfl rfl rfl (by kernel_rfl) Tryd.func3 (by kernel_rfl)
    (of_decide_eq_true (by kernel_rfl)) (by unfold Func.isWrapper; first | (rw [if_pos (by decide +kernel)]; kernel_rfl) | (rw [if_neg (by decide +kernel)]; exact ⟨rfl, rfl⟩))
    (fun os started H enc _ => lifted os started H enc)

/-- no parameter wants a stand-in; the program's own looks are off -/
theorem plain (f : FuncId) (fn : Func) (hf : Tryd.pinned.checked.prog.funcNamed "loop.example/g03013/laws.FnRanges" = some f) (hfn : Tryd.pinned.checked.prog.funcs[f]? = some fn) :
    false = Tryd.pinned.checked.prog.looks [] ∧ ∀ (j : Nat) t, fn.params[j]? = some t → Tryd.pinned.checked.prog.wantsStandIn t = false := by
  obtain rfl : f = 3 := Option.some.inj ((show Tryd.prog.funcNamed "loop.example/g03013/laws.FnRanges" = some 3 by kernel_rfl).symm.trans hf) |>.symm
  obtain rfl : fn = Tryd.f3 := (Option.some.inj (Tryd.func3.symm.trans hfn)).symm
  refine ⟨by kernel_rfl, fun j t ht => ?_⟩
  rw [Tryd.params3] at ht
  have hm : t ∈ [22] := by simpa using Array.mem_of_getElem? ht
  have hall : ([22].all fun u => !Tryd.prog.wantsStandIn u) = true := by kernel_rfl
  exact (show Tryd.prog.wantsStandIn t = false by simpa using List.all_eq_true.1 hall t hm)
theorem proved : Rows.FnRangesCardSaid :=
  Claim7.holds_tied_plain_at .later [] _ _ _ _ over (fun _ h => by cases h) (by kernel_rfl) (fun _ h => by cases h) fnRanges_row_tie rfl ⟨rfl, rfl⟩ (by kernel_rfl) rfl plain (by kernel_rfl)
#print axioms proved
end Go.Proofs.YtapalfmjebggfaaDoor.fnRanges
