/- BYTES SORTED: pdqsortOrdered: the part is permuted and ascending. -/
import Derived.Test.YtoldfejclimhgaaBsI
namespace Go.Proofs.Ytoldfejclimhgaa
open Go.RowKit Go.Sort

abbrev LowB (a b : Nat) (d : Array Int) : Prop := Go.Sort.Below ltInt a b d
def Srt (w0 : World) (blk off : Nat) (d : Array Int) (a b : Nat) (e : Ending) (w' : World) : Prop := ∃ d' : Array Int, e = .returned (.tuple #[]) ∧ PermIn a b d d' ∧ SortedIn ltInt a b d' ∧ SB w0 blk off d' w'
/-- what is left to do: whoever sorts the part [x, y) of e has sorted [a, b) of d -/
def Fin (a b : Nat) (d : Array Int) (x y : Nat) (e : Array Int) : Prop := ∀ r, PermIn x y e r → SortedIn ltInt x y r → PermIn a b d r ∧ SortedIn ltInt a b r
theorem Fin.perm {a b x y : Nat} {d e e' : Array Int} (h : Fin a b d x y e) (hp : PermIn x y e e') : Fin a b d x y e' := fun r h1 h2 => h r (permIn_trans _ _ _ x y hp h1) h2
def PdqC (n N : Nat) : Prop := ∀ (blk off cap a b lim : Nat) (d0 d : Array Int) (w0 w : World) (R : RB w0 blk off d0) (hs0 : d0.size = n) (hsd : d.size = n) (S : SB w0 blk off d w) (hab : a ≤ b) (hb : b ≤ n) (hL : LowB a b d) (hlim : lim ≤ 1000) (hN : b - a ≤ N),
    Calls Try.prog 86 #[.slice (some ⟨blk, off, none⟩) n cap, .int .i64 a, .int .i64 b, .int .i64 lim] w (Srt w0 blk off d a b)
set_option maxRecDepth 100000 in
set_option maxHeartbeats 8000000 in
theorem pdq_of (n N : Nat) (hsz : n < 2305843009213693952) (ih : ∀ M, M < N → PdqC n M) : PdqC n N := by
  intro blk off cap a b lim d0 d w0 w R hs0 hsd S hab hb hL hlim hN
  have S0 := Lib.hid S
  have HL := Lib.hid hL
  have HIH := Lib.hid ih
  clear S hL ih
  go_enter Try.func86, Try.ntmps86
  go_wp2_with fail
  go_loopg [1, 2, 3, 8, 9] N (fun g1 va vb vl v8 v9 wr => ∃ (x y l : Nat) (wb wp : Bool) (dk : Array Int), va = .int .i64 x ∧ vb = .int .i64 y ∧ vl = .int .i64 l ∧ v8 = .bool wb ∧ v9 = .bool wp ∧ x ≤ y ∧ y ≤ n ∧ l ≤ 1000 ∧ y - x ≤ g1 ∧ g1 ≤ N ∧ dk.size = n ∧ Hid (SB w0 blk off dk wr) ∧ Hid (LowB x y dk) ∧ Hid (Fin a b d x y dk))
  case atStart => exact ⟨a, b, lim, true, true, d, rfl, rfl, rfl, rfl, rfl, hab, hb, hlim, hN, Nat.le_refl _, hsd, S0, HL, Lib.hid fun r h1 h2 => ⟨h1, h2⟩⟩
  case round =>
    clear S0 HL hab hb hlim hN hsd
    obtain ⟨x, y, l, wb, wp, dk, rfl, rfl, rfl, rfl, rfl, hxy, hyn, hl, hg1, hgN, hsk, S1, HL, HF⟩ := hrel
    obtain ⟨L, hLL⟩ : ∃ L, L = y - x := ⟨_, rfl⟩
    have hbl : (y : Int) - (x : Int) = (L : Int) := by omega
    have hL1 : L ≤ y - x := by omega
    have hL2 : y - x ≤ L := by omega
    clear hLL
    by_cases h12 : L ≤ 12
    · have h12z : (L : Int) ≤ 12 := by omega
      go_wp2_with (go_at_call 88; (refine (ins_any blk off cap x y n d0 dk w0 _ R hs0 hsk S1.out hxy hyn (by omega)).mono ?_); rintro e w2 ⟨rfl, hS2⟩; have S2 := Lib.hid hS2; clear hS2)
      refine bodyPost_ret (results_none rfl _ _ _) rfl ?_
      obtain ⟨q1, q2⟩ := insertionSort_holds swo_ltInt dk x y hxy (by omega)
      obtain ⟨p1, p2⟩ := HF.out _ q1 q2
      exact ⟨_, rfl, p1, p2, S2.out⟩
    · have h12z : ¬ (L : Int) ≤ 12 := by omega
      by_cases hl0 : l = 0
      · have hlz : ((l : Int) == 0) = true := by rw [hl0]; rfl
        clear hl0
        go_wp2_with (go_at_call 89; (refine (heap_any blk off cap x y n d0 dk w0 _ R hs0 hsk S1.out (by omega) hyn hsz).mono ?_); rintro e w2 ⟨rfl, hS2⟩; have S2 := Lib.hid hS2; clear hS2)
        refine bodyPost_ret (results_none rfl _ _ _) rfl ?_
        obtain ⟨q1, q2⟩ := heapSort_holds swo_ltInt dk x y hxy (by omega)
        obtain ⟨p1, p2⟩ := HF.out _ q1 q2
        exact ⟨_, rfl, p1, p2, S2.out⟩
      · have hlz : ((l : Int) == 0) = false := by rw [beq_eq_false_iff_ne]; omega
        go_upto_if 35 with fail
        go_cut [3] (fun v3 wx => ∃ (l' : Nat) (d1 : Array Int), v3 = .int .i64 l' ∧ l' ≤ 1000 ∧ d1.size = n ∧ Hid (PermIn x y dk d1) ∧ Hid (SB w0 blk off d1 wx))
        case first =>
          cases wb with
          | true =>
            go_wp2_with fail
            go_meet
            case rel => exact ⟨l, dk, rfl, hl, hsk, Lib.hid (permIn_refl _ _ _), S1⟩
          | false =>
            go_wp2_with (go_at_call 90; (refine (brk_any blk off cap x y n d0 dk w0 _ R hs0 hsk S1.out (by omega) hyn hsz).mono ?_); rintro e w2 ⟨d1, rfl, hp, hS2⟩; have S2 := Lib.hid hS2; have HP := Lib.hid hp; have hs1 : d1.size = n := hp.1.trans hsk; clear hS2 hp)
            go_meet
            case rel => exact ⟨l - 1, d1, by congr 1; omega, by omega, hs1, HP, S2⟩
        case rest =>
          clear S1
          obtain ⟨l', d1, rfl, hl', hs1, HP1, S2⟩ := hcut
          clear hlz hl0 hl
          go_upto_if 50 with (go_at_call 91; (refine (pivot_any blk off cap x y n d0 d1 w0 _ R hs0 hs1 S2.out (by omega) hyn hsz).mono ?_); rintro e w3 ⟨p, h, hp, hh, rfl, hS3⟩; have S3 := Lib.hid hS3; clear hS3)
          obtain ⟨hp1, hp2⟩ := hp
          clear S2
          go_cut [11, 12] (fun v11 v12 wx => ∃ (p h : Nat) (d2 : Array Int), v11 = .int .i64 p ∧ v12 = .int .i64 h ∧ x ≤ p ∧ p < y ∧ d2.size = n ∧ Hid (PermIn x y d1 d2) ∧ Hid (SB w0 blk off d2 wx))
          case first =>
            by_cases h2 : h = 2
            · have h2z : ((h : Int) == 2) = true := by rw [h2]; rfl
              clear h2
              have hyz : (1 : Int) ≤ (y : Int) := by omega
              have hy9 : (y : Int) ≤ 2305843009213693952 := by omega
              have hpx : (x : Int) ≤ (p : Int) := by omega
              go_wp2_with (go_at_call 92; (refine (rev_any blk off cap x y n d0 d1 w0 _ R hs0 hs1 S3.out (by omega) hyn (by omega)).mono ?_); rintro e w4 ⟨rfl, hS4⟩; have S4 := Lib.hid hS4; clear hS4)
              go_meet
              case rel => exact ⟨y - 1 - (p - x), 1, _, by congr 1; omega, rfl, by omega, by omega, (reverseRange_holds d1 x y hxy (by omega)).1.trans hs1, Lib.hid (reverseRange_holds d1 x y hxy (by omega)), S4⟩
            · have h2z : ((h : Int) == 2) = false := by rw [beq_eq_false_iff_ne]; omega
              go_wp2
              go_meet
              case rel => exact ⟨p, h, d1, rfl, rfl, hp1, hp2, hs1, Lib.hid (permIn_refl _ _ _), S3⟩
          case rest =>
            clear S3 hp1 hp2 hh
            obtain ⟨p, h, d2, rfl, rfl, hp1, hp2, hs2, HP2, S3⟩ := hcut
            have HL2 : Hid (LowB x y d2) := Lib.hid (Go.Sort.Below.perm (Go.Sort.Below.perm HL.out (by omega) HP1.out) (by omega) HP2.out)
            have HF2 : Hid (Fin a b d x y d2) := Lib.hid ((HF.out.perm HP1.out).perm HP2.out)
            clear HL HF HP1 HP2
            go_upto_region 15 with fail
            go_cut [68] (fun v wx => ∃ q : Bool, v = .bool q ∧ Hid (SB w0 blk off d2 wx))
            case first =>
              cases wb with
              | false =>
                go_wp2
                go_meet
                case rel => exact ⟨_, rfl, S3⟩
              | true =>
                cases wp with
                | false =>
                  go_wp2
                  go_meet
                  case rel => exact ⟨_, rfl, S3⟩
                | true =>
                  cases h1 : ((h : Int) == 1)
                  · go_wp2
                    go_meet
                    case rel => exact ⟨_, rfl, S3⟩
                  · go_wp2
                    go_meet
                    case rel => exact ⟨_, rfl, S3⟩
            case rest =>
              clear S3
              obtain ⟨q, rfl, S3⟩ := hcut
              go_upto_if 68 with fail
              go_cut [12] (fun v wx => ∃ d3 : Array Int, d3.size = n ∧ Hid (LowB x y d3) ∧ Hid (Fin a b d x y d3) ∧ Hid (SB w0 blk off d3 wx))
              case first =>
                cases q with
                | false =>
                  go_wp2
                  go_meet
                  case rel => exact ⟨d2, hs2, HL2, HF2, S3⟩
                | true =>
                  go_wp2_with fail
                  refine (pins_any blk off cap x y n d0 d2 w0 _ R hs0 hs2 S3.out (by omega) hyn hsz).mono ?_
                  rintro e w4 ⟨ok, d3, rfl, hpi, hS4⟩
                  have S4 := Lib.hid hS4
                  obtain ⟨hq1, hq2⟩ := partialInsertionSort_holds swo_ltInt d2 x y (by omega) (by omega) HL2.out
                  rw [hpi] at hq1 hq2
                  have HQ1 : Hid (PermIn x y d2 d3) := Lib.hid hq1
                  have HQ2 : Hid (ok = true → SortedIn ltInt x y d3) := Lib.hid hq2
                  clear hS4 hpi hq1 hq2 S3
                  cases ok with
                  | true =>
                    go_wp2
                    refine bodyPost_ret (results_none rfl _ _ _) rfl ?_
                    obtain ⟨q1, q2⟩ := HF2.out _ HQ1.out (HQ2.out (by first | rfl | trivial))
                    exact ⟨_, rfl, q1, q2, S4.out⟩
                  | false =>
                    have hs3 : d3.size = n := HQ1.out.1.trans hs2
                    go_wp2
                    go_meet
                    case rel => exact ⟨d3, hs3, Lib.hid (Go.Sort.Below.perm HL2.out (by omega) HQ1.out), Lib.hid (HF2.out.perm HQ1.out), S4⟩
              case rest =>
                clear S3 HL2 HF2
                obtain ⟨d3, hs3, HL3, HF3, S4⟩ := hcut
                go_upto_region 17 with fail
                go_cut [87] (fun v wx => ∃ q : Bool, v = .bool q ∧ Hid (SB w0 blk off d3 wx) ∧ Hid (q = true → 0 < x ∧ ltInt d3[x - 1]! d3[p]! = false))
                case first =>
                  by_cases hx0 : 0 < x
                  · obtain ⟨xp, rfl⟩ : ∃ xp, x = xp + 1 := ⟨x - 1, by omega⟩
                    have hxz : (0 : Int) < (xp : Int) + 1 := by omega
                    have hxd : decide ((0 : Int) < (xp : Int) + 1) = true := decide_eq_true (by omega)
                    cases hlv : ltInt d3[xp]! d3[p]! with
                    | true =>
                      go_wp2_with fail
                      obtain ⟨iNA, hiNA⟩ : ∃ zq, zq = xp := ⟨_, rfl⟩
                      have eiA : ((xp : Int)).toNat = iNA := by omega
                      have piA : (0 : Int) ≤ (xp : Int) := by omega
                      have biA : (xp : Int) < (n : Int) := by omega
                      have riA : IntKind.i64.wrap ((xp : Int)) = (xp : Int) := by rw [IntKind.wrap_i64]; omega
                      obtain ⟨jNA, hjNA⟩ : ∃ zq, zq = p := ⟨_, rfl⟩
                      have ejA : ((p : Int)).toNat = jNA := by omega
                      have pjA : (0 : Int) ≤ (p : Int) := by omega
                      have bjA : (p : Int) < (n : Int) := by omega
                      have rjA : IntKind.i64.wrap ((p : Int)) = (p : Int) := by rw [IntKind.wrap_i64]; omega
                      obtain ⟨xA, hxA⟩ : ∃ zx, zx = d3[xp]! := ⟨_, rfl⟩
                      obtain ⟨yA, hyA⟩ : ∃ zx, zx = d3[p]! := ⟨_, rfl⟩
                      have laA : wc.cell? ⟨blk, off + iNA, none⟩ = some (.int .u8 xA) := by rw [hiNA, hxA]; exact sb_cell S4.out R (by omega) (xp) (by omega)
                      have lbA : wc.cell? ⟨blk, off + jNA, none⟩ = some (.int .u8 yA) := by rw [hjNA, hyA]; exact sb_cell S4.out R (by omega) (p) (by omega)
                      have hvA : ltInt xA yA = true := by rw [hxA, hyA]; exact hlv
                      have HVA := Lib.hid hvA
                      clear hxA hyA hiNA hjNA hvA
                      go_wp2_with fail
                      go_quiet ((go_at_call 94; exact Calls.quiet_of_same (less_q _ _ _ HVA.out _)))
                      have SL := Lib.hid (SW.drewN S4.out nq)
                      clear laA lbA HVA S4
                      generalize wc.drewN nq = wl at SL ⊢
                      clear nq eiA piA biA riA ejA pjA bjA rjA
                      go_wp2
                      go_meet
                      case rel => exact ⟨false, rfl, SL, Lib.hid (by intro h; cases h)⟩
                    | false =>
                      have HLV := Lib.hid hlv
                      go_wp2_with fail
                      obtain ⟨iNA, hiNA⟩ : ∃ zq, zq = xp := ⟨_, rfl⟩
                      have eiA : ((xp : Int)).toNat = iNA := by omega
                      have piA : (0 : Int) ≤ (xp : Int) := by omega
                      have biA : (xp : Int) < (n : Int) := by omega
                      have riA : IntKind.i64.wrap ((xp : Int)) = (xp : Int) := by rw [IntKind.wrap_i64]; omega
                      obtain ⟨jNA, hjNA⟩ : ∃ zq, zq = p := ⟨_, rfl⟩
                      have ejA : ((p : Int)).toNat = jNA := by omega
                      have pjA : (0 : Int) ≤ (p : Int) := by omega
                      have bjA : (p : Int) < (n : Int) := by omega
                      have rjA : IntKind.i64.wrap ((p : Int)) = (p : Int) := by rw [IntKind.wrap_i64]; omega
                      obtain ⟨xA, hxA⟩ : ∃ zx, zx = d3[xp]! := ⟨_, rfl⟩
                      obtain ⟨yA, hyA⟩ : ∃ zx, zx = d3[p]! := ⟨_, rfl⟩
                      have laA : wc.cell? ⟨blk, off + iNA, none⟩ = some (.int .u8 xA) := by rw [hiNA, hxA]; exact sb_cell S4.out R (by omega) (xp) (by omega)
                      have lbA : wc.cell? ⟨blk, off + jNA, none⟩ = some (.int .u8 yA) := by rw [hjNA, hyA]; exact sb_cell S4.out R (by omega) (p) (by omega)
                      have hvA : ltInt xA yA = false := by rw [hxA, hyA]; exact hlv
                      have HVA := Lib.hid hvA
                      clear hxA hyA hiNA hjNA hvA
                      go_wp2_with fail
                      go_quiet ((go_at_call 94; exact Calls.quiet_of_same (less_q _ _ _ HVA.out _)))
                      have SL := Lib.hid (SW.drewN S4.out nq)
                      clear laA lbA HVA S4
                      generalize wc.drewN nq = wl at SL ⊢
                      clear nq eiA piA biA riA ejA pjA bjA rjA
                      go_wp2
                      go_meet
                      case rel => exact ⟨true, rfl, SL, Lib.hid fun _ => ⟨by omega, HLV.out⟩⟩
                  · have hxz : ¬ (0 : Int) < (x : Int) := by omega
                    have hxd : decide ((0 : Int) < (x : Int)) = false := decide_eq_false (by omega)
                    have hxe : decide (0 < x) = false := decide_eq_false hx0
                    go_wp2_with fail
                    go_quiet (fail)
                    have SL := Lib.hid (SW.drewN S4.out nq)
                    go_wp2
                    go_meet
                    case rel => exact ⟨false, rfl, SL, Lib.hid (by intro h; cases h)⟩
                case rest =>
                  clear S4
                  obtain ⟨q, rfl, S5, HQ⟩ := hcut
                  cases q with
                  | true =>
                    obtain ⟨hx0, hnl⟩ := HQ.out (by first | rfl | trivial)
                    have HNL := Lib.hid hnl
                    clear hnl HQ
                    go_wp2_with fail
                    refine (parEq_any blk off cap x y p n d0 d3 w0 _ R hs0 hs3 S5.out hp1 hp2 hyn hsz).mono ?_
                    rintro e w6 ⟨m, d4, rfl, hx, hS6⟩
                    have S6 := Lib.hid hS6
                    obtain ⟨r1, r2, r3, r4, r5⟩ := round_eq swo_ltInt (partitionEqual_holds ltInt) hx0 hp1 hp2 (by omega) HL3.out HNL.out hx
                    have R4 : Hid (LowB m y d4) := Lib.hid r4
                    have R5 : Hid (Fin a b d m y d4) := Lib.hid fun r h1 h2 => HF3.out r (r5 r h1 h2).1 (r5 r h1 h2).2
                    have hs4 : d4.size = n := r3.trans hs3
                    clear hx hS6 S5 r3 r4 r5 HL3 HF3 HNL
                    go_wp2_with fail
                    go_roundg (y - m)
                    case measure => omega
                    case rel => exact ⟨m, y, l', wb, wp, d4, rfl, rfl, rfl, rfl, rfl, r2, hyn, hl', Nat.le_refl _, by omega, hs4, S6, R4, R5⟩
                  | false =>
                    clear HQ
                    go_wp2_with fail
                    refine (part_any blk off cap x y p n d0 d3 w0 _ R hs0 hs3 S5.out hp1 hp2 hyn hsz).mono ?_
                    rintro e w6 ⟨m, ap, d4, rfl, hx, hS6⟩
                    have S6 := Lib.hid hS6
                    obtain ⟨r1, r2, r3, r4, r5, r6, r7⟩ := round_part swo_ltInt (partition_holds ltInt) hp1 hp2 (by omega) HL3.out hx
                    have hs4 : d4.size = n := r3.trans hs3
                    have R4 := Lib.hid r4
                    have R5 := Lib.hid r5
                    have R6 := Lib.hid r6
                    have R7 := Lib.hid r7
                    clear hx hS6 S5 r3 r4 r5 r6 r7 HL3
                    have hL0 : (0 : Int) ≤ (L : Int) := by omega
                    have hm9 : (m : Int) ≤ 2305843009213693952 := by omega
                    have hm0 : (x : Int) ≤ (m : Int) := by omega
                    have hm1 : (m : Int) < (y : Int) := by omega
                    have hy9 : (y : Int) ≤ 2305843009213693952 := by omega
                    by_cases hml : m - x < y - m
                    · have hmz : (m : Int) - (x : Int) < (y : Int) - (m : Int) := by omega
                      go_wp2_with (go_at_call 86; (refine (HIH.out (m - x) (by omega) blk off cap x m l' d0 d4 w0 _ R hs0 hs4 S6.out r1 (by omega) R4.out hl' (Nat.le_refl _)).mono ?_); rintro e w7 ⟨d5, rfl, q1, q2, hS7⟩; have S7 := Lib.hid hS7; have HR := Lib.hid (R6.out d5 q1 q2); have hs5 : d5.size = n := q1.1.trans hs4; clear q1 q2 hS7)
                      go_roundg (y - (m + 1))
                      case measure => omega
                      case rel => exact ⟨m + 1, y, l', _, ap, d5, by go_num, rfl, rfl, rfl, rfl, by omega, hyn, hl', Nat.le_refl _, by omega, hs5, S7, Lib.hid HR.out.1, Lib.hid fun r h1 h2 => HF3.out r (HR.out.2 r h1 h2).1 (HR.out.2 r h1 h2).2⟩
                    · have hmz : ¬ (m : Int) - (x : Int) < (y : Int) - (m : Int) := by omega
                      have HCL : Hid (∀ W, SB w0 blk off d4 W → Calls Try.prog 86 #[.slice (some ⟨blk, off, none⟩) n cap, .int .i64 ((m : Int) + 1), .int .i64 y, .int .i64 l'] W (Srt w0 blk off d4 (m + 1) y)) := Lib.hid fun W hW => HIH.out (y - (m + 1)) (by omega) blk off cap (m + 1) y l' d0 d4 w0 W R hs0 hs4 hW (by omega) hyn R5.out hl' (Nat.le_refl _)
                      go_wp2_with (go_at_call 86; (refine (HCL.out _ S6.out).mono ?_); rintro e w7 ⟨d5, rfl, q1, q2, hS7⟩; have S7 := Lib.hid hS7; have HR := Lib.hid (R7.out d5 q1 q2); have hs5 : d5.size = n := q1.1.trans hs4; clear q1 q2 hS7)
                      go_roundg (m - x)
                      case measure => omega
                      case rel => exact ⟨x, m, l', _, ap, d5, rfl, rfl, rfl, rfl, rfl, r1, by omega, hl', Nat.le_refl _, by omega, hs5, S7, Lib.hid HR.out.1, Lib.hid fun r h1 h2 => HF3.out r (HR.out.2 r h1 h2).1 (HR.out.2 r h1 h2).2⟩
end Go.Proofs.Ytoldfejclimhgaa

