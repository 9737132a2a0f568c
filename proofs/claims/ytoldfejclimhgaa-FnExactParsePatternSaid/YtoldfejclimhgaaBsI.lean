/- BYTES SORTED: partialInsertionSortOrdered. -/
import Derived.Test.YtoldfejclimhgaaBsH
namespace Go.Proofs.Ytoldfejclimhgaa
open Go.RowKit Go.Sort

section
variable {α : Type} [Inhabited α] (lt : α → α → Bool)
theorem ss_go {b q : Nat} {d : Array α} (h : q + 1 < b) (hp : lt d[q + 1]! d[q]! = false) : scanSorted lt d b (q + 1) = scanSorted lt d b (q + 1 + 1) := by
  rw [scanSorted]; simp [h, hp]
theorem ss_stop {b q : Nat} {d : Array α} (h : b ≤ q + 1 ∨ lt d[q + 1]! d[q]! = true) : scanSorted lt d b (q + 1) = q + 1 := by
  rw [scanSorted]
  rcases h with h | h
  · simp [Nat.not_lt.2 h]
  · simp [h]
theorem sd_stop {j : Nat} {d : Array α} (h : lt d[j + 1]! d[j]! = false) : shiftDown lt (j + 1) d = d := by rw [shiftDown, h]; rfl
theorem sd_go {j : Nat} {d : Array α} (h : lt d[j + 1]! d[j]! = true) : shiftDown lt (j + 1) d = shiftDown lt j (swp d (j + 1) j) := by rw [shiftDown, h]; rfl
theorem su_end {b j : Nat} {d : Array α} (h : ¬ j < b) : shiftUp lt b j d = d := by rw [shiftUp, if_neg h]
theorem su_stop {b j : Nat} {d : Array α} (h : j + 1 < b) (hl : lt d[j + 1]! d[j]! = false) : shiftUp lt b (j + 1) d = d := by
  rw [shiftUp, if_pos h]; simp only [Nat.add_sub_cancel]; rw [hl]; rfl
theorem su_go {b j : Nat} {d : Array α} (h : j + 1 < b) (hl : lt d[j + 1]! d[j]! = true) : shiftUp lt b (j + 1) d = shiftUp lt b (j + 1 + 1) (swp d (j + 1) j) := by
  rw [shiftUp, if_pos h]; simp only [Nat.add_sub_cancel]; rw [hl]; rfl
theorem pi_true {a b s i I : Nat} {d : Array α} (hI : scanSorted lt d b i = I) (h : I = b) : partialIns lt a b (s + 1) i d = (d, true) := by
  rw [partialIns]; simp only [hI, h, if_pos]
theorem pi_short {a b s i I : Nat} {d : Array α} (hI : scanSorted lt d b i = I) (h : I ≠ b) (h2 : b - a < 50) : partialIns lt a b (s + 1) i d = (d, false) := by
  rw [partialIns]; simp only [hI]; rw [if_neg h, if_pos h2]
theorem pi_step {a b s i I : Nat} {d d1 d2 d3 : Array α} (hI : scanSorted lt d b i = I) (h : I ≠ b) (h2 : ¬ b - a < 50) (e1 : d1 = swp d I (I - 1)) (e2 : d2 = if 2 ≤ I - a then shiftDown lt (I - 1) d1 else d1) (e3 : d3 = if 2 ≤ b - I then shiftUp lt b (I + 1) d2 else d2) : partialIns lt a b (s + 1) i d = partialIns lt a b s I d3 := by
  rw [partialIns]; simp only [hI]; rw [if_neg h, if_neg h2]
  subst e1; subst e2; subst e3
  rfl
end
def PIn (w0 : World) (blk off : Nat) (d : Array Int) (a b : Nat) (e : Ending) (w' : World) : Prop := ∃ (ok : Bool) (d' : Array Int), e = .returned (.bool ok) ∧ partialInsertionSort ltInt d a b = (d', ok) ∧ SB w0 blk off d' w'
set_option maxRecDepth 100000 in
set_option maxHeartbeats 8000000 in
theorem pins_any (blk off cap a b n : Nat) (d0 d : Array Int) (w0 w : World) (R : RB w0 blk off d0) (hs0 : d0.size = n) (hsd : d.size = n) (S : SB w0 blk off d w) (hab : a < b) (hb : b ≤ n) (hsz : n < 2305843009213693952) :
    Calls Try.prog 93 #[.slice (some ⟨blk, off, none⟩) n cap, .int .i64 a, .int .i64 b] w (PIn w0 blk off d a b) := by
  have S0 := Lib.hid S
  clear S
  go_enter Try.func93, Try.ntmps93
  go_wp2
  go_loopg [7, 8] 5 (fun g1 vi vt wr => ∃ (t i : Nat) (dk : Array Int), vi = .int .i64 i ∧ vt = .int .i64 t ∧ t ≤ 5 ∧ 5 - t ≤ g1 ∧ a + 1 ≤ i ∧ i ≤ b ∧ dk.size = n ∧ Hid (SB w0 blk off dk wr) ∧ Hid (partialIns ltInt a b (5 - t) i dk = partialIns ltInt a b 5 (a + 1) d))
  case atStart => exact ⟨0, a + 1, d, by go_num, rfl, by omega, by omega, by omega, by omega, hsd, S0, Lib.hid rfl⟩
  case round =>
    clear S0
    obtain ⟨t, i, dk, rfl, rfl, ht5, hg1, hai, hib, hsk, S1, HO⟩ := hrel
    by_cases htl : t < 5
    · have htz : (t : Int) < 5 := by omega
      obtain ⟨s, hs⟩ : ∃ s, s = 5 - (t + 1) := ⟨_, rfl⟩
      have HS := Lib.hid hs
      have HO2 : Hid (partialIns ltInt a b (s + 1) i dk = partialIns ltInt a b 5 (a + 1) d) := Lib.hid (by rw [hs, show 5 - (t + 1) + 1 = 5 - t by omega]; exact HO.out)
      clear hs HO
      go_upto_block 2 with fail
      go_cut [7] (fun vi wx => ∃ x : Nat, vi = .int .i64 x ∧ i ≤ x ∧ x ≤ b ∧ Hid (SB w0 blk off dk wx) ∧ Hid (scanSorted ltInt dk b i = x))
      case first =>
        go_wp2_with fail
        go_loopg [7] (b - i) (fun g2 vi wr => ∃ x : Nat, vi = .int .i64 x ∧ i ≤ x ∧ x ≤ b ∧ b - x ≤ g2 ∧ Hid (SB w0 blk off dk wr) ∧ Hid (scanSorted ltInt dk b i = scanSorted ltInt dk b x))
        case atStart => exact ⟨i, rfl, Nat.le_refl _, hib, Nat.le_refl _, S1, Lib.hid rfl⟩
        case round =>
          clear S1
          obtain ⟨x, rfl, hx1, hx2, hg2, SU, HU⟩ := hrel
          obtain ⟨xp, rfl⟩ : ∃ xp, x = xp + 1 := ⟨x - 1, by omega⟩
          by_cases hle : xp + 1 < b
          · have hg3 : decide (xp + 1 < b) = true := by simp; omega
            have hg4 : (xp : Int) + 1 < (b : Int) := by omega
            have hg5 : decide ((xp : Int) + 1 < (b : Int)) = true := by simp; omega
            cases hlv : ltInt dk[xp + 1]! dk[xp]! with
            | false =>
              have HN := Lib.hid (HU.out.trans (ss_go ltInt hle hlv))
              go_wp2_with fail
              obtain ⟨iNA, hiNA⟩ : ∃ zq, zq = xp + 1 := ⟨_, rfl⟩
              have eiA : ((xp : Int) + 1).toNat = iNA := by omega
              have piA : (0 : Int) ≤ (xp : Int) + 1 := by omega
              have biA : (xp : Int) + 1 < (n : Int) := by omega
              have riA : IntKind.i64.wrap ((xp : Int) + 1) = (xp : Int) + 1 := by rw [IntKind.wrap_i64]; omega
              obtain ⟨jNA, hjNA⟩ : ∃ zq, zq = xp := ⟨_, rfl⟩
              have ejA : ((xp : Int)).toNat = jNA := by omega
              have pjA : (0 : Int) ≤ (xp : Int) := by omega
              have bjA : (xp : Int) < (n : Int) := by omega
              have rjA : IntKind.i64.wrap ((xp : Int)) = (xp : Int) := by rw [IntKind.wrap_i64]; omega
              obtain ⟨xA, hxA⟩ : ∃ zx, zx = dk[xp + 1]! := ⟨_, rfl⟩
              obtain ⟨yA, hyA⟩ : ∃ zx, zx = dk[xp]! := ⟨_, rfl⟩
              have laA : wr.cell? ⟨blk, off + iNA, none⟩ = some (.int .u8 xA) := by rw [hiNA, hxA]; exact sb_cell SU.out R (by omega) (xp + 1) (by omega)
              have lbA : wr.cell? ⟨blk, off + jNA, none⟩ = some (.int .u8 yA) := by rw [hjNA, hyA]; exact sb_cell SU.out R (by omega) (xp) (by omega)
              have hvA : ltInt xA yA = false := by rw [hxA, hyA]; exact hlv
              have HVA := Lib.hid hvA
              clear hxA hyA hiNA hjNA hvA
              go_wp2_with fail
              go_quiet ((go_at_call 94; exact Calls.quiet_of_same (less_q _ _ _ HVA.out _)))
              have SL := Lib.hid (SW.drewN SU.out nq)
              clear laA lbA HVA SU
              generalize wr.drewN nq = wl at SL ⊢
              clear nq eiA piA biA riA ejA pjA bjA rjA
              go_wp2
              go_roundg (b - (xp + 1 + 1))
              case measure => omega
              case rel => exact ⟨xp + 1 + 1, by go_num, by omega, by omega, Nat.le_refl _, SL, HN⟩
            | true =>
              have HN := Lib.hid (HU.out.trans (ss_stop ltInt (.inr hlv)))
              go_wp2_with fail
              obtain ⟨iNB, hiNB⟩ : ∃ zq, zq = xp + 1 := ⟨_, rfl⟩
              have eiB : ((xp : Int) + 1).toNat = iNB := by omega
              have piB : (0 : Int) ≤ (xp : Int) + 1 := by omega
              have biB : (xp : Int) + 1 < (n : Int) := by omega
              have riB : IntKind.i64.wrap ((xp : Int) + 1) = (xp : Int) + 1 := by rw [IntKind.wrap_i64]; omega
              obtain ⟨jNB, hjNB⟩ : ∃ zq, zq = xp := ⟨_, rfl⟩
              have ejB : ((xp : Int)).toNat = jNB := by omega
              have pjB : (0 : Int) ≤ (xp : Int) := by omega
              have bjB : (xp : Int) < (n : Int) := by omega
              have rjB : IntKind.i64.wrap ((xp : Int)) = (xp : Int) := by rw [IntKind.wrap_i64]; omega
              obtain ⟨xB, hxB⟩ : ∃ zx, zx = dk[xp + 1]! := ⟨_, rfl⟩
              obtain ⟨yB, hyB⟩ : ∃ zx, zx = dk[xp]! := ⟨_, rfl⟩
              have laB : wr.cell? ⟨blk, off + iNB, none⟩ = some (.int .u8 xB) := by rw [hiNB, hxB]; exact sb_cell SU.out R (by omega) (xp + 1) (by omega)
              have lbB : wr.cell? ⟨blk, off + jNB, none⟩ = some (.int .u8 yB) := by rw [hjNB, hyB]; exact sb_cell SU.out R (by omega) (xp) (by omega)
              have hvB : ltInt xB yB = true := by rw [hxB, hyB]; exact hlv
              have HVB := Lib.hid hvB
              clear hxB hyB hiNB hjNB hvB
              go_wp2_with fail
              go_quiet ((go_at_call 94; exact Calls.quiet_of_same (less_q _ _ _ HVB.out _)))
              have SL := Lib.hid (SW.drewN SU.out nq)
              clear laB lbB HVB SU
              generalize wr.drewN nq = wl at SL ⊢
              clear nq eiB piB biB riB ejB pjB bjB rjB
              go_wp2
              go_meet
              case rel => exact ⟨xp + 1, by first | rfl | go_num, hx1, hx2, SL, HN⟩
          · have hg3 : decide (xp + 1 < b) = false := by simp; omega
            have hg4 : ¬ (xp : Int) + 1 < (b : Int) := by omega
            have hg5 : decide ((xp : Int) + 1 < (b : Int)) = false := by simp; omega
            have HN := Lib.hid (HU.out.trans (ss_stop ltInt (.inl (by omega))))
            go_wp2_with fail
            go_quiet (fail)
            have SL := Lib.hid (SW.drewN SU.out nq)
            generalize wr.drewN nq = wl at SL ⊢
            go_wp2
            go_meet
            case rel => exact ⟨xp + 1, by first | rfl | go_num, hx1, hx2, SL, HN⟩
      case rest =>
        clear S1
        obtain ⟨I, rfl, hI1, hI2, S3, HI⟩ := hcut
        by_cases hIb : I = b
        · have hz : ((I : Int) == (b : Int)) = true := by rw [hIb]; simp
          have hz2 : (I == b) = true := by rw [hIb]; simp
          have HE := Lib.hid (HO2.out.symm.trans (pi_true ltInt HI.out hIb))
          clear hIb
          go_wp2
          go_ret
          exact ⟨true, dk, rfl, HE.out, S3.out⟩
        · have hz : ((I : Int) == (b : Int)) = false := by rw [beq_eq_false_iff_ne]; omega
          have hz2 : (I == b) = false := by rw [beq_eq_false_iff_ne]; omega
          have HIb := Lib.hid hIb
          have hIlt : I < b := by omega
          clear hIb
          have hba9 : (b : Int) - (a : Int) ≤ 2305843009213693952 := by omega
          by_cases h50 : b - a < 50
          · have h50z : (b : Int) - (a : Int) < 50 := by omega
            have HE := Lib.hid (HO2.out.symm.trans (pi_short ltInt HI.out HIb.out h50))
            go_wp2
            go_ret
            exact ⟨false, dk, rfl, HE.out, S3.out⟩
          · have h50z : ¬ (b : Int) - (a : Int) < 50 := by omega
            obtain ⟨Ip, rfl⟩ : ∃ Ip, I = Ip + 1 := ⟨I - 1, by omega⟩
            go_wp2_with fail
            obtain ⟨iNC, hiNC⟩ : ∃ zq, zq = Ip + 1 := ⟨_, rfl⟩
            have eiC : ((Ip : Int) + 1).toNat = iNC := by omega
            have piC : (0 : Int) ≤ (Ip : Int) + 1 := by omega
            have biC : (Ip : Int) + 1 < (n : Int) := by omega
            have riC : IntKind.i64.wrap ((Ip : Int) + 1) = (Ip : Int) + 1 := by rw [IntKind.wrap_i64]; omega
            obtain ⟨jNC, hjNC⟩ : ∃ zq, zq = Ip := ⟨_, rfl⟩
            have ejC : ((Ip : Int)).toNat = jNC := by omega
            have pjC : (0 : Int) ≤ (Ip : Int) := by omega
            have bjC : (Ip : Int) < (n : Int) := by omega
            have rjC : IntKind.i64.wrap ((Ip : Int)) = (Ip : Int) := by rw [IntKind.wrap_i64]; omega
            obtain ⟨xC, hxC⟩ : ∃ zx, zx = dk[Ip + 1]! := ⟨_, rfl⟩
            obtain ⟨yC, hyC⟩ : ∃ zx, zx = dk[Ip]! := ⟨_, rfl⟩
            have S4 : Hid (SB w0 blk off (swp dk (Ip + 1) (Ip)) ((wc.setCell ⟨blk, off + iNC, none⟩ (.int .u8 yC)).setCell ⟨blk, off + jNC, none⟩ (.int .u8 xC)).drew) := Lib.hid (by rw [hiNC, hjNC, hxC, hyC]; exact sb_swap S3.out R (Ip + 1) (Ip) (by omega) (by omega))
            have caC : wc.cell? ⟨blk, off + iNC, none⟩ = some (.int .u8 xC) := by rw [hiNC, hxC]; exact sb_cell S3.out R (by omega) (Ip + 1) (by omega)
            have cbC : wc.cell? ⟨blk, off + jNC, none⟩ = some (.int .u8 yC) := by rw [hjNC, hyC]; exact sb_cell S3.out R (by omega) (Ip) (by omega)
            have faC : wc.frozen? ⟨blk, off + iNC, none⟩ = false := by rw [hiNC]; exact SW.f1 S3.out R (by omega) (Ip + 1) (by omega)
            have fbC : wc.frozen? ⟨blk, off + jNC, none⟩ = false := by rw [hjNC]; exact SW.f1 S3.out R (by omega) (Ip) (by omega)
            obtain ⟨uC, ccC⟩ : ∃ u, (wc.setCell ⟨blk, off + iNC, none⟩ (.int .u8 yC)).cell? ⟨blk, off + jNC, none⟩ = some u := by rw [hiNC, hjNC]; exact SW.c2 S3.out R (by omega) (Ip + 1) (Ip) (by omega) (by omega) (.int .u8 yC)
            clear S3 hxC hyC hiNC hjNC
            go_wp2_with fail
            go_region
            clear caC cbC ccC faC fbC
            generalize ((wc.setCell ⟨blk, off + iNC, none⟩ (.int .u8 yC)).setCell ⟨blk, off + jNC, none⟩ (.int .u8 xC)).drew = w4 at S4 ⊢
            clear eiC piC biC riC ejC pjC bjC rjC
            obtain ⟨d1, hd1⟩ : ∃ d1, d1 = swp dk (Ip + 1) Ip := ⟨_, rfl⟩
            have hs1 : d1.size = n := by rw [hd1, size_swp]; exact hsk
            have HD1 := Lib.hid hd1
            rw [← hd1] at S4
            clear hd1
            go_upto_if 61 with fail
            go_cut [9] (fun v9 wx => ∃ dm : Array Int, dm.size = n ∧ Hid (SB w0 blk off dm wx) ∧ Hid (dm = if 2 ≤ Ip + 1 - a then shiftDown ltInt Ip d1 else d1))
            case first =>
              by_cases h2 : 2 ≤ Ip + 1 - a
              · have h2z : (2 : Int) ≤ (Ip : Int) + 1 - (a : Int) := by omega
                have h2d : decide ((2 : Int) ≤ (Ip : Int) + 1 - (a : Int)) = true := by simp; omega
                have HIF : Hid ((if 2 ≤ Ip + 1 - a then shiftDown ltInt Ip d1 else d1) = shiftDown ltInt Ip d1) := Lib.hid (if_pos h2)
                go_wp2_with fail
                go_loopg [9] Ip (fun g2 vj wr => ∃ (x : Nat) (dj : Array Int), vj = .int .i64 x ∧ x ≤ Ip ∧ x ≤ g2 ∧ dj.size = n ∧ Hid (SB w0 blk off dj wr) ∧ Hid (shiftDown ltInt x dj = shiftDown ltInt Ip d1))
                case atStart => exact ⟨Ip, d1, by first | rfl | go_num, Nat.le_refl _, Nat.le_refl _, hs1, S4, Lib.hid rfl⟩
                case round =>
                  clear S4
                  obtain ⟨x, dj, rfl, hx1, hg2, hsj, SU, HU⟩ := hrel
                  by_cases hx0 : 1 ≤ x
                  · obtain ⟨xp, rfl⟩ : ∃ xp, x = xp + 1 := ⟨x - 1, by omega⟩
                    have hxz : (1 : Int) ≤ (xp : Int) + 1 := by omega
                    cases hlv : ltInt dj[xp + 1]! dj[xp]! with
                    | true =>
                      have HN := Lib.hid ((sd_go ltInt hlv).symm.trans HU.out)
                      go_wp2_with fail
                      obtain ⟨iND, hiND⟩ : ∃ zq, zq = xp + 1 := ⟨_, rfl⟩
                      have eiD : ((xp : Int) + 1).toNat = iND := by omega
                      have piD : (0 : Int) ≤ (xp : Int) + 1 := by omega
                      have biD : (xp : Int) + 1 < (n : Int) := by omega
                      have riD : IntKind.i64.wrap ((xp : Int) + 1) = (xp : Int) + 1 := by rw [IntKind.wrap_i64]; omega
                      obtain ⟨jND, hjND⟩ : ∃ zq, zq = xp := ⟨_, rfl⟩
                      have ejD : ((xp : Int)).toNat = jND := by omega
                      have pjD : (0 : Int) ≤ (xp : Int) := by omega
                      have bjD : (xp : Int) < (n : Int) := by omega
                      have rjD : IntKind.i64.wrap ((xp : Int)) = (xp : Int) := by rw [IntKind.wrap_i64]; omega
                      obtain ⟨xD, hxD⟩ : ∃ zx, zx = dj[xp + 1]! := ⟨_, rfl⟩
                      obtain ⟨yD, hyD⟩ : ∃ zx, zx = dj[xp]! := ⟨_, rfl⟩
                      have laD : wr.cell? ⟨blk, off + iND, none⟩ = some (.int .u8 xD) := by rw [hiND, hxD]; exact sb_cell SU.out R (by omega) (xp + 1) (by omega)
                      have lbD : wr.cell? ⟨blk, off + jND, none⟩ = some (.int .u8 yD) := by rw [hjND, hyD]; exact sb_cell SU.out R (by omega) (xp) (by omega)
                      have hvD : ltInt xD yD = true := by rw [hxD, hyD]; exact hlv
                      have HVD := Lib.hid hvD
                      clear hxD hyD hiND hjND hvD
                      go_wp2_with fail
                      go_quiet ((go_at_call 94; exact Calls.quiet_of_same (less_q _ _ _ HVD.out _)))
                      have SL := Lib.hid (SW.drewN SU.out nq)
                      clear laD lbD HVD SU
                      generalize wr.drewN nq = wl at SL ⊢
                      clear nq eiD piD biD riD ejD pjD bjD rjD
                      go_wp2_with fail
                      obtain ⟨iNE, hiNE⟩ : ∃ zq, zq = xp + 1 := ⟨_, rfl⟩
                      have eiE : ((xp : Int) + 1).toNat = iNE := by omega
                      have piE : (0 : Int) ≤ (xp : Int) + 1 := by omega
                      have biE : (xp : Int) + 1 < (n : Int) := by omega
                      have riE : IntKind.i64.wrap ((xp : Int) + 1) = (xp : Int) + 1 := by rw [IntKind.wrap_i64]; omega
                      obtain ⟨jNE, hjNE⟩ : ∃ zq, zq = xp := ⟨_, rfl⟩
                      have ejE : ((xp : Int)).toNat = jNE := by omega
                      have pjE : (0 : Int) ≤ (xp : Int) := by omega
                      have bjE : (xp : Int) < (n : Int) := by omega
                      have rjE : IntKind.i64.wrap ((xp : Int)) = (xp : Int) := by rw [IntKind.wrap_i64]; omega
                      obtain ⟨xE, hxE⟩ : ∃ zx, zx = dj[xp + 1]! := ⟨_, rfl⟩
                      obtain ⟨yE, hyE⟩ : ∃ zx, zx = dj[xp]! := ⟨_, rfl⟩
                      have S6 : Hid (SB w0 blk off (swp dj (xp + 1) (xp)) ((wl.setCell ⟨blk, off + iNE, none⟩ (.int .u8 yE)).setCell ⟨blk, off + jNE, none⟩ (.int .u8 xE)).drew) := Lib.hid (by rw [hiNE, hjNE, hxE, hyE]; exact sb_swap SL.out R (xp + 1) (xp) (by omega) (by omega))
                      have caE : wl.cell? ⟨blk, off + iNE, none⟩ = some (.int .u8 xE) := by rw [hiNE, hxE]; exact sb_cell SL.out R (by omega) (xp + 1) (by omega)
                      have cbE : wl.cell? ⟨blk, off + jNE, none⟩ = some (.int .u8 yE) := by rw [hjNE, hyE]; exact sb_cell SL.out R (by omega) (xp) (by omega)
                      have faE : wl.frozen? ⟨blk, off + iNE, none⟩ = false := by rw [hiNE]; exact SW.f1 SL.out R (by omega) (xp + 1) (by omega)
                      have fbE : wl.frozen? ⟨blk, off + jNE, none⟩ = false := by rw [hjNE]; exact SW.f1 SL.out R (by omega) (xp) (by omega)
                      obtain ⟨uE, ccE⟩ : ∃ u, (wl.setCell ⟨blk, off + iNE, none⟩ (.int .u8 yE)).cell? ⟨blk, off + jNE, none⟩ = some u := by rw [hiNE, hjNE]; exact SW.c2 SL.out R (by omega) (xp + 1) (xp) (by omega) (by omega) (.int .u8 yE)
                      clear SL hxE hyE hiNE hjNE
                      go_wp2_with fail
                      go_region
                      clear caE cbE ccE faE fbE
                      generalize ((wl.setCell ⟨blk, off + iNE, none⟩ (.int .u8 yE)).setCell ⟨blk, off + jNE, none⟩ (.int .u8 xE)).drew = w6 at S6 ⊢
                      clear eiE piE biE riE ejE pjE bjE rjE
                      go_wp2
                      go_roundg xp
                      case measure => omega
                      case rel => exact ⟨xp, swp dj (xp + 1) xp, by go_num, by omega, Nat.le_refl _, by rw [size_swp]; exact hsj, S6, HN⟩
                    | false =>
                      have HN := Lib.hid ((sd_stop ltInt hlv).symm.trans HU.out)
                      go_wp2_with fail
                      obtain ⟨iND, hiND⟩ : ∃ zq, zq = xp + 1 := ⟨_, rfl⟩
                      have eiD : ((xp : Int) + 1).toNat = iND := by omega
                      have piD : (0 : Int) ≤ (xp : Int) + 1 := by omega
                      have biD : (xp : Int) + 1 < (n : Int) := by omega
                      have riD : IntKind.i64.wrap ((xp : Int) + 1) = (xp : Int) + 1 := by rw [IntKind.wrap_i64]; omega
                      obtain ⟨jND, hjND⟩ : ∃ zq, zq = xp := ⟨_, rfl⟩
                      have ejD : ((xp : Int)).toNat = jND := by omega
                      have pjD : (0 : Int) ≤ (xp : Int) := by omega
                      have bjD : (xp : Int) < (n : Int) := by omega
                      have rjD : IntKind.i64.wrap ((xp : Int)) = (xp : Int) := by rw [IntKind.wrap_i64]; omega
                      obtain ⟨xD, hxD⟩ : ∃ zx, zx = dj[xp + 1]! := ⟨_, rfl⟩
                      obtain ⟨yD, hyD⟩ : ∃ zx, zx = dj[xp]! := ⟨_, rfl⟩
                      have laD : wr.cell? ⟨blk, off + iND, none⟩ = some (.int .u8 xD) := by rw [hiND, hxD]; exact sb_cell SU.out R (by omega) (xp + 1) (by omega)
                      have lbD : wr.cell? ⟨blk, off + jND, none⟩ = some (.int .u8 yD) := by rw [hjND, hyD]; exact sb_cell SU.out R (by omega) (xp) (by omega)
                      have hvD : ltInt xD yD = false := by rw [hxD, hyD]; exact hlv
                      have HVD := Lib.hid hvD
                      clear hxD hyD hiND hjND hvD
                      go_wp2_with fail
                      go_quiet ((go_at_call 94; exact Calls.quiet_of_same (less_q _ _ _ HVD.out _)))
                      have SL := Lib.hid (SW.drewN SU.out nq)
                      clear laD lbD HVD SU
                      generalize wr.drewN nq = wl at SL ⊢
                      clear nq eiD piD biD riD ejD pjD bjD rjD
                      go_wp2
                      go_meet
                      case rel => exact ⟨dj, hsj, SL, Lib.hid (HN.out.trans HIF.out.symm)⟩
                  · obtain rfl : x = 0 := by omega
                    have hxz : ¬ (1 : Int) ≤ ((0 : Nat) : Int) := by omega
                    have HN : Hid (dj = shiftDown ltInt Ip d1) := HU
                    go_wp2
                    go_meet
                    case rel => exact ⟨dj, hsj, SU, Lib.hid (HN.out.trans HIF.out.symm)⟩
              · have h2z : ¬ (2 : Int) ≤ (Ip : Int) + 1 - (a : Int) := by omega
                have h2d : decide ((2 : Int) ≤ (Ip : Int) + 1 - (a : Int)) = false := by simp; omega
                have HIF : Hid ((if 2 ≤ Ip + 1 - a then shiftDown ltInt Ip d1 else d1) = d1) := Lib.hid (if_neg h2)
                go_wp2
                go_meet
                case rel => exact ⟨d1, hs1, S4, Lib.hid HIF.out.symm⟩
            case rest =>
              clear S4
              obtain ⟨d2, hs2, S5, HD2⟩ := hcut
              have HSTF : Hid (∀ d3, d3 = (if 2 ≤ b - (Ip + 1) then shiftUp ltInt b (Ip + 1 + 1) d2 else d2) → partialIns ltInt a b (5 - (t + 1)) (Ip + 1) d3 = partialIns ltInt a b 5 (a + 1) d) := Lib.hid fun d3 e3 => by
                rw [← HS.out]; exact (pi_step ltInt HI.out HIb.out h50 HD1.out HD2.out e3).symm.trans HO2.out
              by_cases h2 : 2 ≤ b - (Ip + 1)
              · have h2z : (2 : Int) ≤ (b : Int) - ((Ip : Int) + 1) := by omega
                have h2d : decide ((2 : Int) ≤ (b : Int) - ((Ip : Int) + 1)) = true := by simp; omega
                have HIF : Hid ((if 2 ≤ b - (Ip + 1) then shiftUp ltInt b (Ip + 1 + 1) d2 else d2) = shiftUp ltInt b (Ip + 1 + 1) d2) := Lib.hid (if_pos h2)
                go_wp2_with fail
                go_loopg [10] b (fun g2 vj wr => ∃ (x : Nat) (dj : Array Int), vj = .int .i64 (x + 1 : Nat) ∧ Ip + 1 ≤ x ∧ x + 1 ≤ b ∧ b - x ≤ g2 ∧ dj.size = n ∧ Hid (SB w0 blk off dj wr) ∧ Hid (shiftUp ltInt b (x + 1) dj = shiftUp ltInt b (Ip + 1 + 1) d2))
                case atStart => exact ⟨Ip + 1, d2, by first | rfl | go_num, Nat.le_refl _, by omega, by omega, hs2, S5, Lib.hid rfl⟩
                case round =>
                  clear S5
                  obtain ⟨xp, dj, rfl, hx1, hx2, hg2, hsj, SU, HU⟩ := hrel
                  by_cases hx0 : xp + 1 < b
                  · have hxz : (xp : Int) + 1 < (b : Int) := by omega
                    cases hlv : ltInt dj[xp + 1]! dj[xp]! with
                    | true =>
                      have HN := Lib.hid ((su_go ltInt hx0 hlv).symm.trans HU.out)
                      go_wp2_with fail
                      obtain ⟨iND, hiND⟩ : ∃ zq, zq = xp + 1 := ⟨_, rfl⟩
                      have eiD : ((xp : Int) + 1).toNat = iND := by omega
                      have piD : (0 : Int) ≤ (xp : Int) + 1 := by omega
                      have biD : (xp : Int) + 1 < (n : Int) := by omega
                      have riD : IntKind.i64.wrap ((xp : Int) + 1) = (xp : Int) + 1 := by rw [IntKind.wrap_i64]; omega
                      obtain ⟨jND, hjND⟩ : ∃ zq, zq = xp := ⟨_, rfl⟩
                      have ejD : ((xp : Int)).toNat = jND := by omega
                      have pjD : (0 : Int) ≤ (xp : Int) := by omega
                      have bjD : (xp : Int) < (n : Int) := by omega
                      have rjD : IntKind.i64.wrap ((xp : Int)) = (xp : Int) := by rw [IntKind.wrap_i64]; omega
                      obtain ⟨xD, hxD⟩ : ∃ zx, zx = dj[xp + 1]! := ⟨_, rfl⟩
                      obtain ⟨yD, hyD⟩ : ∃ zx, zx = dj[xp]! := ⟨_, rfl⟩
                      have laD : wr.cell? ⟨blk, off + iND, none⟩ = some (.int .u8 xD) := by rw [hiND, hxD]; exact sb_cell SU.out R (by omega) (xp + 1) (by omega)
                      have lbD : wr.cell? ⟨blk, off + jND, none⟩ = some (.int .u8 yD) := by rw [hjND, hyD]; exact sb_cell SU.out R (by omega) (xp) (by omega)
                      have hvD : ltInt xD yD = true := by rw [hxD, hyD]; exact hlv
                      have HVD := Lib.hid hvD
                      clear hxD hyD hiND hjND hvD
                      go_wp2_with fail
                      go_quiet ((go_at_call 94; exact Calls.quiet_of_same (less_q _ _ _ HVD.out _)))
                      have SL := Lib.hid (SW.drewN SU.out nq)
                      clear laD lbD HVD SU
                      generalize wr.drewN nq = wl at SL ⊢
                      clear nq eiD piD biD riD ejD pjD bjD rjD
                      go_wp2_with fail
                      obtain ⟨iNE, hiNE⟩ : ∃ zq, zq = xp + 1 := ⟨_, rfl⟩
                      have eiE : ((xp : Int) + 1).toNat = iNE := by omega
                      have piE : (0 : Int) ≤ (xp : Int) + 1 := by omega
                      have biE : (xp : Int) + 1 < (n : Int) := by omega
                      have riE : IntKind.i64.wrap ((xp : Int) + 1) = (xp : Int) + 1 := by rw [IntKind.wrap_i64]; omega
                      obtain ⟨jNE, hjNE⟩ : ∃ zq, zq = xp := ⟨_, rfl⟩
                      have ejE : ((xp : Int)).toNat = jNE := by omega
                      have pjE : (0 : Int) ≤ (xp : Int) := by omega
                      have bjE : (xp : Int) < (n : Int) := by omega
                      have rjE : IntKind.i64.wrap ((xp : Int)) = (xp : Int) := by rw [IntKind.wrap_i64]; omega
                      obtain ⟨xE, hxE⟩ : ∃ zx, zx = dj[xp + 1]! := ⟨_, rfl⟩
                      obtain ⟨yE, hyE⟩ : ∃ zx, zx = dj[xp]! := ⟨_, rfl⟩
                      have S6 : Hid (SB w0 blk off (swp dj (xp + 1) (xp)) ((wl.setCell ⟨blk, off + iNE, none⟩ (.int .u8 yE)).setCell ⟨blk, off + jNE, none⟩ (.int .u8 xE)).drew) := Lib.hid (by rw [hiNE, hjNE, hxE, hyE]; exact sb_swap SL.out R (xp + 1) (xp) (by omega) (by omega))
                      have caE : wl.cell? ⟨blk, off + iNE, none⟩ = some (.int .u8 xE) := by rw [hiNE, hxE]; exact sb_cell SL.out R (by omega) (xp + 1) (by omega)
                      have cbE : wl.cell? ⟨blk, off + jNE, none⟩ = some (.int .u8 yE) := by rw [hjNE, hyE]; exact sb_cell SL.out R (by omega) (xp) (by omega)
                      have faE : wl.frozen? ⟨blk, off + iNE, none⟩ = false := by rw [hiNE]; exact SW.f1 SL.out R (by omega) (xp + 1) (by omega)
                      have fbE : wl.frozen? ⟨blk, off + jNE, none⟩ = false := by rw [hjNE]; exact SW.f1 SL.out R (by omega) (xp) (by omega)
                      obtain ⟨uE, ccE⟩ : ∃ u, (wl.setCell ⟨blk, off + iNE, none⟩ (.int .u8 yE)).cell? ⟨blk, off + jNE, none⟩ = some u := by rw [hiNE, hjNE]; exact SW.c2 SL.out R (by omega) (xp + 1) (xp) (by omega) (by omega) (.int .u8 yE)
                      clear SL hxE hyE hiNE hjNE
                      go_wp2_with fail
                      go_region
                      clear caE cbE ccE faE fbE
                      generalize ((wl.setCell ⟨blk, off + iNE, none⟩ (.int .u8 yE)).setCell ⟨blk, off + jNE, none⟩ (.int .u8 xE)).drew = w6 at S6 ⊢
                      clear eiE piE biE riE ejE pjE bjE rjE
                      go_wp2
                      go_roundg (b - (xp + 1))
                      case measure => omega
                      case rel => exact ⟨xp + 1, swp dj (xp + 1) xp, by go_num, by omega, by omega, Nat.le_refl _, by rw [size_swp]; exact hsj, S6, HN⟩
                    | false =>
                      have HN := Lib.hid ((su_stop ltInt hx0 hlv).symm.trans HU.out)
                      go_wp2_with fail
                      obtain ⟨iND, hiND⟩ : ∃ zq, zq = xp + 1 := ⟨_, rfl⟩
                      have eiD : ((xp : Int) + 1).toNat = iND := by omega
                      have piD : (0 : Int) ≤ (xp : Int) + 1 := by omega
                      have biD : (xp : Int) + 1 < (n : Int) := by omega
                      have riD : IntKind.i64.wrap ((xp : Int) + 1) = (xp : Int) + 1 := by rw [IntKind.wrap_i64]; omega
                      obtain ⟨jND, hjND⟩ : ∃ zq, zq = xp := ⟨_, rfl⟩
                      have ejD : ((xp : Int)).toNat = jND := by omega
                      have pjD : (0 : Int) ≤ (xp : Int) := by omega
                      have bjD : (xp : Int) < (n : Int) := by omega
                      have rjD : IntKind.i64.wrap ((xp : Int)) = (xp : Int) := by rw [IntKind.wrap_i64]; omega
                      obtain ⟨xD, hxD⟩ : ∃ zx, zx = dj[xp + 1]! := ⟨_, rfl⟩
                      obtain ⟨yD, hyD⟩ : ∃ zx, zx = dj[xp]! := ⟨_, rfl⟩
                      have laD : wr.cell? ⟨blk, off + iND, none⟩ = some (.int .u8 xD) := by rw [hiND, hxD]; exact sb_cell SU.out R (by omega) (xp + 1) (by omega)
                      have lbD : wr.cell? ⟨blk, off + jND, none⟩ = some (.int .u8 yD) := by rw [hjND, hyD]; exact sb_cell SU.out R (by omega) (xp) (by omega)
                      have hvD : ltInt xD yD = false := by rw [hxD, hyD]; exact hlv
                      have HVD := Lib.hid hvD
                      clear hxD hyD hiND hjND hvD
                      go_wp2_with fail
                      go_quiet ((go_at_call 94; exact Calls.quiet_of_same (less_q _ _ _ HVD.out _)))
                      have SL := Lib.hid (SW.drewN SU.out nq)
                      clear laD lbD HVD SU
                      generalize wr.drewN nq = wl at SL ⊢
                      clear nq eiD piD biD riD ejD pjD bjD rjD
                      go_wp2
                      go_roundg (5 - (t + 1))
                      case measure => omega
                      case rel => exact ⟨t + 1, Ip + 1, dj, by go_num, by go_num, by omega, Nat.le_refl _, by omega, by omega, hsj, SL, Lib.hid (HSTF.out dj (HN.out.trans HIF.out.symm))⟩
                  · have hxz : ¬ (xp : Int) + 1 < (b : Int) := by omega
                    have HN := Lib.hid ((su_end ltInt hx0).symm.trans HU.out)
                    go_wp2
                    go_roundg (5 - (t + 1))
                    case measure => omega
                    case rel => exact ⟨t + 1, Ip + 1, dj, by go_num, by go_num, by omega, Nat.le_refl _, by omega, by omega, hsj, SU, Lib.hid (HSTF.out dj (HN.out.trans HIF.out.symm))⟩
              · have h2z : ¬ (2 : Int) ≤ (b : Int) - ((Ip : Int) + 1) := by omega
                have h2d : decide ((2 : Int) ≤ (b : Int) - ((Ip : Int) + 1)) = false := by simp; omega
                have HIF : Hid ((if 2 ≤ b - (Ip + 1) then shiftUp ltInt b (Ip + 1 + 1) d2 else d2) = d2) := Lib.hid (if_neg h2)
                go_wp2
                go_roundg (5 - (t + 1))
                case measure => omega
                case rel => exact ⟨t + 1, Ip + 1, d2, by go_num, by go_num, by omega, Nat.le_refl _, by omega, by omega, hs2, S5, Lib.hid (HSTF.out d2 HIF.out.symm)⟩
    · obtain rfl : t = 5 := by omega
      have htz : ¬ ((5 : Nat) : Int) < 5 := by omega
      have HE : Hid ((dk, false) = partialIns ltInt a b 5 (a + 1) d) := HO
      go_wp2
      go_ret
      exact ⟨false, dk, rfl, HE.out.symm, S1.out⟩
end Go.Proofs.Ytoldfejclimhgaa
