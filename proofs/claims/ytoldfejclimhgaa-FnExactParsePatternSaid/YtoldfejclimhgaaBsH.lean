/- BYTES SORTED: partitionOrdered. -/
import Derived.Test.YtoldfejclimhgaaBsG
namespace Go.Proofs.Ytoldfejclimhgaa
open Go.RowKit Go.Sort

def Prt (w0 : World) (blk off : Nat) (d : Array Int) (a b pv : Nat) (e : Ending) (w' : World) : Prop := ∃ (m : Nat) (ap : Bool) (d' : Array Int), e = .returned (.tuple #[.int .i64 m, .bool ap]) ∧ partition ltInt d a b pv = (m, ap, d') ∧ SB w0 blk off d' w'
theorem par_early {d : Array Int} {a b pv I J : Nat} {ds : Array Int} (hds : ds = swp d a pv) (hI : scanUp (fun z => ltInt z ds[a]!) ds (b - 1) (a + 1) = I) (hJ : scanDown (fun z => !ltInt z ds[a]!) ds I (b - 1) = J) (h : J < I) : partition ltInt d a b pv = (J, true, swp ds J a) := by
  subst hds; subst hI; subst hJ
  unfold partition
  simp only []
  rw [if_pos (by omega)]
theorem par_late {d : Array Int} {a b pv I J m : Nat} {ds dm : Array Int} (hds : ds = swp d a pv) (hI : scanUp (fun z => ltInt z ds[a]!) ds (b - 1) (a + 1) = I) (hJ : scanDown (fun z => !ltInt z ds[a]!) ds I (b - 1) = J) (h : I ≤ J) (hm : partLoop ltInt a (I + 1) (J - 1) (swp ds I J) = (m, dm)) : partition ltInt d a b pv = (m, false, swp dm m a) := by
  subst hds; subst hI; subst hJ
  unfold partition
  simp only []
  rw [if_neg (by omega), hm]
set_option maxRecDepth 100000 in
set_option maxHeartbeats 8000000 in
theorem part_any (blk off cap a b pv n : Nat) (d0 d : Array Int) (w0 w : World) (R : RB w0 blk off d0) (hs0 : d0.size = n) (hsd : d.size = n) (S : SB w0 blk off d w) (hap : a ≤ pv) (hpb : pv < b) (hb : b ≤ n) (hsz : n < 2305843009213693952) :
    Calls Try.prog 96 #[.slice (some ⟨blk, off, none⟩) n cap, .int .i64 a, .int .i64 b, .int .i64 pv] w (Prt w0 blk off d a b pv) := by
  have S0 := Lib.hid S
  clear S
  obtain ⟨b1, hb1⟩ : ∃ b1, b1 = b - 1 := ⟨_, rfl⟩
  have hbz : (b : Int) - 1 = (b1 : Int) := by omega
  obtain ⟨a1, ha1⟩ : ∃ a1, a1 = a + 1 := ⟨_, rfl⟩
  have haz : (a : Int) + 1 = (a1 : Int) := by omega
  have HA1 := Lib.hid ha1
  have HB1 := Lib.hid hb1
  have la1 : a < a1 := by omega
  have la2 : a1 ≤ a + 1 := by omega
  have lb1 : b1 < b := by omega
  have lb2 : b ≤ b1 + 1 := by omega
  clear ha1 hb1
  go_enter Try.func96, Try.ntmps96
  go_wp2_with fail
  obtain ⟨iNA, hiNA⟩ : ∃ zq, zq = a := ⟨_, rfl⟩
  have eiA : ((a : Int)).toNat = iNA := by omega
  have piA : (0 : Int) ≤ (a : Int) := by omega
  have biA : (a : Int) < (n : Int) := by omega
  have riA : IntKind.i64.wrap ((a : Int)) = (a : Int) := by rw [IntKind.wrap_i64]; omega
  obtain ⟨jNA, hjNA⟩ : ∃ zq, zq = pv := ⟨_, rfl⟩
  have ejA : ((pv : Int)).toNat = jNA := by omega
  have pjA : (0 : Int) ≤ (pv : Int) := by omega
  have bjA : (pv : Int) < (n : Int) := by omega
  have rjA : IntKind.i64.wrap ((pv : Int)) = (pv : Int) := by rw [IntKind.wrap_i64]; omega
  obtain ⟨xA, hxA⟩ : ∃ zx, zx = d[a]! := ⟨_, rfl⟩
  obtain ⟨yA, hyA⟩ : ∃ zx, zx = d[pv]! := ⟨_, rfl⟩
  have S1 : Hid (SB w0 blk off (swp d (a) (pv)) ((w.setCell ⟨blk, off + iNA, none⟩ (.int .u8 yA)).setCell ⟨blk, off + jNA, none⟩ (.int .u8 xA)).drew) := Lib.hid (by rw [hiNA, hjNA, hxA, hyA]; exact sb_swap S0.out R (a) (pv) (by omega) (by omega))
  have caA : w.cell? ⟨blk, off + iNA, none⟩ = some (.int .u8 xA) := by rw [hiNA, hxA]; exact sb_cell S0.out R (by omega) (a) (by omega)
  have cbA : w.cell? ⟨blk, off + jNA, none⟩ = some (.int .u8 yA) := by rw [hjNA, hyA]; exact sb_cell S0.out R (by omega) (pv) (by omega)
  have faA : w.frozen? ⟨blk, off + iNA, none⟩ = false := by rw [hiNA]; exact SW.f1 S0.out R (by omega) (a) (by omega)
  have fbA : w.frozen? ⟨blk, off + jNA, none⟩ = false := by rw [hjNA]; exact SW.f1 S0.out R (by omega) (pv) (by omega)
  obtain ⟨uA, ccA⟩ : ∃ u, (w.setCell ⟨blk, off + iNA, none⟩ (.int .u8 yA)).cell? ⟨blk, off + jNA, none⟩ = some u := by rw [hiNA, hjNA]; exact SW.c2 S0.out R (by omega) (a) (pv) (by omega) (by omega) (.int .u8 yA)
  clear S0 hxA hyA hiNA hjNA
  go_wp2_with fail
  go_region
  clear caA cbA ccA faA fbA
  generalize ((w.setCell ⟨blk, off + iNA, none⟩ (.int .u8 yA)).setCell ⟨blk, off + jNA, none⟩ (.int .u8 xA)).drew = w1 at S1 ⊢
  clear eiA piA biA riA ejA pjA bjA rjA
  have hsw : (swp d a pv).size = n := by rw [size_swp]; exact hsd
  obtain ⟨ds, hds⟩ : ∃ ds, ds = swp d a pv := ⟨_, rfl⟩
  have HDS := Lib.hid hds
  rw [← hds] at S1 hsw
  clear hds
  go_upto_block 0 with fail
  go_cut [10] (fun vi wx => ∃ x : Nat, vi = .int .i64 x ∧ a1 ≤ x ∧ x ≤ b1 + 1 ∧ Hid (SB w0 blk off ds wx) ∧ Hid (scanUp (fun z => ltInt z ds[a]!) ds b1 a1 = x))
  case first =>
    go_wp2_with fail
    go_loopg [10] (b1 + 1 - a1) (fun g2 vi wr => ∃ x : Nat, vi = .int .i64 x ∧ a1 ≤ x ∧ x ≤ b1 + 1 ∧ b1 + 1 - x ≤ g2 ∧ Hid (SB w0 blk off ds wr) ∧ Hid (scanUp (fun z => ltInt z ds[a]!) ds b1 a1 = scanUp (fun z => ltInt z ds[a]!) ds b1 x))
    case atStart => exact ⟨a1, rfl, by omega, by omega, Nat.le_refl _, S1, Lib.hid rfl⟩
    case round =>
      clear S1
      obtain ⟨x, rfl, hx1, hx2, hg2, SU, HU⟩ := hrel
      by_cases hle : x ≤ b1
      · have hg3 : decide (x ≤ b1) = true := by simp; omega
        have hg4 : (x : Int) ≤ (b1 : Int) := by omega
        cases hlv : ltInt ds[x]! ds[a]! with
        | true =>
          have HN := Lib.hid (HU.out.trans (up_go (p := fun z => ltInt z ds[a]!) (by omega) (by simp [hlv])))
          go_wp2_with fail
          obtain ⟨iNUg, hiNUg⟩ : ∃ zq, zq = x := ⟨_, rfl⟩
          have eiUg : ((x : Int)).toNat = iNUg := by omega
          have piUg : (0 : Int) ≤ (x : Int) := by omega
          have biUg : (x : Int) < (n : Int) := by omega
          have riUg : IntKind.i64.wrap ((x : Int)) = (x : Int) := by rw [IntKind.wrap_i64]; omega
          obtain ⟨jNUg, hjNUg⟩ : ∃ zq, zq = a := ⟨_, rfl⟩
          have ejUg : ((a : Int)).toNat = jNUg := by omega
          have pjUg : (0 : Int) ≤ (a : Int) := by omega
          have bjUg : (a : Int) < (n : Int) := by omega
          have rjUg : IntKind.i64.wrap ((a : Int)) = (a : Int) := by rw [IntKind.wrap_i64]; omega
          obtain ⟨xUg, hxUg⟩ : ∃ zx, zx = ds[x]! := ⟨_, rfl⟩
          obtain ⟨yUg, hyUg⟩ : ∃ zx, zx = ds[a]! := ⟨_, rfl⟩
          have laUg : wr.cell? ⟨blk, off + iNUg, none⟩ = some (.int .u8 xUg) := by rw [hiNUg, hxUg]; exact sb_cell SU.out R (by omega) (x) (by omega)
          have lbUg : wr.cell? ⟨blk, off + jNUg, none⟩ = some (.int .u8 yUg) := by rw [hjNUg, hyUg]; exact sb_cell SU.out R (by omega) (a) (by omega)
          have hvUg : ltInt xUg yUg = true := by rw [hxUg, hyUg]; exact hlv
          have HVUg := Lib.hid hvUg
          clear hxUg hyUg hiNUg hjNUg hvUg
          go_wp2_with fail
          go_quiet ((go_at_call 94; exact Calls.quiet_of_same (less_q _ _ _ HVUg.out _)))
          have SL := Lib.hid (SW.drewN SU.out nq)
          clear laUg lbUg HVUg SU
          generalize wr.drewN nq = wl at SL ⊢
          clear nq eiUg piUg biUg riUg ejUg pjUg bjUg rjUg
          go_wp2
          go_roundg (b1 + 1 - (x + 1))
          case measure => omega
          case rel => exact ⟨x + 1, by go_num, by omega, by omega, Nat.le_refl _, SL, HN⟩
        | false =>
          have HN := Lib.hid (HU.out.trans (up_stop (p := fun z => ltInt z ds[a]!) (.inr (by simp [hlv]))))
          go_wp2_with fail
          obtain ⟨iNUs, hiNUs⟩ : ∃ zq, zq = x := ⟨_, rfl⟩
          have eiUs : ((x : Int)).toNat = iNUs := by omega
          have piUs : (0 : Int) ≤ (x : Int) := by omega
          have biUs : (x : Int) < (n : Int) := by omega
          have riUs : IntKind.i64.wrap ((x : Int)) = (x : Int) := by rw [IntKind.wrap_i64]; omega
          obtain ⟨jNUs, hjNUs⟩ : ∃ zq, zq = a := ⟨_, rfl⟩
          have ejUs : ((a : Int)).toNat = jNUs := by omega
          have pjUs : (0 : Int) ≤ (a : Int) := by omega
          have bjUs : (a : Int) < (n : Int) := by omega
          have rjUs : IntKind.i64.wrap ((a : Int)) = (a : Int) := by rw [IntKind.wrap_i64]; omega
          obtain ⟨xUs, hxUs⟩ : ∃ zx, zx = ds[x]! := ⟨_, rfl⟩
          obtain ⟨yUs, hyUs⟩ : ∃ zx, zx = ds[a]! := ⟨_, rfl⟩
          have laUs : wr.cell? ⟨blk, off + iNUs, none⟩ = some (.int .u8 xUs) := by rw [hiNUs, hxUs]; exact sb_cell SU.out R (by omega) (x) (by omega)
          have lbUs : wr.cell? ⟨blk, off + jNUs, none⟩ = some (.int .u8 yUs) := by rw [hjNUs, hyUs]; exact sb_cell SU.out R (by omega) (a) (by omega)
          have hvUs : ltInt xUs yUs = false := by rw [hxUs, hyUs]; exact hlv
          have HVUs := Lib.hid hvUs
          clear hxUs hyUs hiNUs hjNUs hvUs
          go_wp2_with fail
          go_quiet ((go_at_call 94; exact Calls.quiet_of_same (less_q _ _ _ HVUs.out _)))
          have SL := Lib.hid (SW.drewN SU.out nq)
          clear laUs lbUs HVUs SU
          generalize wr.drewN nq = wl at SL ⊢
          clear nq eiUs piUs biUs riUs ejUs pjUs bjUs rjUs
          go_wp2
          go_meet
          case rel => exact ⟨x, by first | rfl | go_num, hx1, hx2, SL, HN⟩
      · have hg3 : decide (x ≤ b1) = false := by simp; omega
        have hg4 : ¬ (x : Int) ≤ (b1 : Int) := by omega
        have HN := Lib.hid (HU.out.trans (up_stop (p := fun z => ltInt z ds[a]!) (.inl (by omega))))
        go_wp2_with fail
        go_quiet (fail)
        have SL := Lib.hid (SW.drewN SU.out nq)
        generalize wr.drewN nq = wl at SL ⊢
        go_wp2
        go_meet
        case rel => exact ⟨x, rfl, hx1, hx2, SL, HN⟩
  case rest =>
    clear S1
    obtain ⟨I, rfl, hI1, hI2, S3, HI⟩ := hcut
    go_upto_block 2 with fail
    go_cut [11] (fun vi wx => ∃ x : Nat, vi = .int .i64 x ∧ I ≤ x + 1 ∧ x ≤ b1 ∧ Hid (SB w0 blk off ds wx) ∧ Hid (scanDown (fun z => !ltInt z ds[a]!) ds I b1 = x))
    case first =>
      go_wp2_with fail
      go_loopg [11] (b1) (fun g2 vi wr => ∃ x : Nat, vi = .int .i64 x ∧ I ≤ x + 1 ∧ x ≤ b1 ∧ x ≤ g2 ∧ Hid (SB w0 blk off ds wr) ∧ Hid (scanDown (fun z => !ltInt z ds[a]!) ds I b1 = scanDown (fun z => !ltInt z ds[a]!) ds I x))
      case atStart => exact ⟨b1, rfl, by omega, by omega, Nat.le_refl _, S3, Lib.hid rfl⟩
      case round =>
        clear S3
        obtain ⟨x, rfl, hx1, hx2, hg2, SU, HU⟩ := hrel
        by_cases hle : I ≤ x
        · obtain ⟨xp, rfl⟩ : ∃ xp, x = xp + 1 := ⟨x - 1, by omega⟩
          have hg3 : decide (I ≤ xp + 1) = true := by simp; omega
          have hg4 : (I : Int) ≤ (xp : Int) + 1 := by omega
          have hg5 : decide ((I : Int) ≤ (xp : Int) + 1) = true := by simp; omega
          cases hlv : ltInt ds[xp + 1]! ds[a]! with
          | false =>
            have HN := Lib.hid (HU.out.trans (down_go (p := fun z => !ltInt z ds[a]!) (by omega) (by simp [hlv])))
            go_wp2_with fail
            obtain ⟨iNVg, hiNVg⟩ : ∃ zq, zq = xp + 1 := ⟨_, rfl⟩
            have eiVg : ((xp : Int) + 1).toNat = iNVg := by omega
            have piVg : (0 : Int) ≤ (xp : Int) + 1 := by omega
            have biVg : (xp : Int) + 1 < (n : Int) := by omega
            have riVg : IntKind.i64.wrap ((xp : Int) + 1) = (xp : Int) + 1 := by rw [IntKind.wrap_i64]; omega
            obtain ⟨jNVg, hjNVg⟩ : ∃ zq, zq = a := ⟨_, rfl⟩
            have ejVg : ((a : Int)).toNat = jNVg := by omega
            have pjVg : (0 : Int) ≤ (a : Int) := by omega
            have bjVg : (a : Int) < (n : Int) := by omega
            have rjVg : IntKind.i64.wrap ((a : Int)) = (a : Int) := by rw [IntKind.wrap_i64]; omega
            obtain ⟨xVg, hxVg⟩ : ∃ zx, zx = ds[xp + 1]! := ⟨_, rfl⟩
            obtain ⟨yVg, hyVg⟩ : ∃ zx, zx = ds[a]! := ⟨_, rfl⟩
            have laVg : wr.cell? ⟨blk, off + iNVg, none⟩ = some (.int .u8 xVg) := by rw [hiNVg, hxVg]; exact sb_cell SU.out R (by omega) (xp + 1) (by omega)
            have lbVg : wr.cell? ⟨blk, off + jNVg, none⟩ = some (.int .u8 yVg) := by rw [hjNVg, hyVg]; exact sb_cell SU.out R (by omega) (a) (by omega)
            have hvVg : ltInt xVg yVg = false := by rw [hxVg, hyVg]; exact hlv
            have HVVg := Lib.hid hvVg
            clear hxVg hyVg hiNVg hjNVg hvVg
            go_wp2_with fail
            go_quiet ((go_at_call 94; exact Calls.quiet_of_same (less_q _ _ _ HVVg.out _)))
            have SL := Lib.hid (SW.drewN SU.out nq)
            clear laVg lbVg HVVg SU
            generalize wr.drewN nq = wl at SL ⊢
            clear nq eiVg piVg biVg riVg ejVg pjVg bjVg rjVg
            go_wp2
            go_roundg xp
            case measure => omega
            case rel => exact ⟨xp, by go_num, by omega, by omega, Nat.le_refl _, SL, HN⟩
          | true =>
            have HN := Lib.hid (HU.out.trans (down_stop (p := fun z => !ltInt z ds[a]!) (.inr (by simp [hlv]))))
            go_wp2_with fail
            obtain ⟨iNVs, hiNVs⟩ : ∃ zq, zq = xp + 1 := ⟨_, rfl⟩
            have eiVs : ((xp : Int) + 1).toNat = iNVs := by omega
            have piVs : (0 : Int) ≤ (xp : Int) + 1 := by omega
            have biVs : (xp : Int) + 1 < (n : Int) := by omega
            have riVs : IntKind.i64.wrap ((xp : Int) + 1) = (xp : Int) + 1 := by rw [IntKind.wrap_i64]; omega
            obtain ⟨jNVs, hjNVs⟩ : ∃ zq, zq = a := ⟨_, rfl⟩
            have ejVs : ((a : Int)).toNat = jNVs := by omega
            have pjVs : (0 : Int) ≤ (a : Int) := by omega
            have bjVs : (a : Int) < (n : Int) := by omega
            have rjVs : IntKind.i64.wrap ((a : Int)) = (a : Int) := by rw [IntKind.wrap_i64]; omega
            obtain ⟨xVs, hxVs⟩ : ∃ zx, zx = ds[xp + 1]! := ⟨_, rfl⟩
            obtain ⟨yVs, hyVs⟩ : ∃ zx, zx = ds[a]! := ⟨_, rfl⟩
            have laVs : wr.cell? ⟨blk, off + iNVs, none⟩ = some (.int .u8 xVs) := by rw [hiNVs, hxVs]; exact sb_cell SU.out R (by omega) (xp + 1) (by omega)
            have lbVs : wr.cell? ⟨blk, off + jNVs, none⟩ = some (.int .u8 yVs) := by rw [hjNVs, hyVs]; exact sb_cell SU.out R (by omega) (a) (by omega)
            have hvVs : ltInt xVs yVs = true := by rw [hxVs, hyVs]; exact hlv
            have HVVs := Lib.hid hvVs
            clear hxVs hyVs hiNVs hjNVs hvVs
            go_wp2_with fail
            go_quiet ((go_at_call 94; exact Calls.quiet_of_same (less_q _ _ _ HVVs.out _)))
            have SL := Lib.hid (SW.drewN SU.out nq)
            clear laVs lbVs HVVs SU
            generalize wr.drewN nq = wl at SL ⊢
            clear nq eiVs piVs biVs riVs ejVs pjVs bjVs rjVs
            go_wp2
            go_meet
            case rel => exact ⟨xp + 1, by first | rfl | go_num, hx1, hx2, SL, HN⟩
        · have hg3 : decide (I ≤ x) = false := by simp; omega
          have hg4 : ¬ (I : Int) ≤ (x : Int) := by omega
          have HN := Lib.hid (HU.out.trans (down_stop (p := fun z => !ltInt z ds[a]!) (.inl (by omega))))
          go_wp2_with fail
          go_quiet (fail)
          have SL := Lib.hid (SW.drewN SU.out nq)
          generalize wr.drewN nq = wl at SL ⊢
          go_wp2
          go_meet
          case rel => exact ⟨x, rfl, hx1, hx2, SL, HN⟩
    case rest =>
      clear S3
      obtain ⟨J, rfl, hJ1, hJ2, S4, HJ⟩ := hcut
      have HI2 : Hid (scanUp (fun z => ltInt z ds[a]!) ds (b - 1) (a + 1) = I) := Lib.hid (by rw [← HA1.out, ← HB1.out]; exact HI.out)
      have HJ2 : Hid (scanDown (fun z => !ltInt z ds[a]!) ds I (b - 1) = J) := Lib.hid (by rw [← HB1.out]; exact HJ.out)
      by_cases hIJ : J < I
      · have hz : (J : Int) < (I : Int) := by omega
        have hz2 : decide (J < I) = true := by simp; omega
        have HPAR := Lib.hid (par_early HDS.out HI2.out HJ2.out hIJ)
        go_wp2_with fail
        obtain ⟨iNE, hiNE⟩ : ∃ zq, zq = J := ⟨_, rfl⟩
        have eiE : ((J : Int)).toNat = iNE := by omega
        have piE : (0 : Int) ≤ (J : Int) := by omega
        have biE : (J : Int) < (n : Int) := by omega
        have riE : IntKind.i64.wrap ((J : Int)) = (J : Int) := by rw [IntKind.wrap_i64]; omega
        obtain ⟨jNE, hjNE⟩ : ∃ zq, zq = a := ⟨_, rfl⟩
        have ejE : ((a : Int)).toNat = jNE := by omega
        have pjE : (0 : Int) ≤ (a : Int) := by omega
        have bjE : (a : Int) < (n : Int) := by omega
        have rjE : IntKind.i64.wrap ((a : Int)) = (a : Int) := by rw [IntKind.wrap_i64]; omega
        obtain ⟨xE, hxE⟩ : ∃ zx, zx = ds[J]! := ⟨_, rfl⟩
        obtain ⟨yE, hyE⟩ : ∃ zx, zx = ds[a]! := ⟨_, rfl⟩
        have S5 : Hid (SB w0 blk off (swp ds (J) (a)) ((wc.setCell ⟨blk, off + iNE, none⟩ (.int .u8 yE)).setCell ⟨blk, off + jNE, none⟩ (.int .u8 xE)).drew) := Lib.hid (by rw [hiNE, hjNE, hxE, hyE]; exact sb_swap S4.out R (J) (a) (by omega) (by omega))
        have caE : wc.cell? ⟨blk, off + iNE, none⟩ = some (.int .u8 xE) := by rw [hiNE, hxE]; exact sb_cell S4.out R (by omega) (J) (by omega)
        have cbE : wc.cell? ⟨blk, off + jNE, none⟩ = some (.int .u8 yE) := by rw [hjNE, hyE]; exact sb_cell S4.out R (by omega) (a) (by omega)
        have faE : wc.frozen? ⟨blk, off + iNE, none⟩ = false := by rw [hiNE]; exact SW.f1 S4.out R (by omega) (J) (by omega)
        have fbE : wc.frozen? ⟨blk, off + jNE, none⟩ = false := by rw [hjNE]; exact SW.f1 S4.out R (by omega) (a) (by omega)
        obtain ⟨uE, ccE⟩ : ∃ u, (wc.setCell ⟨blk, off + iNE, none⟩ (.int .u8 yE)).cell? ⟨blk, off + jNE, none⟩ = some u := by rw [hiNE, hjNE]; exact SW.c2 S4.out R (by omega) (J) (a) (by omega) (by omega) (.int .u8 yE)
        clear S4 hxE hyE hiNE hjNE
        go_wp2_with fail
        go_region
        clear caE cbE ccE faE fbE
        generalize ((wc.setCell ⟨blk, off + iNE, none⟩ (.int .u8 yE)).setCell ⟨blk, off + jNE, none⟩ (.int .u8 xE)).drew = w5 at S5 ⊢
        clear eiE piE biE riE ejE pjE bjE rjE
        go_wp2
        refine bodyPost_ret (v := .tuple #[.int .i64 (J : Int), .bool true]) (by simp [results, Try.results96, go_sem]) rfl ?_
        exact ⟨J, true, _, rfl, HPAR.out, S5.out⟩
      · have hz : ¬ (J : Int) < (I : Int) := by omega
        have hz2 : decide (J < I) = false := by simp; omega
        have hlt := scan_apart (by simp) HI.out HJ.out (by omega) (by omega) (by omega : I ≤ J)
        obtain ⟨Jp, rfl⟩ : ∃ Jp, J = Jp + 1 := ⟨J - 1, by omega⟩
        have HLATE : Hid (∀ m dm, partLoop ltInt a (I + 1) Jp (swp ds I (Jp + 1)) = (m, dm) → partition ltInt d a b pv = (m, false, swp dm m a)) := Lib.hid fun m dm h => par_late HDS.out HI2.out HJ2.out (by omega) h
        go_wp2_with fail
        obtain ⟨iNE, hiNE⟩ : ∃ zq, zq = I := ⟨_, rfl⟩
        have eiE : ((I : Int)).toNat = iNE := by omega
        have piE : (0 : Int) ≤ (I : Int) := by omega
        have biE : (I : Int) < (n : Int) := by omega
        have riE : IntKind.i64.wrap ((I : Int)) = (I : Int) := by rw [IntKind.wrap_i64]; omega
        obtain ⟨jNE, hjNE⟩ : ∃ zq, zq = Jp + 1 := ⟨_, rfl⟩
        have ejE : ((Jp : Int) + 1).toNat = jNE := by omega
        have pjE : (0 : Int) ≤ (Jp : Int) + 1 := by omega
        have bjE : (Jp : Int) + 1 < (n : Int) := by omega
        have rjE : IntKind.i64.wrap ((Jp : Int) + 1) = (Jp : Int) + 1 := by rw [IntKind.wrap_i64]; omega
        obtain ⟨xE, hxE⟩ : ∃ zx, zx = ds[I]! := ⟨_, rfl⟩
        obtain ⟨yE, hyE⟩ : ∃ zx, zx = ds[Jp + 1]! := ⟨_, rfl⟩
        have S5 : Hid (SB w0 blk off (swp ds (I) (Jp + 1)) ((wc.setCell ⟨blk, off + iNE, none⟩ (.int .u8 yE)).setCell ⟨blk, off + jNE, none⟩ (.int .u8 xE)).drew) := Lib.hid (by rw [hiNE, hjNE, hxE, hyE]; exact sb_swap S4.out R (I) (Jp + 1) (by omega) (by omega))
        have caE : wc.cell? ⟨blk, off + iNE, none⟩ = some (.int .u8 xE) := by rw [hiNE, hxE]; exact sb_cell S4.out R (by omega) (I) (by omega)
        have cbE : wc.cell? ⟨blk, off + jNE, none⟩ = some (.int .u8 yE) := by rw [hjNE, hyE]; exact sb_cell S4.out R (by omega) (Jp + 1) (by omega)
        have faE : wc.frozen? ⟨blk, off + iNE, none⟩ = false := by rw [hiNE]; exact SW.f1 S4.out R (by omega) (I) (by omega)
        have fbE : wc.frozen? ⟨blk, off + jNE, none⟩ = false := by rw [hjNE]; exact SW.f1 S4.out R (by omega) (Jp + 1) (by omega)
        obtain ⟨uE, ccE⟩ : ∃ u, (wc.setCell ⟨blk, off + iNE, none⟩ (.int .u8 yE)).cell? ⟨blk, off + jNE, none⟩ = some u := by rw [hiNE, hjNE]; exact SW.c2 S4.out R (by omega) (I) (Jp + 1) (by omega) (by omega) (.int .u8 yE)
        clear S4 hxE hyE hiNE hjNE
        go_wp2_with fail
        go_region
        clear caE cbE ccE faE fbE
        generalize ((wc.setCell ⟨blk, off + iNE, none⟩ (.int .u8 yE)).setCell ⟨blk, off + jNE, none⟩ (.int .u8 xE)).drew = w5 at S5 ⊢
        clear eiE piE biE riE ejE pjE bjE rjE
        have hsw2 : (swp ds I (Jp + 1)).size = n := by rw [size_swp]; exact hsw
        obtain ⟨dt, hdt⟩ : ∃ dt, dt = swp ds I (Jp + 1) := ⟨_, rfl⟩
        rw [← hdt] at HLATE S5 hsw2
        clear hdt HI HJ HI2 HJ2 hz hz2 hIJ
        go_wp2_with fail
        go_loopg [10, 11] (Jp + 1 - (I + 1)) (fun g1 vi vj wr => ∃ (i j : Nat) (dk : Array Int), vi = .int .i64 i ∧ vj = .int .i64 j ∧ a < i ∧ i ≤ j + 1 ∧ j < b ∧ j + 1 - i ≤ g1 ∧ dk.size = n ∧ Hid (SB w0 blk off dk wr) ∧ Hid (partLoop ltInt a i j dk = partLoop ltInt a (I + 1) Jp dt))
        case atStart => exact ⟨I + 1, Jp, dt, by go_num, by go_num, by omega, by omega, by omega, Nat.le_refl _, hsw2, S5, Lib.hid rfl⟩
        case round =>
          clear S5 hI1 hI2 hJ1 hJ2 hlt
          obtain ⟨i, j, dk, rfl, rfl, hai, hij, hjb, hg1, hsk, S1, HO⟩ := hrel
          go_upto_block 6 with fail
          go_cut [10] (fun vi wx => ∃ x : Nat, vi = .int .i64 x ∧ i ≤ x ∧ x ≤ j + 1 ∧ Hid (SB w0 blk off dk wx) ∧ Hid (scanUp (fun z => ltInt z dk[a]!) dk j i = x))
          case first =>
            go_wp2_with fail
            go_loopg [10] (j + 1 - i) (fun g2 vi wr => ∃ x : Nat, vi = .int .i64 x ∧ i ≤ x ∧ x ≤ j + 1 ∧ j + 1 - x ≤ g2 ∧ Hid (SB w0 blk off dk wr) ∧ Hid (scanUp (fun z => ltInt z dk[a]!) dk j i = scanUp (fun z => ltInt z dk[a]!) dk j x))
            case atStart => exact ⟨i, rfl, by omega, by omega, Nat.le_refl _, S1, Lib.hid rfl⟩
            case round =>
              clear S1
              obtain ⟨x, rfl, hx1, hx2, hg2, SU, HU⟩ := hrel
              by_cases hle : x ≤ j
              · have hg3 : decide (x ≤ j) = true := by simp; omega
                have hg4 : (x : Int) ≤ (j : Int) := by omega
                cases hlv : ltInt dk[x]! dk[a]! with
                | true =>
                  have HN := Lib.hid (HU.out.trans (up_go (p := fun z => ltInt z dk[a]!) (by omega) (by simp [hlv])))
                  go_wp2_with fail
                  obtain ⟨iNXg, hiNXg⟩ : ∃ zq, zq = x := ⟨_, rfl⟩
                  have eiXg : ((x : Int)).toNat = iNXg := by omega
                  have piXg : (0 : Int) ≤ (x : Int) := by omega
                  have biXg : (x : Int) < (n : Int) := by omega
                  have riXg : IntKind.i64.wrap ((x : Int)) = (x : Int) := by rw [IntKind.wrap_i64]; omega
                  obtain ⟨jNXg, hjNXg⟩ : ∃ zq, zq = a := ⟨_, rfl⟩
                  have ejXg : ((a : Int)).toNat = jNXg := by omega
                  have pjXg : (0 : Int) ≤ (a : Int) := by omega
                  have bjXg : (a : Int) < (n : Int) := by omega
                  have rjXg : IntKind.i64.wrap ((a : Int)) = (a : Int) := by rw [IntKind.wrap_i64]; omega
                  obtain ⟨xXg, hxXg⟩ : ∃ zx, zx = dk[x]! := ⟨_, rfl⟩
                  obtain ⟨yXg, hyXg⟩ : ∃ zx, zx = dk[a]! := ⟨_, rfl⟩
                  have laXg : wr.cell? ⟨blk, off + iNXg, none⟩ = some (.int .u8 xXg) := by rw [hiNXg, hxXg]; exact sb_cell SU.out R (by omega) (x) (by omega)
                  have lbXg : wr.cell? ⟨blk, off + jNXg, none⟩ = some (.int .u8 yXg) := by rw [hjNXg, hyXg]; exact sb_cell SU.out R (by omega) (a) (by omega)
                  have hvXg : ltInt xXg yXg = true := by rw [hxXg, hyXg]; exact hlv
                  have HVXg := Lib.hid hvXg
                  clear hxXg hyXg hiNXg hjNXg hvXg
                  go_wp2_with fail
                  go_quiet ((go_at_call 94; exact Calls.quiet_of_same (less_q _ _ _ HVXg.out _)))
                  have SL := Lib.hid (SW.drewN SU.out nq)
                  clear laXg lbXg HVXg SU
                  generalize wr.drewN nq = wl at SL ⊢
                  clear nq eiXg piXg biXg riXg ejXg pjXg bjXg rjXg
                  go_wp2
                  go_roundg (j + 1 - (x + 1))
                  case measure => omega
                  case rel => exact ⟨x + 1, by go_num, by omega, by omega, Nat.le_refl _, SL, HN⟩
                | false =>
                  have HN := Lib.hid (HU.out.trans (up_stop (p := fun z => ltInt z dk[a]!) (.inr (by simp [hlv]))))
                  go_wp2_with fail
                  obtain ⟨iNXs, hiNXs⟩ : ∃ zq, zq = x := ⟨_, rfl⟩
                  have eiXs : ((x : Int)).toNat = iNXs := by omega
                  have piXs : (0 : Int) ≤ (x : Int) := by omega
                  have biXs : (x : Int) < (n : Int) := by omega
                  have riXs : IntKind.i64.wrap ((x : Int)) = (x : Int) := by rw [IntKind.wrap_i64]; omega
                  obtain ⟨jNXs, hjNXs⟩ : ∃ zq, zq = a := ⟨_, rfl⟩
                  have ejXs : ((a : Int)).toNat = jNXs := by omega
                  have pjXs : (0 : Int) ≤ (a : Int) := by omega
                  have bjXs : (a : Int) < (n : Int) := by omega
                  have rjXs : IntKind.i64.wrap ((a : Int)) = (a : Int) := by rw [IntKind.wrap_i64]; omega
                  obtain ⟨xXs, hxXs⟩ : ∃ zx, zx = dk[x]! := ⟨_, rfl⟩
                  obtain ⟨yXs, hyXs⟩ : ∃ zx, zx = dk[a]! := ⟨_, rfl⟩
                  have laXs : wr.cell? ⟨blk, off + iNXs, none⟩ = some (.int .u8 xXs) := by rw [hiNXs, hxXs]; exact sb_cell SU.out R (by omega) (x) (by omega)
                  have lbXs : wr.cell? ⟨blk, off + jNXs, none⟩ = some (.int .u8 yXs) := by rw [hjNXs, hyXs]; exact sb_cell SU.out R (by omega) (a) (by omega)
                  have hvXs : ltInt xXs yXs = false := by rw [hxXs, hyXs]; exact hlv
                  have HVXs := Lib.hid hvXs
                  clear hxXs hyXs hiNXs hjNXs hvXs
                  go_wp2_with fail
                  go_quiet ((go_at_call 94; exact Calls.quiet_of_same (less_q _ _ _ HVXs.out _)))
                  have SL := Lib.hid (SW.drewN SU.out nq)
                  clear laXs lbXs HVXs SU
                  generalize wr.drewN nq = wl at SL ⊢
                  clear nq eiXs piXs biXs riXs ejXs pjXs bjXs rjXs
                  go_wp2
                  go_meet
                  case rel => exact ⟨x, by first | rfl | go_num, hx1, hx2, SL, HN⟩
              · have hg3 : decide (x ≤ j) = false := by simp; omega
                have hg4 : ¬ (x : Int) ≤ (j : Int) := by omega
                have HN := Lib.hid (HU.out.trans (up_stop (p := fun z => ltInt z dk[a]!) (.inl (by omega))))
                go_wp2_with fail
                go_quiet (fail)
                have SL := Lib.hid (SW.drewN SU.out nq)
                generalize wr.drewN nq = wl at SL ⊢
                go_wp2
                go_meet
                case rel => exact ⟨x, rfl, hx1, hx2, SL, HN⟩
          case rest =>
            clear S1
            obtain ⟨I2, rfl, hI21, hI22, S3, HI2⟩ := hcut
            go_upto_block 8 with fail
            go_cut [11] (fun vi wx => ∃ x : Nat, vi = .int .i64 x ∧ I2 ≤ x + 1 ∧ x ≤ j ∧ Hid (SB w0 blk off dk wx) ∧ Hid (scanDown (fun z => !ltInt z dk[a]!) dk I2 j = x))
            case first =>
              go_wp2_with fail
              go_loopg [11] (j) (fun g2 vi wr => ∃ x : Nat, vi = .int .i64 x ∧ I2 ≤ x + 1 ∧ x ≤ j ∧ x ≤ g2 ∧ Hid (SB w0 blk off dk wr) ∧ Hid (scanDown (fun z => !ltInt z dk[a]!) dk I2 j = scanDown (fun z => !ltInt z dk[a]!) dk I2 x))
              case atStart => exact ⟨j, rfl, by omega, by omega, Nat.le_refl _, S3, Lib.hid rfl⟩
              case round =>
                clear S3
                obtain ⟨x, rfl, hx1, hx2, hg2, SU, HU⟩ := hrel
                by_cases hle : I2 ≤ x
                · obtain ⟨xp, rfl⟩ : ∃ xp, x = xp + 1 := ⟨x - 1, by omega⟩
                  have hg3 : decide (I2 ≤ xp + 1) = true := by simp; omega
                  have hg4 : (I2 : Int) ≤ (xp : Int) + 1 := by omega
                  have hg5 : decide ((I2 : Int) ≤ (xp : Int) + 1) = true := by simp; omega
                  cases hlv : ltInt dk[xp + 1]! dk[a]! with
                  | false =>
                    have HN := Lib.hid (HU.out.trans (down_go (p := fun z => !ltInt z dk[a]!) (by omega) (by simp [hlv])))
                    go_wp2_with fail
                    obtain ⟨iNYg, hiNYg⟩ : ∃ zq, zq = xp + 1 := ⟨_, rfl⟩
                    have eiYg : ((xp : Int) + 1).toNat = iNYg := by omega
                    have piYg : (0 : Int) ≤ (xp : Int) + 1 := by omega
                    have biYg : (xp : Int) + 1 < (n : Int) := by omega
                    have riYg : IntKind.i64.wrap ((xp : Int) + 1) = (xp : Int) + 1 := by rw [IntKind.wrap_i64]; omega
                    obtain ⟨jNYg, hjNYg⟩ : ∃ zq, zq = a := ⟨_, rfl⟩
                    have ejYg : ((a : Int)).toNat = jNYg := by omega
                    have pjYg : (0 : Int) ≤ (a : Int) := by omega
                    have bjYg : (a : Int) < (n : Int) := by omega
                    have rjYg : IntKind.i64.wrap ((a : Int)) = (a : Int) := by rw [IntKind.wrap_i64]; omega
                    obtain ⟨xYg, hxYg⟩ : ∃ zx, zx = dk[xp + 1]! := ⟨_, rfl⟩
                    obtain ⟨yYg, hyYg⟩ : ∃ zx, zx = dk[a]! := ⟨_, rfl⟩
                    have laYg : wr.cell? ⟨blk, off + iNYg, none⟩ = some (.int .u8 xYg) := by rw [hiNYg, hxYg]; exact sb_cell SU.out R (by omega) (xp + 1) (by omega)
                    have lbYg : wr.cell? ⟨blk, off + jNYg, none⟩ = some (.int .u8 yYg) := by rw [hjNYg, hyYg]; exact sb_cell SU.out R (by omega) (a) (by omega)
                    have hvYg : ltInt xYg yYg = false := by rw [hxYg, hyYg]; exact hlv
                    have HVYg := Lib.hid hvYg
                    clear hxYg hyYg hiNYg hjNYg hvYg
                    go_wp2_with fail
                    go_quiet ((go_at_call 94; exact Calls.quiet_of_same (less_q _ _ _ HVYg.out _)))
                    have SL := Lib.hid (SW.drewN SU.out nq)
                    clear laYg lbYg HVYg SU
                    generalize wr.drewN nq = wl at SL ⊢
                    clear nq eiYg piYg biYg riYg ejYg pjYg bjYg rjYg
                    go_wp2
                    go_roundg xp
                    case measure => omega
                    case rel => exact ⟨xp, by go_num, by omega, by omega, Nat.le_refl _, SL, HN⟩
                  | true =>
                    have HN := Lib.hid (HU.out.trans (down_stop (p := fun z => !ltInt z dk[a]!) (.inr (by simp [hlv]))))
                    go_wp2_with fail
                    obtain ⟨iNYs, hiNYs⟩ : ∃ zq, zq = xp + 1 := ⟨_, rfl⟩
                    have eiYs : ((xp : Int) + 1).toNat = iNYs := by omega
                    have piYs : (0 : Int) ≤ (xp : Int) + 1 := by omega
                    have biYs : (xp : Int) + 1 < (n : Int) := by omega
                    have riYs : IntKind.i64.wrap ((xp : Int) + 1) = (xp : Int) + 1 := by rw [IntKind.wrap_i64]; omega
                    obtain ⟨jNYs, hjNYs⟩ : ∃ zq, zq = a := ⟨_, rfl⟩
                    have ejYs : ((a : Int)).toNat = jNYs := by omega
                    have pjYs : (0 : Int) ≤ (a : Int) := by omega
                    have bjYs : (a : Int) < (n : Int) := by omega
                    have rjYs : IntKind.i64.wrap ((a : Int)) = (a : Int) := by rw [IntKind.wrap_i64]; omega
                    obtain ⟨xYs, hxYs⟩ : ∃ zx, zx = dk[xp + 1]! := ⟨_, rfl⟩
                    obtain ⟨yYs, hyYs⟩ : ∃ zx, zx = dk[a]! := ⟨_, rfl⟩
                    have laYs : wr.cell? ⟨blk, off + iNYs, none⟩ = some (.int .u8 xYs) := by rw [hiNYs, hxYs]; exact sb_cell SU.out R (by omega) (xp + 1) (by omega)
                    have lbYs : wr.cell? ⟨blk, off + jNYs, none⟩ = some (.int .u8 yYs) := by rw [hjNYs, hyYs]; exact sb_cell SU.out R (by omega) (a) (by omega)
                    have hvYs : ltInt xYs yYs = true := by rw [hxYs, hyYs]; exact hlv
                    have HVYs := Lib.hid hvYs
                    clear hxYs hyYs hiNYs hjNYs hvYs
                    go_wp2_with fail
                    go_quiet ((go_at_call 94; exact Calls.quiet_of_same (less_q _ _ _ HVYs.out _)))
                    have SL := Lib.hid (SW.drewN SU.out nq)
                    clear laYs lbYs HVYs SU
                    generalize wr.drewN nq = wl at SL ⊢
                    clear nq eiYs piYs biYs riYs ejYs pjYs bjYs rjYs
                    go_wp2
                    go_meet
                    case rel => exact ⟨xp + 1, by first | rfl | go_num, hx1, hx2, SL, HN⟩
                · have hg3 : decide (I2 ≤ x) = false := by simp; omega
                  have hg4 : ¬ (I2 : Int) ≤ (x : Int) := by omega
                  have HN := Lib.hid (HU.out.trans (down_stop (p := fun z => !ltInt z dk[a]!) (.inl (by omega))))
                  go_wp2_with fail
                  go_quiet (fail)
                  have SL := Lib.hid (SW.drewN SU.out nq)
                  generalize wr.drewN nq = wl at SL ⊢
                  go_wp2
                  go_meet
                  case rel => exact ⟨x, rfl, hx1, hx2, SL, HN⟩
            case rest =>
              clear S3
              obtain ⟨J2, rfl, hJ21, hJ22, S4, HJ2⟩ := hcut
              by_cases hIJ : J2 < I2
              · have hz : (J2 : Int) < (I2 : Int) := by omega
                have hz2 : decide (J2 < I2) = true := by simp; omega
                have HPAR := Lib.hid (HLATE.out J2 dk (HO.out.symm.trans (parLoop_end ltInt HI2.out HJ2.out hIJ)))
                go_wp2_with fail
                obtain ⟨iNE, hiNE⟩ : ∃ zq, zq = J2 := ⟨_, rfl⟩
                have eiE : ((J2 : Int)).toNat = iNE := by omega
                have piE : (0 : Int) ≤ (J2 : Int) := by omega
                have biE : (J2 : Int) < (n : Int) := by omega
                have riE : IntKind.i64.wrap ((J2 : Int)) = (J2 : Int) := by rw [IntKind.wrap_i64]; omega
                obtain ⟨jNE, hjNE⟩ : ∃ zq, zq = a := ⟨_, rfl⟩
                have ejE : ((a : Int)).toNat = jNE := by omega
                have pjE : (0 : Int) ≤ (a : Int) := by omega
                have bjE : (a : Int) < (n : Int) := by omega
                have rjE : IntKind.i64.wrap ((a : Int)) = (a : Int) := by rw [IntKind.wrap_i64]; omega
                obtain ⟨xE, hxE⟩ : ∃ zx, zx = dk[J2]! := ⟨_, rfl⟩
                obtain ⟨yE, hyE⟩ : ∃ zx, zx = dk[a]! := ⟨_, rfl⟩
                have S5 : Hid (SB w0 blk off (swp dk (J2) (a)) ((wc.setCell ⟨blk, off + iNE, none⟩ (.int .u8 yE)).setCell ⟨blk, off + jNE, none⟩ (.int .u8 xE)).drew) := Lib.hid (by rw [hiNE, hjNE, hxE, hyE]; exact sb_swap S4.out R (J2) (a) (by omega) (by omega))
                have caE : wc.cell? ⟨blk, off + iNE, none⟩ = some (.int .u8 xE) := by rw [hiNE, hxE]; exact sb_cell S4.out R (by omega) (J2) (by omega)
                have cbE : wc.cell? ⟨blk, off + jNE, none⟩ = some (.int .u8 yE) := by rw [hjNE, hyE]; exact sb_cell S4.out R (by omega) (a) (by omega)
                have faE : wc.frozen? ⟨blk, off + iNE, none⟩ = false := by rw [hiNE]; exact SW.f1 S4.out R (by omega) (J2) (by omega)
                have fbE : wc.frozen? ⟨blk, off + jNE, none⟩ = false := by rw [hjNE]; exact SW.f1 S4.out R (by omega) (a) (by omega)
                obtain ⟨uE, ccE⟩ : ∃ u, (wc.setCell ⟨blk, off + iNE, none⟩ (.int .u8 yE)).cell? ⟨blk, off + jNE, none⟩ = some u := by rw [hiNE, hjNE]; exact SW.c2 S4.out R (by omega) (J2) (a) (by omega) (by omega) (.int .u8 yE)
                clear S4 hxE hyE hiNE hjNE
                go_wp2_with fail
                go_region
                clear caE cbE ccE faE fbE
                generalize ((wc.setCell ⟨blk, off + iNE, none⟩ (.int .u8 yE)).setCell ⟨blk, off + jNE, none⟩ (.int .u8 xE)).drew = w5 at S5 ⊢
                clear eiE piE biE riE ejE pjE bjE rjE
                go_wp2
                refine bodyPost_ret (v := .tuple #[.int .i64 (J2 : Int), .bool false]) (by simp [results, Try.results96, go_sem]) rfl ?_
                exact ⟨J2, false, _, rfl, HPAR.out, S5.out⟩
              · have hz : ¬ (J2 : Int) < (I2 : Int) := by omega
                have hz2 : decide (J2 < I2) = false := by simp; omega
                have hlt := scan_apart (by simp) HI2.out HJ2.out hij (by omega) (by omega : I2 ≤ J2)
                obtain ⟨Jp2, rfl⟩ : ∃ Jp2, J2 = Jp2 + 1 := ⟨J2 - 1, by omega⟩
                have HST := Lib.hid ((parLoop_step ltInt HI2.out HJ2.out (by omega)).symm.trans HO.out)
                go_wp2_with fail
                obtain ⟨iNW, hiNW⟩ : ∃ zq, zq = I2 := ⟨_, rfl⟩
                have eiW : ((I2 : Int)).toNat = iNW := by omega
                have piW : (0 : Int) ≤ (I2 : Int) := by omega
                have biW : (I2 : Int) < (n : Int) := by omega
                have riW : IntKind.i64.wrap ((I2 : Int)) = (I2 : Int) := by rw [IntKind.wrap_i64]; omega
                obtain ⟨jNW, hjNW⟩ : ∃ zq, zq = Jp2 + 1 := ⟨_, rfl⟩
                have ejW : ((Jp2 : Int) + 1).toNat = jNW := by omega
                have pjW : (0 : Int) ≤ (Jp2 : Int) + 1 := by omega
                have bjW : (Jp2 : Int) + 1 < (n : Int) := by omega
                have rjW : IntKind.i64.wrap ((Jp2 : Int) + 1) = (Jp2 : Int) + 1 := by rw [IntKind.wrap_i64]; omega
                obtain ⟨xW, hxW⟩ : ∃ zx, zx = dk[I2]! := ⟨_, rfl⟩
                obtain ⟨yW, hyW⟩ : ∃ zx, zx = dk[Jp2 + 1]! := ⟨_, rfl⟩
                have S5 : Hid (SB w0 blk off (swp dk (I2) (Jp2 + 1)) ((wc.setCell ⟨blk, off + iNW, none⟩ (.int .u8 yW)).setCell ⟨blk, off + jNW, none⟩ (.int .u8 xW)).drew) := Lib.hid (by rw [hiNW, hjNW, hxW, hyW]; exact sb_swap S4.out R (I2) (Jp2 + 1) (by omega) (by omega))
                have caW : wc.cell? ⟨blk, off + iNW, none⟩ = some (.int .u8 xW) := by rw [hiNW, hxW]; exact sb_cell S4.out R (by omega) (I2) (by omega)
                have cbW : wc.cell? ⟨blk, off + jNW, none⟩ = some (.int .u8 yW) := by rw [hjNW, hyW]; exact sb_cell S4.out R (by omega) (Jp2 + 1) (by omega)
                have faW : wc.frozen? ⟨blk, off + iNW, none⟩ = false := by rw [hiNW]; exact SW.f1 S4.out R (by omega) (I2) (by omega)
                have fbW : wc.frozen? ⟨blk, off + jNW, none⟩ = false := by rw [hjNW]; exact SW.f1 S4.out R (by omega) (Jp2 + 1) (by omega)
                obtain ⟨uW, ccW⟩ : ∃ u, (wc.setCell ⟨blk, off + iNW, none⟩ (.int .u8 yW)).cell? ⟨blk, off + jNW, none⟩ = some u := by rw [hiNW, hjNW]; exact SW.c2 S4.out R (by omega) (I2) (Jp2 + 1) (by omega) (by omega) (.int .u8 yW)
                clear S4 hxW hyW hiNW hjNW
                go_wp2_with fail
                go_region
                clear caW cbW ccW faW fbW
                generalize ((wc.setCell ⟨blk, off + iNW, none⟩ (.int .u8 yW)).setCell ⟨blk, off + jNW, none⟩ (.int .u8 xW)).drew = w5 at S5 ⊢
                clear eiW piW biW riW ejW pjW bjW rjW
                go_wp2
                go_roundg (Jp2 + 1 - (I2 + 1))
                case measure => omega
                case rel => exact ⟨I2 + 1, Jp2, swp dk I2 (Jp2 + 1), by go_num, by go_num, by omega, by omega, by omega, by omega, by rw [size_swp]; exact hsk, S5, HST⟩
end Go.Proofs.Ytoldfejclimhgaa
