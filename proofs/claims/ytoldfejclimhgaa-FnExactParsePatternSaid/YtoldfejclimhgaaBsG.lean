/- BYTES SORTED: partitionEqualOrdered. -/
import Derived.Test.YtoldfejclimhgaaBsF
import Derived.Deep.CutBlock
import Derived.Deep.DeepCutAuto
namespace Go.Proofs.Ytoldfejclimhgaa
open Go.RowKit Go.Sort

section
variable {α : Type} [Inhabited α]
theorem up_go {p : α → Bool} {d : Array α} {j i : Nat} (h : i ≤ j) (hp : p d[i]! = true) : scanUp p d j i = scanUp p d j (i + 1) := by rw [scanUp]; simp [h, hp]
theorem up_stop {p : α → Bool} {d : Array α} {j i : Nat} (h : j < i ∨ p d[i]! = false) : scanUp p d j i = i := by
  rw [scanUp]
  rcases h with h | h
  · simp [Nat.not_le.2 h]
  · simp [h]
theorem down_go {p : α → Bool} {d : Array α} {i j : Nat} (h : i ≤ j + 1) (hp : p d[j + 1]! = true) : scanDown p d i (j + 1) = scanDown p d i j := by rw [scanDown]; simp [h, hp]
theorem down_stop {p : α → Bool} {d : Array α} {i j : Nat} (h : j < i ∨ p d[j]! = false) : scanDown p d i j = j := by
  cases j with
  | zero => rfl
  | succ j =>
    rw [scanDown]
    rcases h with h | h
    · simp [Nat.not_le.2 h]
    · simp [h]
theorem scan_apart {p q : α → Bool} (hq : ∀ x, q x = !p x) {d : Array α} {i j I J : Nat} (hI : scanUp p d j i = I) (hJ : scanDown q d I j = J) (hij : i ≤ j + 1) (h1 : 0 < i) (h : I ≤ J) : I < J := by
  subst hI; subst hJ
  exact ((round_facts p q hq d (i - 1) (j + 1) i j (by omega) hij (fun t h1 h2 => by omega) (fun t h1 h2 => by omega)).2.2.2.2.2.2 (by omega)).2.2
variable (lt : α → α → Bool)
theorem eqLoop_step {a i j I J : Nat} {d : Array α} (hI : scanUp (fun z => !lt d[a]! z) d j i = I) (hJ : scanDown (fun z => lt d[a]! z) d I j = J) (h : I ≤ J) : partEqLoop lt a i j d = partEqLoop lt a (I + 1) (J - 1) (swp d I J) := by
  subst hI; subst hJ
  rw [partEqLoop_eq, if_neg (by omega)]
theorem eqLoop_end {a i j I J : Nat} {d : Array α} (hI : scanUp (fun z => !lt d[a]! z) d j i = I) (hJ : scanDown (fun z => lt d[a]! z) d I j = J) (h : J < I) : partEqLoop lt a i j d = (I, d) := by
  subst hI; subst hJ
  rw [partEqLoop_eq, if_pos (by omega)]
theorem parLoop_step {a i j I J : Nat} {d : Array α} (hI : scanUp (fun z => lt z d[a]!) d j i = I) (hJ : scanDown (fun z => !lt z d[a]!) d I j = J) (h : I ≤ J) : partLoop lt a i j d = partLoop lt a (I + 1) (J - 1) (swp d I J) := by
  subst hI; subst hJ
  rw [partLoop_eq, if_neg (by omega)]
theorem parLoop_end {a i j I J : Nat} {d : Array α} (hI : scanUp (fun z => lt z d[a]!) d j i = I) (hJ : scanDown (fun z => !lt z d[a]!) d I j = J) (h : J < I) : partLoop lt a i j d = (J, d) := by
  subst hI; subst hJ
  rw [partLoop_eq, if_pos (by omega)]
end
set_option maxRecDepth 100000 in
set_option maxHeartbeats 8000000 in
theorem parEq_any (blk off cap a b pv n : Nat) (d0 d : Array Int) (w0 w : World) (R : RB w0 blk off d0) (hs0 : d0.size = n) (hsd : d.size = n) (S : SB w0 blk off d w) (hap : a ≤ pv) (hpb : pv < b) (hb : b ≤ n) (hsz : n < 2305843009213693952) :
    Calls Try.prog 95 #[.slice (some ⟨blk, off, none⟩) n cap, .int .i64 a, .int .i64 b, .int .i64 pv] w fun e w' => ∃ (m : Nat) (d' : Array Int), e = .returned (.int .i64 m) ∧ partitionEqual ltInt d a b pv = (m, d') ∧ SB w0 blk off d' w' := by
  have S0 := Lib.hid S
  clear S
  go_enter Try.func95, Try.ntmps95
  go_wp2_with fail
  obtain ⟨iNA, hiNA⟩ : ∃ zq, zq = a := ⟨_, rfl⟩
  have eiA : ((a : Int)).toNat = iNA := by omega
  have piA : (0 : Int) ≤ (a : Int) := by omega
  have biA : (a : Int) < (n : Int) := by omega
  have riA : IntKind.i64.wrap ((a : Int)) = (a : Int) := by rw [IntKind.wrap_i64]; omega
  obtain ⟨jNA, hjNA⟩ : ∃ zq, zq = pv := ⟨_, rfl⟩
  have ejA : ((pv : Int)).toNat = jNA := by omega
  have pjA : (0 : Int) ≤ (pv : Int) := by omega
  have bjA : (pv : Int) < (n : Int) := by omega
  have rjA : IntKind.i64.wrap ((pv : Int)) = (pv : Int) := by rw [IntKind.wrap_i64]; omega
  obtain ⟨xA, hxA⟩ : ∃ zx, zx = d[a]! := ⟨_, rfl⟩
  obtain ⟨yA, hyA⟩ : ∃ zx, zx = d[pv]! := ⟨_, rfl⟩
  have S1 : Hid (SB w0 blk off (swp d (a) (pv)) ((w.setCell ⟨blk, off + iNA, none⟩ (.int .u8 yA)).setCell ⟨blk, off + jNA, none⟩ (.int .u8 xA)).drew) := Lib.hid (by rw [hiNA, hjNA, hxA, hyA]; exact sb_swap S0.out R (a) (pv) (by omega) (by omega))
  have caA : w.cell? ⟨blk, off + iNA, none⟩ = some (.int .u8 xA) := by rw [hiNA, hxA]; exact sb_cell S0.out R (by omega) (a) (by omega)
  have cbA : w.cell? ⟨blk, off + jNA, none⟩ = some (.int .u8 yA) := by rw [hjNA, hyA]; exact sb_cell S0.out R (by omega) (pv) (by omega)
  have faA : w.frozen? ⟨blk, off + iNA, none⟩ = false := by rw [hiNA]; exact SW.f1 S0.out R (by omega) (a) (by omega)
  have fbA : w.frozen? ⟨blk, off + jNA, none⟩ = false := by rw [hjNA]; exact SW.f1 S0.out R (by omega) (pv) (by omega)
  obtain ⟨uA, ccA⟩ : ∃ u, (w.setCell ⟨blk, off + iNA, none⟩ (.int .u8 yA)).cell? ⟨blk, off + jNA, none⟩ = some u := by rw [hiNA, hjNA]; exact SW.c2 S0.out R (by omega) (a) (pv) (by omega) (by omega) (.int .u8 yA)
  clear S0 hxA hyA hiNA hjNA
  go_wp2_with fail
  go_region
  clear caA cbA ccA faA fbA
  generalize ((w.setCell ⟨blk, off + iNA, none⟩ (.int .u8 yA)).setCell ⟨blk, off + jNA, none⟩ (.int .u8 xA)).drew = w1 at S1 ⊢
  clear eiA piA biA riA ejA pjA bjA rjA
  have hb1 : ((b - 1 : Nat) : Int) = (b : Int) - 1 := by omega
  have HB1 := Lib.hid hb1
  have hab0 : (0 : Int) ≤ (b : Int) - 1 := by omega
  clear hb1
  have hsw : (swp d a pv).size = n := by rw [size_swp]; exact hsd
  obtain ⟨ds, hds⟩ : ∃ ds, ds = swp d a pv := ⟨_, rfl⟩
  have HDS := Lib.hid hds
  rw [← hds] at S1 hsw
  clear hds
  go_wp2_with fail
  go_loopg [9, 10] (b - a) (fun g1 vi vj wr => ∃ (i j : Nat) (dk : Array Int), vi = .int .i64 i ∧ vj = .int .i64 j ∧ a < i ∧ i ≤ j + 1 ∧ j < b ∧ j + 1 - i ≤ g1 ∧ dk.size = n ∧ Hid (SB w0 blk off dk wr) ∧ Hid (partEqLoop ltInt a i j dk = partEqLoop ltInt a (a + 1) (b - 1) ds))
  case atStart => exact ⟨a + 1, b - 1, ds, by go_num, by rw [HB1.out], by omega, by omega, by omega, by omega, hsw, S1, Lib.hid rfl⟩
  case round =>
    clear S1
    obtain ⟨i, j, dk, rfl, rfl, hai, hij, hjb, hg1, hsk, S1, HO⟩ := hrel
    go_upto_block 2 with fail
    go_cut [9] (fun vi wx => ∃ x : Nat, vi = .int .i64 x ∧ i ≤ x ∧ x ≤ j + 1 ∧ Hid (SB w0 blk off dk wx) ∧ Hid (scanUp (fun z => !ltInt dk[a]! z) dk j i = x))
    case first =>
      go_wp2_with fail
      go_loopg [9] (j + 1 - i) (fun g2 vi wr => ∃ x : Nat, vi = .int .i64 x ∧ i ≤ x ∧ x ≤ j + 1 ∧ j + 1 - x ≤ g2 ∧ Hid (SB w0 blk off dk wr) ∧ Hid (scanUp (fun z => !ltInt dk[a]! z) dk j i = scanUp (fun z => !ltInt dk[a]! z) dk j x))
      case atStart => exact ⟨i, rfl, by omega, by omega, Nat.le_refl _, S1, Lib.hid rfl⟩
      case round =>
        clear S1
        obtain ⟨x, rfl, hx1, hx2, hg2, SU, HU⟩ := hrel
        by_cases hle : x ≤ j
        · have hg3 : decide (x ≤ j) = true := by simp; omega
          have hg4 : (x : Int) ≤ (j : Int) := by omega
          cases hlv : ltInt dk[a]! dk[x]! with
          | false =>
            have HN := Lib.hid (HU.out.trans (up_go (p := fun z => !ltInt dk[a]! z) (by omega) (by simp [hlv])))
            go_wp2_with fail
            obtain ⟨iNUg, hiNUg⟩ : ∃ zq, zq = a := ⟨_, rfl⟩
            have eiUg : ((a : Int)).toNat = iNUg := by omega
            have piUg : (0 : Int) ≤ (a : Int) := by omega
            have biUg : (a : Int) < (n : Int) := by omega
            have riUg : IntKind.i64.wrap ((a : Int)) = (a : Int) := by rw [IntKind.wrap_i64]; omega
            obtain ⟨jNUg, hjNUg⟩ : ∃ zq, zq = x := ⟨_, rfl⟩
            have ejUg : ((x : Int)).toNat = jNUg := by omega
            have pjUg : (0 : Int) ≤ (x : Int) := by omega
            have bjUg : (x : Int) < (n : Int) := by omega
            have rjUg : IntKind.i64.wrap ((x : Int)) = (x : Int) := by rw [IntKind.wrap_i64]; omega
            obtain ⟨xUg, hxUg⟩ : ∃ zx, zx = dk[a]! := ⟨_, rfl⟩
            obtain ⟨yUg, hyUg⟩ : ∃ zx, zx = dk[x]! := ⟨_, rfl⟩
            have laUg : wr.cell? ⟨blk, off + iNUg, none⟩ = some (.int .u8 xUg) := by rw [hiNUg, hxUg]; exact sb_cell SU.out R (by omega) (a) (by omega)
            have lbUg : wr.cell? ⟨blk, off + jNUg, none⟩ = some (.int .u8 yUg) := by rw [hjNUg, hyUg]; exact sb_cell SU.out R (by omega) (x) (by omega)
            have hvUg : ltInt xUg yUg = false := by rw [hxUg, hyUg]; exact hlv
            have HVUg := Lib.hid hvUg
            clear hxUg hyUg hiNUg hjNUg hvUg
            go_wp2_with fail
            go_quiet ((go_at_call 94; exact Calls.quiet_of_same (less_q _ _ _ HVUg.out _)))
            have SL := Lib.hid (SW.drewN SU.out nq)
            clear laUg lbUg HVUg SU
            generalize wr.drewN nq = wl at SL ⊢
            clear nq eiUg piUg biUg riUg ejUg pjUg bjUg rjUg
            go_wp2
            go_roundg (j + 1 - (x + 1))
            case measure => omega
            case rel => exact ⟨x + 1, by go_num, by omega, by omega, Nat.le_refl _, SL, HN⟩
          | true =>
            have HN := Lib.hid (HU.out.trans (up_stop (p := fun z => !ltInt dk[a]! z) (.inr (by simp [hlv]))))
            go_wp2_with fail
            obtain ⟨iNUs, hiNUs⟩ : ∃ zq, zq = a := ⟨_, rfl⟩
            have eiUs : ((a : Int)).toNat = iNUs := by omega
            have piUs : (0 : Int) ≤ (a : Int) := by omega
            have biUs : (a : Int) < (n : Int) := by omega
            have riUs : IntKind.i64.wrap ((a : Int)) = (a : Int) := by rw [IntKind.wrap_i64]; omega
            obtain ⟨jNUs, hjNUs⟩ : ∃ zq, zq = x := ⟨_, rfl⟩
            have ejUs : ((x : Int)).toNat = jNUs := by omega
            have pjUs : (0 : Int) ≤ (x : Int) := by omega
            have bjUs : (x : Int) < (n : Int) := by omega
            have rjUs : IntKind.i64.wrap ((x : Int)) = (x : Int) := by rw [IntKind.wrap_i64]; omega
            obtain ⟨xUs, hxUs⟩ : ∃ zx, zx = dk[a]! := ⟨_, rfl⟩
            obtain ⟨yUs, hyUs⟩ : ∃ zx, zx = dk[x]! := ⟨_, rfl⟩
            have laUs : wr.cell? ⟨blk, off + iNUs, none⟩ = some (.int .u8 xUs) := by rw [hiNUs, hxUs]; exact sb_cell SU.out R (by omega) (a) (by omega)
            have lbUs : wr.cell? ⟨blk, off + jNUs, none⟩ = some (.int .u8 yUs) := by rw [hjNUs, hyUs]; exact sb_cell SU.out R (by omega) (x) (by omega)
            have hvUs : ltInt xUs yUs = true := by rw [hxUs, hyUs]; exact hlv
            have HVUs := Lib.hid hvUs
            clear hxUs hyUs hiNUs hjNUs hvUs
            go_wp2_with fail
            go_quiet ((go_at_call 94; exact Calls.quiet_of_same (less_q _ _ _ HVUs.out _)))
            have SL := Lib.hid (SW.drewN SU.out nq)
            clear laUs lbUs HVUs SU
            generalize wr.drewN nq = wl at SL ⊢
            clear nq eiUs piUs biUs riUs ejUs pjUs bjUs rjUs
            go_wp2
            go_meet
            case rel => exact ⟨x, by first | rfl | go_num, hx1, hx2, SL, HN⟩
        · have hg3 : decide (x ≤ j) = false := by simp; omega
          have hg4 : ¬ (x : Int) ≤ (j : Int) := by omega
          have HN := Lib.hid (HU.out.trans (up_stop (p := fun z => !ltInt dk[a]! z) (.inl (by omega))))
          go_wp2_with fail
          go_quiet (fail)
          have SL := Lib.hid (SW.drewN SU.out nq)
          generalize wr.drewN nq = wl at SL ⊢
          go_wp2
          go_meet
          case rel => exact ⟨x, rfl, hx1, hx2, SL, HN⟩
    case rest =>
      clear S1
      obtain ⟨I, rfl, hI1, hI2, S3, HI⟩ := hcut
      go_upto_block 4 with fail
      go_cut [10] (fun vi wx => ∃ x : Nat, vi = .int .i64 x ∧ I ≤ x + 1 ∧ x ≤ j ∧ Hid (SB w0 blk off dk wx) ∧ Hid (scanDown (fun z => ltInt dk[a]! z) dk I j = x))
      case first =>
        go_wp2_with fail
        go_loopg [10] (j) (fun g2 vi wr => ∃ x : Nat, vi = .int .i64 x ∧ I ≤ x + 1 ∧ x ≤ j ∧ x ≤ g2 ∧ Hid (SB w0 blk off dk wr) ∧ Hid (scanDown (fun z => ltInt dk[a]! z) dk I j = scanDown (fun z => ltInt dk[a]! z) dk I x))
        case atStart => exact ⟨j, rfl, by omega, by omega, Nat.le_refl _, S3, Lib.hid rfl⟩
        case round =>
          clear S3
          obtain ⟨x, rfl, hx1, hx2, hg2, SU, HU⟩ := hrel
          by_cases hle : I ≤ x
          · obtain ⟨xp, rfl⟩ : ∃ xp, x = xp + 1 := ⟨x - 1, by omega⟩
            have hg3 : decide (I ≤ xp + 1) = true := by simp; omega
            have hg4 : (I : Int) ≤ (xp : Int) + 1 := by omega
            have hg5 : decide ((I : Int) ≤ (xp : Int) + 1) = true := by simp; omega
            cases hlv : ltInt dk[a]! dk[xp + 1]! with
            | true =>
              have HN := Lib.hid (HU.out.trans (down_go (p := fun z => ltInt dk[a]! z) (by omega) (by simp [hlv])))
              go_wp2_with fail
              obtain ⟨iNVg, hiNVg⟩ : ∃ zq, zq = a := ⟨_, rfl⟩
              have eiVg : ((a : Int)).toNat = iNVg := by omega
              have piVg : (0 : Int) ≤ (a : Int) := by omega
              have biVg : (a : Int) < (n : Int) := by omega
              have riVg : IntKind.i64.wrap ((a : Int)) = (a : Int) := by rw [IntKind.wrap_i64]; omega
              obtain ⟨jNVg, hjNVg⟩ : ∃ zq, zq = xp + 1 := ⟨_, rfl⟩
              have ejVg : ((xp : Int) + 1).toNat = jNVg := by omega
              have pjVg : (0 : Int) ≤ (xp : Int) + 1 := by omega
              have bjVg : (xp : Int) + 1 < (n : Int) := by omega
              have rjVg : IntKind.i64.wrap ((xp : Int) + 1) = (xp : Int) + 1 := by rw [IntKind.wrap_i64]; omega
              obtain ⟨xVg, hxVg⟩ : ∃ zx, zx = dk[a]! := ⟨_, rfl⟩
              obtain ⟨yVg, hyVg⟩ : ∃ zx, zx = dk[xp + 1]! := ⟨_, rfl⟩
              have laVg : wr.cell? ⟨blk, off + iNVg, none⟩ = some (.int .u8 xVg) := by rw [hiNVg, hxVg]; exact sb_cell SU.out R (by omega) (a) (by omega)
              have lbVg : wr.cell? ⟨blk, off + jNVg, none⟩ = some (.int .u8 yVg) := by rw [hjNVg, hyVg]; exact sb_cell SU.out R (by omega) (xp + 1) (by omega)
              have hvVg : ltInt xVg yVg = true := by rw [hxVg, hyVg]; exact hlv
              have HVVg := Lib.hid hvVg
              clear hxVg hyVg hiNVg hjNVg hvVg
              go_wp2_with fail
              go_quiet ((go_at_call 94; exact Calls.quiet_of_same (less_q _ _ _ HVVg.out _)))
              have SL := Lib.hid (SW.drewN SU.out nq)
              clear laVg lbVg HVVg SU
              generalize wr.drewN nq = wl at SL ⊢
              clear nq eiVg piVg biVg riVg ejVg pjVg bjVg rjVg
              go_wp2
              go_roundg xp
              case measure => omega
              case rel => exact ⟨xp, by go_num, by omega, by omega, Nat.le_refl _, SL, HN⟩
            | false =>
              have HN := Lib.hid (HU.out.trans (down_stop (p := fun z => ltInt dk[a]! z) (.inr (by simp [hlv]))))
              go_wp2_with fail
              obtain ⟨iNVs, hiNVs⟩ : ∃ zq, zq = a := ⟨_, rfl⟩
              have eiVs : ((a : Int)).toNat = iNVs := by omega
              have piVs : (0 : Int) ≤ (a : Int) := by omega
              have biVs : (a : Int) < (n : Int) := by omega
              have riVs : IntKind.i64.wrap ((a : Int)) = (a : Int) := by rw [IntKind.wrap_i64]; omega
              obtain ⟨jNVs, hjNVs⟩ : ∃ zq, zq = xp + 1 := ⟨_, rfl⟩
              have ejVs : ((xp : Int) + 1).toNat = jNVs := by omega
              have pjVs : (0 : Int) ≤ (xp : Int) + 1 := by omega
              have bjVs : (xp : Int) + 1 < (n : Int) := by omega
              have rjVs : IntKind.i64.wrap ((xp : Int) + 1) = (xp : Int) + 1 := by rw [IntKind.wrap_i64]; omega
              obtain ⟨xVs, hxVs⟩ : ∃ zx, zx = dk[a]! := ⟨_, rfl⟩
              obtain ⟨yVs, hyVs⟩ : ∃ zx, zx = dk[xp + 1]! := ⟨_, rfl⟩
              have laVs : wr.cell? ⟨blk, off + iNVs, none⟩ = some (.int .u8 xVs) := by rw [hiNVs, hxVs]; exact sb_cell SU.out R (by omega) (a) (by omega)
              have lbVs : wr.cell? ⟨blk, off + jNVs, none⟩ = some (.int .u8 yVs) := by rw [hjNVs, hyVs]; exact sb_cell SU.out R (by omega) (xp + 1) (by omega)
              have hvVs : ltInt xVs yVs = false := by rw [hxVs, hyVs]; exact hlv
              have HVVs := Lib.hid hvVs
              clear hxVs hyVs hiNVs hjNVs hvVs
              go_wp2_with fail
              go_quiet ((go_at_call 94; exact Calls.quiet_of_same (less_q _ _ _ HVVs.out _)))
              have SL := Lib.hid (SW.drewN SU.out nq)
              clear laVs lbVs HVVs SU
              generalize wr.drewN nq = wl at SL ⊢
              clear nq eiVs piVs biVs riVs ejVs pjVs bjVs rjVs
              go_wp2
              go_meet
              case rel => exact ⟨xp + 1, by first | rfl | go_num, hx1, hx2, SL, HN⟩
          · have hg3 : decide (I ≤ x) = false := by simp; omega
            have hg4 : ¬ (I : Int) ≤ (x : Int) := by omega
            have HN := Lib.hid (HU.out.trans (down_stop (p := fun z => ltInt dk[a]! z) (.inl (by omega))))
            go_wp2_with fail
            go_quiet (fail)
            have SL := Lib.hid (SW.drewN SU.out nq)
            generalize wr.drewN nq = wl at SL ⊢
            go_wp2
            go_meet
            case rel => exact ⟨x, rfl, hx1, hx2, SL, HN⟩
      case rest =>
        clear S3
        obtain ⟨J, rfl, hJ1, hJ2, S4, HJ⟩ := hcut
        by_cases hIJ : J < I
        · have hz : (J : Int) < (I : Int) := by omega
          have hz2 : decide (J < I) = true := by simp; omega
          go_wp2
          go_ret
          exact ⟨I, dk, rfl, by unfold partitionEqual; rw [← HDS.out, ← HO.out]; exact eqLoop_end ltInt HI.out HJ.out hIJ, S4.out⟩
        · have hz : ¬ (J : Int) < (I : Int) := by omega
          have hz2 : decide (J < I) = false := by simp; omega
          have hlt := scan_apart (by simp) HI.out HJ.out hij (by omega) (by omega : I ≤ J)
          obtain ⟨Jp, rfl⟩ : ∃ Jp, J = Jp + 1 := ⟨J - 1, by omega⟩
          have HST := Lib.hid ((eqLoop_step ltInt HI.out HJ.out (by omega)).symm.trans HO.out)
          go_wp2_with fail
          obtain ⟨iNW, hiNW⟩ : ∃ zq, zq = I := ⟨_, rfl⟩
          have eiW : ((I : Int)).toNat = iNW := by omega
          have piW : (0 : Int) ≤ (I : Int) := by omega
          have biW : (I : Int) < (n : Int) := by omega
          have riW : IntKind.i64.wrap ((I : Int)) = (I : Int) := by rw [IntKind.wrap_i64]; omega
          obtain ⟨jNW, hjNW⟩ : ∃ zq, zq = Jp + 1 := ⟨_, rfl⟩
          have ejW : ((Jp : Int) + 1).toNat = jNW := by omega
          have pjW : (0 : Int) ≤ (Jp : Int) + 1 := by omega
          have bjW : (Jp : Int) + 1 < (n : Int) := by omega
          have rjW : IntKind.i64.wrap ((Jp : Int) + 1) = (Jp : Int) + 1 := by rw [IntKind.wrap_i64]; omega
          obtain ⟨xW, hxW⟩ : ∃ zx, zx = dk[I]! := ⟨_, rfl⟩
          obtain ⟨yW, hyW⟩ : ∃ zx, zx = dk[Jp + 1]! := ⟨_, rfl⟩
          have S5 : Hid (SB w0 blk off (swp dk (I) (Jp + 1)) ((wc.setCell ⟨blk, off + iNW, none⟩ (.int .u8 yW)).setCell ⟨blk, off + jNW, none⟩ (.int .u8 xW)).drew) := Lib.hid (by rw [hiNW, hjNW, hxW, hyW]; exact sb_swap S4.out R (I) (Jp + 1) (by omega) (by omega))
          have caW : wc.cell? ⟨blk, off + iNW, none⟩ = some (.int .u8 xW) := by rw [hiNW, hxW]; exact sb_cell S4.out R (by omega) (I) (by omega)
          have cbW : wc.cell? ⟨blk, off + jNW, none⟩ = some (.int .u8 yW) := by rw [hjNW, hyW]; exact sb_cell S4.out R (by omega) (Jp + 1) (by omega)
          have faW : wc.frozen? ⟨blk, off + iNW, none⟩ = false := by rw [hiNW]; exact SW.f1 S4.out R (by omega) (I) (by omega)
          have fbW : wc.frozen? ⟨blk, off + jNW, none⟩ = false := by rw [hjNW]; exact SW.f1 S4.out R (by omega) (Jp + 1) (by omega)
          obtain ⟨uW, ccW⟩ : ∃ u, (wc.setCell ⟨blk, off + iNW, none⟩ (.int .u8 yW)).cell? ⟨blk, off + jNW, none⟩ = some u := by rw [hiNW, hjNW]; exact SW.c2 S4.out R (by omega) (I) (Jp + 1) (by omega) (by omega) (.int .u8 yW)
          clear S4 hxW hyW hiNW hjNW
          go_wp2_with fail
          go_region
          clear caW cbW ccW faW fbW
          generalize ((wc.setCell ⟨blk, off + iNW, none⟩ (.int .u8 yW)).setCell ⟨blk, off + jNW, none⟩ (.int .u8 xW)).drew = w5 at S5 ⊢
          clear eiW piW biW riW ejW pjW bjW rjW
          go_wp2
          go_roundg (Jp + 1 - (I + 1))
          case measure => omega
          case rel => exact ⟨I + 1, Jp, swp dk I (Jp + 1), by go_num, by go_num, by omega, by omega, by omega, by omega, by rw [size_swp]; exact hsk, S5, HST⟩
end Go.Proofs.Ytoldfejclimhgaa
