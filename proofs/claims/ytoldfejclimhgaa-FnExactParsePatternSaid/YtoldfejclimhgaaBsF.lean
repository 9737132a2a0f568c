/- BYTES SORTED: breakPatternsOrdered (the part is permuted, somehow). -/
import Derived.Test.YtoldfejclimhgaaBsE
import Derived.Test.YtoldfejclimhgaaShelf
namespace Go.Proofs.Ytoldfejclimhgaa
open Go.RowKit Go.Sort

def Prm (w0 : World) (blk off : Nat) (d : Array Int) (a b : Nat) (e : Ending) (w' : World) : Prop := ∃ d' : Array Int, e = .returned (.tuple #[]) ∧ PermIn a b d d' ∧ SB w0 blk off d' w'
theorem npo_any (L M : Nat) (hL : L < 4611686018427387904) (hM : M = 1 <<< bitsLen L) (w : World) : Calls Try.prog 100 #[.int .i64 L] w fun e w' => e = .returned (.int .u64 (M : Int)) ∧ w = w' :=
  (AnyF.nextPowerOfTwo Try.npo2 L hL w).mono fun _ _ ⟨he, hw⟩ => ⟨by rw [he, hM], hw.symm⟩
theorem xor_any (c X Y : Nat) (hX : X < 18446744073709551616) (hY : Y = xorNextN X) (w : World) (hc : w.cell? ⟨c, 0, none⟩ = some (.int .u64 X)) (hf : w.frozen? ⟨c, 0, none⟩ = false) :
    Calls Try.prog 101 #[.pointer (some ⟨c, 0, none⟩)] w fun e w' => e = .returned (.int .u64 (Y : Int)) ∧ w' = (w.setCell ⟨c, 0, none⟩ (.int .u64 (Y : Int))).drewN 3 := by
  rw [hY]; exact AnyF.xorshift_Next Try.xorNext c 0 X hX w hc hf
set_option maxRecDepth 100000 in
set_option maxHeartbeats 4000000 in
theorem brk_any (blk off cap a b n : Nat) (d0 d : Array Int) (w0 w : World) (R : RB w0 blk off d0) (hs0 : d0.size = n) (hsd : d.size = n) (S : SB w0 blk off d w) (hab : a + 12 < b) (hb : b ≤ n) (hsz : n < 2305843009213693952) :
    Calls Try.prog 90 #[.slice (some ⟨blk, off, none⟩) n cap, .int .i64 a, .int .i64 b] w (Prm w0 blk off d a b) := by
  obtain ⟨L, hL⟩ : ∃ L, L = b - a := ⟨_, rfl⟩
  have hbl : (b : Int) - (a : Int) = (L : Int) := by omega
  obtain ⟨q, hq⟩ : ∃ q, q = L / 4 := ⟨_, rfl⟩
  have hlq : (L : Int) / 4 = (q : Int) := by omega
  obtain ⟨u, hu⟩ : ∃ u, u = a + q * 2 - 1 := ⟨_, rfl⟩
  have hu1 : (a : Int) + (q : Int) * 2 = (u : Int) + 1 := by omega
  have hua : a ≤ u ∧ u + 2 < b := by omega
  obtain ⟨M, hM⟩ : ∃ M : Nat, M = 1 <<< bitsLen L := ⟨_, rfl⟩
  have hM1 : 1 ≤ M := by rw [hM, Nat.one_shiftLeft]; exact Nat.two_pow_pos _
  have hM2 : M ≤ 2 * L := by rw [hM, Nat.one_shiftLeft]; exact two_pow_bitsLen_le (by omega)
  have HM := Lib.hid hM
  have hL8 : (8 : Int) ≤ (L : Int) := by omega
  have hL9 : (L : Int) ≤ 2305843009213693952 := by omega
  have hLn : L < 4611686018427387904 := by omega
  have hab2 : a + L = b := by omega
  have hq0 : (0 : Int) ≤ (q : Int) := by omega
  have hq9 : (q : Int) ≤ 2305843009213693952 := by omega
  have ha0 : (0 : Int) ≤ (a : Int) := by omega
  have ha9 : (a : Int) ≤ 2305843009213693952 := by omega
  have hu9 : (u : Int) ≤ 2305843009213693952 := by omega
  have hne : w.heap.size ≠ blk := by have := SW.lt S R.hblk; omega
  have hle0 : w0.heap.size ≤ w.heap.size := SW.le S
  have S0 := Lib.hid (SW.alloc S (.cells #[.int .u64 (L : Int)] 112))
  clear S hL hq hu hM
  go_enter Try.func90, Try.ntmps90
  go_wp2_with (go_at_call 100; (refine (npo_any L M hLn HM.out _).mono ?_); rintro e w1 ⟨rfl, rfl⟩)
  go_loopg [9] 3 (fun g1 vi wr => ∃ (x X : Nat) (dk : Array Int), vi = .int .i64 x ∧ u ≤ x ∧ x ≤ u + 3 ∧ u + 3 - x ≤ g1 ∧ dk.size = n ∧ X < 18446744073709551616 ∧ Hid (SB w0 blk off dk wr) ∧ Hid (PermIn a b d dk) ∧ wr.cell? ⟨w.heap.size, 0, none⟩ = some (.int .u64 (X : Int)) ∧ wr.frozen? ⟨w.heap.size, 0, none⟩ = false)
  case atStart => exact ⟨u, L, d, rfl, Nat.le_refl _, by omega, by omega, hsd, by omega, S0, Lib.hid (permIn_refl _ _ _), by simp, by simp⟩
  case round =>
    clear S0
    obtain ⟨x, X, dk, rfl, hxu, hx3, hg1, hsk, hX, S1, HP, cR, fR⟩ := hrel
    by_cases hlt : x < u + 3
    · have hle : (x : Int) ≤ (u : Int) + 1 + 1 := by omega
      obtain ⟨Y, hY⟩ : ∃ Y, Y = xorNextN X := ⟨_, rfl⟩
      have lY : Y < 18446744073709551616 := by rw [hY]; exact xorNextN_lt X hX
      have HY := Lib.hid hY
      obtain ⟨O, hO⟩ : ∃ O : Nat, O = Y &&& (M - 1) := ⟨_, rfl⟩
      have lO : O ≤ M - 1 := by rw [hO]; exact Nat.and_le_right
      have eAnd : bits .and .u64 (Y : Int) ((M : Int) - 1) = (O : Int) := by
        rw [show ((M : Int) - 1) = ((M - 1 : Nat) : Int) by omega, bits_and_u64_nat _ _ lY (by omega), hO]
      clear hY hO
      have S2 := Lib.hid (SW.drewN (SW.setCell_new S1.out w.heap.size 0 (.int .u64 (Y : Int)) hle0) 3)
      have cR2 : ((wr.setCell ⟨w.heap.size, 0, none⟩ (.int .u64 (Y : Int))).drewN 3).cell? ⟨w.heap.size, 0, none⟩ = some (.int .u64 (Y : Int)) := by
        rw [World.cell?_drewN]; exact World.cell?_setCell_same _ _ _ cR
      have fR2 : ((wr.setCell ⟨w.heap.size, 0, none⟩ (.int .u64 (Y : Int))).drewN 3).frozen? ⟨w.heap.size, 0, none⟩ = false := by
        rw [World.frozen?_drewN]; simpa using fR
      have HN : Hid (Calls Try.prog 101 #[.pointer (some ⟨w.heap.size, 0, none⟩)] wr fun e w' => e = .returned (.int .u64 (Y : Int)) ∧ w' = (wr.setCell ⟨w.heap.size, 0, none⟩ (.int .u64 (Y : Int))).drewN 3) := Lib.hid (xor_any w.heap.size X Y hX HY.out wr cR fR)
      generalize (wr.setCell ⟨w.heap.size, 0, none⟩ (.int .u64 (Y : Int))).drewN 3 = w2 at S2 cR2 fR2 HN
      clear cR fR S1
      by_cases hLO : L ≤ O
      · have hLOz : (L : Int) ≤ (O : Int) := by omega
        go_wp2_with (go_at_call 101; refine HN.out.mono ?_; rintro e w' ⟨rfl, hw'⟩; obtain rfl : w2 = w' := hw'.symm)
        obtain ⟨iNC, hiNC⟩ : ∃ zq, zq = x := ⟨_, rfl⟩
        have eiC : ((x : Int)).toNat = iNC := by omega
        have piC : (0 : Int) ≤ (x : Int) := by omega
        have biC : (x : Int) < (n : Int) := by omega
        have riC : IntKind.i64.wrap ((x : Int)) = (x : Int) := by rw [IntKind.wrap_i64]; omega
        obtain ⟨jNC, hjNC⟩ : ∃ zq, zq = a + (O - L) := ⟨_, rfl⟩
        have ejC : ((a : Int) + ((O : Int) - (L : Int))).toNat = jNC := by omega
        have pjC : (0 : Int) ≤ (a : Int) + ((O : Int) - (L : Int)) := by omega
        have bjC : (a : Int) + ((O : Int) - (L : Int)) < (n : Int) := by omega
        have rjC : IntKind.i64.wrap ((a : Int) + ((O : Int) - (L : Int))) = (a : Int) + ((O : Int) - (L : Int)) := by rw [IntKind.wrap_i64]; omega
        obtain ⟨xC, hxC⟩ : ∃ zx, zx = dk[x]! := ⟨_, rfl⟩
        obtain ⟨yC, hyC⟩ : ∃ zx, zx = dk[a + (O - L)]! := ⟨_, rfl⟩
        have S3 : Hid (SB w0 blk off (swp dk (x) (a + (O - L))) ((w2.setCell ⟨blk, off + iNC, none⟩ (.int .u8 yC)).setCell ⟨blk, off + jNC, none⟩ (.int .u8 xC)).drew) := Lib.hid (by rw [hiNC, hjNC, hxC, hyC]; exact sb_swap S2.out R (x) (a + (O - L)) (by omega) (by omega))
        have caC : w2.cell? ⟨blk, off + iNC, none⟩ = some (.int .u8 xC) := by rw [hiNC, hxC]; exact sb_cell S2.out R (by omega) (x) (by omega)
        have cbC : w2.cell? ⟨blk, off + jNC, none⟩ = some (.int .u8 yC) := by rw [hjNC, hyC]; exact sb_cell S2.out R (by omega) (a + (O - L)) (by omega)
        have faC : w2.frozen? ⟨blk, off + iNC, none⟩ = false := by rw [hiNC]; exact SW.f1 S2.out R (by omega) (x) (by omega)
        have fbC : w2.frozen? ⟨blk, off + jNC, none⟩ = false := by rw [hjNC]; exact SW.f1 S2.out R (by omega) (a + (O - L)) (by omega)
        obtain ⟨uC, ccC⟩ : ∃ u, (w2.setCell ⟨blk, off + iNC, none⟩ (.int .u8 yC)).cell? ⟨blk, off + jNC, none⟩ = some u := by rw [hiNC, hjNC]; exact SW.c2 S2.out R (by omega) (x) (a + (O - L)) (by omega) (by omega) (.int .u8 yC)
        clear S2 hxC hyC hiNC hjNC
        go_wp2_with fail
        go_region
        clear caC cbC ccC faC fbC
        have k1 := box_kept_swap1 (W := w2) (blk := blk) hne cR2 fR2 (off + iNC) (off + jNC) (.int .u8 yC) (.int .u8 xC)
        generalize ((w2.setCell ⟨blk, off + iNC, none⟩ (.int .u8 yC)).setCell ⟨blk, off + jNC, none⟩ (.int .u8 xC)).drew = w3 at S3 k1 ⊢
        clear eiC piC biC riC ejC pjC bjC rjC

        go_wp2
        go_roundg (u + 3 - (x + 1))
        case measure => omega
        case rel => exact ⟨x + 1, Y, swp dk x (a + (O - L)), by go_num, by omega, by omega, Nat.le_refl _, by rw [size_swp]; exact hsk, lY, S3, Lib.hid (permIn_trans _ _ _ a b HP.out (swp_permIn dk a b x (a + (O - L)) (by omega) (by omega) (by omega) (by omega) (by omega))), k1.1, k1.2⟩
      · have hLOz : ¬ (L : Int) ≤ (O : Int) := by omega
        go_wp2_with (go_at_call 101; refine HN.out.mono ?_; rintro e w' ⟨rfl, hw'⟩; obtain rfl : w2 = w' := hw'.symm)
        obtain ⟨iNC, hiNC⟩ : ∃ zq, zq = x := ⟨_, rfl⟩
        have eiC : ((x : Int)).toNat = iNC := by omega
        have piC : (0 : Int) ≤ (x : Int) := by omega
        have biC : (x : Int) < (n : Int) := by omega
        have riC : IntKind.i64.wrap ((x : Int)) = (x : Int) := by rw [IntKind.wrap_i64]; omega
        obtain ⟨jNC, hjNC⟩ : ∃ zq, zq = a + O := ⟨_, rfl⟩
        have ejC : ((a : Int) + (O : Int)).toNat = jNC := by omega
        have pjC : (0 : Int) ≤ (a : Int) + (O : Int) := by omega
        have bjC : (a : Int) + (O : Int) < (n : Int) := by omega
        have rjC : IntKind.i64.wrap ((a : Int) + (O : Int)) = (a : Int) + (O : Int) := by rw [IntKind.wrap_i64]; omega
        obtain ⟨xC, hxC⟩ : ∃ zx, zx = dk[x]! := ⟨_, rfl⟩
        obtain ⟨yC, hyC⟩ : ∃ zx, zx = dk[a + O]! := ⟨_, rfl⟩
        have S3 : Hid (SB w0 blk off (swp dk (x) (a + O)) ((w2.setCell ⟨blk, off + iNC, none⟩ (.int .u8 yC)).setCell ⟨blk, off + jNC, none⟩ (.int .u8 xC)).drew) := Lib.hid (by rw [hiNC, hjNC, hxC, hyC]; exact sb_swap S2.out R (x) (a + O) (by omega) (by omega))
        have caC : w2.cell? ⟨blk, off + iNC, none⟩ = some (.int .u8 xC) := by rw [hiNC, hxC]; exact sb_cell S2.out R (by omega) (x) (by omega)
        have cbC : w2.cell? ⟨blk, off + jNC, none⟩ = some (.int .u8 yC) := by rw [hjNC, hyC]; exact sb_cell S2.out R (by omega) (a + O) (by omega)
        have faC : w2.frozen? ⟨blk, off + iNC, none⟩ = false := by rw [hiNC]; exact SW.f1 S2.out R (by omega) (x) (by omega)
        have fbC : w2.frozen? ⟨blk, off + jNC, none⟩ = false := by rw [hjNC]; exact SW.f1 S2.out R (by omega) (a + O) (by omega)
        obtain ⟨uC, ccC⟩ : ∃ u, (w2.setCell ⟨blk, off + iNC, none⟩ (.int .u8 yC)).cell? ⟨blk, off + jNC, none⟩ = some u := by rw [hiNC, hjNC]; exact SW.c2 S2.out R (by omega) (x) (a + O) (by omega) (by omega) (.int .u8 yC)
        clear S2 hxC hyC hiNC hjNC
        go_wp2_with fail
        go_region
        clear caC cbC ccC faC fbC
        have k1 := box_kept_swap1 (W := w2) (blk := blk) hne cR2 fR2 (off + iNC) (off + jNC) (.int .u8 yC) (.int .u8 xC)
        generalize ((w2.setCell ⟨blk, off + iNC, none⟩ (.int .u8 yC)).setCell ⟨blk, off + jNC, none⟩ (.int .u8 xC)).drew = w3 at S3 k1 ⊢
        clear eiC piC biC riC ejC pjC bjC rjC

        go_wp2
        go_roundg (u + 3 - (x + 1))
        case measure => omega
        case rel => exact ⟨x + 1, Y, swp dk x (a + O), by go_num, by omega, by omega, Nat.le_refl _, by rw [size_swp]; exact hsk, lY, S3, Lib.hid (permIn_trans _ _ _ a b HP.out (swp_permIn dk a b x (a + O) (by omega) (by omega) (by omega) (by omega) (by omega))), k1.1, k1.2⟩
    · have hle : ¬ (x : Int) ≤ (u : Int) + 1 + 1 := by omega
      go_wp2
      go_end0
      exact ⟨dk, rfl, HP.out, S1.out⟩
end Go.Proofs.Ytoldfejclimhgaa
