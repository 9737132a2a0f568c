/- BYTES SORTED: siftDownOrdered, heapSortOrdered. -/
import Derived.Test.YtoldfejclimhgaaBsB
namespace Go.Proofs.Ytoldfejclimhgaa
open Go.RowKit Go.Sort

section
variable {α : Type} [Inhabited α] (lt : α → α → Bool)
theorem sift_end (hi first root : Nat) (d : Array α) (h : hi ≤ 2 * root + 1) : siftDown lt hi first root d = d := by rw [siftDown, dif_pos h]
/-- the child that is taken -/
def kid2 (hi first root : Nat) (d : Array α) : Bool := decide (2 * root + 1 + 1 < hi) && lt d[first + (2 * root + 1)]! d[first + (2 * root + 1) + 1]!
theorem sift_stop2 (hi first root : Nat) (d : Array α) (h : 2 * root + 1 < hi) (hk : kid2 lt hi first root d = true) (hl : lt d[first + root]! d[first + (2 * root + 2)]! = false) : siftDown lt hi first root d = d := by
  unfold kid2 at hk
  rw [siftDown, dif_neg (by omega), if_pos hk, hl]; rfl
theorem sift_go2 (hi first root : Nat) (d : Array α) (h : 2 * root + 1 < hi) (hk : kid2 lt hi first root d = true) (hl : lt d[first + root]! d[first + (2 * root + 2)]! = true) : siftDown lt hi first root d = siftDown lt hi first (2 * root + 2) (swp d (first + root) (first + (2 * root + 2))) := by
  unfold kid2 at hk
  have h2 : 2 * root + 2 < hi := by simp at hk; omega
  rw [siftDown, dif_neg (by omega), if_pos hk, hl, if_neg (by decide), dif_pos h2]
theorem sift_stop1 (hi first root : Nat) (d : Array α) (h : 2 * root + 1 < hi) (hk : kid2 lt hi first root d = false) (hl : lt d[first + root]! d[first + (2 * root + 1)]! = false) : siftDown lt hi first root d = d := by
  unfold kid2 at hk
  rw [siftDown, dif_neg (by omega), hk, if_neg (by decide), hl]; rfl
theorem sift_go1 (hi first root : Nat) (d : Array α) (h : 2 * root + 1 < hi) (hk : kid2 lt hi first root d = false) (hl : lt d[first + root]! d[first + (2 * root + 1)]! = true) : siftDown lt hi first root d = siftDown lt hi first (2 * root + 1) (swp d (first + root) (first + (2 * root + 1))) := by
  unfold kid2 at hk
  rw [siftDown, dif_neg (by omega), hk, if_neg (by decide), hl, if_neg (by decide)]
end
set_option maxRecDepth 100000 in
set_option maxHeartbeats 4000000 in
theorem sift_any (blk off cap lo hi first n : Nat) (d0 d : Array Int) (w0 w : World) (R : RB w0 blk off d0) (hs0 : d0.size = n) (hsd : d.size = n) (S : SB w0 blk off d w) (hfh : first + hi ≤ n) (hlo : lo ≤ n) (hsz : n < 2305843009213693952) :
    Calls Try.prog 99 #[.slice (some ⟨blk, off, none⟩) n cap, .int .i64 lo, .int .i64 hi, .int .i64 first] w fun e w' => e = .returned (.tuple #[]) ∧ SB w0 blk off (siftDown ltInt hi first lo d) w' := by
  have S0 := Lib.hid S
  clear S
  go_enter Try.func99, Try.ntmps99
  go_wp2
  go_loopg [8] (n + hi - lo) (fun g1 vr wr => ∃ (rt : Nat) (dk : Array Int), vr = .int .i64 rt ∧ rt ≤ n ∧ n + hi - rt ≤ g1 ∧ dk.size = n ∧ Hid (SB w0 blk off dk wr) ∧ Hid (siftDown ltInt hi first rt dk = siftDown ltInt hi first lo d))
  case atStart => exact ⟨lo, d, rfl, hlo, Nat.le_refl _, hsd, S0, Lib.hid rfl⟩
  case round =>
    clear S0
    obtain ⟨rt, dk, rfl, hrn, hg1, hsk, S1, HO⟩ := hrel
    by_cases hc : 2 * rt + 1 < hi
    · have hcz : ¬ (hi : Int) ≤ 2 * (rt : Int) + 1 := by omega
      by_cases hc2 : 2 * rt + 1 + 1 < hi
      · have hg2 : decide (2 * (rt : Int) + 1 + 1 < (hi : Int)) = true := by simp; omega
        have hg3 : 2 * (rt : Int) + 1 + 1 < (hi : Int) := by omega
        cases hlv : ltInt dk[first + (2 * rt + 1)]! dk[first + (2 * rt + 1) + 1]! with
        | true =>
          have hk : kid2 ltInt hi first rt dk = true := by unfold kid2; rw [hlv]; simp; omega
          have HK := Lib.hid hk
          clear hk
          go_wp2_with fail
          obtain ⟨iNA, hiNA⟩ : ∃ zq, zq = first + (2 * rt + 1) := ⟨_, rfl⟩
          have eiA : ((first : Int) + (2 * (rt : Int) + 1)).toNat = iNA := by omega
          have piA : (0 : Int) ≤ (first : Int) + (2 * (rt : Int) + 1) := by omega
          have biA : (first : Int) + (2 * (rt : Int) + 1) < (n : Int) := by omega
          have riA : IntKind.i64.wrap ((first : Int) + (2 * (rt : Int) + 1)) = (first : Int) + (2 * (rt : Int) + 1) := by rw [IntKind.wrap_i64]; omega
          obtain ⟨jNA, hjNA⟩ : ∃ zq, zq = first + (2 * rt + 1) + 1 := ⟨_, rfl⟩
          have ejA : ((first : Int) + (2 * (rt : Int) + 1) + 1).toNat = jNA := by omega
          have pjA : (0 : Int) ≤ (first : Int) + (2 * (rt : Int) + 1) + 1 := by omega
          have bjA : (first : Int) + (2 * (rt : Int) + 1) + 1 < (n : Int) := by omega
          have rjA : IntKind.i64.wrap ((first : Int) + (2 * (rt : Int) + 1) + 1) = (first : Int) + (2 * (rt : Int) + 1) + 1 := by rw [IntKind.wrap_i64]; omega
          obtain ⟨xA, hxA⟩ : ∃ zx, zx = dk[first + (2 * rt + 1)]! := ⟨_, rfl⟩
          obtain ⟨yA, hyA⟩ : ∃ zx, zx = dk[first + (2 * rt + 1) + 1]! := ⟨_, rfl⟩
          have laA : wr.cell? ⟨blk, off + iNA, none⟩ = some (.int .u8 xA) := by rw [hiNA, hxA]; exact sb_cell S1.out R (by omega) (first + (2 * rt + 1)) (by omega)
          have lbA : wr.cell? ⟨blk, off + jNA, none⟩ = some (.int .u8 yA) := by rw [hjNA, hyA]; exact sb_cell S1.out R (by omega) (first + (2 * rt + 1) + 1) (by omega)
          have hvA : ltInt xA yA = true := by rw [hxA, hyA]; exact hlv
          have HVA := Lib.hid hvA
          clear hxA hyA hiNA hjNA hvA
          go_wp2_with fail
          go_quiet ((go_at_call 94; exact Calls.quiet_of_same (less_q _ _ _ HVA.out _)))
          have S2 := Lib.hid (SW.drewN S1.out nq)
          clear laA lbA HVA S1
          generalize wr.drewN nq = w2 at S2 ⊢
          clear nq eiA piA biA riA ejA pjA bjA rjA
          clear hlv
          cases hl2 : ltInt dk[first + rt]! dk[first + (2 * rt + 2)]! with
          | true =>
            have HGO := Lib.hid ((sift_go2 ltInt hi first rt dk hc HK.out hl2).symm.trans HO.out)
            go_wp2_with fail
            obtain ⟨iNB, hiNB⟩ : ∃ zq, zq = first + rt := ⟨_, rfl⟩
            have eiB : ((first : Int) + (rt : Int)).toNat = iNB := by omega
            have piB : (0 : Int) ≤ (first : Int) + (rt : Int) := by omega
            have biB : (first : Int) + (rt : Int) < (n : Int) := by omega
            have riB : IntKind.i64.wrap ((first : Int) + (rt : Int)) = (first : Int) + (rt : Int) := by rw [IntKind.wrap_i64]; omega
            obtain ⟨jNB, hjNB⟩ : ∃ zq, zq = first + (2 * rt + 2) := ⟨_, rfl⟩
            have ejB : ((first : Int) + (2 * (rt : Int) + 1 + 1)).toNat = jNB := by omega
            have pjB : (0 : Int) ≤ (first : Int) + (2 * (rt : Int) + 1 + 1) := by omega
            have bjB : (first : Int) + (2 * (rt : Int) + 1 + 1) < (n : Int) := by omega
            have rjB : IntKind.i64.wrap ((first : Int) + (2 * (rt : Int) + 1 + 1)) = (first : Int) + (2 * (rt : Int) + 1 + 1) := by rw [IntKind.wrap_i64]; omega
            obtain ⟨xB, hxB⟩ : ∃ zx, zx = dk[first + rt]! := ⟨_, rfl⟩
            obtain ⟨yB, hyB⟩ : ∃ zx, zx = dk[first + (2 * rt + 2)]! := ⟨_, rfl⟩
            have laB : w2.cell? ⟨blk, off + iNB, none⟩ = some (.int .u8 xB) := by rw [hiNB, hxB]; exact sb_cell S2.out R (by omega) (first + rt) (by omega)
            have lbB : w2.cell? ⟨blk, off + jNB, none⟩ = some (.int .u8 yB) := by rw [hjNB, hyB]; exact sb_cell S2.out R (by omega) (first + (2 * rt + 2)) (by omega)
            have hvB : ltInt xB yB = true := by rw [hxB, hyB]; exact hl2
            have HVB := Lib.hid hvB
            clear hxB hyB hiNB hjNB hvB
            go_wp2_with fail
            go_quiet ((go_at_call 94; exact Calls.quiet_of_same (less_q _ _ _ HVB.out _)))
            have S3 := Lib.hid (SW.drewN S2.out nq)
            clear laB lbB HVB S2
            generalize w2.drewN nq = w3 at S3 ⊢
            clear nq eiB piB biB riB ejB pjB bjB rjB
            go_wp2_with fail
            obtain ⟨iNC, hiNC⟩ : ∃ zq, zq = first + rt := ⟨_, rfl⟩
            have eiC : ((first : Int) + (rt : Int)).toNat = iNC := by omega
            have piC : (0 : Int) ≤ (first : Int) + (rt : Int) := by omega
            have biC : (first : Int) + (rt : Int) < (n : Int) := by omega
            have riC : IntKind.i64.wrap ((first : Int) + (rt : Int)) = (first : Int) + (rt : Int) := by rw [IntKind.wrap_i64]; omega
            obtain ⟨jNC, hjNC⟩ : ∃ zq, zq = first + (2 * rt + 2) := ⟨_, rfl⟩
            have ejC : ((first : Int) + (2 * (rt : Int) + 1 + 1)).toNat = jNC := by omega
            have pjC : (0 : Int) ≤ (first : Int) + (2 * (rt : Int) + 1 + 1) := by omega
            have bjC : (first : Int) + (2 * (rt : Int) + 1 + 1) < (n : Int) := by omega
            have rjC : IntKind.i64.wrap ((first : Int) + (2 * (rt : Int) + 1 + 1)) = (first : Int) + (2 * (rt : Int) + 1 + 1) := by rw [IntKind.wrap_i64]; omega
            obtain ⟨xC, hxC⟩ : ∃ zx, zx = dk[first + rt]! := ⟨_, rfl⟩
            obtain ⟨yC, hyC⟩ : ∃ zx, zx = dk[first + (2 * rt + 2)]! := ⟨_, rfl⟩
            have S4 : Hid (SB w0 blk off (swp dk (first + rt) (first + (2 * rt + 2))) ((w3.setCell ⟨blk, off + iNC, none⟩ (.int .u8 yC)).setCell ⟨blk, off + jNC, none⟩ (.int .u8 xC)).drew) := Lib.hid (by rw [hiNC, hjNC, hxC, hyC]; exact sb_swap S3.out R (first + rt) (first + (2 * rt + 2)) (by omega) (by omega))
            have caC : w3.cell? ⟨blk, off + iNC, none⟩ = some (.int .u8 xC) := by rw [hiNC, hxC]; exact sb_cell S3.out R (by omega) (first + rt) (by omega)
            have cbC : w3.cell? ⟨blk, off + jNC, none⟩ = some (.int .u8 yC) := by rw [hjNC, hyC]; exact sb_cell S3.out R (by omega) (first + (2 * rt + 2)) (by omega)
            have faC : w3.frozen? ⟨blk, off + iNC, none⟩ = false := by rw [hiNC]; exact SW.f1 S3.out R (by omega) (first + rt) (by omega)
            have fbC : w3.frozen? ⟨blk, off + jNC, none⟩ = false := by rw [hjNC]; exact SW.f1 S3.out R (by omega) (first + (2 * rt + 2)) (by omega)
            obtain ⟨uC, ccC⟩ : ∃ u, (w3.setCell ⟨blk, off + iNC, none⟩ (.int .u8 yC)).cell? ⟨blk, off + jNC, none⟩ = some u := by rw [hiNC, hjNC]; exact SW.c2 S3.out R (by omega) (first + rt) (first + (2 * rt + 2)) (by omega) (by omega) (.int .u8 yC)
            clear S3 hxC hyC hiNC hjNC
            go_wp2_with fail
            go_region
            clear caC cbC ccC faC fbC
            generalize ((w3.setCell ⟨blk, off + iNC, none⟩ (.int .u8 yC)).setCell ⟨blk, off + jNC, none⟩ (.int .u8 xC)).drew = w4 at S4 ⊢
            clear eiC piC biC riC ejC pjC bjC rjC
            go_wp2
            go_roundg (n + hi - (2 * rt + 2))
            case measure => omega
            case rel => exact ⟨2 * rt + 2, swp dk (first + rt) (first + (2 * rt + 2)), by go_num, by omega, Nat.le_refl _, by rw [size_swp]; exact hsk, S4, HGO⟩
          | false =>
            have HST := Lib.hid ((sift_stop2 ltInt hi first rt dk hc HK.out hl2).symm.trans HO.out)
            go_wp2_with fail
            obtain ⟨iNB, hiNB⟩ : ∃ zq, zq = first + rt := ⟨_, rfl⟩
            have eiB : ((first : Int) + (rt : Int)).toNat = iNB := by omega
            have piB : (0 : Int) ≤ (first : Int) + (rt : Int) := by omega
            have biB : (first : Int) + (rt : Int) < (n : Int) := by omega
            have riB : IntKind.i64.wrap ((first : Int) + (rt : Int)) = (first : Int) + (rt : Int) := by rw [IntKind.wrap_i64]; omega
            obtain ⟨jNB, hjNB⟩ : ∃ zq, zq = first + (2 * rt + 2) := ⟨_, rfl⟩
            have ejB : ((first : Int) + (2 * (rt : Int) + 1 + 1)).toNat = jNB := by omega
            have pjB : (0 : Int) ≤ (first : Int) + (2 * (rt : Int) + 1 + 1) := by omega
            have bjB : (first : Int) + (2 * (rt : Int) + 1 + 1) < (n : Int) := by omega
            have rjB : IntKind.i64.wrap ((first : Int) + (2 * (rt : Int) + 1 + 1)) = (first : Int) + (2 * (rt : Int) + 1 + 1) := by rw [IntKind.wrap_i64]; omega
            obtain ⟨xB, hxB⟩ : ∃ zx, zx = dk[first + rt]! := ⟨_, rfl⟩
            obtain ⟨yB, hyB⟩ : ∃ zx, zx = dk[first + (2 * rt + 2)]! := ⟨_, rfl⟩
            have laB : w2.cell? ⟨blk, off + iNB, none⟩ = some (.int .u8 xB) := by rw [hiNB, hxB]; exact sb_cell S2.out R (by omega) (first + rt) (by omega)
            have lbB : w2.cell? ⟨blk, off + jNB, none⟩ = some (.int .u8 yB) := by rw [hjNB, hyB]; exact sb_cell S2.out R (by omega) (first + (2 * rt + 2)) (by omega)
            have hvB : ltInt xB yB = false := by rw [hxB, hyB]; exact hl2
            have HVB := Lib.hid hvB
            clear hxB hyB hiNB hjNB hvB
            go_wp2_with fail
            go_quiet ((go_at_call 94; exact Calls.quiet_of_same (less_q _ _ _ HVB.out _)))
            have S3 := Lib.hid (SW.drewN S2.out nq)
            clear laB lbB HVB S2
            generalize w2.drewN nq = w3 at S3 ⊢
            clear nq eiB piB biB riB ejB pjB bjB rjB
            go_wp2
            refine bodyPost_ret (results_none rfl _ _ _) rfl ?_
            refine ⟨rfl, ?_⟩
            rw [← HST.out]
            exact S3.out
        | false =>
          have hk : kid2 ltInt hi first rt dk = false := by unfold kid2; rw [hlv]; simp
          have HK := Lib.hid hk
          clear hk
          go_wp2_with fail
          obtain ⟨iNA, hiNA⟩ : ∃ zq, zq = first + (2 * rt + 1) := ⟨_, rfl⟩
          have eiA : ((first : Int) + (2 * (rt : Int) + 1)).toNat = iNA := by omega
          have piA : (0 : Int) ≤ (first : Int) + (2 * (rt : Int) + 1) := by omega
          have biA : (first : Int) + (2 * (rt : Int) + 1) < (n : Int) := by omega
          have riA : IntKind.i64.wrap ((first : Int) + (2 * (rt : Int) + 1)) = (first : Int) + (2 * (rt : Int) + 1) := by rw [IntKind.wrap_i64]; omega
          obtain ⟨jNA, hjNA⟩ : ∃ zq, zq = first + (2 * rt + 1) + 1 := ⟨_, rfl⟩
          have ejA : ((first : Int) + (2 * (rt : Int) + 1) + 1).toNat = jNA := by omega
          have pjA : (0 : Int) ≤ (first : Int) + (2 * (rt : Int) + 1) + 1 := by omega
          have bjA : (first : Int) + (2 * (rt : Int) + 1) + 1 < (n : Int) := by omega
          have rjA : IntKind.i64.wrap ((first : Int) + (2 * (rt : Int) + 1) + 1) = (first : Int) + (2 * (rt : Int) + 1) + 1 := by rw [IntKind.wrap_i64]; omega
          obtain ⟨xA, hxA⟩ : ∃ zx, zx = dk[first + (2 * rt + 1)]! := ⟨_, rfl⟩
          obtain ⟨yA, hyA⟩ : ∃ zx, zx = dk[first + (2 * rt + 1) + 1]! := ⟨_, rfl⟩
          have laA : wr.cell? ⟨blk, off + iNA, none⟩ = some (.int .u8 xA) := by rw [hiNA, hxA]; exact sb_cell S1.out R (by omega) (first + (2 * rt + 1)) (by omega)
          have lbA : wr.cell? ⟨blk, off + jNA, none⟩ = some (.int .u8 yA) := by rw [hjNA, hyA]; exact sb_cell S1.out R (by omega) (first + (2 * rt + 1) + 1) (by omega)
          have hvA : ltInt xA yA = false := by rw [hxA, hyA]; exact hlv
          have HVA := Lib.hid hvA
          clear hxA hyA hiNA hjNA hvA
          go_wp2_with fail
          go_quiet ((go_at_call 94; exact Calls.quiet_of_same (less_q _ _ _ HVA.out _)))
          have S2 := Lib.hid (SW.drewN S1.out nq)
          clear laA lbA HVA S1
          generalize wr.drewN nq = w2 at S2 ⊢
          clear nq eiA piA biA riA ejA pjA bjA rjA
          clear hlv
          cases hl2 : ltInt dk[first + rt]! dk[first + (2 * rt + 1)]! with
          | true =>
            have HGO := Lib.hid ((sift_go1 ltInt hi first rt dk hc HK.out hl2).symm.trans HO.out)
            go_wp2_with fail
            obtain ⟨iNB, hiNB⟩ : ∃ zq, zq = first + rt := ⟨_, rfl⟩
            have eiB : ((first : Int) + (rt : Int)).toNat = iNB := by omega
            have piB : (0 : Int) ≤ (first : Int) + (rt : Int) := by omega
            have biB : (first : Int) + (rt : Int) < (n : Int) := by omega
            have riB : IntKind.i64.wrap ((first : Int) + (rt : Int)) = (first : Int) + (rt : Int) := by rw [IntKind.wrap_i64]; omega
            obtain ⟨jNB, hjNB⟩ : ∃ zq, zq = first + (2 * rt + 1) := ⟨_, rfl⟩
            have ejB : ((first : Int) + (2 * (rt : Int) + 1)).toNat = jNB := by omega
            have pjB : (0 : Int) ≤ (first : Int) + (2 * (rt : Int) + 1) := by omega
            have bjB : (first : Int) + (2 * (rt : Int) + 1) < (n : Int) := by omega
            have rjB : IntKind.i64.wrap ((first : Int) + (2 * (rt : Int) + 1)) = (first : Int) + (2 * (rt : Int) + 1) := by rw [IntKind.wrap_i64]; omega
            obtain ⟨xB, hxB⟩ : ∃ zx, zx = dk[first + rt]! := ⟨_, rfl⟩
            obtain ⟨yB, hyB⟩ : ∃ zx, zx = dk[first + (2 * rt + 1)]! := ⟨_, rfl⟩
            have laB : w2.cell? ⟨blk, off + iNB, none⟩ = some (.int .u8 xB) := by rw [hiNB, hxB]; exact sb_cell S2.out R (by omega) (first + rt) (by omega)
            have lbB : w2.cell? ⟨blk, off + jNB, none⟩ = some (.int .u8 yB) := by rw [hjNB, hyB]; exact sb_cell S2.out R (by omega) (first + (2 * rt + 1)) (by omega)
            have hvB : ltInt xB yB = true := by rw [hxB, hyB]; exact hl2
            have HVB := Lib.hid hvB
            clear hxB hyB hiNB hjNB hvB
            go_wp2_with fail
            go_quiet ((go_at_call 94; exact Calls.quiet_of_same (less_q _ _ _ HVB.out _)))
            have S3 := Lib.hid (SW.drewN S2.out nq)
            clear laB lbB HVB S2
            generalize w2.drewN nq = w3 at S3 ⊢
            clear nq eiB piB biB riB ejB pjB bjB rjB
            go_wp2_with fail
            obtain ⟨iNC, hiNC⟩ : ∃ zq, zq = first + rt := ⟨_, rfl⟩
            have eiC : ((first : Int) + (rt : Int)).toNat = iNC := by omega
            have piC : (0 : Int) ≤ (first : Int) + (rt : Int) := by omega
            have biC : (first : Int) + (rt : Int) < (n : Int) := by omega
            have riC : IntKind.i64.wrap ((first : Int) + (rt : Int)) = (first : Int) + (rt : Int) := by rw [IntKind.wrap_i64]; omega
            obtain ⟨jNC, hjNC⟩ : ∃ zq, zq = first + (2 * rt + 1) := ⟨_, rfl⟩
            have ejC : ((first : Int) + (2 * (rt : Int) + 1)).toNat = jNC := by omega
            have pjC : (0 : Int) ≤ (first : Int) + (2 * (rt : Int) + 1) := by omega
            have bjC : (first : Int) + (2 * (rt : Int) + 1) < (n : Int) := by omega
            have rjC : IntKind.i64.wrap ((first : Int) + (2 * (rt : Int) + 1)) = (first : Int) + (2 * (rt : Int) + 1) := by rw [IntKind.wrap_i64]; omega
            obtain ⟨xC, hxC⟩ : ∃ zx, zx = dk[first + rt]! := ⟨_, rfl⟩
            obtain ⟨yC, hyC⟩ : ∃ zx, zx = dk[first + (2 * rt + 1)]! := ⟨_, rfl⟩
            have S4 : Hid (SB w0 blk off (swp dk (first + rt) (first + (2 * rt + 1))) ((w3.setCell ⟨blk, off + iNC, none⟩ (.int .u8 yC)).setCell ⟨blk, off + jNC, none⟩ (.int .u8 xC)).drew) := Lib.hid (by rw [hiNC, hjNC, hxC, hyC]; exact sb_swap S3.out R (first + rt) (first + (2 * rt + 1)) (by omega) (by omega))
            have caC : w3.cell? ⟨blk, off + iNC, none⟩ = some (.int .u8 xC) := by rw [hiNC, hxC]; exact sb_cell S3.out R (by omega) (first + rt) (by omega)
            have cbC : w3.cell? ⟨blk, off + jNC, none⟩ = some (.int .u8 yC) := by rw [hjNC, hyC]; exact sb_cell S3.out R (by omega) (first + (2 * rt + 1)) (by omega)
            have faC : w3.frozen? ⟨blk, off + iNC, none⟩ = false := by rw [hiNC]; exact SW.f1 S3.out R (by omega) (first + rt) (by omega)
            have fbC : w3.frozen? ⟨blk, off + jNC, none⟩ = false := by rw [hjNC]; exact SW.f1 S3.out R (by omega) (first + (2 * rt + 1)) (by omega)
            obtain ⟨uC, ccC⟩ : ∃ u, (w3.setCell ⟨blk, off + iNC, none⟩ (.int .u8 yC)).cell? ⟨blk, off + jNC, none⟩ = some u := by rw [hiNC, hjNC]; exact SW.c2 S3.out R (by omega) (first + rt) (first + (2 * rt + 1)) (by omega) (by omega) (.int .u8 yC)
            clear S3 hxC hyC hiNC hjNC
            go_wp2_with fail
            go_region
            clear caC cbC ccC faC fbC
            generalize ((w3.setCell ⟨blk, off + iNC, none⟩ (.int .u8 yC)).setCell ⟨blk, off + jNC, none⟩ (.int .u8 xC)).drew = w4 at S4 ⊢
            clear eiC piC biC riC ejC pjC bjC rjC
            go_wp2
            go_roundg (n + hi - (2 * rt + 1))
            case measure => omega
            case rel => exact ⟨2 * rt + 1, swp dk (first + rt) (first + (2 * rt + 1)), by go_num, by omega, Nat.le_refl _, by rw [size_swp]; exact hsk, S4, HGO⟩
          | false =>
            have HST := Lib.hid ((sift_stop1 ltInt hi first rt dk hc HK.out hl2).symm.trans HO.out)
            go_wp2_with fail
            obtain ⟨iNB, hiNB⟩ : ∃ zq, zq = first + rt := ⟨_, rfl⟩
            have eiB : ((first : Int) + (rt : Int)).toNat = iNB := by omega
            have piB : (0 : Int) ≤ (first : Int) + (rt : Int) := by omega
            have biB : (first : Int) + (rt : Int) < (n : Int) := by omega
            have riB : IntKind.i64.wrap ((first : Int) + (rt : Int)) = (first : Int) + (rt : Int) := by rw [IntKind.wrap_i64]; omega
            obtain ⟨jNB, hjNB⟩ : ∃ zq, zq = first + (2 * rt + 1) := ⟨_, rfl⟩
            have ejB : ((first : Int) + (2 * (rt : Int) + 1)).toNat = jNB := by omega
            have pjB : (0 : Int) ≤ (first : Int) + (2 * (rt : Int) + 1) := by omega
            have bjB : (first : Int) + (2 * (rt : Int) + 1) < (n : Int) := by omega
            have rjB : IntKind.i64.wrap ((first : Int) + (2 * (rt : Int) + 1)) = (first : Int) + (2 * (rt : Int) + 1) := by rw [IntKind.wrap_i64]; omega
            obtain ⟨xB, hxB⟩ : ∃ zx, zx = dk[first + rt]! := ⟨_, rfl⟩
            obtain ⟨yB, hyB⟩ : ∃ zx, zx = dk[first + (2 * rt + 1)]! := ⟨_, rfl⟩
            have laB : w2.cell? ⟨blk, off + iNB, none⟩ = some (.int .u8 xB) := by rw [hiNB, hxB]; exact sb_cell S2.out R (by omega) (first + rt) (by omega)
            have lbB : w2.cell? ⟨blk, off + jNB, none⟩ = some (.int .u8 yB) := by rw [hjNB, hyB]; exact sb_cell S2.out R (by omega) (first + (2 * rt + 1)) (by omega)
            have hvB : ltInt xB yB = false := by rw [hxB, hyB]; exact hl2
            have HVB := Lib.hid hvB
            clear hxB hyB hiNB hjNB hvB
            go_wp2_with fail
            go_quiet ((go_at_call 94; exact Calls.quiet_of_same (less_q _ _ _ HVB.out _)))
            have S3 := Lib.hid (SW.drewN S2.out nq)
            clear laB lbB HVB S2
            generalize w2.drewN nq = w3 at S3 ⊢
            clear nq eiB piB biB riB ejB pjB bjB rjB
            go_wp2
            refine bodyPost_ret (results_none rfl _ _ _) rfl ?_
            refine ⟨rfl, ?_⟩
            rw [← HST.out]
            exact S3.out
      · have hg2 : decide (2 * (rt : Int) + 1 + 1 < (hi : Int)) = false := by simp; omega
        have hg3 : ¬ 2 * (rt : Int) + 1 + 1 < (hi : Int) := by omega
        have hk : kid2 ltInt hi first rt dk = false := by unfold kid2; simp; intro h; omega
        have HK := Lib.hid hk
        clear hk
        go_wp2_with fail
        go_quiet (fail)
        have S2 := Lib.hid (SW.drewN S1.out nq)
        generalize wr.drewN nq = w2 at S2 ⊢
        clear nq S1
        cases hl2 : ltInt dk[first + rt]! dk[first + (2 * rt + 1)]! with
        | true =>
          have HGO := Lib.hid ((sift_go1 ltInt hi first rt dk hc HK.out hl2).symm.trans HO.out)
          go_wp2_with fail
          obtain ⟨iNB, hiNB⟩ : ∃ zq, zq = first + rt := ⟨_, rfl⟩
          have eiB : ((first : Int) + (rt : Int)).toNat = iNB := by omega
          have piB : (0 : Int) ≤ (first : Int) + (rt : Int) := by omega
          have biB : (first : Int) + (rt : Int) < (n : Int) := by omega
          have riB : IntKind.i64.wrap ((first : Int) + (rt : Int)) = (first : Int) + (rt : Int) := by rw [IntKind.wrap_i64]; omega
          obtain ⟨jNB, hjNB⟩ : ∃ zq, zq = first + (2 * rt + 1) := ⟨_, rfl⟩
          have ejB : ((first : Int) + (2 * (rt : Int) + 1)).toNat = jNB := by omega
          have pjB : (0 : Int) ≤ (first : Int) + (2 * (rt : Int) + 1) := by omega
          have bjB : (first : Int) + (2 * (rt : Int) + 1) < (n : Int) := by omega
          have rjB : IntKind.i64.wrap ((first : Int) + (2 * (rt : Int) + 1)) = (first : Int) + (2 * (rt : Int) + 1) := by rw [IntKind.wrap_i64]; omega
          obtain ⟨xB, hxB⟩ : ∃ zx, zx = dk[first + rt]! := ⟨_, rfl⟩
          obtain ⟨yB, hyB⟩ : ∃ zx, zx = dk[first + (2 * rt + 1)]! := ⟨_, rfl⟩
          have laB : w2.cell? ⟨blk, off + iNB, none⟩ = some (.int .u8 xB) := by rw [hiNB, hxB]; exact sb_cell S2.out R (by omega) (first + rt) (by omega)
          have lbB : w2.cell? ⟨blk, off + jNB, none⟩ = some (.int .u8 yB) := by rw [hjNB, hyB]; exact sb_cell S2.out R (by omega) (first + (2 * rt + 1)) (by omega)
          have hvB : ltInt xB yB = true := by rw [hxB, hyB]; exact hl2
          have HVB := Lib.hid hvB
          clear hxB hyB hiNB hjNB hvB
          go_wp2_with fail
          go_quiet ((go_at_call 94; exact Calls.quiet_of_same (less_q _ _ _ HVB.out _)))
          have S3 := Lib.hid (SW.drewN S2.out nq)
          clear laB lbB HVB S2
          generalize w2.drewN nq = w3 at S3 ⊢
          clear nq eiB piB biB riB ejB pjB bjB rjB
          go_wp2_with fail
          obtain ⟨iNC, hiNC⟩ : ∃ zq, zq = first + rt := ⟨_, rfl⟩
          have eiC : ((first : Int) + (rt : Int)).toNat = iNC := by omega
          have piC : (0 : Int) ≤ (first : Int) + (rt : Int) := by omega
          have biC : (first : Int) + (rt : Int) < (n : Int) := by omega
          have riC : IntKind.i64.wrap ((first : Int) + (rt : Int)) = (first : Int) + (rt : Int) := by rw [IntKind.wrap_i64]; omega
          obtain ⟨jNC, hjNC⟩ : ∃ zq, zq = first + (2 * rt + 1) := ⟨_, rfl⟩
          have ejC : ((first : Int) + (2 * (rt : Int) + 1)).toNat = jNC := by omega
          have pjC : (0 : Int) ≤ (first : Int) + (2 * (rt : Int) + 1) := by omega
          have bjC : (first : Int) + (2 * (rt : Int) + 1) < (n : Int) := by omega
          have rjC : IntKind.i64.wrap ((first : Int) + (2 * (rt : Int) + 1)) = (first : Int) + (2 * (rt : Int) + 1) := by rw [IntKind.wrap_i64]; omega
          obtain ⟨xC, hxC⟩ : ∃ zx, zx = dk[first + rt]! := ⟨_, rfl⟩
          obtain ⟨yC, hyC⟩ : ∃ zx, zx = dk[first + (2 * rt + 1)]! := ⟨_, rfl⟩
          have S4 : Hid (SB w0 blk off (swp dk (first + rt) (first + (2 * rt + 1))) ((w3.setCell ⟨blk, off + iNC, none⟩ (.int .u8 yC)).setCell ⟨blk, off + jNC, none⟩ (.int .u8 xC)).drew) := Lib.hid (by rw [hiNC, hjNC, hxC, hyC]; exact sb_swap S3.out R (first + rt) (first + (2 * rt + 1)) (by omega) (by omega))
          have caC : w3.cell? ⟨blk, off + iNC, none⟩ = some (.int .u8 xC) := by rw [hiNC, hxC]; exact sb_cell S3.out R (by omega) (first + rt) (by omega)
          have cbC : w3.cell? ⟨blk, off + jNC, none⟩ = some (.int .u8 yC) := by rw [hjNC, hyC]; exact sb_cell S3.out R (by omega) (first + (2 * rt + 1)) (by omega)
          have faC : w3.frozen? ⟨blk, off + iNC, none⟩ = false := by rw [hiNC]; exact SW.f1 S3.out R (by omega) (first + rt) (by omega)
          have fbC : w3.frozen? ⟨blk, off + jNC, none⟩ = false := by rw [hjNC]; exact SW.f1 S3.out R (by omega) (first + (2 * rt + 1)) (by omega)
          obtain ⟨uC, ccC⟩ : ∃ u, (w3.setCell ⟨blk, off + iNC, none⟩ (.int .u8 yC)).cell? ⟨blk, off + jNC, none⟩ = some u := by rw [hiNC, hjNC]; exact SW.c2 S3.out R (by omega) (first + rt) (first + (2 * rt + 1)) (by omega) (by omega) (.int .u8 yC)
          clear S3 hxC hyC hiNC hjNC
          go_wp2_with fail
          go_region
          clear caC cbC ccC faC fbC
          generalize ((w3.setCell ⟨blk, off + iNC, none⟩ (.int .u8 yC)).setCell ⟨blk, off + jNC, none⟩ (.int .u8 xC)).drew = w4 at S4 ⊢
          clear eiC piC biC riC ejC pjC bjC rjC
          go_wp2
          go_roundg (n + hi - (2 * rt + 1))
          case measure => omega
          case rel => exact ⟨2 * rt + 1, swp dk (first + rt) (first + (2 * rt + 1)), by go_num, by omega, Nat.le_refl _, by rw [size_swp]; exact hsk, S4, HGO⟩
        | false =>
          have HST := Lib.hid ((sift_stop1 ltInt hi first rt dk hc HK.out hl2).symm.trans HO.out)
          go_wp2_with fail
          obtain ⟨iNB, hiNB⟩ : ∃ zq, zq = first + rt := ⟨_, rfl⟩
          have eiB : ((first : Int) + (rt : Int)).toNat = iNB := by omega
          have piB : (0 : Int) ≤ (first : Int) + (rt : Int) := by omega
          have biB : (first : Int) + (rt : Int) < (n : Int) := by omega
          have riB : IntKind.i64.wrap ((first : Int) + (rt : Int)) = (first : Int) + (rt : Int) := by rw [IntKind.wrap_i64]; omega
          obtain ⟨jNB, hjNB⟩ : ∃ zq, zq = first + (2 * rt + 1) := ⟨_, rfl⟩
          have ejB : ((first : Int) + (2 * (rt : Int) + 1)).toNat = jNB := by omega
          have pjB : (0 : Int) ≤ (first : Int) + (2 * (rt : Int) + 1) := by omega
          have bjB : (first : Int) + (2 * (rt : Int) + 1) < (n : Int) := by omega
          have rjB : IntKind.i64.wrap ((first : Int) + (2 * (rt : Int) + 1)) = (first : Int) + (2 * (rt : Int) + 1) := by rw [IntKind.wrap_i64]; omega
          obtain ⟨xB, hxB⟩ : ∃ zx, zx = dk[first + rt]! := ⟨_, rfl⟩
          obtain ⟨yB, hyB⟩ : ∃ zx, zx = dk[first + (2 * rt + 1)]! := ⟨_, rfl⟩
          have laB : w2.cell? ⟨blk, off + iNB, none⟩ = some (.int .u8 xB) := by rw [hiNB, hxB]; exact sb_cell S2.out R (by omega) (first + rt) (by omega)
          have lbB : w2.cell? ⟨blk, off + jNB, none⟩ = some (.int .u8 yB) := by rw [hjNB, hyB]; exact sb_cell S2.out R (by omega) (first + (2 * rt + 1)) (by omega)
          have hvB : ltInt xB yB = false := by rw [hxB, hyB]; exact hl2
          have HVB := Lib.hid hvB
          clear hxB hyB hiNB hjNB hvB
          go_wp2_with fail
          go_quiet ((go_at_call 94; exact Calls.quiet_of_same (less_q _ _ _ HVB.out _)))
          have S3 := Lib.hid (SW.drewN S2.out nq)
          clear laB lbB HVB S2
          generalize w2.drewN nq = w3 at S3 ⊢
          clear nq eiB piB biB riB ejB pjB bjB rjB
          go_wp2
          refine bodyPost_ret (results_none rfl _ _ _) rfl ?_
          refine ⟨rfl, ?_⟩
          rw [← HST.out]
          exact S3.out
    · have hcz : (hi : Int) ≤ 2 * (rt : Int) + 1 := by omega
      go_wp2
      go_end0
      refine ⟨rfl, ?_⟩
      have h := (sift_end _ _ _ _ _ (by omega)).symm.trans HO.out
      rw [← h]
      exact S1.out
theorem size_sift (hi first : Nat) : ∀ (k root : Nat) (d : Array Int), hi - root ≤ k → (siftDown ltInt hi first root d).size = d.size
  | 0, root, d, h => by rw [sift_end _ _ _ _ _ (by omega)]
  | k + 1, root, d, h => by
    by_cases hc : 2 * root + 1 < hi
    · cases hk : kid2 ltInt hi first root d with
      | true =>
        cases hl : ltInt d[first + root]! d[first + (2 * root + 2)]! with
        | true => rw [sift_go2 _ _ _ _ _ hc hk hl, size_sift hi first k _ _ (by omega), size_swp]
        | false => rw [sift_stop2 _ _ _ _ _ hc hk hl]
      | false =>
        cases hl : ltInt d[first + root]! d[first + (2 * root + 1)]! with
        | true => rw [sift_go1 _ _ _ _ _ hc hk hl, size_sift hi first k _ _ (by omega), size_swp]
        | false => rw [sift_stop1 _ _ _ _ _ hc hk hl]
    · rw [sift_end _ _ _ _ _ (by omega)]
set_option maxRecDepth 100000 in
set_option maxHeartbeats 4000000 in
theorem heap_any (blk off cap a b n : Nat) (d0 d : Array Int) (w0 w : World) (R : RB w0 blk off d0) (hs0 : d0.size = n) (hsd : d.size = n) (S : SB w0 blk off d w) (hab : a < b) (hb : b ≤ n) (hsz : n < 2305843009213693952) :
    Calls Try.prog 89 #[.slice (some ⟨blk, off, none⟩) n cap, .int .i64 a, .int .i64 b] w fun e w' => e = .returned (.tuple #[]) ∧ SB w0 blk off (heapSort ltInt d a b) w' := by
  have S0 := Lib.hid S
  obtain ⟨h, hh⟩ : ∃ h, h = b - a := ⟨_, rfl⟩
  have hbh : (b : Int) - (a : Int) = (h : Int) := by omega
  have h1 : (1 : Int) ≤ (h : Int) := by omega
  have h0 : (0 : Int) ≤ (h : Int) - 1 := by omega
  obtain ⟨k0, hk0⟩ : ∃ k, k = (h - 1) / 2 + 1 := ⟨_, rfl⟩
  have hk1 : ((h : Int) - 1) / 2 = (k0 : Int) - 1 := by omega
  have hk2 : k0 ≤ n := by omega
  have hah : a + h ≤ n := by omega
  have HE : Hid (heapSort ltInt d a b = heapPop ltInt a h (heapBuild ltInt h a k0 d)) := Lib.hid (by unfold heapSort; rw [← hh, ← hk0])
  rw [HE.out]
  clear S hh hk0 HE
  go_enter Try.func89, Try.ntmps89
  go_wp2
  simp only [hk1]
  clear hk1
  go_loopg [9] k0 (fun g1 vi wr => ∃ (k : Nat) (dk : Array Int), vi = .int .i64 ((k : Int) - 1) ∧ k ≤ n ∧ k ≤ g1 ∧ dk.size = n ∧ Hid (SB w0 blk off dk wr) ∧ Hid (heapBuild ltInt h a k dk = heapBuild ltInt h a k0 d))
  case atStart => exact ⟨k0, d, rfl, hk2, Nat.le_refl _, hsd, S0, Lib.hid rfl⟩
  case round =>
    clear S0
    obtain ⟨k, dk, rfl, hkn, hg1, hsk, S1, HO⟩ := hrel
    by_cases hk : 0 < k
    · obtain ⟨q, rfl⟩ : ∃ q, k = q + 1 := ⟨k - 1, by omega⟩
      have hq : ((q + 1 : Nat) : Int) - 1 = (q : Int) := by omega
      rw [hq]
      have hqz : (0 : Int) ≤ (q : Int) := by omega
      clear hq
      go_wp2_with (go_at_call 99; (refine (sift_any blk off cap q h a n d0 dk w0 _ R hs0 hsk S1.out hah (by omega) hsz).mono ?_); rintro e w2 ⟨rfl, hS2⟩; have S2 := Lib.hid hS2; clear hS2)
      go_roundg q
      case measure => omega
      case rel => exact ⟨q, siftDown ltInt h a q dk, by go_num, by omega, Nat.le_refl _, (size_sift _ _ _ _ _ (Nat.le_refl _)).trans hsk, S2, Lib.hid (by rw [← HO.out]; rfl)⟩
    · obtain rfl : k = 0 := by omega
      have hqz : ¬ (0 : Int) ≤ ((0 : Nat) : Int) - 1 := by omega
      have HO2 : Hid (dk = heapBuild ltInt h a k0 d) := HO
      clear HO
      go_wp2
      go_loopg [10] h (fun g1 vi wr => ∃ (k : Nat) (dj : Array Int), vi = .int .i64 ((k : Int) - 1) ∧ k ≤ h ∧ k ≤ g1 ∧ dj.size = n ∧ Hid (SB w0 blk off dj wr) ∧ Hid (heapPop ltInt a k dj = heapPop ltInt a h dk))
      case atStart => exact ⟨h, dk, rfl, Nat.le_refl _, Nat.le_refl _, hsk, S1, Lib.hid rfl⟩
      case round =>
        clear S1
        obtain ⟨k, dj, rfl, hkn, hg1, hsj, S1, HO⟩ := hrel
        by_cases hk : 0 < k
        · obtain ⟨q, rfl⟩ : ∃ q, k = q + 1 := ⟨k - 1, by omega⟩
          have hq : ((q + 1 : Nat) : Int) - 1 = (q : Int) := by omega
          rw [hq]
          have hqz2 : (0 : Int) ≤ (q : Int) := by omega
          clear hq
          go_wp2_with fail
          obtain ⟨iNC, hiNC⟩ : ∃ zq, zq = a := ⟨_, rfl⟩
          have eiC : ((a : Int)).toNat = iNC := by omega
          have piC : (0 : Int) ≤ (a : Int) := by omega
          have biC : (a : Int) < (n : Int) := by omega
          have riC : IntKind.i64.wrap ((a : Int)) = (a : Int) := by rw [IntKind.wrap_i64]; omega
          obtain ⟨jNC, hjNC⟩ : ∃ zq, zq = a + q := ⟨_, rfl⟩
          have ejC : ((a : Int) + (q : Int)).toNat = jNC := by omega
          have pjC : (0 : Int) ≤ (a : Int) + (q : Int) := by omega
          have bjC : (a : Int) + (q : Int) < (n : Int) := by omega
          have rjC : IntKind.i64.wrap ((a : Int) + (q : Int)) = (a : Int) + (q : Int) := by rw [IntKind.wrap_i64]; omega
          obtain ⟨xC, hxC⟩ : ∃ zx, zx = dj[a]! := ⟨_, rfl⟩
          obtain ⟨yC, hyC⟩ : ∃ zx, zx = dj[a + q]! := ⟨_, rfl⟩
          have S3 : Hid (SB w0 blk off (swp dj (a) (a + q)) ((wr.setCell ⟨blk, off + iNC, none⟩ (.int .u8 yC)).setCell ⟨blk, off + jNC, none⟩ (.int .u8 xC)).drew) := Lib.hid (by rw [hiNC, hjNC, hxC, hyC]; exact sb_swap S1.out R (a) (a + q) (by omega) (by omega))
          have caC : wr.cell? ⟨blk, off + iNC, none⟩ = some (.int .u8 xC) := by rw [hiNC, hxC]; exact sb_cell S1.out R (by omega) (a) (by omega)
          have cbC : wr.cell? ⟨blk, off + jNC, none⟩ = some (.int .u8 yC) := by rw [hjNC, hyC]; exact sb_cell S1.out R (by omega) (a + q) (by omega)
          have faC : wr.frozen? ⟨blk, off + iNC, none⟩ = false := by rw [hiNC]; exact SW.f1 S1.out R (by omega) (a) (by omega)
          have fbC : wr.frozen? ⟨blk, off + jNC, none⟩ = false := by rw [hjNC]; exact SW.f1 S1.out R (by omega) (a + q) (by omega)
          obtain ⟨uC, ccC⟩ : ∃ u, (wr.setCell ⟨blk, off + iNC, none⟩ (.int .u8 yC)).cell? ⟨blk, off + jNC, none⟩ = some u := by rw [hiNC, hjNC]; exact SW.c2 S1.out R (by omega) (a) (a + q) (by omega) (by omega) (.int .u8 yC)
          clear S1 hxC hyC hiNC hjNC
          go_wp2_with fail
          go_region
          clear caC cbC ccC faC fbC
          generalize ((wr.setCell ⟨blk, off + iNC, none⟩ (.int .u8 yC)).setCell ⟨blk, off + jNC, none⟩ (.int .u8 xC)).drew = w3 at S3 ⊢
          clear eiC piC biC riC ejC pjC bjC rjC
          go_wp2_with (go_at_call 99; (refine (sift_any blk off cap 0 q a n d0 (swp dj a (a + q)) w0 _ R hs0 (by rw [size_swp]; exact hsj) S3.out (by omega) (by omega) hsz).mono ?_); rintro e w4 ⟨rfl, hS4⟩; have S4 := Lib.hid hS4; clear hS4)
          go_roundg q
          case measure => omega
          case rel => exact ⟨q, siftDown ltInt q a 0 (swp dj a (a + q)), by go_num, by omega, Nat.le_refl _, (size_sift _ _ _ _ _ (Nat.le_refl _)).trans (by rw [size_swp]; exact hsj), S4, Lib.hid (by rw [← HO.out]; rfl)⟩
        · obtain rfl : k = 0 := by omega
          have hqz2 : ¬ (0 : Int) ≤ ((0 : Nat) : Int) - 1 := by omega
          go_wp2
          go_end0
          refine ⟨rfl, ?_⟩
          rw [← HO2.out, ← HO.out]
          exact S1.out
end Go.Proofs.Ytoldfejclimhgaa
