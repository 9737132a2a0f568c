/- BYTES SORTED: insertionSortOrdered, reverseRangeOrdered. -/
import Derived.Test.YtoldfejclimhgaaBsA
namespace Go.Proofs.Ytoldfejclimhgaa
open Go.RowKit Go.Sort

section
variable {α : Type} [Inhabited α] (lt : α → α → Bool)
theorem insInner_go1 (a j : Nat) (d : Array α) (haj : a < j + 1) (h : lt d[j + 1]! d[j]! = true) : insInner lt a (j + 1) d = insInner lt a j (swp d (j + 1) j) := by
  rw [insInner, h]; simp [haj]
theorem insInner_stop1 (a j : Nat) (d : Array α) (h : j ≤ a ∨ ∃ q, j = q + 1 ∧ lt d[q + 1]! d[q]! = false) : insInner lt a j d = d := by
  cases j with
  | zero => rfl
  | succ j =>
    rw [insInner]
    rcases h with h | ⟨q, e, h⟩
    · rw [show decide (j + 1 > a) = false by simp; omega]; rfl
    · obtain rfl : j = q := by omega
      rw [h]; simp
theorem insOuter_step (a b i : Nat) (d : Array α) (h : i < b) : insOuter lt a b i d = insOuter lt a b (i + 1) (insInner lt a i d) := by rw [insOuter, if_pos h]
theorem insOuter_end (a b i : Nat) (d : Array α) (h : ¬ i < b) : insOuter lt a b i d = d := by rw [insOuter, if_neg h]
theorem reverseLoop_step (i j : Nat) (d : Array α) (h : i < j) : reverseLoop i j d = reverseLoop (i + 1) (j - 1) (swp d i j) := by rw [reverseLoop, if_pos h]
theorem reverseLoop_end (i j : Nat) (d : Array α) (h : ¬ i < j) : reverseLoop i j d = d := by rw [reverseLoop, if_neg h]
end
theorem size_insInner (lt : Int → Int → Bool) (a : Nat) : ∀ (j : Nat) (d : Array Int), (insInner lt a j d).size = d.size
  | 0, d => rfl
  | j + 1, d => by
    rw [insInner]
    split
    · rw [size_insInner lt a j, size_swp]
    · rfl
set_option maxRecDepth 100000 in
set_option maxHeartbeats 4000000 in
theorem ins_any (blk off cap a b n : Nat) (d0 d : Array Int) (w0 w : World) (R : RB w0 blk off d0) (hs0 : d0.size = n) (hsd : d.size = n) (S : SB w0 blk off d w) (hab : a ≤ b) (hb : b ≤ n) (hsz : n < 4611686018427387904) :
    Calls Try.prog 88 #[.slice (some ⟨blk, off, none⟩) n cap, .int .i64 a, .int .i64 b] w fun e w' => e = .returned (.tuple #[]) ∧ SB w0 blk off (insertionSort ltInt d a b) w' := by
  have S0 := Lib.hid S
  clear S
  go_enter Try.func88, Try.ntmps88
  go_wp2
  go_loopg [6] (b + 1 - a) (fun g1 vi wr => ∃ (i : Nat) (dk : Array Int), vi = .int .i64 i ∧ a < i ∧ i ≤ b + 1 ∧ b + 1 - i ≤ g1 ∧ dk.size = n ∧ Hid (SB w0 blk off dk wr) ∧ Hid (insOuter ltInt a b i dk = insOuter ltInt a b (a + 1) d))
  case atStart => exact ⟨a + 1, d, by go_num, by omega, by omega, by omega, hsd, S0, Lib.hid rfl⟩
  case round =>
    clear S0
    obtain ⟨i, dk, rfl, hai, hib, hg1, hsk, S1, HO⟩ := hrel
    by_cases hlt : i < b
    · have hltz : (i : Int) < (b : Int) := by omega
      go_wp2
      go_loopg [7] i (fun g2 vj wr2 => ∃ (j : Nat) (dj : Array Int), vj = .int .i64 j ∧ a ≤ j ∧ j ≤ i ∧ j ≤ g2 ∧ dj.size = n ∧ Hid (SB w0 blk off dj wr2) ∧ Hid (insInner ltInt a j dj = insInner ltInt a i dk))
      case atStart => exact ⟨i, dk, rfl, by omega, Nat.le_refl _, Nat.le_refl _, hsk, S1, Lib.hid rfl⟩
      case round =>
        clear S1
        obtain ⟨j, dj, rfl, haj, hji, hg2, hsj, SJ, HI⟩ := hrel
        have OUT : Hid ((j ≤ a ∨ ∃ q, j = q + 1 ∧ ltInt dj[q + 1]! dj[q]! = false) → insOuter ltInt a b (i + 1) dj = insOuter ltInt a b (a + 1) d) := Lib.hid (fun hs => (congrArg (insOuter ltInt a b (i + 1)) ((insInner_stop1 _ _ _ _ hs).symm.trans HI.out)).trans ((insOuter_step _ a b i dk hlt).symm.trans HO.out))
        by_cases hja : a < j
        · obtain ⟨jp, rfl⟩ : ∃ q, j = q + 1 := ⟨j - 1, by omega⟩
          have hja1 : decide ((a : Int) < (jp : Int) + 1) = true := by simp; omega
          have hja2 : (a : Int) < (jp : Int) + 1 := by omega
          cases hlv : ltInt dj[jp + 1]! dj[jp]! with
          | true =>
            have HGO := Lib.hid (insInner_go1 ltInt a jp dj (by omega) hlv)
            obtain ⟨iNA, hiNA⟩ : ∃ q, q = jp + 1 := ⟨_, rfl⟩
            have eiA : ((jp : Int) + 1).toNat = iNA := by omega
            have piA : (0 : Int) ≤ (jp : Int) + 1 := by omega
            have biA : (jp : Int) + 1 < (n : Int) := by omega
            have riA : IntKind.i64.wrap ((jp : Int) + 1) = (jp : Int) + 1 := by rw [IntKind.wrap_i64]; omega
            obtain ⟨jNA, hjNA⟩ : ∃ q, q = jp := ⟨_, rfl⟩
            have ejA : ((jp : Int)).toNat = jNA := by omega
            have pjA : (0 : Int) ≤ (jp : Int) := by omega
            have bjA : (jp : Int) < (n : Int) := by omega
            have rjA : IntKind.i64.wrap ((jp : Int)) = (jp : Int) := by rw [IntKind.wrap_i64]; omega
            obtain ⟨xA, hxA⟩ : ∃ x, x = dj[jp + 1]! := ⟨_, rfl⟩
            obtain ⟨yA, hyA⟩ : ∃ x, x = dj[jp]! := ⟨_, rfl⟩
            have laA : wr.cell? ⟨blk, off + iNA, none⟩ = some (.int .u8 xA) := by rw [hiNA, hxA]; exact sb_cell SJ.out R (by omega) (jp + 1) (by omega)
            have lbA : wr.cell? ⟨blk, off + jNA, none⟩ = some (.int .u8 yA) := by rw [hjNA, hyA]; exact sb_cell SJ.out R (by omega) (jp) (by omega)
            have hvA : ltInt xA yA = true := by rw [hxA, hyA]; exact hlv
            have HVA := Lib.hid hvA
            clear hxA hyA hiNA hjNA hvA
            go_wp2_with fail
            go_quiet ((go_at_call 94; exact Calls.quiet_of_same (less_q _ _ _ HVA.out _)))
            have S2 := Lib.hid (SW.drewN SJ.out nq)
            clear laA lbA HVA SJ
            generalize wr.drewN nq = w2 at S2 ⊢
            clear nq eiA piA biA riA ejA pjA bjA rjA
            obtain ⟨iNB, hiNB⟩ : ∃ q, q = jp + 1 := ⟨_, rfl⟩
            have eiB : ((jp : Int) + 1).toNat = iNB := by omega
            have piB : (0 : Int) ≤ (jp : Int) + 1 := by omega
            have biB : (jp : Int) + 1 < (n : Int) := by omega
            have riB : IntKind.i64.wrap ((jp : Int) + 1) = (jp : Int) + 1 := by rw [IntKind.wrap_i64]; omega
            obtain ⟨jNB, hjNB⟩ : ∃ q, q = jp := ⟨_, rfl⟩
            have ejB : ((jp : Int)).toNat = jNB := by omega
            have pjB : (0 : Int) ≤ (jp : Int) := by omega
            have bjB : (jp : Int) < (n : Int) := by omega
            have rjB : IntKind.i64.wrap ((jp : Int)) = (jp : Int) := by rw [IntKind.wrap_i64]; omega
            obtain ⟨xB, hxB⟩ : ∃ x, x = dj[jp + 1]! := ⟨_, rfl⟩
            obtain ⟨yB, hyB⟩ : ∃ x, x = dj[jp]! := ⟨_, rfl⟩
            have S3 : Hid (SB w0 blk off (swp dj (jp + 1) (jp)) ((w2.setCell ⟨blk, off + iNB, none⟩ (.int .u8 yB)).setCell ⟨blk, off + jNB, none⟩ (.int .u8 xB)).drew) := Lib.hid (by rw [hiNB, hjNB, hxB, hyB]; exact sb_swap S2.out R (jp + 1) (jp) (by omega) (by omega))
            have caB : w2.cell? ⟨blk, off + iNB, none⟩ = some (.int .u8 xB) := by rw [hiNB, hxB]; exact sb_cell S2.out R (by omega) (jp + 1) (by omega)
            have cbB : w2.cell? ⟨blk, off + jNB, none⟩ = some (.int .u8 yB) := by rw [hjNB, hyB]; exact sb_cell S2.out R (by omega) (jp) (by omega)
            have faB : w2.frozen? ⟨blk, off + iNB, none⟩ = false := by rw [hiNB]; exact SW.f1 S2.out R (by omega) (jp + 1) (by omega)
            have fbB : w2.frozen? ⟨blk, off + jNB, none⟩ = false := by rw [hjNB]; exact SW.f1 S2.out R (by omega) (jp) (by omega)
            obtain ⟨uB, ccB⟩ : ∃ u, (w2.setCell ⟨blk, off + iNB, none⟩ (.int .u8 yB)).cell? ⟨blk, off + jNB, none⟩ = some u := by rw [hiNB, hjNB]; exact SW.c2 S2.out R (by omega) (jp + 1) (jp) (by omega) (by omega) (.int .u8 yB)
            clear S2 hxB hyB hiNB hjNB
            go_wp2_with fail
            go_region
            clear caB cbB ccB faB fbB
            generalize ((w2.setCell ⟨blk, off + iNB, none⟩ (.int .u8 yB)).setCell ⟨blk, off + jNB, none⟩ (.int .u8 xB)).drew = w3 at S3 ⊢
            clear eiB piB biB riB ejB pjB bjB rjB
            go_wp2
            go_roundg jp
            case measure => omega
            case rel => exact ⟨jp, swp dj (jp + 1) jp, by go_num, by omega, by omega, Nat.le_refl _, by rw [size_swp]; exact hsj, S3, Lib.hid (HGO.out.symm.trans HI.out)⟩
          | false =>
            have HST := Lib.hid (OUT.out (.inr ⟨jp, rfl, hlv⟩))
            obtain ⟨iNA, hiNA⟩ : ∃ q, q = jp + 1 := ⟨_, rfl⟩
            have eiA : ((jp : Int) + 1).toNat = iNA := by omega
            have piA : (0 : Int) ≤ (jp : Int) + 1 := by omega
            have biA : (jp : Int) + 1 < (n : Int) := by omega
            have riA : IntKind.i64.wrap ((jp : Int) + 1) = (jp : Int) + 1 := by rw [IntKind.wrap_i64]; omega
            obtain ⟨jNA, hjNA⟩ : ∃ q, q = jp := ⟨_, rfl⟩
            have ejA : ((jp : Int)).toNat = jNA := by omega
            have pjA : (0 : Int) ≤ (jp : Int) := by omega
            have bjA : (jp : Int) < (n : Int) := by omega
            have rjA : IntKind.i64.wrap ((jp : Int)) = (jp : Int) := by rw [IntKind.wrap_i64]; omega
            obtain ⟨xA, hxA⟩ : ∃ x, x = dj[jp + 1]! := ⟨_, rfl⟩
            obtain ⟨yA, hyA⟩ : ∃ x, x = dj[jp]! := ⟨_, rfl⟩
            have laA : wr.cell? ⟨blk, off + iNA, none⟩ = some (.int .u8 xA) := by rw [hiNA, hxA]; exact sb_cell SJ.out R (by omega) (jp + 1) (by omega)
            have lbA : wr.cell? ⟨blk, off + jNA, none⟩ = some (.int .u8 yA) := by rw [hjNA, hyA]; exact sb_cell SJ.out R (by omega) (jp) (by omega)
            have hvA : ltInt xA yA = false := by rw [hxA, hyA]; exact hlv
            have HVA := Lib.hid hvA
            clear hxA hyA hiNA hjNA hvA
            go_wp2_with fail
            go_quiet ((go_at_call 94; exact Calls.quiet_of_same (less_q _ _ _ HVA.out _)))
            have S2 := Lib.hid (SW.drewN SJ.out nq)
            clear laA lbA HVA SJ
            generalize wr.drewN nq = w2 at S2 ⊢
            clear nq eiA piA biA riA ejA pjA bjA rjA
            go_wp2
            go_roundg (b - i)
            case measure => omega
            case rel => exact ⟨i + 1, dj, by go_num, by omega, by omega, by omega, hsj, S2, HST⟩
        · have HST := Lib.hid (OUT.out (.inl (by omega)))
          have hja1 : decide ((a : Int) < (j : Int)) = false := by simp; omega
          have hja2 : ¬ (a : Int) < (j : Int) := by omega
          have hja3 : decide (a < j) = false := by simp; omega
          go_wp2_with fail
          go_quiet (fail)
          have S2 := Lib.hid (SW.drewN SJ.out nq)
          generalize wr.drewN nq = w2 at S2 ⊢
          go_wp2
          go_roundg (b - i)
          case measure => omega
          case rel => exact ⟨i + 1, dj, by go_num, by omega, by omega, by omega, hsj, S2, HST⟩
    · have hltz : ¬ (i : Int) < (b : Int) := by omega
      go_wp2
      go_end0
      refine ⟨rfl, ?_⟩
      have h := (insOuter_end _ _ _ _ _ hlt).symm.trans HO.out
      unfold insertionSort
      rw [← h]
      exact S1.out
theorem size_reverseLoop (d : Array Int) : ∀ (k i j : Nat) (d : Array Int), j - i ≤ k → (reverseLoop i j d).size = d.size
  | 0, i, j, d, h => by rw [reverseLoop, if_neg (by omega)]
  | k + 1, i, j, d, h => by
    rw [reverseLoop]
    split
    · rw [size_reverseLoop d k _ _ _ (by omega), size_swp]
    · rfl
set_option maxRecDepth 100000 in
set_option maxHeartbeats 4000000 in
theorem rev_any (blk off cap a b n : Nat) (d0 d : Array Int) (w0 w : World) (R : RB w0 blk off d0) (hs0 : d0.size = n) (hsd : d.size = n) (S : SB w0 blk off d w) (hab : a < b) (hb : b ≤ n) (hsz : n < 4611686018427387904) :
    Calls Try.prog 92 #[.slice (some ⟨blk, off, none⟩) n cap, .int .i64 a, .int .i64 b] w fun e w' => e = .returned (.tuple #[]) ∧ SB w0 blk off (reverseRange d a b) w' := by
  have S0 := Lib.hid S
  have hb1 : ((b - 1 : Nat) : Int) = (b : Int) - 1 := by omega
  have HB1 := Lib.hid hb1
  clear S hb1
  go_enter Try.func92, Try.ntmps92
  go_wp2
  go_loopg [6, 7] (b - a) (fun g1 vi vj wr => ∃ (i j : Nat) (dk : Array Int), vi = .int .i64 i ∧ vj = .int .i64 j ∧ a ≤ i ∧ j < b ∧ i ≤ j + 1 ∧ j - i ≤ g1 ∧ dk.size = n ∧ Hid (SB w0 blk off dk wr) ∧ Hid (reverseLoop i j dk = reverseLoop a (b - 1) d))
  case atStart => exact ⟨a, b - 1, d, rfl, by rw [HB1.out], by omega, by omega, by omega, by omega, hsd, S0, Lib.hid rfl⟩
  case round =>
    clear S0
    obtain ⟨i, j, dk, rfl, rfl, hai, hjb, hij1, hg1, hsk, S1, HO⟩ := hrel
    by_cases hlt : i < j
    · obtain ⟨jp, rfl⟩ : ∃ q, j = q + 1 := ⟨j - 1, by omega⟩
      have hltz : (i : Int) < (jp : Int) + 1 := by omega
      have HRV : Hid (reverseLoop i (jp + 1) dk = reverseLoop (i + 1) jp (swp dk i (jp + 1))) := Lib.hid (reverseLoop_step i (jp + 1) dk hlt)
      go_wp2_with fail
      obtain ⟨iNB, hiNB⟩ : ∃ q, q = i := ⟨_, rfl⟩
      have eiB : ((i : Int)).toNat = iNB := by omega
      have piB : (0 : Int) ≤ (i : Int) := by omega
      have biB : (i : Int) < (n : Int) := by omega
      have riB : IntKind.i64.wrap ((i : Int)) = (i : Int) := by rw [IntKind.wrap_i64]; omega
      obtain ⟨jNB, hjNB⟩ : ∃ q, q = jp + 1 := ⟨_, rfl⟩
      have ejB : ((jp : Int) + 1).toNat = jNB := by omega
      have pjB : (0 : Int) ≤ (jp : Int) + 1 := by omega
      have bjB : (jp : Int) + 1 < (n : Int) := by omega
      have rjB : IntKind.i64.wrap ((jp : Int) + 1) = (jp : Int) + 1 := by rw [IntKind.wrap_i64]; omega
      obtain ⟨xB, hxB⟩ : ∃ x, x = dk[i]! := ⟨_, rfl⟩
      obtain ⟨yB, hyB⟩ : ∃ x, x = dk[jp + 1]! := ⟨_, rfl⟩
      have S3 : Hid (SB w0 blk off (swp dk (i) (jp + 1)) ((wr.setCell ⟨blk, off + iNB, none⟩ (.int .u8 yB)).setCell ⟨blk, off + jNB, none⟩ (.int .u8 xB)).drew) := Lib.hid (by rw [hiNB, hjNB, hxB, hyB]; exact sb_swap S1.out R (i) (jp + 1) (by omega) (by omega))
      have caB : wr.cell? ⟨blk, off + iNB, none⟩ = some (.int .u8 xB) := by rw [hiNB, hxB]; exact sb_cell S1.out R (by omega) (i) (by omega)
      have cbB : wr.cell? ⟨blk, off + jNB, none⟩ = some (.int .u8 yB) := by rw [hjNB, hyB]; exact sb_cell S1.out R (by omega) (jp + 1) (by omega)
      have faB : wr.frozen? ⟨blk, off + iNB, none⟩ = false := by rw [hiNB]; exact SW.f1 S1.out R (by omega) (i) (by omega)
      have fbB : wr.frozen? ⟨blk, off + jNB, none⟩ = false := by rw [hjNB]; exact SW.f1 S1.out R (by omega) (jp + 1) (by omega)
      obtain ⟨uB, ccB⟩ : ∃ u, (wr.setCell ⟨blk, off + iNB, none⟩ (.int .u8 yB)).cell? ⟨blk, off + jNB, none⟩ = some u := by rw [hiNB, hjNB]; exact SW.c2 S1.out R (by omega) (i) (jp + 1) (by omega) (by omega) (.int .u8 yB)
      clear S1 hxB hyB hiNB hjNB
      go_wp2_with fail
      go_region
      clear caB cbB ccB faB fbB
      generalize ((wr.setCell ⟨blk, off + iNB, none⟩ (.int .u8 yB)).setCell ⟨blk, off + jNB, none⟩ (.int .u8 xB)).drew = w3 at S3 ⊢
      clear eiB piB biB riB ejB pjB bjB rjB
      go_wp2
      go_roundg (jp - i - 1)
      case measure => omega
      case rel => exact ⟨i + 1, jp, swp dk i (jp + 1), by go_num, by go_num, by omega, by omega, by omega, by omega, by rw [size_swp]; exact hsk, S3, Lib.hid (HRV.out.symm.trans HO.out)⟩
    · have hltz : ¬ (i : Int) < (j : Int) := by omega
      go_wp2
      go_end0
      refine ⟨rfl, ?_⟩
      have h := (reverseLoop_end _ _ _ hlt).symm.trans HO.out
      unfold reverseRange
      rw [← h]
      exact S1.out
end Go.Proofs.Ytoldfejclimhgaa
