/- MERGED for a claim: BsA BsB BsC BsD BsE BsF BsG BsH BsI BsJ. -/
import Derived.Test.YtkifdbeklagelaaGreatDoorRec
import Derived.Shelf.SlSortCmp.Kit1
import Derived.Sort.AssemblyPlain
import Derived.Sort.LotD4
import Derived.Deep.LoopGhost
import Derived.ChangeAlike
import Derived.RegionTactic
import Derived.BigRegion
import Derived.Sort.LotD1
import Derived.Test.YtkifdbeklagelaaGreatDoorShelf
import Derived.Deep.CutBlock
import Derived.Deep.DeepCutAuto
set_option linter.unusedVariables false
set_option linter.unusedSimpArgs false
/- BYTES SORTED: cmp.Less at bytes; the words for the row (a byte is said as the number that it is). -/
namespace Go.Proofs.YtkifdbeklagelaaGreatDoor
open Go.RowKit Go.Sort

def encB (z : Int) : Value := .int .u8 z
theorem encB_one : OneCell encB := fun _ => rfl
abbrev SB (w0 : World) (blk off : Nat) (d : Array Int) (W : World) : Prop := SW encB w0 blk off d W
abbrev RB (w0 : World) (blk off : Nat) (d0 : Array Int) : Prop := Row1 encB w0 blk off d0
theorem sb_cell {w0 W : World} {blk off : Nat} {d0 dk : Array Int} (h : SW encB w0 blk off dk W) (R : Row1 encB w0 blk off d0) (hs : dk.size = d0.size) (i : Nat) (hi : i < dk.size) : W.cell? ⟨blk, off + i, none⟩ = some (.int .u8 dk[i]!) := h.c1 R hs i hi
theorem sb_swap {w0 W : World} {blk off : Nat} {d0 dk : Array Int} (h : SW encB w0 blk off dk W) (R : Row1 encB w0 blk off d0) (i j : Nat) (hi : i < dk.size) (hj : j < dk.size) :
    SW encB w0 blk off (swp dk i j) ((W.setCell ⟨blk, off + i, none⟩ (.int .u8 dk[j]!)).setCell ⟨blk, off + j, none⟩ (.int .u8 dk[i]!)).drew := h.swapped R i j hi hj
set_option maxRecDepth 100000 in
theorem nan_any (x : Int) (w : World) : Calls Tryz.prog 231 #[.int .u8 x] w fun e w' => e = .returned (.bool false) ∧ w = w' := by
  have h : ((x != x) : Bool) = false := by simp
  go_enter Tryz.func231, Tryz.ntmps231
  go_wp2
  go_ret
  exact ⟨rfl, rfl⟩
set_option maxRecDepth 100000 in
theorem less_any (x y : Int) (w : World) : Calls Tryz.prog 221 #[.int .u8 x, .int .u8 y] w fun e w' => e = .returned (.bool (ltInt x y)) ∧ w = w' := by
  have h : ltInt x y = decide (x < y) := rfl
  rw [h]
  clear h
  go_enter Tryz.func221, Tryz.ntmps221
  go_wp2_with (go_at_call 231; refine (nan_any _ _).mono ?_; rintro e w' ⟨rfl, rfl⟩)
  go_ret
  exact ⟨rfl, rfl⟩
theorem less_q (x y : Int) (b : Bool) (h : ltInt x y = b) (w : World) : Calls Tryz.prog 221 #[.int .u8 x, .int .u8 y] w fun e w' => e = .returned (.bool b) ∧ w' = w :=
  (less_any x y w).mono fun _ _ ⟨he, hw⟩ => ⟨by rw [he, h], hw.symm⟩
end Go.Proofs.YtkifdbeklagelaaGreatDoor

/- BYTES SORTED: insertionSortOrdered, reverseRangeOrdered. -/
namespace Go.Proofs.YtkifdbeklagelaaGreatDoor
open Go.RowKit Go.Sort

section
variable {α : Type} [Inhabited α] (lt : α → α → Bool)
theorem insInner_go1 (a j : Nat) (d : Array α) (haj : a < j + 1) (h : lt d[j + 1]! d[j]! = true) : insInner lt a (j + 1) d = insInner lt a j (swp d (j + 1) j) := by
  rw [insInner, h]; simp [haj]
theorem insInner_stop1 (a j : Nat) (d : Array α) (h : j ≤ a ∨ ∃ q, j = q + 1 ∧ lt d[q + 1]! d[q]! = false) : insInner lt a j d = d := by
  cases j with
  | zero => rfl
  | succ j =>
    rw [insInner]
    rcases h with h | ⟨q, e, h⟩
    · rw [show decide (j + 1 > a) = false by simp; omega]; rfl
    · obtain rfl : j = q := by omega
      rw [h]; simp
theorem insOuter_step (a b i : Nat) (d : Array α) (h : i < b) : insOuter lt a b i d = insOuter lt a b (i + 1) (insInner lt a i d) := by rw [insOuter, if_pos h]
theorem insOuter_end (a b i : Nat) (d : Array α) (h : ¬ i < b) : insOuter lt a b i d = d := by rw [insOuter, if_neg h]
theorem reverseLoop_step (i j : Nat) (d : Array α) (h : i < j) : reverseLoop i j d = reverseLoop (i + 1) (j - 1) (swp d i j) := by rw [reverseLoop, if_pos h]
theorem reverseLoop_end (i j : Nat) (d : Array α) (h : ¬ i < j) : reverseLoop i j d = d := by rw [reverseLoop, if_neg h]
end
theorem size_insInner (lt : Int → Int → Bool) (a : Nat) : ∀ (j : Nat) (d : Array Int), (insInner lt a j d).size = d.size
  | 0, d => rfl
  | j + 1, d => by
    rw [insInner]
    split
    · rw [size_insInner lt a j, size_swp]
    · rfl
set_option maxRecDepth 100000 in
set_option maxHeartbeats 4000000 in
theorem ins_any (blk off cap a b n : Nat) (d0 d : Array Int) (w0 w : World) (R : RB w0 blk off d0) (hs0 : d0.size = n) (hsd : d.size = n) (S : SB w0 blk off d w) (hab : a ≤ b) (hb : b ≤ n) (hsz : n < 4611686018427387904) :
    Calls Tryz.prog 215 #[.slice (some ⟨blk, off, none⟩) n cap, .int .i64 a, .int .i64 b] w fun e w' => e = .returned (.tuple #[]) ∧ SB w0 blk off (insertionSort ltInt d a b) w' := by
  have S0 := Lib.hid S
  clear S
  go_enter Tryz.func215, Tryz.ntmps215
  go_wp2
  go_loopg [6] (b + 1 - a) (fun g1 vi wr => ∃ (i : Nat) (dk : Array Int), vi = .int .i64 i ∧ a < i ∧ i ≤ b + 1 ∧ b + 1 - i ≤ g1 ∧ dk.size = n ∧ Hid (SB w0 blk off dk wr) ∧ Hid (insOuter ltInt a b i dk = insOuter ltInt a b (a + 1) d))
  case atStart => exact ⟨a + 1, d, by go_num, by omega, by omega, by omega, hsd, S0, Lib.hid rfl⟩
  case round =>
    clear S0
    obtain ⟨i, dk, rfl, hai, hib, hg1, hsk, S1, HO⟩ := hrel
    by_cases hlt : i < b
    · have hltz : (i : Int) < (b : Int) := by omega
      go_wp2
      go_loopg [7] i (fun g2 vj wr2 => ∃ (j : Nat) (dj : Array Int), vj = .int .i64 j ∧ a ≤ j ∧ j ≤ i ∧ j ≤ g2 ∧ dj.size = n ∧ Hid (SB w0 blk off dj wr2) ∧ Hid (insInner ltInt a j dj = insInner ltInt a i dk))
      case atStart => exact ⟨i, dk, rfl, by omega, Nat.le_refl _, Nat.le_refl _, hsk, S1, Lib.hid rfl⟩
      case round =>
        clear S1
        obtain ⟨j, dj, rfl, haj, hji, hg2, hsj, SJ, HI⟩ := hrel
        have OUT : Hid ((j ≤ a ∨ ∃ q, j = q + 1 ∧ ltInt dj[q + 1]! dj[q]! = false) → insOuter ltInt a b (i + 1) dj = insOuter ltInt a b (a + 1) d) := Lib.hid (fun hs => (congrArg (insOuter ltInt a b (i + 1)) ((insInner_stop1 _ _ _ _ hs).symm.trans HI.out)).trans ((insOuter_step _ a b i dk hlt).symm.trans HO.out))
        by_cases hja : a < j
        · obtain ⟨jp, rfl⟩ : ∃ q, j = q + 1 := ⟨j - 1, by omega⟩
          have hja1 : decide ((a : Int) < (jp : Int) + 1) = true := by simp; omega
          have hja2 : (a : Int) < (jp : Int) + 1 := by omega
          cases hlv : ltInt dj[jp + 1]! dj[jp]! with
          | true =>
            have HGO := Lib.hid (insInner_go1 ltInt a jp dj (by omega) hlv)
            obtain ⟨iNA, hiNA⟩ : ∃ zq, zq = jp + 1 := ⟨_, rfl⟩
            have eiA : ((jp : Int) + 1).toNat = iNA := by omega
            have piA : (0 : Int) ≤ (jp : Int) + 1 := by omega
            have biA : (jp : Int) + 1 < (n : Int) := by omega
            have riA : IntKind.i64.wrap ((jp : Int) + 1) = (jp : Int) + 1 := by rw [IntKind.wrap_i64]; omega
            obtain ⟨jNA, hjNA⟩ : ∃ zq, zq = jp := ⟨_, rfl⟩
            have ejA : ((jp : Int)).toNat = jNA := by omega
            have pjA : (0 : Int) ≤ (jp : Int) := by omega
            have bjA : (jp : Int) < (n : Int) := by omega
            have rjA : IntKind.i64.wrap ((jp : Int)) = (jp : Int) := by rw [IntKind.wrap_i64]; omega
            obtain ⟨xA, hxA⟩ : ∃ zx, zx = dj[jp + 1]! := ⟨_, rfl⟩
            obtain ⟨yA, hyA⟩ : ∃ zx, zx = dj[jp]! := ⟨_, rfl⟩
            have laA : wr.cell? ⟨blk, off + iNA, none⟩ = some (.int .u8 xA) := by rw [hiNA, hxA]; exact sb_cell SJ.out R (by omega) (jp + 1) (by omega)
            have lbA : wr.cell? ⟨blk, off + jNA, none⟩ = some (.int .u8 yA) := by rw [hjNA, hyA]; exact sb_cell SJ.out R (by omega) (jp) (by omega)
            have hvA : ltInt xA yA = true := by rw [hxA, hyA]; exact hlv
            have HVA := Lib.hid hvA
            clear hxA hyA hiNA hjNA hvA
            go_wp2_with fail
            go_quiet ((go_at_call 221; exact Calls.quiet_of_same (less_q _ _ _ HVA.out _)))
            have S2 := Lib.hid (SW.drewN SJ.out nq)
            clear laA lbA HVA SJ
            generalize wr.drewN nq = w2 at S2 ⊢
            clear nq eiA piA biA riA ejA pjA bjA rjA
            obtain ⟨iNB, hiNB⟩ : ∃ zq, zq = jp + 1 := ⟨_, rfl⟩
            have eiB : ((jp : Int) + 1).toNat = iNB := by omega
            have piB : (0 : Int) ≤ (jp : Int) + 1 := by omega
            have biB : (jp : Int) + 1 < (n : Int) := by omega
            have riB : IntKind.i64.wrap ((jp : Int) + 1) = (jp : Int) + 1 := by rw [IntKind.wrap_i64]; omega
            obtain ⟨jNB, hjNB⟩ : ∃ zq, zq = jp := ⟨_, rfl⟩
            have ejB : ((jp : Int)).toNat = jNB := by omega
            have pjB : (0 : Int) ≤ (jp : Int) := by omega
            have bjB : (jp : Int) < (n : Int) := by omega
            have rjB : IntKind.i64.wrap ((jp : Int)) = (jp : Int) := by rw [IntKind.wrap_i64]; omega
            obtain ⟨xB, hxB⟩ : ∃ zx, zx = dj[jp + 1]! := ⟨_, rfl⟩
            obtain ⟨yB, hyB⟩ : ∃ zx, zx = dj[jp]! := ⟨_, rfl⟩
            have S3 : Hid (SB w0 blk off (swp dj (jp + 1) (jp)) ((w2.setCell ⟨blk, off + iNB, none⟩ (.int .u8 yB)).setCell ⟨blk, off + jNB, none⟩ (.int .u8 xB)).drew) := Lib.hid (by rw [hiNB, hjNB, hxB, hyB]; exact sb_swap S2.out R (jp + 1) (jp) (by omega) (by omega))
            have caB : w2.cell? ⟨blk, off + iNB, none⟩ = some (.int .u8 xB) := by rw [hiNB, hxB]; exact sb_cell S2.out R (by omega) (jp + 1) (by omega)
            have cbB : w2.cell? ⟨blk, off + jNB, none⟩ = some (.int .u8 yB) := by rw [hjNB, hyB]; exact sb_cell S2.out R (by omega) (jp) (by omega)
            have faB : w2.frozen? ⟨blk, off + iNB, none⟩ = false := by rw [hiNB]; exact SW.f1 S2.out R (by omega) (jp + 1) (by omega)
            have fbB : w2.frozen? ⟨blk, off + jNB, none⟩ = false := by rw [hjNB]; exact SW.f1 S2.out R (by omega) (jp) (by omega)
            obtain ⟨uB, ccB⟩ : ∃ u, (w2.setCell ⟨blk, off + iNB, none⟩ (.int .u8 yB)).cell? ⟨blk, off + jNB, none⟩ = some u := by rw [hiNB, hjNB]; exact SW.c2 S2.out R (by omega) (jp + 1) (jp) (by omega) (by omega) (.int .u8 yB)
            clear S2 hxB hyB hiNB hjNB
            go_wp2_with fail
            go_region
            clear caB cbB ccB faB fbB
            generalize ((w2.setCell ⟨blk, off + iNB, none⟩ (.int .u8 yB)).setCell ⟨blk, off + jNB, none⟩ (.int .u8 xB)).drew = w3 at S3 ⊢
            clear eiB piB biB riB ejB pjB bjB rjB
            go_wp2
            go_roundg jp
            case measure => omega
            case rel => exact ⟨jp, swp dj (jp + 1) jp, by go_num, by omega, by omega, Nat.le_refl _, by rw [size_swp]; exact hsj, S3, Lib.hid (HGO.out.symm.trans HI.out)⟩
          | false =>
            have HST := Lib.hid (OUT.out (.inr ⟨jp, rfl, hlv⟩))
            obtain ⟨iNA, hiNA⟩ : ∃ zq, zq = jp + 1 := ⟨_, rfl⟩
            have eiA : ((jp : Int) + 1).toNat = iNA := by omega
            have piA : (0 : Int) ≤ (jp : Int) + 1 := by omega
            have biA : (jp : Int) + 1 < (n : Int) := by omega
            have riA : IntKind.i64.wrap ((jp : Int) + 1) = (jp : Int) + 1 := by rw [IntKind.wrap_i64]; omega
            obtain ⟨jNA, hjNA⟩ : ∃ zq, zq = jp := ⟨_, rfl⟩
            have ejA : ((jp : Int)).toNat = jNA := by omega
            have pjA : (0 : Int) ≤ (jp : Int) := by omega
            have bjA : (jp : Int) < (n : Int) := by omega
            have rjA : IntKind.i64.wrap ((jp : Int)) = (jp : Int) := by rw [IntKind.wrap_i64]; omega
            obtain ⟨xA, hxA⟩ : ∃ zx, zx = dj[jp + 1]! := ⟨_, rfl⟩
            obtain ⟨yA, hyA⟩ : ∃ zx, zx = dj[jp]! := ⟨_, rfl⟩
            have laA : wr.cell? ⟨blk, off + iNA, none⟩ = some (.int .u8 xA) := by rw [hiNA, hxA]; exact sb_cell SJ.out R (by omega) (jp + 1) (by omega)
            have lbA : wr.cell? ⟨blk, off + jNA, none⟩ = some (.int .u8 yA) := by rw [hjNA, hyA]; exact sb_cell SJ.out R (by omega) (jp) (by omega)
            have hvA : ltInt xA yA = false := by rw [hxA, hyA]; exact hlv
            have HVA := Lib.hid hvA
            clear hxA hyA hiNA hjNA hvA
            go_wp2_with fail
            go_quiet ((go_at_call 221; exact Calls.quiet_of_same (less_q _ _ _ HVA.out _)))
            have S2 := Lib.hid (SW.drewN SJ.out nq)
            clear laA lbA HVA SJ
            generalize wr.drewN nq = w2 at S2 ⊢
            clear nq eiA piA biA riA ejA pjA bjA rjA
            go_wp2
            go_roundg (b - i)
            case measure => omega
            case rel => exact ⟨i + 1, dj, by go_num, by omega, by omega, by omega, hsj, S2, HST⟩
        · have HST := Lib.hid (OUT.out (.inl (by omega)))
          have hja1 : decide ((a : Int) < (j : Int)) = false := by simp; omega
          have hja2 : ¬ (a : Int) < (j : Int) := by omega
          have hja3 : decide (a < j) = false := by simp; omega
          go_wp2_with fail
          go_quiet (fail)
          have S2 := Lib.hid (SW.drewN SJ.out nq)
          generalize wr.drewN nq = w2 at S2 ⊢
          go_wp2
          go_roundg (b - i)
          case measure => omega
          case rel => exact ⟨i + 1, dj, by go_num, by omega, by omega, by omega, hsj, S2, HST⟩
    · have hltz : ¬ (i : Int) < (b : Int) := by omega
      go_wp2
      go_end0
      refine ⟨rfl, ?_⟩
      have h := (insOuter_end _ _ _ _ _ hlt).symm.trans HO.out
      unfold insertionSort
      rw [← h]
      exact S1.out
theorem size_reverseLoop (d : Array Int) : ∀ (k i j : Nat) (d : Array Int), j - i ≤ k → (reverseLoop i j d).size = d.size
  | 0, i, j, d, h => by rw [reverseLoop, if_neg (by omega)]
  | k + 1, i, j, d, h => by
    rw [reverseLoop]
    split
    · rw [size_reverseLoop d k _ _ _ (by omega), size_swp]
    · rfl
set_option maxRecDepth 100000 in
set_option maxHeartbeats 4000000 in
theorem rev_any (blk off cap a b n : Nat) (d0 d : Array Int) (w0 w : World) (R : RB w0 blk off d0) (hs0 : d0.size = n) (hsd : d.size = n) (S : SB w0 blk off d w) (hab : a < b) (hb : b ≤ n) (hsz : n < 4611686018427387904) :
    Calls Tryz.prog 219 #[.slice (some ⟨blk, off, none⟩) n cap, .int .i64 a, .int .i64 b] w fun e w' => e = .returned (.tuple #[]) ∧ SB w0 blk off (reverseRange d a b) w' := by
  have S0 := Lib.hid S
  have hb1 : ((b - 1 : Nat) : Int) = (b : Int) - 1 := by omega
  have HB1 := Lib.hid hb1
  clear S hb1
  go_enter Tryz.func219, Tryz.ntmps219
  go_wp2
  go_loopg [6, 7] (b - a) (fun g1 vi vj wr => ∃ (i j : Nat) (dk : Array Int), vi = .int .i64 i ∧ vj = .int .i64 j ∧ a ≤ i ∧ j < b ∧ i ≤ j + 1 ∧ j - i ≤ g1 ∧ dk.size = n ∧ Hid (SB w0 blk off dk wr) ∧ Hid (reverseLoop i j dk = reverseLoop a (b - 1) d))
  case atStart => exact ⟨a, b - 1, d, rfl, by rw [HB1.out], by omega, by omega, by omega, by omega, hsd, S0, Lib.hid rfl⟩
  case round =>
    clear S0
    obtain ⟨i, j, dk, rfl, rfl, hai, hjb, hij1, hg1, hsk, S1, HO⟩ := hrel
    by_cases hlt : i < j
    · obtain ⟨jp, rfl⟩ : ∃ q, j = q + 1 := ⟨j - 1, by omega⟩
      have hltz : (i : Int) < (jp : Int) + 1 := by omega
      have HRV : Hid (reverseLoop i (jp + 1) dk = reverseLoop (i + 1) jp (swp dk i (jp + 1))) := Lib.hid (reverseLoop_step i (jp + 1) dk hlt)
      go_wp2_with fail
      obtain ⟨iNB, hiNB⟩ : ∃ zq, zq = i := ⟨_, rfl⟩
      have eiB : ((i : Int)).toNat = iNB := by omega
      have piB : (0 : Int) ≤ (i : Int) := by omega
      have biB : (i : Int) < (n : Int) := by omega
      have riB : IntKind.i64.wrap ((i : Int)) = (i : Int) := by rw [IntKind.wrap_i64]; omega
      obtain ⟨jNB, hjNB⟩ : ∃ zq, zq = jp + 1 := ⟨_, rfl⟩
      have ejB : ((jp : Int) + 1).toNat = jNB := by omega
      have pjB : (0 : Int) ≤ (jp : Int) + 1 := by omega
      have bjB : (jp : Int) + 1 < (n : Int) := by omega
      have rjB : IntKind.i64.wrap ((jp : Int) + 1) = (jp : Int) + 1 := by rw [IntKind.wrap_i64]; omega
      obtain ⟨xB, hxB⟩ : ∃ zx, zx = dk[i]! := ⟨_, rfl⟩
      obtain ⟨yB, hyB⟩ : ∃ zx, zx = dk[jp + 1]! := ⟨_, rfl⟩
      have S3 : Hid (SB w0 blk off (swp dk (i) (jp + 1)) ((wr.setCell ⟨blk, off + iNB, none⟩ (.int .u8 yB)).setCell ⟨blk, off + jNB, none⟩ (.int .u8 xB)).drew) := Lib.hid (by rw [hiNB, hjNB, hxB, hyB]; exact sb_swap S1.out R (i) (jp + 1) (by omega) (by omega))
      have caB : wr.cell? ⟨blk, off + iNB, none⟩ = some (.int .u8 xB) := by rw [hiNB, hxB]; exact sb_cell S1.out R (by omega) (i) (by omega)
      have cbB : wr.cell? ⟨blk, off + jNB, none⟩ = some (.int .u8 yB) := by rw [hjNB, hyB]; exact sb_cell S1.out R (by omega) (jp + 1) (by omega)
      have faB : wr.frozen? ⟨blk, off + iNB, none⟩ = false := by rw [hiNB]; exact SW.f1 S1.out R (by omega) (i) (by omega)
      have fbB : wr.frozen? ⟨blk, off + jNB, none⟩ = false := by rw [hjNB]; exact SW.f1 S1.out R (by omega) (jp + 1) (by omega)
      obtain ⟨uB, ccB⟩ : ∃ u, (wr.setCell ⟨blk, off + iNB, none⟩ (.int .u8 yB)).cell? ⟨blk, off + jNB, none⟩ = some u := by rw [hiNB, hjNB]; exact SW.c2 S1.out R (by omega) (i) (jp + 1) (by omega) (by omega) (.int .u8 yB)
      clear S1 hxB hyB hiNB hjNB
      go_wp2_with fail
      go_region
      clear caB cbB ccB faB fbB
      generalize ((wr.setCell ⟨blk, off + iNB, none⟩ (.int .u8 yB)).setCell ⟨blk, off + jNB, none⟩ (.int .u8 xB)).drew = w3 at S3 ⊢
      clear eiB piB biB riB ejB pjB bjB rjB
      go_wp2
      go_roundg (jp - i - 1)
      case measure => omega
      case rel => exact ⟨i + 1, jp, swp dk i (jp + 1), by go_num, by go_num, by omega, by omega, by omega, by omega, by rw [size_swp]; exact hsk, S3, Lib.hid (HRV.out.symm.trans HO.out)⟩
    · have hltz : ¬ (i : Int) < (j : Int) := by omega
      go_wp2
      go_end0
      refine ⟨rfl, ?_⟩
      have h := (reverseLoop_end _ _ _ hlt).symm.trans HO.out
      unfold reverseRange
      rw [← h]
      exact S1.out
end Go.Proofs.YtkifdbeklagelaaGreatDoor

/- BYTES SORTED: siftDownOrdered, heapSortOrdered. -/
namespace Go.Proofs.YtkifdbeklagelaaGreatDoor
open Go.RowKit Go.Sort

section
variable {α : Type} [Inhabited α] (lt : α → α → Bool)
theorem sift_end (hi first root : Nat) (d : Array α) (h : hi ≤ 2 * root + 1) : siftDown lt hi first root d = d := by rw [siftDown, dif_pos h]
/-- the child that is taken -/
def kid2 (hi first root : Nat) (d : Array α) : Bool := decide (2 * root + 1 + 1 < hi) && lt d[first + (2 * root + 1)]! d[first + (2 * root + 1) + 1]!
theorem sift_stop2 (hi first root : Nat) (d : Array α) (h : 2 * root + 1 < hi) (hk : kid2 lt hi first root d = true) (hl : lt d[first + root]! d[first + (2 * root + 2)]! = false) : siftDown lt hi first root d = d := by
  unfold kid2 at hk
  rw [siftDown, dif_neg (by omega), if_pos hk, hl]; rfl
theorem sift_go2 (hi first root : Nat) (d : Array α) (h : 2 * root + 1 < hi) (hk : kid2 lt hi first root d = true) (hl : lt d[first + root]! d[first + (2 * root + 2)]! = true) : siftDown lt hi first root d = siftDown lt hi first (2 * root + 2) (swp d (first + root) (first + (2 * root + 2))) := by
  unfold kid2 at hk
  have h2 : 2 * root + 2 < hi := by simp at hk; omega
  rw [siftDown, dif_neg (by omega), if_pos hk, hl, if_neg (by decide), dif_pos h2]
theorem sift_stop1 (hi first root : Nat) (d : Array α) (h : 2 * root + 1 < hi) (hk : kid2 lt hi first root d = false) (hl : lt d[first + root]! d[first + (2 * root + 1)]! = false) : siftDown lt hi first root d = d := by
  unfold kid2 at hk
  rw [siftDown, dif_neg (by omega), hk, if_neg (by decide), hl]; rfl
theorem sift_go1 (hi first root : Nat) (d : Array α) (h : 2 * root + 1 < hi) (hk : kid2 lt hi first root d = false) (hl : lt d[first + root]! d[first + (2 * root + 1)]! = true) : siftDown lt hi first root d = siftDown lt hi first (2 * root + 1) (swp d (first + root) (first + (2 * root + 1))) := by
  unfold kid2 at hk
  rw [siftDown, dif_neg (by omega), hk, if_neg (by decide), hl, if_neg (by decide)]
end
set_option maxRecDepth 100000 in
set_option maxHeartbeats 4000000 in
theorem sift_any (blk off cap lo hi first n : Nat) (d0 d : Array Int) (w0 w : World) (R : RB w0 blk off d0) (hs0 : d0.size = n) (hsd : d.size = n) (S : SB w0 blk off d w) (hfh : first + hi ≤ n) (hlo : lo ≤ n) (hsz : n < 2305843009213693952) :
    Calls Tryz.prog 226 #[.slice (some ⟨blk, off, none⟩) n cap, .int .i64 lo, .int .i64 hi, .int .i64 first] w fun e w' => e = .returned (.tuple #[]) ∧ SB w0 blk off (siftDown ltInt hi first lo d) w' := by
  have S0 := Lib.hid S
  clear S
  go_enter Tryz.func226, Tryz.ntmps226
  go_wp2
  go_loopg [8] (n + hi - lo) (fun g1 vr wr => ∃ (rt : Nat) (dk : Array Int), vr = .int .i64 rt ∧ rt ≤ n ∧ n + hi - rt ≤ g1 ∧ dk.size = n ∧ Hid (SB w0 blk off dk wr) ∧ Hid (siftDown ltInt hi first rt dk = siftDown ltInt hi first lo d))
  case atStart => exact ⟨lo, d, rfl, hlo, Nat.le_refl _, hsd, S0, Lib.hid rfl⟩
  case round =>
    clear S0
    obtain ⟨rt, dk, rfl, hrn, hg1, hsk, S1, HO⟩ := hrel
    by_cases hc : 2 * rt + 1 < hi
    · have hcz : ¬ (hi : Int) ≤ 2 * (rt : Int) + 1 := by omega
      by_cases hc2 : 2 * rt + 1 + 1 < hi
      · have hg2 : decide (2 * (rt : Int) + 1 + 1 < (hi : Int)) = true := by simp; omega
        have hg3 : 2 * (rt : Int) + 1 + 1 < (hi : Int) := by omega
        cases hlv : ltInt dk[first + (2 * rt + 1)]! dk[first + (2 * rt + 1) + 1]! with
        | true =>
          have hk : kid2 ltInt hi first rt dk = true := by unfold kid2; rw [hlv]; simp; omega
          have HK := Lib.hid hk
          clear hk
          go_wp2_with fail
          obtain ⟨iNA, hiNA⟩ : ∃ zq, zq = first + (2 * rt + 1) := ⟨_, rfl⟩
          have eiA : ((first : Int) + (2 * (rt : Int) + 1)).toNat = iNA := by omega
          have piA : (0 : Int) ≤ (first : Int) + (2 * (rt : Int) + 1) := by omega
          have biA : (first : Int) + (2 * (rt : Int) + 1) < (n : Int) := by omega
          have riA : IntKind.i64.wrap ((first : Int) + (2 * (rt : Int) + 1)) = (first : Int) + (2 * (rt : Int) + 1) := by rw [IntKind.wrap_i64]; omega
          obtain ⟨jNA, hjNA⟩ : ∃ zq, zq = first + (2 * rt + 1) + 1 := ⟨_, rfl⟩
          have ejA : ((first : Int) + (2 * (rt : Int) + 1) + 1).toNat = jNA := by omega
          have pjA : (0 : Int) ≤ (first : Int) + (2 * (rt : Int) + 1) + 1 := by omega
          have bjA : (first : Int) + (2 * (rt : Int) + 1) + 1 < (n : Int) := by omega
          have rjA : IntKind.i64.wrap ((first : Int) + (2 * (rt : Int) + 1) + 1) = (first : Int) + (2 * (rt : Int) + 1) + 1 := by rw [IntKind.wrap_i64]; omega
          obtain ⟨xA, hxA⟩ : ∃ zx, zx = dk[first + (2 * rt + 1)]! := ⟨_, rfl⟩
          obtain ⟨yA, hyA⟩ : ∃ zx, zx = dk[first + (2 * rt + 1) + 1]! := ⟨_, rfl⟩
          have laA : wr.cell? ⟨blk, off + iNA, none⟩ = some (.int .u8 xA) := by rw [hiNA, hxA]; exact sb_cell S1.out R (by omega) (first + (2 * rt + 1)) (by omega)
          have lbA : wr.cell? ⟨blk, off + jNA, none⟩ = some (.int .u8 yA) := by rw [hjNA, hyA]; exact sb_cell S1.out R (by omega) (first + (2 * rt + 1) + 1) (by omega)
          have hvA : ltInt xA yA = true := by rw [hxA, hyA]; exact hlv
          have HVA := Lib.hid hvA
          clear hxA hyA hiNA hjNA hvA
          go_wp2_with fail
          go_quiet ((go_at_call 221; exact Calls.quiet_of_same (less_q _ _ _ HVA.out _)))
          have S2 := Lib.hid (SW.drewN S1.out nq)
          clear laA lbA HVA S1
          generalize wr.drewN nq = w2 at S2 ⊢
          clear nq eiA piA biA riA ejA pjA bjA rjA
          clear hlv
          cases hl2 : ltInt dk[first + rt]! dk[first + (2 * rt + 2)]! with
          | true =>
            have HGO := Lib.hid ((sift_go2 ltInt hi first rt dk hc HK.out hl2).symm.trans HO.out)
            go_wp2_with fail
            obtain ⟨iNB, hiNB⟩ : ∃ zq, zq = first + rt := ⟨_, rfl⟩
            have eiB : ((first : Int) + (rt : Int)).toNat = iNB := by omega
            have piB : (0 : Int) ≤ (first : Int) + (rt : Int) := by omega
            have biB : (first : Int) + (rt : Int) < (n : Int) := by omega
            have riB : IntKind.i64.wrap ((first : Int) + (rt : Int)) = (first : Int) + (rt : Int) := by rw [IntKind.wrap_i64]; omega
            obtain ⟨jNB, hjNB⟩ : ∃ zq, zq = first + (2 * rt + 2) := ⟨_, rfl⟩
            have ejB : ((first : Int) + (2 * (rt : Int) + 1 + 1)).toNat = jNB := by omega
            have pjB : (0 : Int) ≤ (first : Int) + (2 * (rt : Int) + 1 + 1) := by omega
            have bjB : (first : Int) + (2 * (rt : Int) + 1 + 1) < (n : Int) := by omega
            have rjB : IntKind.i64.wrap ((first : Int) + (2 * (rt : Int) + 1 + 1)) = (first : Int) + (2 * (rt : Int) + 1 + 1) := by rw [IntKind.wrap_i64]; omega
            obtain ⟨xB, hxB⟩ : ∃ zx, zx = dk[first + rt]! := ⟨_, rfl⟩
            obtain ⟨yB, hyB⟩ : ∃ zx, zx = dk[first + (2 * rt + 2)]! := ⟨_, rfl⟩
            have laB : w2.cell? ⟨blk, off + iNB, none⟩ = some (.int .u8 xB) := by rw [hiNB, hxB]; exact sb_cell S2.out R (by omega) (first + rt) (by omega)
            have lbB : w2.cell? ⟨blk, off + jNB, none⟩ = some (.int .u8 yB) := by rw [hjNB, hyB]; exact sb_cell S2.out R (by omega) (first + (2 * rt + 2)) (by omega)
            have hvB : ltInt xB yB = true := by rw [hxB, hyB]; exact hl2
            have HVB := Lib.hid hvB
            clear hxB hyB hiNB hjNB hvB
            go_wp2_with fail
            go_quiet ((go_at_call 221; exact Calls.quiet_of_same (less_q _ _ _ HVB.out _)))
            have S3 := Lib.hid (SW.drewN S2.out nq)
            clear laB lbB HVB S2
            generalize w2.drewN nq = w3 at S3 ⊢
            clear nq eiB piB biB riB ejB pjB bjB rjB
            go_wp2_with fail
            obtain ⟨iNC, hiNC⟩ : ∃ zq, zq = first + rt := ⟨_, rfl⟩
            have eiC : ((first : Int) + (rt : Int)).toNat = iNC := by omega
            have piC : (0 : Int) ≤ (first : Int) + (rt : Int) := by omega
            have biC : (first : Int) + (rt : Int) < (n : Int) := by omega
            have riC : IntKind.i64.wrap ((first : Int) + (rt : Int)) = (first : Int) + (rt : Int) := by rw [IntKind.wrap_i64]; omega
            obtain ⟨jNC, hjNC⟩ : ∃ zq, zq = first + (2 * rt + 2) := ⟨_, rfl⟩
            have ejC : ((first : Int) + (2 * (rt : Int) + 1 + 1)).toNat = jNC := by omega
            have pjC : (0 : Int) ≤ (first : Int) + (2 * (rt : Int) + 1 + 1) := by omega
            have bjC : (first : Int) + (2 * (rt : Int) + 1 + 1) < (n : Int) := by omega
            have rjC : IntKind.i64.wrap ((first : Int) + (2 * (rt : Int) + 1 + 1)) = (first : Int) + (2 * (rt : Int) + 1 + 1) := by rw [IntKind.wrap_i64]; omega
            obtain ⟨xC, hxC⟩ : ∃ zx, zx = dk[first + rt]! := ⟨_, rfl⟩
            obtain ⟨yC, hyC⟩ : ∃ zx, zx = dk[first + (2 * rt + 2)]! := ⟨_, rfl⟩
            have S4 : Hid (SB w0 blk off (swp dk (first + rt) (first + (2 * rt + 2))) ((w3.setCell ⟨blk, off + iNC, none⟩ (.int .u8 yC)).setCell ⟨blk, off + jNC, none⟩ (.int .u8 xC)).drew) := Lib.hid (by rw [hiNC, hjNC, hxC, hyC]; exact sb_swap S3.out R (first + rt) (first + (2 * rt + 2)) (by omega) (by omega))
            have caC : w3.cell? ⟨blk, off + iNC, none⟩ = some (.int .u8 xC) := by rw [hiNC, hxC]; exact sb_cell S3.out R (by omega) (first + rt) (by omega)
            have cbC : w3.cell? ⟨blk, off + jNC, none⟩ = some (.int .u8 yC) := by rw [hjNC, hyC]; exact sb_cell S3.out R (by omega) (first + (2 * rt + 2)) (by omega)
            have faC : w3.frozen? ⟨blk, off + iNC, none⟩ = false := by rw [hiNC]; exact SW.f1 S3.out R (by omega) (first + rt) (by omega)
            have fbC : w3.frozen? ⟨blk, off + jNC, none⟩ = false := by rw [hjNC]; exact SW.f1 S3.out R (by omega) (first + (2 * rt + 2)) (by omega)
            obtain ⟨uC, ccC⟩ : ∃ u, (w3.setCell ⟨blk, off + iNC, none⟩ (.int .u8 yC)).cell? ⟨blk, off + jNC, none⟩ = some u := by rw [hiNC, hjNC]; exact SW.c2 S3.out R (by omega) (first + rt) (first + (2 * rt + 2)) (by omega) (by omega) (.int .u8 yC)
            clear S3 hxC hyC hiNC hjNC
            go_wp2_with fail
            go_region
            clear caC cbC ccC faC fbC
            generalize ((w3.setCell ⟨blk, off + iNC, none⟩ (.int .u8 yC)).setCell ⟨blk, off + jNC, none⟩ (.int .u8 xC)).drew = w4 at S4 ⊢
            clear eiC piC biC riC ejC pjC bjC rjC
            go_wp2
            go_roundg (n + hi - (2 * rt + 2))
            case measure => omega
            case rel => exact ⟨2 * rt + 2, swp dk (first + rt) (first + (2 * rt + 2)), by go_num, by omega, Nat.le_refl _, by rw [size_swp]; exact hsk, S4, HGO⟩
          | false =>
            have HST := Lib.hid ((sift_stop2 ltInt hi first rt dk hc HK.out hl2).symm.trans HO.out)
            go_wp2_with fail
            obtain ⟨iNB, hiNB⟩ : ∃ zq, zq = first + rt := ⟨_, rfl⟩
            have eiB : ((first : Int) + (rt : Int)).toNat = iNB := by omega
            have piB : (0 : Int) ≤ (first : Int) + (rt : Int) := by omega
            have biB : (first : Int) + (rt : Int) < (n : Int) := by omega
            have riB : IntKind.i64.wrap ((first : Int) + (rt : Int)) = (first : Int) + (rt : Int) := by rw [IntKind.wrap_i64]; omega
            obtain ⟨jNB, hjNB⟩ : ∃ zq, zq = first + (2 * rt + 2) := ⟨_, rfl⟩
            have ejB : ((first : Int) + (2 * (rt : Int) + 1 + 1)).toNat = jNB := by omega
            have pjB : (0 : Int) ≤ (first : Int) + (2 * (rt : Int) + 1 + 1) := by omega
            have bjB : (first : Int) + (2 * (rt : Int) + 1 + 1) < (n : Int) := by omega
            have rjB : IntKind.i64.wrap ((first : Int) + (2 * (rt : Int) + 1 + 1)) = (first : Int) + (2 * (rt : Int) + 1 + 1) := by rw [IntKind.wrap_i64]; omega
            obtain ⟨xB, hxB⟩ : ∃ zx, zx = dk[first + rt]! := ⟨_, rfl⟩
            obtain ⟨yB, hyB⟩ : ∃ zx, zx = dk[first + (2 * rt + 2)]! := ⟨_, rfl⟩
            have laB : w2.cell? ⟨blk, off + iNB, none⟩ = some (.int .u8 xB) := by rw [hiNB, hxB]; exact sb_cell S2.out R (by omega) (first + rt) (by omega)
            have lbB : w2.cell? ⟨blk, off + jNB, none⟩ = some (.int .u8 yB) := by rw [hjNB, hyB]; exact sb_cell S2.out R (by omega) (first + (2 * rt + 2)) (by omega)
            have hvB : ltInt xB yB = false := by rw [hxB, hyB]; exact hl2
            have HVB := Lib.hid hvB
            clear hxB hyB hiNB hjNB hvB
            go_wp2_with fail
            go_quiet ((go_at_call 221; exact Calls.quiet_of_same (less_q _ _ _ HVB.out _)))
            have S3 := Lib.hid (SW.drewN S2.out nq)
            clear laB lbB HVB S2
            generalize w2.drewN nq = w3 at S3 ⊢
            clear nq eiB piB biB riB ejB pjB bjB rjB
            go_wp2
            refine bodyPost_ret (results_none rfl _ _ _) rfl ?_
            refine ⟨rfl, ?_⟩
            rw [← HST.out]
            exact S3.out
        | false =>
          have hk : kid2 ltInt hi first rt dk = false := by unfold kid2; rw [hlv]; simp
          have HK := Lib.hid hk
          clear hk
          go_wp2_with fail
          obtain ⟨iNA, hiNA⟩ : ∃ zq, zq = first + (2 * rt + 1) := ⟨_, rfl⟩
          have eiA : ((first : Int) + (2 * (rt : Int) + 1)).toNat = iNA := by omega
          have piA : (0 : Int) ≤ (first : Int) + (2 * (rt : Int) + 1) := by omega
          have biA : (first : Int) + (2 * (rt : Int) + 1) < (n : Int) := by omega
          have riA : IntKind.i64.wrap ((first : Int) + (2 * (rt : Int) + 1)) = (first : Int) + (2 * (rt : Int) + 1) := by rw [IntKind.wrap_i64]; omega
          obtain ⟨jNA, hjNA⟩ : ∃ zq, zq = first + (2 * rt + 1) + 1 := ⟨_, rfl⟩
          have ejA : ((first : Int) + (2 * (rt : Int) + 1) + 1).toNat = jNA := by omega
          have pjA : (0 : Int) ≤ (first : Int) + (2 * (rt : Int) + 1) + 1 := by omega
          have bjA : (first : Int) + (2 * (rt : Int) + 1) + 1 < (n : Int) := by omega
          have rjA : IntKind.i64.wrap ((first : Int) + (2 * (rt : Int) + 1) + 1) = (first : Int) + (2 * (rt : Int) + 1) + 1 := by rw [IntKind.wrap_i64]; omega
          obtain ⟨xA, hxA⟩ : ∃ zx, zx = dk[first + (2 * rt + 1)]! := ⟨_, rfl⟩
          obtain ⟨yA, hyA⟩ : ∃ zx, zx = dk[first + (2 * rt + 1) + 1]! := ⟨_, rfl⟩
          have laA : wr.cell? ⟨blk, off + iNA, none⟩ = some (.int .u8 xA) := by rw [hiNA, hxA]; exact sb_cell S1.out R (by omega) (first + (2 * rt + 1)) (by omega)
          have lbA : wr.cell? ⟨blk, off + jNA, none⟩ = some (.int .u8 yA) := by rw [hjNA, hyA]; exact sb_cell S1.out R (by omega) (first + (2 * rt + 1) + 1) (by omega)
          have hvA : ltInt xA yA = false := by rw [hxA, hyA]; exact hlv
          have HVA := Lib.hid hvA
          clear hxA hyA hiNA hjNA hvA
          go_wp2_with fail
          go_quiet ((go_at_call 221; exact Calls.quiet_of_same (less_q _ _ _ HVA.out _)))
          have S2 := Lib.hid (SW.drewN S1.out nq)
          clear laA lbA HVA S1
          generalize wr.drewN nq = w2 at S2 ⊢
          clear nq eiA piA biA riA ejA pjA bjA rjA
          clear hlv
          cases hl2 : ltInt dk[first + rt]! dk[first + (2 * rt + 1)]! with
          | true =>
            have HGO := Lib.hid ((sift_go1 ltInt hi first rt dk hc HK.out hl2).symm.trans HO.out)
            go_wp2_with fail
            obtain ⟨iNB, hiNB⟩ : ∃ zq, zq = first + rt := ⟨_, rfl⟩
            have eiB : ((first : Int) + (rt : Int)).toNat = iNB := by omega
            have piB : (0 : Int) ≤ (first : Int) + (rt : Int) := by omega
            have biB : (first : Int) + (rt : Int) < (n : Int) := by omega
            have riB : IntKind.i64.wrap ((first : Int) + (rt : Int)) = (first : Int) + (rt : Int) := by rw [IntKind.wrap_i64]; omega
            obtain ⟨jNB, hjNB⟩ : ∃ zq, zq = first + (2 * rt + 1) := ⟨_, rfl⟩
            have ejB : ((first : Int) + (2 * (rt : Int) + 1)).toNat = jNB := by omega
            have pjB : (0 : Int) ≤ (first : Int) + (2 * (rt : Int) + 1) := by omega
            have bjB : (first : Int) + (2 * (rt : Int) + 1) < (n : Int) := by omega
            have rjB : IntKind.i64.wrap ((first : Int) + (2 * (rt : Int) + 1)) = (first : Int) + (2 * (rt : Int) + 1) := by rw [IntKind.wrap_i64]; omega
            obtain ⟨xB, hxB⟩ : ∃ zx, zx = dk[first + rt]! := ⟨_, rfl⟩
            obtain ⟨yB, hyB⟩ : ∃ zx, zx = dk[first + (2 * rt + 1)]! := ⟨_, rfl⟩
            have laB : w2.cell? ⟨blk, off + iNB, none⟩ = some (.int .u8 xB) := by rw [hiNB, hxB]; exact sb_cell S2.out R (by omega) (first + rt) (by omega)
            have lbB : w2.cell? ⟨blk, off + jNB, none⟩ = some (.int .u8 yB) := by rw [hjNB, hyB]; exact sb_cell S2.out R (by omega) (first + (2 * rt + 1)) (by omega)
            have hvB : ltInt xB yB = true := by rw [hxB, hyB]; exact hl2
            have HVB := Lib.hid hvB
            clear hxB hyB hiNB hjNB hvB
            go_wp2_with fail
            go_quiet ((go_at_call 221; exact Calls.quiet_of_same (less_q _ _ _ HVB.out _)))
            have S3 := Lib.hid (SW.drewN S2.out nq)
            clear laB lbB HVB S2
            generalize w2.drewN nq = w3 at S3 ⊢
            clear nq eiB piB biB riB ejB pjB bjB rjB
            go_wp2_with fail
            obtain ⟨iNC, hiNC⟩ : ∃ zq, zq = first + rt := ⟨_, rfl⟩
            have eiC : ((first : Int) + (rt : Int)).toNat = iNC := by omega
            have piC : (0 : Int) ≤ (first : Int) + (rt : Int) := by omega
            have biC : (first : Int) + (rt : Int) < (n : Int) := by omega
            have riC : IntKind.i64.wrap ((first : Int) + (rt : Int)) = (first : Int) + (rt : Int) := by rw [IntKind.wrap_i64]; omega
            obtain ⟨jNC, hjNC⟩ : ∃ zq, zq = first + (2 * rt + 1) := ⟨_, rfl⟩
            have ejC : ((first : Int) + (2 * (rt : Int) + 1)).toNat = jNC := by omega
            have pjC : (0 : Int) ≤ (first : Int) + (2 * (rt : Int) + 1) := by omega
            have bjC : (first : Int) + (2 * (rt : Int) + 1) < (n : Int) := by omega
            have rjC : IntKind.i64.wrap ((first : Int) + (2 * (rt : Int) + 1)) = (first : Int) + (2 * (rt : Int) + 1) := by rw [IntKind.wrap_i64]; omega
            obtain ⟨xC, hxC⟩ : ∃ zx, zx = dk[first + rt]! := ⟨_, rfl⟩
            obtain ⟨yC, hyC⟩ : ∃ zx, zx = dk[first + (2 * rt + 1)]! := ⟨_, rfl⟩
            have S4 : Hid (SB w0 blk off (swp dk (first + rt) (first + (2 * rt + 1))) ((w3.setCell ⟨blk, off + iNC, none⟩ (.int .u8 yC)).setCell ⟨blk, off + jNC, none⟩ (.int .u8 xC)).drew) := Lib.hid (by rw [hiNC, hjNC, hxC, hyC]; exact sb_swap S3.out R (first + rt) (first + (2 * rt + 1)) (by omega) (by omega))
            have caC : w3.cell? ⟨blk, off + iNC, none⟩ = some (.int .u8 xC) := by rw [hiNC, hxC]; exact sb_cell S3.out R (by omega) (first + rt) (by omega)
            have cbC : w3.cell? ⟨blk, off + jNC, none⟩ = some (.int .u8 yC) := by rw [hjNC, hyC]; exact sb_cell S3.out R (by omega) (first + (2 * rt + 1)) (by omega)
            have faC : w3.frozen? ⟨blk, off + iNC, none⟩ = false := by rw [hiNC]; exact SW.f1 S3.out R (by omega) (first + rt) (by omega)
            have fbC : w3.frozen? ⟨blk, off + jNC, none⟩ = false := by rw [hjNC]; exact SW.f1 S3.out R (by omega) (first + (2 * rt + 1)) (by omega)
            obtain ⟨uC, ccC⟩ : ∃ u, (w3.setCell ⟨blk, off + iNC, none⟩ (.int .u8 yC)).cell? ⟨blk, off + jNC, none⟩ = some u := by rw [hiNC, hjNC]; exact SW.c2 S3.out R (by omega) (first + rt) (first + (2 * rt + 1)) (by omega) (by omega) (.int .u8 yC)
            clear S3 hxC hyC hiNC hjNC
            go_wp2_with fail
            go_region
            clear caC cbC ccC faC fbC
            generalize ((w3.setCell ⟨blk, off + iNC, none⟩ (.int .u8 yC)).setCell ⟨blk, off + jNC, none⟩ (.int .u8 xC)).drew = w4 at S4 ⊢
            clear eiC piC biC riC ejC pjC bjC rjC
            go_wp2
            go_roundg (n + hi - (2 * rt + 1))
            case measure => omega
            case rel => exact ⟨2 * rt + 1, swp dk (first + rt) (first + (2 * rt + 1)), by go_num, by omega, Nat.le_refl _, by rw [size_swp]; exact hsk, S4, HGO⟩
          | false =>
            have HST := Lib.hid ((sift_stop1 ltInt hi first rt dk hc HK.out hl2).symm.trans HO.out)
            go_wp2_with fail
            obtain ⟨iNB, hiNB⟩ : ∃ zq, zq = first + rt := ⟨_, rfl⟩
            have eiB : ((first : Int) + (rt : Int)).toNat = iNB := by omega
            have piB : (0 : Int) ≤ (first : Int) + (rt : Int) := by omega
            have biB : (first : Int) + (rt : Int) < (n : Int) := by omega
            have riB : IntKind.i64.wrap ((first : Int) + (rt : Int)) = (first : Int) + (rt : Int) := by rw [IntKind.wrap_i64]; omega
            obtain ⟨jNB, hjNB⟩ : ∃ zq, zq = first + (2 * rt + 1) := ⟨_, rfl⟩
            have ejB : ((first : Int) + (2 * (rt : Int) + 1)).toNat = jNB := by omega
            have pjB : (0 : Int) ≤ (first : Int) + (2 * (rt : Int) + 1) := by omega
            have bjB : (first : Int) + (2 * (rt : Int) + 1) < (n : Int) := by omega
            have rjB : IntKind.i64.wrap ((first : Int) + (2 * (rt : Int) + 1)) = (first : Int) + (2 * (rt : Int) + 1) := by rw [IntKind.wrap_i64]; omega
            obtain ⟨xB, hxB⟩ : ∃ zx, zx = dk[first + rt]! := ⟨_, rfl⟩
            obtain ⟨yB, hyB⟩ : ∃ zx, zx = dk[first + (2 * rt + 1)]! := ⟨_, rfl⟩
            have laB : w2.cell? ⟨blk, off + iNB, none⟩ = some (.int .u8 xB) := by rw [hiNB, hxB]; exact sb_cell S2.out R (by omega) (first + rt) (by omega)
            have lbB : w2.cell? ⟨blk, off + jNB, none⟩ = some (.int .u8 yB) := by rw [hjNB, hyB]; exact sb_cell S2.out R (by omega) (first + (2 * rt + 1)) (by omega)
            have hvB : ltInt xB yB = false := by rw [hxB, hyB]; exact hl2
            have HVB := Lib.hid hvB
            clear hxB hyB hiNB hjNB hvB
            go_wp2_with fail
            go_quiet ((go_at_call 221; exact Calls.quiet_of_same (less_q _ _ _ HVB.out _)))
            have S3 := Lib.hid (SW.drewN S2.out nq)
            clear laB lbB HVB S2
            generalize w2.drewN nq = w3 at S3 ⊢
            clear nq eiB piB biB riB ejB pjB bjB rjB
            go_wp2
            refine bodyPost_ret (results_none rfl _ _ _) rfl ?_
            refine ⟨rfl, ?_⟩
            rw [← HST.out]
            exact S3.out
      · have hg2 : decide (2 * (rt : Int) + 1 + 1 < (hi : Int)) = false := by simp; omega
        have hg3 : ¬ 2 * (rt : Int) + 1 + 1 < (hi : Int) := by omega
        have hk : kid2 ltInt hi first rt dk = false := by unfold kid2; simp; intro h; omega
        have HK := Lib.hid hk
        clear hk
        go_wp2_with fail
        go_quiet (fail)
        have S2 := Lib.hid (SW.drewN S1.out nq)
        generalize wr.drewN nq = w2 at S2 ⊢
        clear nq S1
        cases hl2 : ltInt dk[first + rt]! dk[first + (2 * rt + 1)]! with
        | true =>
          have HGO := Lib.hid ((sift_go1 ltInt hi first rt dk hc HK.out hl2).symm.trans HO.out)
          go_wp2_with fail
          obtain ⟨iNB, hiNB⟩ : ∃ zq, zq = first + rt := ⟨_, rfl⟩
          have eiB : ((first : Int) + (rt : Int)).toNat = iNB := by omega
          have piB : (0 : Int) ≤ (first : Int) + (rt : Int) := by omega
          have biB : (first : Int) + (rt : Int) < (n : Int) := by omega
          have riB : IntKind.i64.wrap ((first : Int) + (rt : Int)) = (first : Int) + (rt : Int) := by rw [IntKind.wrap_i64]; omega
          obtain ⟨jNB, hjNB⟩ : ∃ zq, zq = first + (2 * rt + 1) := ⟨_, rfl⟩
          have ejB : ((first : Int) + (2 * (rt : Int) + 1)).toNat = jNB := by omega
          have pjB : (0 : Int) ≤ (first : Int) + (2 * (rt : Int) + 1) := by omega
          have bjB : (first : Int) + (2 * (rt : Int) + 1) < (n : Int) := by omega
          have rjB : IntKind.i64.wrap ((first : Int) + (2 * (rt : Int) + 1)) = (first : Int) + (2 * (rt : Int) + 1) := by rw [IntKind.wrap_i64]; omega
          obtain ⟨xB, hxB⟩ : ∃ zx, zx = dk[first + rt]! := ⟨_, rfl⟩
          obtain ⟨yB, hyB⟩ : ∃ zx, zx = dk[first + (2 * rt + 1)]! := ⟨_, rfl⟩
          have laB : w2.cell? ⟨blk, off + iNB, none⟩ = some (.int .u8 xB) := by rw [hiNB, hxB]; exact sb_cell S2.out R (by omega) (first + rt) (by omega)
          have lbB : w2.cell? ⟨blk, off + jNB, none⟩ = some (.int .u8 yB) := by rw [hjNB, hyB]; exact sb_cell S2.out R (by omega) (first + (2 * rt + 1)) (by omega)
          have hvB : ltInt xB yB = true := by rw [hxB, hyB]; exact hl2
          have HVB := Lib.hid hvB
          clear hxB hyB hiNB hjNB hvB
          go_wp2_with fail
          go_quiet ((go_at_call 221; exact Calls.quiet_of_same (less_q _ _ _ HVB.out _)))
          have S3 := Lib.hid (SW.drewN S2.out nq)
          clear laB lbB HVB S2
          generalize w2.drewN nq = w3 at S3 ⊢
          clear nq eiB piB biB riB ejB pjB bjB rjB
          go_wp2_with fail
          obtain ⟨iNC, hiNC⟩ : ∃ zq, zq = first + rt := ⟨_, rfl⟩
          have eiC : ((first : Int) + (rt : Int)).toNat = iNC := by omega
          have piC : (0 : Int) ≤ (first : Int) + (rt : Int) := by omega
          have biC : (first : Int) + (rt : Int) < (n : Int) := by omega
          have riC : IntKind.i64.wrap ((first : Int) + (rt : Int)) = (first : Int) + (rt : Int) := by rw [IntKind.wrap_i64]; omega
          obtain ⟨jNC, hjNC⟩ : ∃ zq, zq = first + (2 * rt + 1) := ⟨_, rfl⟩
          have ejC : ((first : Int) + (2 * (rt : Int) + 1)).toNat = jNC := by omega
          have pjC : (0 : Int) ≤ (first : Int) + (2 * (rt : Int) + 1) := by omega
          have bjC : (first : Int) + (2 * (rt : Int) + 1) < (n : Int) := by omega
          have rjC : IntKind.i64.wrap ((first : Int) + (2 * (rt : Int) + 1)) = (first : Int) + (2 * (rt : Int) + 1) := by rw [IntKind.wrap_i64]; omega
          obtain ⟨xC, hxC⟩ : ∃ zx, zx = dk[first + rt]! := ⟨_, rfl⟩
          obtain ⟨yC, hyC⟩ : ∃ zx, zx = dk[first + (2 * rt + 1)]! := ⟨_, rfl⟩
          have S4 : Hid (SB w0 blk off (swp dk (first + rt) (first + (2 * rt + 1))) ((w3.setCell ⟨blk, off + iNC, none⟩ (.int .u8 yC)).setCell ⟨blk, off + jNC, none⟩ (.int .u8 xC)).drew) := Lib.hid (by rw [hiNC, hjNC, hxC, hyC]; exact sb_swap S3.out R (first + rt) (first + (2 * rt + 1)) (by omega) (by omega))
          have caC : w3.cell? ⟨blk, off + iNC, none⟩ = some (.int .u8 xC) := by rw [hiNC, hxC]; exact sb_cell S3.out R (by omega) (first + rt) (by omega)
          have cbC : w3.cell? ⟨blk, off + jNC, none⟩ = some (.int .u8 yC) := by rw [hjNC, hyC]; exact sb_cell S3.out R (by omega) (first + (2 * rt + 1)) (by omega)
          have faC : w3.frozen? ⟨blk, off + iNC, none⟩ = false := by rw [hiNC]; exact SW.f1 S3.out R (by omega) (first + rt) (by omega)
          have fbC : w3.frozen? ⟨blk, off + jNC, none⟩ = false := by rw [hjNC]; exact SW.f1 S3.out R (by omega) (first + (2 * rt + 1)) (by omega)
          obtain ⟨uC, ccC⟩ : ∃ u, (w3.setCell ⟨blk, off + iNC, none⟩ (.int .u8 yC)).cell? ⟨blk, off + jNC, none⟩ = some u := by rw [hiNC, hjNC]; exact SW.c2 S3.out R (by omega) (first + rt) (first + (2 * rt + 1)) (by omega) (by omega) (.int .u8 yC)
          clear S3 hxC hyC hiNC hjNC
          go_wp2_with fail
          go_region
          clear caC cbC ccC faC fbC
          generalize ((w3.setCell ⟨blk, off + iNC, none⟩ (.int .u8 yC)).setCell ⟨blk, off + jNC, none⟩ (.int .u8 xC)).drew = w4 at S4 ⊢
          clear eiC piC biC riC ejC pjC bjC rjC
          go_wp2
          go_roundg (n + hi - (2 * rt + 1))
          case measure => omega
          case rel => exact ⟨2 * rt + 1, swp dk (first + rt) (first + (2 * rt + 1)), by go_num, by omega, Nat.le_refl _, by rw [size_swp]; exact hsk, S4, HGO⟩
        | false =>
          have HST := Lib.hid ((sift_stop1 ltInt hi first rt dk hc HK.out hl2).symm.trans HO.out)
          go_wp2_with fail
          obtain ⟨iNB, hiNB⟩ : ∃ zq, zq = first + rt := ⟨_, rfl⟩
          have eiB : ((first : Int) + (rt : Int)).toNat = iNB := by omega
          have piB : (0 : Int) ≤ (first : Int) + (rt : Int) := by omega
          have biB : (first : Int) + (rt : Int) < (n : Int) := by omega
          have riB : IntKind.i64.wrap ((first : Int) + (rt : Int)) = (first : Int) + (rt : Int) := by rw [IntKind.wrap_i64]; omega
          obtain ⟨jNB, hjNB⟩ : ∃ zq, zq = first + (2 * rt + 1) := ⟨_, rfl⟩
          have ejB : ((first : Int) + (2 * (rt : Int) + 1)).toNat = jNB := by omega
          have pjB : (0 : Int) ≤ (first : Int) + (2 * (rt : Int) + 1) := by omega
          have bjB : (first : Int) + (2 * (rt : Int) + 1) < (n : Int) := by omega
          have rjB : IntKind.i64.wrap ((first : Int) + (2 * (rt : Int) + 1)) = (first : Int) + (2 * (rt : Int) + 1) := by rw [IntKind.wrap_i64]; omega
          obtain ⟨xB, hxB⟩ : ∃ zx, zx = dk[first + rt]! := ⟨_, rfl⟩
          obtain ⟨yB, hyB⟩ : ∃ zx, zx = dk[first + (2 * rt + 1)]! := ⟨_, rfl⟩
          have laB : w2.cell? ⟨blk, off + iNB, none⟩ = some (.int .u8 xB) := by rw [hiNB, hxB]; exact sb_cell S2.out R (by omega) (first + rt) (by omega)
          have lbB : w2.cell? ⟨blk, off + jNB, none⟩ = some (.int .u8 yB) := by rw [hjNB, hyB]; exact sb_cell S2.out R (by omega) (first + (2 * rt + 1)) (by omega)
          have hvB : ltInt xB yB = false := by rw [hxB, hyB]; exact hl2
          have HVB := Lib.hid hvB
          clear hxB hyB hiNB hjNB hvB
          go_wp2_with fail
          go_quiet ((go_at_call 221; exact Calls.quiet_of_same (less_q _ _ _ HVB.out _)))
          have S3 := Lib.hid (SW.drewN S2.out nq)
          clear laB lbB HVB S2
          generalize w2.drewN nq = w3 at S3 ⊢
          clear nq eiB piB biB riB ejB pjB bjB rjB
          go_wp2
          refine bodyPost_ret (results_none rfl _ _ _) rfl ?_
          refine ⟨rfl, ?_⟩
          rw [← HST.out]
          exact S3.out
    · have hcz : (hi : Int) ≤ 2 * (rt : Int) + 1 := by omega
      go_wp2
      go_end0
      refine ⟨rfl, ?_⟩
      have h := (sift_end _ _ _ _ _ (by omega)).symm.trans HO.out
      rw [← h]
      exact S1.out
theorem size_sift (hi first : Nat) : ∀ (k root : Nat) (d : Array Int), hi - root ≤ k → (siftDown ltInt hi first root d).size = d.size
  | 0, root, d, h => by rw [sift_end _ _ _ _ _ (by omega)]
  | k + 1, root, d, h => by
    by_cases hc : 2 * root + 1 < hi
    · cases hk : kid2 ltInt hi first root d with
      | true =>
        cases hl : ltInt d[first + root]! d[first + (2 * root + 2)]! with
        | true => rw [sift_go2 _ _ _ _ _ hc hk hl, size_sift hi first k _ _ (by omega), size_swp]
        | false => rw [sift_stop2 _ _ _ _ _ hc hk hl]
      | false =>
        cases hl : ltInt d[first + root]! d[first + (2 * root + 1)]! with
        | true => rw [sift_go1 _ _ _ _ _ hc hk hl, size_sift hi first k _ _ (by omega), size_swp]
        | false => rw [sift_stop1 _ _ _ _ _ hc hk hl]
    · rw [sift_end _ _ _ _ _ (by omega)]
set_option maxRecDepth 100000 in
set_option maxHeartbeats 4000000 in
theorem heap_any (blk off cap a b n : Nat) (d0 d : Array Int) (w0 w : World) (R : RB w0 blk off d0) (hs0 : d0.size = n) (hsd : d.size = n) (S : SB w0 blk off d w) (hab : a < b) (hb : b ≤ n) (hsz : n < 2305843009213693952) :
    Calls Tryz.prog 216 #[.slice (some ⟨blk, off, none⟩) n cap, .int .i64 a, .int .i64 b] w fun e w' => e = .returned (.tuple #[]) ∧ SB w0 blk off (heapSort ltInt d a b) w' := by
  have S0 := Lib.hid S
  obtain ⟨h, hh⟩ : ∃ h, h = b - a := ⟨_, rfl⟩
  have hbh : (b : Int) - (a : Int) = (h : Int) := by omega
  have h1 : (1 : Int) ≤ (h : Int) := by omega
  have h0 : (0 : Int) ≤ (h : Int) - 1 := by omega
  obtain ⟨k0, hk0⟩ : ∃ k, k = (h - 1) / 2 + 1 := ⟨_, rfl⟩
  have hk1 : ((h : Int) - 1) / 2 = (k0 : Int) - 1 := by omega
  have hk2 : k0 ≤ n := by omega
  have hah : a + h ≤ n := by omega
  have HE : Hid (heapSort ltInt d a b = heapPop ltInt a h (heapBuild ltInt h a k0 d)) := Lib.hid (by unfold heapSort; rw [← hh, ← hk0])
  rw [HE.out]
  clear S hh hk0 HE
  go_enter Tryz.func216, Tryz.ntmps216
  go_wp2
  simp only [hk1]
  clear hk1
  go_loopg [9] k0 (fun g1 vi wr => ∃ (k : Nat) (dk : Array Int), vi = .int .i64 ((k : Int) - 1) ∧ k ≤ n ∧ k ≤ g1 ∧ dk.size = n ∧ Hid (SB w0 blk off dk wr) ∧ Hid (heapBuild ltInt h a k dk = heapBuild ltInt h a k0 d))
  case atStart => exact ⟨k0, d, rfl, hk2, Nat.le_refl _, hsd, S0, Lib.hid rfl⟩
  case round =>
    clear S0
    obtain ⟨k, dk, rfl, hkn, hg1, hsk, S1, HO⟩ := hrel
    by_cases hk : 0 < k
    · obtain ⟨q, rfl⟩ : ∃ q, k = q + 1 := ⟨k - 1, by omega⟩
      have hq : ((q + 1 : Nat) : Int) - 1 = (q : Int) := by omega
      rw [hq]
      have hqz : (0 : Int) ≤ (q : Int) := by omega
      clear hq
      go_wp2_with (go_at_call 226; (refine (sift_any blk off cap q h a n d0 dk w0 _ R hs0 hsk S1.out hah (by omega) hsz).mono ?_); rintro e w2 ⟨rfl, hS2⟩; have S2 := Lib.hid hS2; clear hS2)
      go_roundg q
      case measure => omega
      case rel => exact ⟨q, siftDown ltInt h a q dk, by go_num, by omega, Nat.le_refl _, (size_sift _ _ _ _ _ (Nat.le_refl _)).trans hsk, S2, Lib.hid (by rw [← HO.out]; rfl)⟩
    · obtain rfl : k = 0 := by omega
      have hqz : ¬ (0 : Int) ≤ ((0 : Nat) : Int) - 1 := by omega
      have HO2 : Hid (dk = heapBuild ltInt h a k0 d) := HO
      clear HO
      go_wp2
      go_loopg [10] h (fun g1 vi wr => ∃ (k : Nat) (dj : Array Int), vi = .int .i64 ((k : Int) - 1) ∧ k ≤ h ∧ k ≤ g1 ∧ dj.size = n ∧ Hid (SB w0 blk off dj wr) ∧ Hid (heapPop ltInt a k dj = heapPop ltInt a h dk))
      case atStart => exact ⟨h, dk, rfl, Nat.le_refl _, Nat.le_refl _, hsk, S1, Lib.hid rfl⟩
      case round =>
        clear S1
        obtain ⟨k, dj, rfl, hkn, hg1, hsj, S1, HO⟩ := hrel
        by_cases hk : 0 < k
        · obtain ⟨q, rfl⟩ : ∃ q, k = q + 1 := ⟨k - 1, by omega⟩
          have hq : ((q + 1 : Nat) : Int) - 1 = (q : Int) := by omega
          rw [hq]
          have hqz2 : (0 : Int) ≤ (q : Int) := by omega
          clear hq
          go_wp2_with fail
          obtain ⟨iNC, hiNC⟩ : ∃ zq, zq = a := ⟨_, rfl⟩
          have eiC : ((a : Int)).toNat = iNC := by omega
          have piC : (0 : Int) ≤ (a : Int) := by omega
          have biC : (a : Int) < (n : Int) := by omega
          have riC : IntKind.i64.wrap ((a : Int)) = (a : Int) := by rw [IntKind.wrap_i64]; omega
          obtain ⟨jNC, hjNC⟩ : ∃ zq, zq = a + q := ⟨_, rfl⟩
          have ejC : ((a : Int) + (q : Int)).toNat = jNC := by omega
          have pjC : (0 : Int) ≤ (a : Int) + (q : Int) := by omega
          have bjC : (a : Int) + (q : Int) < (n : Int) := by omega
          have rjC : IntKind.i64.wrap ((a : Int) + (q : Int)) = (a : Int) + (q : Int) := by rw [IntKind.wrap_i64]; omega
          obtain ⟨xC, hxC⟩ : ∃ zx, zx = dj[a]! := ⟨_, rfl⟩
          obtain ⟨yC, hyC⟩ : ∃ zx, zx = dj[a + q]! := ⟨_, rfl⟩
          have S3 : Hid (SB w0 blk off (swp dj (a) (a + q)) ((wr.setCell ⟨blk, off + iNC, none⟩ (.int .u8 yC)).setCell ⟨blk, off + jNC, none⟩ (.int .u8 xC)).drew) := Lib.hid (by rw [hiNC, hjNC, hxC, hyC]; exact sb_swap S1.out R (a) (a + q) (by omega) (by omega))
          have caC : wr.cell? ⟨blk, off + iNC, none⟩ = some (.int .u8 xC) := by rw [hiNC, hxC]; exact sb_cell S1.out R (by omega) (a) (by omega)
          have cbC : wr.cell? ⟨blk, off + jNC, none⟩ = some (.int .u8 yC) := by rw [hjNC, hyC]; exact sb_cell S1.out R (by omega) (a + q) (by omega)
          have faC : wr.frozen? ⟨blk, off + iNC, none⟩ = false := by rw [hiNC]; exact SW.f1 S1.out R (by omega) (a) (by omega)
          have fbC : wr.frozen? ⟨blk, off + jNC, none⟩ = false := by rw [hjNC]; exact SW.f1 S1.out R (by omega) (a + q) (by omega)
          obtain ⟨uC, ccC⟩ : ∃ u, (wr.setCell ⟨blk, off + iNC, none⟩ (.int .u8 yC)).cell? ⟨blk, off + jNC, none⟩ = some u := by rw [hiNC, hjNC]; exact SW.c2 S1.out R (by omega) (a) (a + q) (by omega) (by omega) (.int .u8 yC)
          clear S1 hxC hyC hiNC hjNC
          go_wp2_with fail
          go_region
          clear caC cbC ccC faC fbC
          generalize ((wr.setCell ⟨blk, off + iNC, none⟩ (.int .u8 yC)).setCell ⟨blk, off + jNC, none⟩ (.int .u8 xC)).drew = w3 at S3 ⊢
          clear eiC piC biC riC ejC pjC bjC rjC
          go_wp2_with (go_at_call 226; (refine (sift_any blk off cap 0 q a n d0 (swp dj a (a + q)) w0 _ R hs0 (by rw [size_swp]; exact hsj) S3.out (by omega) (by omega) hsz).mono ?_); rintro e w4 ⟨rfl, hS4⟩; have S4 := Lib.hid hS4; clear hS4)
          go_roundg q
          case measure => omega
          case rel => exact ⟨q, siftDown ltInt q a 0 (swp dj a (a + q)), by go_num, by omega, Nat.le_refl _, (size_sift _ _ _ _ _ (Nat.le_refl _)).trans (by rw [size_swp]; exact hsj), S4, Lib.hid (by rw [← HO.out]; rfl)⟩
        · obtain rfl : k = 0 := by omega
          have hqz2 : ¬ (0 : Int) ≤ ((0 : Nat) : Int) - 1 := by omega
          go_wp2
          go_end0
          refine ⟨rfl, ?_⟩
          rw [← HO2.out, ← HO.out]
          exact S1.out
end Go.Proofs.YtkifdbeklagelaaGreatDoor

/- BYTES SORTED: order2Ordered, medianOrdered, medianAdjacentOrdered, choosePivotOrdered (what is said of them: the places that they choose lie in the part, the row is left alone). -/
namespace Go.Proofs.YtkifdbeklagelaaGreatDoor
open Go.RowKit Go.Sort

/-- the row, and a counter of the call's own in block c, no more than s -/
def Ct (w0 : World) (blk off : Nat) (d : Array Int) (c s : Nat) (W : World) : Prop := ∃ t : Nat, t ≤ s ∧ Cnt1 encB w0 blk off d c t W
theorem Ct.sb {w0 W : World} {blk off : Nat} {d : Array Int} {c s : Nat} (h : Ct w0 blk off d c s W) : SB w0 blk off d W := by obtain ⟨t, _, h⟩ := h; exact h.1
theorem Cnt1.drewN {w0 W : World} {blk off : Nat} {d : Array Int} {c s : Nat} (h : Cnt1 encB w0 blk off d c s W) (q : Nat) : Cnt1 encB w0 blk off d c s (W.drewN q) := ⟨SW.drewN h.1 q, h.2.1, h.2.2.1, h.2.2.2.1, h.2.2.2.2⟩
/-- what order2 leaves -/
def Ord2 (w0 : World) (blk off : Nat) (d : Array Int) (c s a b : Nat) (e : Ending) (w' : World) : Prop := ∃ x y : Nat, ((x = a ∧ y = b) ∨ (x = b ∧ y = a)) ∧ e = .returned (.tuple #[.int .i64 x, .int .i64 y]) ∧ Ct w0 blk off d c (s + 1) w'
set_option maxRecDepth 100000 in
set_option maxHeartbeats 4000000 in
theorem order2_any (blk off cap a b n c s : Nat) (d0 d : Array Int) (w0 w : World) (R : RB w0 blk off d0) (hs0 : d0.size = n) (hsd : d.size = n) (S : Ct w0 blk off d c s w) (ha : a < n) (hb : b < n) (hs : s ≤ 1000) (hsz : n < 2305843009213693952) :
    Calls Tryz.prog 232 #[.slice (some ⟨blk, off, none⟩) n cap, .int .i64 a, .int .i64 b, .pointer (some ⟨c, 0, none⟩)] w (Ord2 w0 blk off d c s a b) := by
  obtain ⟨t, ht, hC⟩ := S
  have S1 := Lib.hid hC.1
  have HC := Lib.hid hC
  have ht1 : (t : Int) ≤ 1000 := by omega
  have ht2 : (0 : Int) ≤ (t : Int) := by omega
  clear hC
  cases hlv : ltInt d[b]! d[a]! with
  | true =>
    go_enter Tryz.func232, Tryz.ntmps232
    go_wp2_with fail
    obtain ⟨x, hx⟩ : ∃ x, x = d[b]! := ⟨_, rfl⟩
    obtain ⟨y, hy⟩ : ∃ x, x = d[a]! := ⟨_, rfl⟩
    have la : w.cell? ⟨blk, off + b, none⟩ = some (.int .u8 x) := by rw [hx]; exact sb_cell S1.out R (by omega) b (by omega)
    have lb : w.cell? ⟨blk, off + a, none⟩ = some (.int .u8 y) := by rw [hy]; exact sb_cell S1.out R (by omega) a (by omega)
    have hz1 : (b : Int) < (n : Int) := by omega
    have hz2 : (a : Int) < (n : Int) := by omega
    have hv : ltInt x y = true := by rw [hx, hy]; exact hlv
    have HV := Lib.hid hv
    clear hx hy hv hlv
    go_quiet ((go_at_call 221; exact Calls.quiet_of_same (less_q _ _ _ HV.out _)))
    have HC2 := Lib.hid (Cnt1.drewN HC.out nq)
    generalize w.drewN nq = w2 at HC2 ⊢
    clear la lb
    have c0 := HC2.out.2.1
    have f0 := HC2.out.2.2.1
    have hcb := HC2.out.2.2.2.2
    go_wp2
    refine bodyPost_ret (v := .tuple #[.int .i64 (b : Int), .int .i64 (a : Int)]) (by simp [results, Tryz.results232, go_sem]) rfl ?_
    exact ⟨b, a, .inr ⟨rfl, rfl⟩, rfl, t + 1, by omega, HC2.out.bump (t + 1)⟩
  | false =>
    go_enter Tryz.func232, Tryz.ntmps232
    go_wp2_with fail
    obtain ⟨x, hx⟩ : ∃ x, x = d[b]! := ⟨_, rfl⟩
    obtain ⟨y, hy⟩ : ∃ x, x = d[a]! := ⟨_, rfl⟩
    have la : w.cell? ⟨blk, off + b, none⟩ = some (.int .u8 x) := by rw [hx]; exact sb_cell S1.out R (by omega) b (by omega)
    have lb : w.cell? ⟨blk, off + a, none⟩ = some (.int .u8 y) := by rw [hy]; exact sb_cell S1.out R (by omega) a (by omega)
    have hz1 : (b : Int) < (n : Int) := by omega
    have hz2 : (a : Int) < (n : Int) := by omega
    have hv : ltInt x y = false := by rw [hx, hy]; exact hlv
    have HV := Lib.hid hv
    clear hx hy hv hlv
    go_quiet ((go_at_call 221; exact Calls.quiet_of_same (less_q _ _ _ HV.out _)))
    have HC2 := Lib.hid (Cnt1.drewN HC.out nq)
    generalize w.drewN nq = w2 at HC2 ⊢
    clear la lb
    go_wp2
    refine bodyPost_ret (v := .tuple #[.int .i64 (a : Int), .int .i64 (b : Int)]) (by simp [results, Tryz.results232, go_sem]) rfl ?_
    exact ⟨a, b, .inl ⟨rfl, rfl⟩, rfl, t, by omega, HC2.out⟩
/-- what median leaves: one of the places -/
def Med (w0 : World) (blk off : Nat) (d : Array Int) (c s lo hi : Nat) (e : Ending) (w' : World) : Prop := ∃ x : Nat, (lo ≤ x ∧ x < hi) ∧ e = .returned (.int .i64 x) ∧ Ct w0 blk off d c s w'
set_option maxRecDepth 100000 in
set_option maxHeartbeats 4000000 in
theorem median_any (blk off cap x y z n c s lo hi : Nat) (d0 d : Array Int) (w0 w : World) (R : RB w0 blk off d0) (hs0 : d0.size = n) (hsd : d.size = n) (S : Ct w0 blk off d c s w) (hx : lo ≤ x ∧ x < hi) (hy : lo ≤ y ∧ y < hi) (hz : lo ≤ z ∧ z < hi) (hh : hi ≤ n) (hs : s ≤ 100) (hsz : n < 2305843009213693952) :
    Calls Tryz.prog 230 #[.slice (some ⟨blk, off, none⟩) n cap, .int .i64 x, .int .i64 y, .int .i64 z, .pointer (some ⟨c, 0, none⟩)] w (Med w0 blk off d c (s + 3) lo hi) := by
  have HS := Lib.hid S
  clear S
  go_enter Tryz.func230, Tryz.ntmps230
  go_wp2_with fail
  refine (order2_any blk off cap x y n c s d0 d w0 _ R hs0 hsd HS.out (by omega) (by omega) (by omega) hsz).mono ?_
  rintro e w1 ⟨x1, y1, h1, rfl, HS1⟩
  have HS1 := Lib.hid HS1
  have hx1 : lo ≤ x1 ∧ x1 < hi := by omega
  have hy1 : lo ≤ y1 ∧ y1 < hi := by omega
  clear h1 HS
  go_wp2_with fail
  refine (order2_any blk off cap y1 z n c (s + 1) d0 d w0 _ R hs0 hsd HS1.out (by omega) (by omega) (by omega) hsz).mono ?_
  rintro e w2 ⟨x2, y2, h2, rfl, HS2⟩
  have HS2 := Lib.hid HS2
  have hx2 : lo ≤ x2 ∧ x2 < hi := by omega
  clear h2 HS1
  go_wp2_with fail
  refine (order2_any blk off cap x1 x2 n c (s + 2) d0 d w0 _ R hs0 hsd HS2.out (by omega) (by omega) (by omega) hsz).mono ?_
  rintro e w3 ⟨x3, y3, h3, rfl, HS3⟩
  have HS3 := Lib.hid HS3
  have hy3 : lo ≤ y3 ∧ y3 < hi := by omega
  clear h3 HS2
  go_wp2
  go_ret
  exact ⟨y3, hy3, rfl, HS3.out⟩
set_option maxRecDepth 100000 in
set_option maxHeartbeats 4000000 in
theorem medAdj_any (blk off cap x n c s lo hi : Nat) (d0 d : Array Int) (w0 w : World) (R : RB w0 blk off d0) (hs0 : d0.size = n) (hsd : d.size = n) (S : Ct w0 blk off d c s w) (hx : lo + 1 ≤ x ∧ x + 1 < hi) (hh : hi ≤ n) (hs : s ≤ 100) (hsz : n < 2305843009213693952) :
    Calls Tryz.prog 229 #[.slice (some ⟨blk, off, none⟩) n cap, .int .i64 x, .pointer (some ⟨c, 0, none⟩)] w (Med w0 blk off d c (s + 3) lo hi) := by
  obtain ⟨q, rfl⟩ : ∃ q, x = q + 1 := ⟨x - 1, by omega⟩
  have hM : ∀ W, Ct w0 blk off d c s W → Calls Tryz.prog 230 #[.slice (some ⟨blk, off, none⟩) n cap, .int .i64 (q : Int), .int .i64 ((q : Int) + 1), .int .i64 ((q : Int) + 1 + 1), .pointer (some ⟨c, 0, none⟩)] W (Med w0 blk off d c (s + 3) lo hi) := fun W h =>
    median_any blk off cap q (q + 1) (q + 1 + 1) n c s lo hi d0 d w0 W R hs0 hsd h (by omega) (by omega) (by omega) hh hs hsz
  have HM := Lib.hid hM
  have HS := Lib.hid S
  have hq9 : (q : Int) + 1 + 1 ≤ 2305843009213693952 := by omega
  clear hM S
  go_enter Tryz.func229, Tryz.ntmps229
  go_wp2_with (go_at_call 230; (refine (HM.out _ HS.out).mono ?_); rintro e w1 ⟨x1, hx1, rfl, HS1⟩; have HS1 := Lib.hid HS1)
  go_ret
  exact ⟨x1, hx1, rfl, HS1.out⟩
end Go.Proofs.YtkifdbeklagelaaGreatDoor

/- BYTES SORTED: choosePivotOrdered (a place in the part, and some hint). -/
namespace Go.Proofs.YtkifdbeklagelaaGreatDoor
open Go.RowKit Go.Sort

def Piv (w0 : World) (blk off : Nat) (d : Array Int) (a b : Nat) (e : Ending) (w' : World) : Prop := ∃ x h : Nat, (a ≤ x ∧ x < b) ∧ h ≤ 2 ∧ e = .returned (.tuple #[.int .i64 x, .int .i64 h]) ∧ SB w0 blk off d w'
theorem Ct.start {w0 W : World} {blk off : Nat} {d : Array Int} (h : SB w0 blk off d W) : Ct w0 blk off d W.heap.size 0 (W.alloc (.cells #[.int .i64 0] 3)) := ⟨0, Nat.le_refl _, Cnt1.start h _⟩
set_option maxRecDepth 100000 in
set_option maxHeartbeats 4000000 in
theorem pivot_any (blk off cap a b n : Nat) (d0 d : Array Int) (w0 w : World) (R : RB w0 blk off d0) (hs0 : d0.size = n) (hsd : d.size = n) (S : SB w0 blk off d w) (hab : a + 12 < b) (hb : b ≤ n) (hsz : n < 2305843009213693952) :
    Calls Tryz.prog 218 #[.slice (some ⟨blk, off, none⟩) n cap, .int .i64 a, .int .i64 b] w (Piv w0 blk off d a b) := by
  have HS := Lib.hid (Ct.start S)
  obtain ⟨l, hl⟩ : ∃ l, l = b - a := ⟨_, rfl⟩
  have hbl : (b : Int) - (a : Int) = (l : Int) := by omega
  obtain ⟨q, hq⟩ : ∃ q, q = l / 4 := ⟨_, rfl⟩
  have hlq : (l : Int) / 4 = (q : Int) := by omega
  obtain ⟨i, hi⟩ : ∃ i, i = a + q := ⟨_, rfl⟩
  obtain ⟨j, hj⟩ : ∃ j, j = a + q * 2 := ⟨_, rfl⟩
  obtain ⟨k, hk⟩ : ∃ k, k = a + q * 3 := ⟨_, rfl⟩
  have hi1 : (a : Int) + (q : Int) = (i : Int) := by omega
  have hj1 : (a : Int) + (q : Int) * 2 = (j : Int) := by omega
  have hk1 : (a : Int) + (q : Int) * 3 = (k : Int) := by omega
  have hiR : a ≤ i ∧ i < b := by omega
  have hjR : a ≤ j ∧ j < b := by omega
  have hkR : a ≤ k ∧ k < b := by omega
  have hl8 : (8 : Int) ≤ (l : Int) := by omega
  have hl9 : (l : Int) ≤ 2305843009213693952 := by omega
  have hq9 : (q : Int) ≤ 2305843009213693952 := by omega
  have hq0 : (0 : Int) ≤ (q : Int) := by omega
  have ha0 : (0 : Int) ≤ (a : Int) := by omega
  have ha9 : (a : Int) ≤ 2305843009213693952 := by omega
  by_cases h50 : 50 ≤ l
  · have h50z : (50 : Int) ≤ (l : Int) := by omega
    have hi2 : a + 1 ≤ i ∧ i + 1 < b := by omega
    have hj2 : a + 1 ≤ j ∧ j + 1 < b := by omega
    have hk2 : a + 1 ≤ k ∧ k + 1 < b := by omega
    clear S hl hq hi hj hk h50
    go_enter Tryz.func218, Tryz.ntmps218
    go_wp2_with fail
    refine (medAdj_any blk off cap i n w.heap.size 0 a b d0 d w0 _ R hs0 hsd HS.out hi2 hb (by omega) hsz).mono ?_
    rintro e w1 ⟨x1, hx1, rfl, HS1⟩
    have HS1 := Lib.hid HS1
    clear HS
    go_wp2_with fail
    refine (medAdj_any blk off cap j n w.heap.size 3 a b d0 d w0 _ R hs0 hsd HS1.out hj2 hb (by omega) hsz).mono ?_
    rintro e w2 ⟨x2, hx2, rfl, HS2⟩
    have HS2 := Lib.hid HS2
    clear HS1
    go_wp2_with fail
    refine (medAdj_any blk off cap k n w.heap.size 6 a b d0 d w0 _ R hs0 hsd HS2.out hk2 hb (by omega) hsz).mono ?_
    rintro e w3 ⟨x3, hx3, rfl, HS3⟩
    have HS3 := Lib.hid HS3
    clear HS2
    go_wp2_with fail
    refine (median_any blk off cap x1 x2 x3 n w.heap.size 9 a b d0 d w0 _ R hs0 hsd HS3.out hx1 hx2 hx3 hb (by omega) hsz).mono ?_
    rintro e w4 ⟨x4, hx4, rfl, HS4⟩
    have HSB := Lib.hid (Ct.sb HS4)
    obtain ⟨t, ht, hC⟩ := HS4
    have c0 := hC.2.1
    have HX4 := Lib.hid hx4
    clear hC HS3 hx1 hx2 hx3 hx4 hi1 hj1 hk1 hbl hlq
    by_cases h0 : t = 0
    · have hz : ((t : Int) == 0) = true := by rw [h0]; rfl
      have hz2 : ((t : Int) == 12) = false := by rw [h0]; rfl
      clear h0
      go_wp2
      refine bodyPost_ret (v := .tuple #[.int .i64 (x4 : Int), .int .i64 1]) (by simp [results, Tryz.results218, go_sem]) rfl ?_
      exact ⟨x4, 1, HX4.out, by omega, rfl, HSB.out⟩
    · have hz : ((t : Int) == 0) = false := by rw [beq_eq_false_iff_ne]; omega
      by_cases h12 : t = 12
      · have hz2 : ((t : Int) == 12) = true := by rw [h12]; rfl
        clear h0 h12
        go_wp2
        refine bodyPost_ret (v := .tuple #[.int .i64 (x4 : Int), .int .i64 2]) (by simp [results, Tryz.results218, go_sem]) rfl ?_
        exact ⟨x4, 2, HX4.out, by omega, rfl, HSB.out⟩
      · have hz2 : ((t : Int) == 12) = false := by rw [beq_eq_false_iff_ne]; omega
        clear h0 h12
        go_wp2
        refine bodyPost_ret (v := .tuple #[.int .i64 (x4 : Int), .int .i64 0]) (by simp [results, Tryz.results218, go_sem]) rfl ?_
        exact ⟨x4, 0, HX4.out, by omega, rfl, HSB.out⟩
  · have h50z : ¬ (50 : Int) ≤ (l : Int) := by omega
    clear S hl hq hi hj hk h50
    go_enter Tryz.func218, Tryz.ntmps218
    go_wp2_with fail
    refine (median_any blk off cap i j k n w.heap.size 0 a b d0 d w0 _ R hs0 hsd HS.out hiR hjR hkR hb (by omega) hsz).mono ?_
    rintro e w4 ⟨x4, hx4, rfl, HS4⟩
    have HSB := Lib.hid (Ct.sb HS4)
    obtain ⟨t, ht, hC⟩ := HS4
    have c0 := hC.2.1
    have HX4 := Lib.hid hx4
    clear hC HS hx4 hi1 hj1 hk1 hbl hlq
    by_cases h0 : t = 0
    · have hz : ((t : Int) == 0) = true := by rw [h0]; rfl
      have hz2 : ((t : Int) == 12) = false := by rw [h0]; rfl
      clear h0
      go_wp2
      refine bodyPost_ret (v := .tuple #[.int .i64 (x4 : Int), .int .i64 1]) (by simp [results, Tryz.results218, go_sem]) rfl ?_
      exact ⟨x4, 1, HX4.out, by omega, rfl, HSB.out⟩
    · have hz : ((t : Int) == 0) = false := by rw [beq_eq_false_iff_ne]; omega
      by_cases h12 : t = 12
      · have hz2 : ((t : Int) == 12) = true := by rw [h12]; rfl
        clear h0 h12
        go_wp2
        refine bodyPost_ret (v := .tuple #[.int .i64 (x4 : Int), .int .i64 2]) (by simp [results, Tryz.results218, go_sem]) rfl ?_
        exact ⟨x4, 2, HX4.out, by omega, rfl, HSB.out⟩
      · have hz2 : ((t : Int) == 12) = false := by rw [beq_eq_false_iff_ne]; omega
        clear h0 h12
        go_wp2
        refine bodyPost_ret (v := .tuple #[.int .i64 (x4 : Int), .int .i64 0]) (by simp [results, Tryz.results218, go_sem]) rfl ?_
        exact ⟨x4, 0, HX4.out, by omega, rfl, HSB.out⟩
end Go.Proofs.YtkifdbeklagelaaGreatDoor

/- BYTES SORTED: breakPatternsOrdered (the part is permuted, somehow). -/
namespace Go.Proofs.YtkifdbeklagelaaGreatDoor
open Go.RowKit Go.Sort

def Prm (w0 : World) (blk off : Nat) (d : Array Int) (a b : Nat) (e : Ending) (w' : World) : Prop := ∃ d' : Array Int, e = .returned (.tuple #[]) ∧ PermIn a b d d' ∧ SB w0 blk off d' w'
theorem npo_any (L M : Nat) (hL : L < 4611686018427387904) (hM : M = 1 <<< bitsLen L) (w : World) : Calls Tryz.prog 227 #[.int .i64 L] w fun e w' => e = .returned (.int .u64 (M : Int)) ∧ w = w' :=
  (AnyF.nextPowerOfTwo Tryz.npo2 L hL w).mono fun _ _ ⟨he, hw⟩ => ⟨by rw [he, hM], hw.symm⟩
theorem xor_any (c X Y : Nat) (hX : X < 18446744073709551616) (hY : Y = xorNextN X) (w : World) (hc : w.cell? ⟨c, 0, none⟩ = some (.int .u64 X)) (hf : w.frozen? ⟨c, 0, none⟩ = false) :
    Calls Tryz.prog 228 #[.pointer (some ⟨c, 0, none⟩)] w fun e w' => e = .returned (.int .u64 (Y : Int)) ∧ w' = (w.setCell ⟨c, 0, none⟩ (.int .u64 (Y : Int))).drewN 3 := by
  rw [hY]; exact AnyF.xorshift_Next Tryz.xorNext c 0 X hX w hc hf
set_option maxRecDepth 100000 in
set_option maxHeartbeats 4000000 in
theorem brk_any (blk off cap a b n : Nat) (d0 d : Array Int) (w0 w : World) (R : RB w0 blk off d0) (hs0 : d0.size = n) (hsd : d.size = n) (S : SB w0 blk off d w) (hab : a + 12 < b) (hb : b ≤ n) (hsz : n < 2305843009213693952) :
    Calls Tryz.prog 217 #[.slice (some ⟨blk, off, none⟩) n cap, .int .i64 a, .int .i64 b] w (Prm w0 blk off d a b) := by
  obtain ⟨L, hL⟩ : ∃ L, L = b - a := ⟨_, rfl⟩
  have hbl : (b : Int) - (a : Int) = (L : Int) := by omega
  obtain ⟨q, hq⟩ : ∃ q, q = L / 4 := ⟨_, rfl⟩
  have hlq : (L : Int) / 4 = (q : Int) := by omega
  obtain ⟨u, hu⟩ : ∃ u, u = a + q * 2 - 1 := ⟨_, rfl⟩
  have hu1 : (a : Int) + (q : Int) * 2 = (u : Int) + 1 := by omega
  have hua : a ≤ u ∧ u + 2 < b := by omega
  obtain ⟨M, hM⟩ : ∃ M : Nat, M = 1 <<< bitsLen L := ⟨_, rfl⟩
  have hM1 : 1 ≤ M := by rw [hM, Nat.one_shiftLeft]; exact Nat.two_pow_pos _
  have hM2 : M ≤ 2 * L := by rw [hM, Nat.one_shiftLeft]; exact two_pow_bitsLen_le (by omega)
  have HM := Lib.hid hM
  have hL8 : (8 : Int) ≤ (L : Int) := by omega
  have hL9 : (L : Int) ≤ 2305843009213693952 := by omega
  have hLn : L < 4611686018427387904 := by omega
  have hab2 : a + L = b := by omega
  have hq0 : (0 : Int) ≤ (q : Int) := by omega
  have hq9 : (q : Int) ≤ 2305843009213693952 := by omega
  have ha0 : (0 : Int) ≤ (a : Int) := by omega
  have ha9 : (a : Int) ≤ 2305843009213693952 := by omega
  have hu9 : (u : Int) ≤ 2305843009213693952 := by omega
  have hne : w.heap.size ≠ blk := by have := SW.lt S R.hblk; omega
  have hle0 : w0.heap.size ≤ w.heap.size := SW.le S
  have S0 := Lib.hid (SW.alloc S (.cells #[.int .u64 (L : Int)] 243))
  clear S hL hq hu hM
  go_enter Tryz.func217, Tryz.ntmps217
  go_wp2_with (go_at_call 227; (refine (npo_any L M hLn HM.out _).mono ?_); rintro e w1 ⟨rfl, rfl⟩)
  go_loopg [9] 3 (fun g1 vi wr => ∃ (x X : Nat) (dk : Array Int), vi = .int .i64 x ∧ u ≤ x ∧ x ≤ u + 3 ∧ u + 3 - x ≤ g1 ∧ dk.size = n ∧ X < 18446744073709551616 ∧ Hid (SB w0 blk off dk wr) ∧ Hid (PermIn a b d dk) ∧ wr.cell? ⟨w.heap.size, 0, none⟩ = some (.int .u64 (X : Int)) ∧ wr.frozen? ⟨w.heap.size, 0, none⟩ = false)
  case atStart => exact ⟨u, L, d, rfl, Nat.le_refl _, by omega, by omega, hsd, by omega, S0, Lib.hid (permIn_refl _ _ _), by simp, by simp⟩
  case round =>
    clear S0
    obtain ⟨x, X, dk, rfl, hxu, hx3, hg1, hsk, hX, S1, HP, cR, fR⟩ := hrel
    by_cases hlt : x < u + 3
    · have hle : (x : Int) ≤ (u : Int) + 1 + 1 := by omega
      obtain ⟨Y, hY⟩ : ∃ Y, Y = xorNextN X := ⟨_, rfl⟩
      have lY : Y < 18446744073709551616 := by rw [hY]; exact xorNextN_lt X hX
      have HY := Lib.hid hY
      obtain ⟨O, hO⟩ : ∃ O : Nat, O = Y &&& (M - 1) := ⟨_, rfl⟩
      have lO : O ≤ M - 1 := by rw [hO]; exact Nat.and_le_right
      have eAnd : bits .and .u64 (Y : Int) ((M : Int) - 1) = (O : Int) := by
        rw [show ((M : Int) - 1) = ((M - 1 : Nat) : Int) by omega, bits_and_u64_nat _ _ lY (by omega), hO]
      clear hY hO
      have S2 := Lib.hid (SW.drewN (SW.setCell_new S1.out w.heap.size 0 (.int .u64 (Y : Int)) hle0) 3)
      have cR2 : ((wr.setCell ⟨w.heap.size, 0, none⟩ (.int .u64 (Y : Int))).drewN 3).cell? ⟨w.heap.size, 0, none⟩ = some (.int .u64 (Y : Int)) := by
        rw [World.cell?_drewN]; exact World.cell?_setCell_same _ _ _ cR
      have fR2 : ((wr.setCell ⟨w.heap.size, 0, none⟩ (.int .u64 (Y : Int))).drewN 3).frozen? ⟨w.heap.size, 0, none⟩ = false := by
        rw [World.frozen?_drewN]; simpa using fR
      have HN : Hid (Calls Tryz.prog 228 #[.pointer (some ⟨w.heap.size, 0, none⟩)] wr fun e w' => e = .returned (.int .u64 (Y : Int)) ∧ w' = (wr.setCell ⟨w.heap.size, 0, none⟩ (.int .u64 (Y : Int))).drewN 3) := Lib.hid (xor_any w.heap.size X Y hX HY.out wr cR fR)
      generalize (wr.setCell ⟨w.heap.size, 0, none⟩ (.int .u64 (Y : Int))).drewN 3 = w2 at S2 cR2 fR2 HN
      clear cR fR S1
      by_cases hLO : L ≤ O
      · have hLOz : (L : Int) ≤ (O : Int) := by omega
        go_wp2_with (go_at_call 228; refine HN.out.mono ?_; rintro e w' ⟨rfl, hw'⟩; obtain rfl : w2 = w' := hw'.symm)
        obtain ⟨iNC, hiNC⟩ : ∃ zq, zq = x := ⟨_, rfl⟩
        have eiC : ((x : Int)).toNat = iNC := by omega
        have piC : (0 : Int) ≤ (x : Int) := by omega
        have biC : (x : Int) < (n : Int) := by omega
        have riC : IntKind.i64.wrap ((x : Int)) = (x : Int) := by rw [IntKind.wrap_i64]; omega
        obtain ⟨jNC, hjNC⟩ : ∃ zq, zq = a + (O - L) := ⟨_, rfl⟩
        have ejC : ((a : Int) + ((O : Int) - (L : Int))).toNat = jNC := by omega
        have pjC : (0 : Int) ≤ (a : Int) + ((O : Int) - (L : Int)) := by omega
        have bjC : (a : Int) + ((O : Int) - (L : Int)) < (n : Int) := by omega
        have rjC : IntKind.i64.wrap ((a : Int) + ((O : Int) - (L : Int))) = (a : Int) + ((O : Int) - (L : Int)) := by rw [IntKind.wrap_i64]; omega
        obtain ⟨xC, hxC⟩ : ∃ zx, zx = dk[x]! := ⟨_, rfl⟩
        obtain ⟨yC, hyC⟩ : ∃ zx, zx = dk[a + (O - L)]! := ⟨_, rfl⟩
        have S3 : Hid (SB w0 blk off (swp dk (x) (a + (O - L))) ((w2.setCell ⟨blk, off + iNC, none⟩ (.int .u8 yC)).setCell ⟨blk, off + jNC, none⟩ (.int .u8 xC)).drew) := Lib.hid (by rw [hiNC, hjNC, hxC, hyC]; exact sb_swap S2.out R (x) (a + (O - L)) (by omega) (by omega))
        have caC : w2.cell? ⟨blk, off + iNC, none⟩ = some (.int .u8 xC) := by rw [hiNC, hxC]; exact sb_cell S2.out R (by omega) (x) (by omega)
        have cbC : w2.cell? ⟨blk, off + jNC, none⟩ = some (.int .u8 yC) := by rw [hjNC, hyC]; exact sb_cell S2.out R (by omega) (a + (O - L)) (by omega)
        have faC : w2.frozen? ⟨blk, off + iNC, none⟩ = false := by rw [hiNC]; exact SW.f1 S2.out R (by omega) (x) (by omega)
        have fbC : w2.frozen? ⟨blk, off + jNC, none⟩ = false := by rw [hjNC]; exact SW.f1 S2.out R (by omega) (a + (O - L)) (by omega)
        obtain ⟨uC, ccC⟩ : ∃ u, (w2.setCell ⟨blk, off + iNC, none⟩ (.int .u8 yC)).cell? ⟨blk, off + jNC, none⟩ = some u := by rw [hiNC, hjNC]; exact SW.c2 S2.out R (by omega) (x) (a + (O - L)) (by omega) (by omega) (.int .u8 yC)
        clear S2 hxC hyC hiNC hjNC
        go_wp2_with fail
        go_region
        clear caC cbC ccC faC fbC
        have k1 := box_kept_swap1 (W := w2) (blk := blk) hne cR2 fR2 (off + iNC) (off + jNC) (.int .u8 yC) (.int .u8 xC)
        generalize ((w2.setCell ⟨blk, off + iNC, none⟩ (.int .u8 yC)).setCell ⟨blk, off + jNC, none⟩ (.int .u8 xC)).drew = w3 at S3 k1 ⊢
        clear eiC piC biC riC ejC pjC bjC rjC

        go_wp2
        go_roundg (u + 3 - (x + 1))
        case measure => omega
        case rel => exact ⟨x + 1, Y, swp dk x (a + (O - L)), by go_num, by omega, by omega, Nat.le_refl _, by rw [size_swp]; exact hsk, lY, S3, Lib.hid (permIn_trans _ _ _ a b HP.out (swp_permIn dk a b x (a + (O - L)) (by omega) (by omega) (by omega) (by omega) (by omega))), k1.1, k1.2⟩
      · have hLOz : ¬ (L : Int) ≤ (O : Int) := by omega
        go_wp2_with (go_at_call 228; refine HN.out.mono ?_; rintro e w' ⟨rfl, hw'⟩; obtain rfl : w2 = w' := hw'.symm)
        obtain ⟨iNC, hiNC⟩ : ∃ zq, zq = x := ⟨_, rfl⟩
        have eiC : ((x : Int)).toNat = iNC := by omega
        have piC : (0 : Int) ≤ (x : Int) := by omega
        have biC : (x : Int) < (n : Int) := by omega
        have riC : IntKind.i64.wrap ((x : Int)) = (x : Int) := by rw [IntKind.wrap_i64]; omega
        obtain ⟨jNC, hjNC⟩ : ∃ zq, zq = a + O := ⟨_, rfl⟩
        have ejC : ((a : Int) + (O : Int)).toNat = jNC := by omega
        have pjC : (0 : Int) ≤ (a : Int) + (O : Int) := by omega
        have bjC : (a : Int) + (O : Int) < (n : Int) := by omega
        have rjC : IntKind.i64.wrap ((a : Int) + (O : Int)) = (a : Int) + (O : Int) := by rw [IntKind.wrap_i64]; omega
        obtain ⟨xC, hxC⟩ : ∃ zx, zx = dk[x]! := ⟨_, rfl⟩
        obtain ⟨yC, hyC⟩ : ∃ zx, zx = dk[a + O]! := ⟨_, rfl⟩
        have S3 : Hid (SB w0 blk off (swp dk (x) (a + O)) ((w2.setCell ⟨blk, off + iNC, none⟩ (.int .u8 yC)).setCell ⟨blk, off + jNC, none⟩ (.int .u8 xC)).drew) := Lib.hid (by rw [hiNC, hjNC, hxC, hyC]; exact sb_swap S2.out R (x) (a + O) (by omega) (by omega))
        have caC : w2.cell? ⟨blk, off + iNC, none⟩ = some (.int .u8 xC) := by rw [hiNC, hxC]; exact sb_cell S2.out R (by omega) (x) (by omega)
        have cbC : w2.cell? ⟨blk, off + jNC, none⟩ = some (.int .u8 yC) := by rw [hjNC, hyC]; exact sb_cell S2.out R (by omega) (a + O) (by omega)
        have faC : w2.frozen? ⟨blk, off + iNC, none⟩ = false := by rw [hiNC]; exact SW.f1 S2.out R (by omega) (x) (by omega)
        have fbC : w2.frozen? ⟨blk, off + jNC, none⟩ = false := by rw [hjNC]; exact SW.f1 S2.out R (by omega) (a + O) (by omega)
        obtain ⟨uC, ccC⟩ : ∃ u, (w2.setCell ⟨blk, off + iNC, none⟩ (.int .u8 yC)).cell? ⟨blk, off + jNC, none⟩ = some u := by rw [hiNC, hjNC]; exact SW.c2 S2.out R (by omega) (x) (a + O) (by omega) (by omega) (.int .u8 yC)
        clear S2 hxC hyC hiNC hjNC
        go_wp2_with fail
        go_region
        clear caC cbC ccC faC fbC
        have k1 := box_kept_swap1 (W := w2) (blk := blk) hne cR2 fR2 (off + iNC) (off + jNC) (.int .u8 yC) (.int .u8 xC)
        generalize ((w2.setCell ⟨blk, off + iNC, none⟩ (.int .u8 yC)).setCell ⟨blk, off + jNC, none⟩ (.int .u8 xC)).drew = w3 at S3 k1 ⊢
        clear eiC piC biC riC ejC pjC bjC rjC

        go_wp2
        go_roundg (u + 3 - (x + 1))
        case measure => omega
        case rel => exact ⟨x + 1, Y, swp dk x (a + O), by go_num, by omega, by omega, Nat.le_refl _, by rw [size_swp]; exact hsk, lY, S3, Lib.hid (permIn_trans _ _ _ a b HP.out (swp_permIn dk a b x (a + O) (by omega) (by omega) (by omega) (by omega) (by omega))), k1.1, k1.2⟩
    · have hle : ¬ (x : Int) ≤ (u : Int) + 1 + 1 := by omega
      go_wp2
      go_end0
      exact ⟨dk, rfl, HP.out, S1.out⟩
end Go.Proofs.YtkifdbeklagelaaGreatDoor

/- BYTES SORTED: partitionEqualOrdered. -/
namespace Go.Proofs.YtkifdbeklagelaaGreatDoor
open Go.RowKit Go.Sort

section
variable {α : Type} [Inhabited α]
theorem up_go {p : α → Bool} {d : Array α} {j i : Nat} (h : i ≤ j) (hp : p d[i]! = true) : scanUp p d j i = scanUp p d j (i + 1) := by rw [scanUp]; simp [h, hp]
theorem up_stop {p : α → Bool} {d : Array α} {j i : Nat} (h : j < i ∨ p d[i]! = false) : scanUp p d j i = i := by
  rw [scanUp]
  rcases h with h | h
  · simp [Nat.not_le.2 h]
  · simp [h]
theorem down_go {p : α → Bool} {d : Array α} {i j : Nat} (h : i ≤ j + 1) (hp : p d[j + 1]! = true) : scanDown p d i (j + 1) = scanDown p d i j := by rw [scanDown]; simp [h, hp]
theorem down_stop {p : α → Bool} {d : Array α} {i j : Nat} (h : j < i ∨ p d[j]! = false) : scanDown p d i j = j := by
  cases j with
  | zero => rfl
  | succ j =>
    rw [scanDown]
    rcases h with h | h
    · simp [Nat.not_le.2 h]
    · simp [h]
theorem scan_apart {p q : α → Bool} (hq : ∀ x, q x = !p x) {d : Array α} {i j I J : Nat} (hI : scanUp p d j i = I) (hJ : scanDown q d I j = J) (hij : i ≤ j + 1) (h1 : 0 < i) (h : I ≤ J) : I < J := by
  subst hI; subst hJ
  exact ((round_facts p q hq d (i - 1) (j + 1) i j (by omega) hij (fun t h1 h2 => by omega) (fun t h1 h2 => by omega)).2.2.2.2.2.2 (by omega)).2.2
variable (lt : α → α → Bool)
theorem eqLoop_step {a i j I J : Nat} {d : Array α} (hI : scanUp (fun z => !lt d[a]! z) d j i = I) (hJ : scanDown (fun z => lt d[a]! z) d I j = J) (h : I ≤ J) : partEqLoop lt a i j d = partEqLoop lt a (I + 1) (J - 1) (swp d I J) := by
  subst hI; subst hJ
  rw [partEqLoop_eq, if_neg (by omega)]
theorem eqLoop_end {a i j I J : Nat} {d : Array α} (hI : scanUp (fun z => !lt d[a]! z) d j i = I) (hJ : scanDown (fun z => lt d[a]! z) d I j = J) (h : J < I) : partEqLoop lt a i j d = (I, d) := by
  subst hI; subst hJ
  rw [partEqLoop_eq, if_pos (by omega)]
theorem parLoop_step {a i j I J : Nat} {d : Array α} (hI : scanUp (fun z => lt z d[a]!) d j i = I) (hJ : scanDown (fun z => !lt z d[a]!) d I j = J) (h : I ≤ J) : partLoop lt a i j d = partLoop lt a (I + 1) (J - 1) (swp d I J) := by
  subst hI; subst hJ
  rw [partLoop_eq, if_neg (by omega)]
theorem parLoop_end {a i j I J : Nat} {d : Array α} (hI : scanUp (fun z => lt z d[a]!) d j i = I) (hJ : scanDown (fun z => !lt z d[a]!) d I j = J) (h : J < I) : partLoop lt a i j d = (J, d) := by
  subst hI; subst hJ
  rw [partLoop_eq, if_pos (by omega)]
end
set_option maxRecDepth 100000 in
set_option maxHeartbeats 8000000 in
theorem parEq_any (blk off cap a b pv n : Nat) (d0 d : Array Int) (w0 w : World) (R : RB w0 blk off d0) (hs0 : d0.size = n) (hsd : d.size = n) (S : SB w0 blk off d w) (hap : a ≤ pv) (hpb : pv < b) (hb : b ≤ n) (hsz : n < 2305843009213693952) :
    Calls Tryz.prog 222 #[.slice (some ⟨blk, off, none⟩) n cap, .int .i64 a, .int .i64 b, .int .i64 pv] w fun e w' => ∃ (m : Nat) (d' : Array Int), e = .returned (.int .i64 m) ∧ partitionEqual ltInt d a b pv = (m, d') ∧ SB w0 blk off d' w' := by
  have S0 := Lib.hid S
  clear S
  go_enter Tryz.func222, Tryz.ntmps222
  go_wp2_with fail
  obtain ⟨iNA, hiNA⟩ : ∃ zq, zq = a := ⟨_, rfl⟩
  have eiA : ((a : Int)).toNat = iNA := by omega
  have piA : (0 : Int) ≤ (a : Int) := by omega
  have biA : (a : Int) < (n : Int) := by omega
  have riA : IntKind.i64.wrap ((a : Int)) = (a : Int) := by rw [IntKind.wrap_i64]; omega
  obtain ⟨jNA, hjNA⟩ : ∃ zq, zq = pv := ⟨_, rfl⟩
  have ejA : ((pv : Int)).toNat = jNA := by omega
  have pjA : (0 : Int) ≤ (pv : Int) := by omega
  have bjA : (pv : Int) < (n : Int) := by omega
  have rjA : IntKind.i64.wrap ((pv : Int)) = (pv : Int) := by rw [IntKind.wrap_i64]; omega
  obtain ⟨xA, hxA⟩ : ∃ zx, zx = d[a]! := ⟨_, rfl⟩
  obtain ⟨yA, hyA⟩ : ∃ zx, zx = d[pv]! := ⟨_, rfl⟩
  have S1 : Hid (SB w0 blk off (swp d (a) (pv)) ((w.setCell ⟨blk, off + iNA, none⟩ (.int .u8 yA)).setCell ⟨blk, off + jNA, none⟩ (.int .u8 xA)).drew) := Lib.hid (by rw [hiNA, hjNA, hxA, hyA]; exact sb_swap S0.out R (a) (pv) (by omega) (by omega))
  have caA : w.cell? ⟨blk, off + iNA, none⟩ = some (.int .u8 xA) := by rw [hiNA, hxA]; exact sb_cell S0.out R (by omega) (a) (by omega)
  have cbA : w.cell? ⟨blk, off + jNA, none⟩ = some (.int .u8 yA) := by rw [hjNA, hyA]; exact sb_cell S0.out R (by omega) (pv) (by omega)
  have faA : w.frozen? ⟨blk, off + iNA, none⟩ = false := by rw [hiNA]; exact SW.f1 S0.out R (by omega) (a) (by omega)
  have fbA : w.frozen? ⟨blk, off + jNA, none⟩ = false := by rw [hjNA]; exact SW.f1 S0.out R (by omega) (pv) (by omega)
  obtain ⟨uA, ccA⟩ : ∃ u, (w.setCell ⟨blk, off + iNA, none⟩ (.int .u8 yA)).cell? ⟨blk, off + jNA, none⟩ = some u := by rw [hiNA, hjNA]; exact SW.c2 S0.out R (by omega) (a) (pv) (by omega) (by omega) (.int .u8 yA)
  clear S0 hxA hyA hiNA hjNA
  go_wp2_with fail
  go_region
  clear caA cbA ccA faA fbA
  generalize ((w.setCell ⟨blk, off + iNA, none⟩ (.int .u8 yA)).setCell ⟨blk, off + jNA, none⟩ (.int .u8 xA)).drew = w1 at S1 ⊢
  clear eiA piA biA riA ejA pjA bjA rjA
  have hb1 : ((b - 1 : Nat) : Int) = (b : Int) - 1 := by omega
  have HB1 := Lib.hid hb1
  have hab0 : (0 : Int) ≤ (b : Int) - 1 := by omega
  clear hb1
  have hsw : (swp d a pv).size = n := by rw [size_swp]; exact hsd
  obtain ⟨ds, hds⟩ : ∃ ds, ds = swp d a pv := ⟨_, rfl⟩
  have HDS := Lib.hid hds
  rw [← hds] at S1 hsw
  clear hds
  go_wp2_with fail
  go_loopg [9, 10] (b - a) (fun g1 vi vj wr => ∃ (i j : Nat) (dk : Array Int), vi = .int .i64 i ∧ vj = .int .i64 j ∧ a < i ∧ i ≤ j + 1 ∧ j < b ∧ j + 1 - i ≤ g1 ∧ dk.size = n ∧ Hid (SB w0 blk off dk wr) ∧ Hid (partEqLoop ltInt a i j dk = partEqLoop ltInt a (a + 1) (b - 1) ds))
  case atStart => exact ⟨a + 1, b - 1, ds, by go_num, by rw [HB1.out], by omega, by omega, by omega, by omega, hsw, S1, Lib.hid rfl⟩
  case round =>
    clear S1
    obtain ⟨i, j, dk, rfl, rfl, hai, hij, hjb, hg1, hsk, S1, HO⟩ := hrel
    go_upto_block 2 with fail
    go_cut [9] (fun vi wx => ∃ x : Nat, vi = .int .i64 x ∧ i ≤ x ∧ x ≤ j + 1 ∧ Hid (SB w0 blk off dk wx) ∧ Hid (scanUp (fun z => !ltInt dk[a]! z) dk j i = x))
    case first =>
      go_wp2_with fail
      go_loopg [9] (j + 1 - i) (fun g2 vi wr => ∃ x : Nat, vi = .int .i64 x ∧ i ≤ x ∧ x ≤ j + 1 ∧ j + 1 - x ≤ g2 ∧ Hid (SB w0 blk off dk wr) ∧ Hid (scanUp (fun z => !ltInt dk[a]! z) dk j i = scanUp (fun z => !ltInt dk[a]! z) dk j x))
      case atStart => exact ⟨i, rfl, by omega, by omega, Nat.le_refl _, S1, Lib.hid rfl⟩
      case round =>
        clear S1
        obtain ⟨x, rfl, hx1, hx2, hg2, SU, HU⟩ := hrel
        by_cases hle : x ≤ j
        · have hg3 : decide (x ≤ j) = true := by simp; omega
          have hg4 : (x : Int) ≤ (j : Int) := by omega
          cases hlv : ltInt dk[a]! dk[x]! with
          | false =>
            have HN := Lib.hid (HU.out.trans (up_go (p := fun z => !ltInt dk[a]! z) (by omega) (by simp [hlv])))
            go_wp2_with fail
            obtain ⟨iNUg, hiNUg⟩ : ∃ zq, zq = a := ⟨_, rfl⟩
            have eiUg : ((a : Int)).toNat = iNUg := by omega
            have piUg : (0 : Int) ≤ (a : Int) := by omega
            have biUg : (a : Int) < (n : Int) := by omega
            have riUg : IntKind.i64.wrap ((a : Int)) = (a : Int) := by rw [IntKind.wrap_i64]; omega
            obtain ⟨jNUg, hjNUg⟩ : ∃ zq, zq = x := ⟨_, rfl⟩
            have ejUg : ((x : Int)).toNat = jNUg := by omega
            have pjUg : (0 : Int) ≤ (x : Int) := by omega
            have bjUg : (x : Int) < (n : Int) := by omega
            have rjUg : IntKind.i64.wrap ((x : Int)) = (x : Int) := by rw [IntKind.wrap_i64]; omega
            obtain ⟨xUg, hxUg⟩ : ∃ zx, zx = dk[a]! := ⟨_, rfl⟩
            obtain ⟨yUg, hyUg⟩ : ∃ zx, zx = dk[x]! := ⟨_, rfl⟩
            have laUg : wr.cell? ⟨blk, off + iNUg, none⟩ = some (.int .u8 xUg) := by rw [hiNUg, hxUg]; exact sb_cell SU.out R (by omega) (a) (by omega)
            have lbUg : wr.cell? ⟨blk, off + jNUg, none⟩ = some (.int .u8 yUg) := by rw [hjNUg, hyUg]; exact sb_cell SU.out R (by omega) (x) (by omega)
            have hvUg : ltInt xUg yUg = false := by rw [hxUg, hyUg]; exact hlv
            have HVUg := Lib.hid hvUg
            clear hxUg hyUg hiNUg hjNUg hvUg
            go_wp2_with fail
            go_quiet ((go_at_call 221; exact Calls.quiet_of_same (less_q _ _ _ HVUg.out _)))
            have SL := Lib.hid (SW.drewN SU.out nq)
            clear laUg lbUg HVUg SU
            generalize wr.drewN nq = wl at SL ⊢
            clear nq eiUg piUg biUg riUg ejUg pjUg bjUg rjUg
            go_wp2
            go_roundg (j + 1 - (x + 1))
            case measure => omega
            case rel => exact ⟨x + 1, by go_num, by omega, by omega, Nat.le_refl _, SL, HN⟩
          | true =>
            have HN := Lib.hid (HU.out.trans (up_stop (p := fun z => !ltInt dk[a]! z) (.inr (by simp [hlv]))))
            go_wp2_with fail
            obtain ⟨iNUs, hiNUs⟩ : ∃ zq, zq = a := ⟨_, rfl⟩
            have eiUs : ((a : Int)).toNat = iNUs := by omega
            have piUs : (0 : Int) ≤ (a : Int) := by omega
            have biUs : (a : Int) < (n : Int) := by omega
            have riUs : IntKind.i64.wrap ((a : Int)) = (a : Int) := by rw [IntKind.wrap_i64]; omega
            obtain ⟨jNUs, hjNUs⟩ : ∃ zq, zq = x := ⟨_, rfl⟩
            have ejUs : ((x : Int)).toNat = jNUs := by omega
            have pjUs : (0 : Int) ≤ (x : Int) := by omega
            have bjUs : (x : Int) < (n : Int) := by omega
            have rjUs : IntKind.i64.wrap ((x : Int)) = (x : Int) := by rw [IntKind.wrap_i64]; omega
            obtain ⟨xUs, hxUs⟩ : ∃ zx, zx = dk[a]! := ⟨_, rfl⟩
            obtain ⟨yUs, hyUs⟩ : ∃ zx, zx = dk[x]! := ⟨_, rfl⟩
            have laUs : wr.cell? ⟨blk, off + iNUs, none⟩ = some (.int .u8 xUs) := by rw [hiNUs, hxUs]; exact sb_cell SU.out R (by omega) (a) (by omega)
            have lbUs : wr.cell? ⟨blk, off + jNUs, none⟩ = some (.int .u8 yUs) := by rw [hjNUs, hyUs]; exact sb_cell SU.out R (by omega) (x) (by omega)
            have hvUs : ltInt xUs yUs = true := by rw [hxUs, hyUs]; exact hlv
            have HVUs := Lib.hid hvUs
            clear hxUs hyUs hiNUs hjNUs hvUs
            go_wp2_with fail
            go_quiet ((go_at_call 221; exact Calls.quiet_of_same (less_q _ _ _ HVUs.out _)))
            have SL := Lib.hid (SW.drewN SU.out nq)
            clear laUs lbUs HVUs SU
            generalize wr.drewN nq = wl at SL ⊢
            clear nq eiUs piUs biUs riUs ejUs pjUs bjUs rjUs
            go_wp2
            go_meet
            case rel => exact ⟨x, by first | rfl | go_num, hx1, hx2, SL, HN⟩
        · have hg3 : decide (x ≤ j) = false := by simp; omega
          have hg4 : ¬ (x : Int) ≤ (j : Int) := by omega
          have HN := Lib.hid (HU.out.trans (up_stop (p := fun z => !ltInt dk[a]! z) (.inl (by omega))))
          go_wp2_with fail
          go_quiet (fail)
          have SL := Lib.hid (SW.drewN SU.out nq)
          generalize wr.drewN nq = wl at SL ⊢
          go_wp2
          go_meet
          case rel => exact ⟨x, rfl, hx1, hx2, SL, HN⟩
    case rest =>
      clear S1
      obtain ⟨I, rfl, hI1, hI2, S3, HI⟩ := hcut
      go_upto_block 4 with fail
      go_cut [10] (fun vi wx => ∃ x : Nat, vi = .int .i64 x ∧ I ≤ x + 1 ∧ x ≤ j ∧ Hid (SB w0 blk off dk wx) ∧ Hid (scanDown (fun z => ltInt dk[a]! z) dk I j = x))
      case first =>
        go_wp2_with fail
        go_loopg [10] (j) (fun g2 vi wr => ∃ x : Nat, vi = .int .i64 x ∧ I ≤ x + 1 ∧ x ≤ j ∧ x ≤ g2 ∧ Hid (SB w0 blk off dk wr) ∧ Hid (scanDown (fun z => ltInt dk[a]! z) dk I j = scanDown (fun z => ltInt dk[a]! z) dk I x))
        case atStart => exact ⟨j, rfl, by omega, by omega, Nat.le_refl _, S3, Lib.hid rfl⟩
        case round =>
          clear S3
          obtain ⟨x, rfl, hx1, hx2, hg2, SU, HU⟩ := hrel
          by_cases hle : I ≤ x
          · obtain ⟨xp, rfl⟩ : ∃ xp, x = xp + 1 := ⟨x - 1, by omega⟩
            have hg3 : decide (I ≤ xp + 1) = true := by simp; omega
            have hg4 : (I : Int) ≤ (xp : Int) + 1 := by omega
            have hg5 : decide ((I : Int) ≤ (xp : Int) + 1) = true := by simp; omega
            cases hlv : ltInt dk[a]! dk[xp + 1]! with
            | true =>
              have HN := Lib.hid (HU.out.trans (down_go (p := fun z => ltInt dk[a]! z) (by omega) (by simp [hlv])))
              go_wp2_with fail
              obtain ⟨iNVg, hiNVg⟩ : ∃ zq, zq = a := ⟨_, rfl⟩
              have eiVg : ((a : Int)).toNat = iNVg := by omega
              have piVg : (0 : Int) ≤ (a : Int) := by omega
              have biVg : (a : Int) < (n : Int) := by omega
              have riVg : IntKind.i64.wrap ((a : Int)) = (a : Int) := by rw [IntKind.wrap_i64]; omega
              obtain ⟨jNVg, hjNVg⟩ : ∃ zq, zq = xp + 1 := ⟨_, rfl⟩
              have ejVg : ((xp : Int) + 1).toNat = jNVg := by omega
              have pjVg : (0 : Int) ≤ (xp : Int) + 1 := by omega
              have bjVg : (xp : Int) + 1 < (n : Int) := by omega
              have rjVg : IntKind.i64.wrap ((xp : Int) + 1) = (xp : Int) + 1 := by rw [IntKind.wrap_i64]; omega
              obtain ⟨xVg, hxVg⟩ : ∃ zx, zx = dk[a]! := ⟨_, rfl⟩
              obtain ⟨yVg, hyVg⟩ : ∃ zx, zx = dk[xp + 1]! := ⟨_, rfl⟩
              have laVg : wr.cell? ⟨blk, off + iNVg, none⟩ = some (.int .u8 xVg) := by rw [hiNVg, hxVg]; exact sb_cell SU.out R (by omega) (a) (by omega)
              have lbVg : wr.cell? ⟨blk, off + jNVg, none⟩ = some (.int .u8 yVg) := by rw [hjNVg, hyVg]; exact sb_cell SU.out R (by omega) (xp + 1) (by omega)
              have hvVg : ltInt xVg yVg = true := by rw [hxVg, hyVg]; exact hlv
              have HVVg := Lib.hid hvVg
              clear hxVg hyVg hiNVg hjNVg hvVg
              go_wp2_with fail
              go_quiet ((go_at_call 221; exact Calls.quiet_of_same (less_q _ _ _ HVVg.out _)))
              have SL := Lib.hid (SW.drewN SU.out nq)
              clear laVg lbVg HVVg SU
              generalize wr.drewN nq = wl at SL ⊢
              clear nq eiVg piVg biVg riVg ejVg pjVg bjVg rjVg
              go_wp2
              go_roundg xp
              case measure => omega
              case rel => exact ⟨xp, by go_num, by omega, by omega, Nat.le_refl _, SL, HN⟩
            | false =>
              have HN := Lib.hid (HU.out.trans (down_stop (p := fun z => ltInt dk[a]! z) (.inr (by simp [hlv]))))
              go_wp2_with fail
              obtain ⟨iNVs, hiNVs⟩ : ∃ zq, zq = a := ⟨_, rfl⟩
              have eiVs : ((a : Int)).toNat = iNVs := by omega
              have piVs : (0 : Int) ≤ (a : Int) := by omega
              have biVs : (a : Int) < (n : Int) := by omega
              have riVs : IntKind.i64.wrap ((a : Int)) = (a : Int) := by rw [IntKind.wrap_i64]; omega
              obtain ⟨jNVs, hjNVs⟩ : ∃ zq, zq = xp + 1 := ⟨_, rfl⟩
              have ejVs : ((xp : Int) + 1).toNat = jNVs := by omega
              have pjVs : (0 : Int) ≤ (xp : Int) + 1 := by omega
              have bjVs : (xp : Int) + 1 < (n : Int) := by omega
              have rjVs : IntKind.i64.wrap ((xp : Int) + 1) = (xp : Int) + 1 := by rw [IntKind.wrap_i64]; omega
              obtain ⟨xVs, hxVs⟩ : ∃ zx, zx = dk[a]! := ⟨_, rfl⟩
              obtain ⟨yVs, hyVs⟩ : ∃ zx, zx = dk[xp + 1]! := ⟨_, rfl⟩
              have laVs : wr.cell? ⟨blk, off + iNVs, none⟩ = some (.int .u8 xVs) := by rw [hiNVs, hxVs]; exact sb_cell SU.out R (by omega) (a) (by omega)
              have lbVs : wr.cell? ⟨blk, off + jNVs, none⟩ = some (.int .u8 yVs) := by rw [hjNVs, hyVs]; exact sb_cell SU.out R (by omega) (xp + 1) (by omega)
              have hvVs : ltInt xVs yVs = false := by rw [hxVs, hyVs]; exact hlv
              have HVVs := Lib.hid hvVs
              clear hxVs hyVs hiNVs hjNVs hvVs
              go_wp2_with fail
              go_quiet ((go_at_call 221; exact Calls.quiet_of_same (less_q _ _ _ HVVs.out _)))
              have SL := Lib.hid (SW.drewN SU.out nq)
              clear laVs lbVs HVVs SU
              generalize wr.drewN nq = wl at SL ⊢
              clear nq eiVs piVs biVs riVs ejVs pjVs bjVs rjVs
              go_wp2
              go_meet
              case rel => exact ⟨xp + 1, by first | rfl | go_num, hx1, hx2, SL, HN⟩
          · have hg3 : decide (I ≤ x) = false := by simp; omega
            have hg4 : ¬ (I : Int) ≤ (x : Int) := by omega
            have HN := Lib.hid (HU.out.trans (down_stop (p := fun z => ltInt dk[a]! z) (.inl (by omega))))
            go_wp2_with fail
            go_quiet (fail)
            have SL := Lib.hid (SW.drewN SU.out nq)
            generalize wr.drewN nq = wl at SL ⊢
            go_wp2
            go_meet
            case rel => exact ⟨x, rfl, hx1, hx2, SL, HN⟩
      case rest =>
        clear S3
        obtain ⟨J, rfl, hJ1, hJ2, S4, HJ⟩ := hcut
        by_cases hIJ : J < I
        · have hz : (J : Int) < (I : Int) := by omega
          have hz2 : decide (J < I) = true := by simp; omega
          go_wp2
          go_ret
          exact ⟨I, dk, rfl, by unfold partitionEqual; rw [← HDS.out, ← HO.out]; exact eqLoop_end ltInt HI.out HJ.out hIJ, S4.out⟩
        · have hz : ¬ (J : Int) < (I : Int) := by omega
          have hz2 : decide (J < I) = false := by simp; omega
          have hlt := scan_apart (by simp) HI.out HJ.out hij (by omega) (by omega : I ≤ J)
          obtain ⟨Jp, rfl⟩ : ∃ Jp, J = Jp + 1 := ⟨J - 1, by omega⟩
          have HST := Lib.hid ((eqLoop_step ltInt HI.out HJ.out (by omega)).symm.trans HO.out)
          go_wp2_with fail
          obtain ⟨iNW, hiNW⟩ : ∃ zq, zq = I := ⟨_, rfl⟩
          have eiW : ((I : Int)).toNat = iNW := by omega
          have piW : (0 : Int) ≤ (I : Int) := by omega
          have biW : (I : Int) < (n : Int) := by omega
          have riW : IntKind.i64.wrap ((I : Int)) = (I : Int) := by rw [IntKind.wrap_i64]; omega
          obtain ⟨jNW, hjNW⟩ : ∃ zq, zq = Jp + 1 := ⟨_, rfl⟩
          have ejW : ((Jp : Int) + 1).toNat = jNW := by omega
          have pjW : (0 : Int) ≤ (Jp : Int) + 1 := by omega
          have bjW : (Jp : Int) + 1 < (n : Int) := by omega
          have rjW : IntKind.i64.wrap ((Jp : Int) + 1) = (Jp : Int) + 1 := by rw [IntKind.wrap_i64]; omega
          obtain ⟨xW, hxW⟩ : ∃ zx, zx = dk[I]! := ⟨_, rfl⟩
          obtain ⟨yW, hyW⟩ : ∃ zx, zx = dk[Jp + 1]! := ⟨_, rfl⟩
          have S5 : Hid (SB w0 blk off (swp dk (I) (Jp + 1)) ((wc.setCell ⟨blk, off + iNW, none⟩ (.int .u8 yW)).setCell ⟨blk, off + jNW, none⟩ (.int .u8 xW)).drew) := Lib.hid (by rw [hiNW, hjNW, hxW, hyW]; exact sb_swap S4.out R (I) (Jp + 1) (by omega) (by omega))
          have caW : wc.cell? ⟨blk, off + iNW, none⟩ = some (.int .u8 xW) := by rw [hiNW, hxW]; exact sb_cell S4.out R (by omega) (I) (by omega)
          have cbW : wc.cell? ⟨blk, off + jNW, none⟩ = some (.int .u8 yW) := by rw [hjNW, hyW]; exact sb_cell S4.out R (by omega) (Jp + 1) (by omega)
          have faW : wc.frozen? ⟨blk, off + iNW, none⟩ = false := by rw [hiNW]; exact SW.f1 S4.out R (by omega) (I) (by omega)
          have fbW : wc.frozen? ⟨blk, off + jNW, none⟩ = false := by rw [hjNW]; exact SW.f1 S4.out R (by omega) (Jp + 1) (by omega)
          obtain ⟨uW, ccW⟩ : ∃ u, (wc.setCell ⟨blk, off + iNW, none⟩ (.int .u8 yW)).cell? ⟨blk, off + jNW, none⟩ = some u := by rw [hiNW, hjNW]; exact SW.c2 S4.out R (by omega) (I) (Jp + 1) (by omega) (by omega) (.int .u8 yW)
          clear S4 hxW hyW hiNW hjNW
          go_wp2_with fail
          go_region
          clear caW cbW ccW faW fbW
          generalize ((wc.setCell ⟨blk, off + iNW, none⟩ (.int .u8 yW)).setCell ⟨blk, off + jNW, none⟩ (.int .u8 xW)).drew = w5 at S5 ⊢
          clear eiW piW biW riW ejW pjW bjW rjW
          go_wp2
          go_roundg (Jp + 1 - (I + 1))
          case measure => omega
          case rel => exact ⟨I + 1, Jp, swp dk I (Jp + 1), by go_num, by go_num, by omega, by omega, by omega, by omega, by rw [size_swp]; exact hsk, S5, HST⟩
end Go.Proofs.YtkifdbeklagelaaGreatDoor

/- BYTES SORTED: partitionOrdered. -/
namespace Go.Proofs.YtkifdbeklagelaaGreatDoor
open Go.RowKit Go.Sort

def Prt (w0 : World) (blk off : Nat) (d : Array Int) (a b pv : Nat) (e : Ending) (w' : World) : Prop := ∃ (m : Nat) (ap : Bool) (d' : Array Int), e = .returned (.tuple #[.int .i64 m, .bool ap]) ∧ partition ltInt d a b pv = (m, ap, d') ∧ SB w0 blk off d' w'
theorem par_early {d : Array Int} {a b pv I J : Nat} {ds : Array Int} (hds : ds = swp d a pv) (hI : scanUp (fun z => ltInt z ds[a]!) ds (b - 1) (a + 1) = I) (hJ : scanDown (fun z => !ltInt z ds[a]!) ds I (b - 1) = J) (h : J < I) : partition ltInt d a b pv = (J, true, swp ds J a) := by
  subst hds; subst hI; subst hJ
  unfold partition
  simp only []
  rw [if_pos (by omega)]
theorem par_late {d : Array Int} {a b pv I J m : Nat} {ds dm : Array Int} (hds : ds = swp d a pv) (hI : scanUp (fun z => ltInt z ds[a]!) ds (b - 1) (a + 1) = I) (hJ : scanDown (fun z => !ltInt z ds[a]!) ds I (b - 1) = J) (h : I ≤ J) (hm : partLoop ltInt a (I + 1) (J - 1) (swp ds I J) = (m, dm)) : partition ltInt d a b pv = (m, false, swp dm m a) := by
  subst hds; subst hI; subst hJ
  unfold partition
  simp only []
  rw [if_neg (by omega), hm]
set_option maxRecDepth 100000 in
set_option maxHeartbeats 8000000 in
theorem part_any (blk off cap a b pv n : Nat) (d0 d : Array Int) (w0 w : World) (R : RB w0 blk off d0) (hs0 : d0.size = n) (hsd : d.size = n) (S : SB w0 blk off d w) (hap : a ≤ pv) (hpb : pv < b) (hb : b ≤ n) (hsz : n < 2305843009213693952) :
    Calls Tryz.prog 223 #[.slice (some ⟨blk, off, none⟩) n cap, .int .i64 a, .int .i64 b, .int .i64 pv] w (Prt w0 blk off d a b pv) := by
  have S0 := Lib.hid S
  clear S
  obtain ⟨b1, hb1⟩ : ∃ b1, b1 = b - 1 := ⟨_, rfl⟩
  have hbz : (b : Int) - 1 = (b1 : Int) := by omega
  obtain ⟨a1, ha1⟩ : ∃ a1, a1 = a + 1 := ⟨_, rfl⟩
  have haz : (a : Int) + 1 = (a1 : Int) := by omega
  have HA1 := Lib.hid ha1
  have HB1 := Lib.hid hb1
  have la1 : a < a1 := by omega
  have la2 : a1 ≤ a + 1 := by omega
  have lb1 : b1 < b := by omega
  have lb2 : b ≤ b1 + 1 := by omega
  clear ha1 hb1
  go_enter Tryz.func223, Tryz.ntmps223
  go_wp2_with fail
  obtain ⟨iNA, hiNA⟩ : ∃ zq, zq = a := ⟨_, rfl⟩
  have eiA : ((a : Int)).toNat = iNA := by omega
  have piA : (0 : Int) ≤ (a : Int) := by omega
  have biA : (a : Int) < (n : Int) := by omega
  have riA : IntKind.i64.wrap ((a : Int)) = (a : Int) := by rw [IntKind.wrap_i64]; omega
  obtain ⟨jNA, hjNA⟩ : ∃ zq, zq = pv := ⟨_, rfl⟩
  have ejA : ((pv : Int)).toNat = jNA := by omega
  have pjA : (0 : Int) ≤ (pv : Int) := by omega
  have bjA : (pv : Int) < (n : Int) := by omega
  have rjA : IntKind.i64.wrap ((pv : Int)) = (pv : Int) := by rw [IntKind.wrap_i64]; omega
  obtain ⟨xA, hxA⟩ : ∃ zx, zx = d[a]! := ⟨_, rfl⟩
  obtain ⟨yA, hyA⟩ : ∃ zx, zx = d[pv]! := ⟨_, rfl⟩
  have S1 : Hid (SB w0 blk off (swp d (a) (pv)) ((w.setCell ⟨blk, off + iNA, none⟩ (.int .u8 yA)).setCell ⟨blk, off + jNA, none⟩ (.int .u8 xA)).drew) := Lib.hid (by rw [hiNA, hjNA, hxA, hyA]; exact sb_swap S0.out R (a) (pv) (by omega) (by omega))
  have caA : w.cell? ⟨blk, off + iNA, none⟩ = some (.int .u8 xA) := by rw [hiNA, hxA]; exact sb_cell S0.out R (by omega) (a) (by omega)
  have cbA : w.cell? ⟨blk, off + jNA, none⟩ = some (.int .u8 yA) := by rw [hjNA, hyA]; exact sb_cell S0.out R (by omega) (pv) (by omega)
  have faA : w.frozen? ⟨blk, off + iNA, none⟩ = false := by rw [hiNA]; exact SW.f1 S0.out R (by omega) (a) (by omega)
  have fbA : w.frozen? ⟨blk, off + jNA, none⟩ = false := by rw [hjNA]; exact SW.f1 S0.out R (by omega) (pv) (by omega)
  obtain ⟨uA, ccA⟩ : ∃ u, (w.setCell ⟨blk, off + iNA, none⟩ (.int .u8 yA)).cell? ⟨blk, off + jNA, none⟩ = some u := by rw [hiNA, hjNA]; exact SW.c2 S0.out R (by omega) (a) (pv) (by omega) (by omega) (.int .u8 yA)
  clear S0 hxA hyA hiNA hjNA
  go_wp2_with fail
  go_region
  clear caA cbA ccA faA fbA
  generalize ((w.setCell ⟨blk, off + iNA, none⟩ (.int .u8 yA)).setCell ⟨blk, off + jNA, none⟩ (.int .u8 xA)).drew = w1 at S1 ⊢
  clear eiA piA biA riA ejA pjA bjA rjA
  have hsw : (swp d a pv).size = n := by rw [size_swp]; exact hsd
  obtain ⟨ds, hds⟩ : ∃ ds, ds = swp d a pv := ⟨_, rfl⟩
  have HDS := Lib.hid hds
  rw [← hds] at S1 hsw
  clear hds
  go_upto_block 0 with fail
  go_cut [10] (fun vi wx => ∃ x : Nat, vi = .int .i64 x ∧ a1 ≤ x ∧ x ≤ b1 + 1 ∧ Hid (SB w0 blk off ds wx) ∧ Hid (scanUp (fun z => ltInt z ds[a]!) ds b1 a1 = x))
  case first =>
    go_wp2_with fail
    go_loopg [10] (b1 + 1 - a1) (fun g2 vi wr => ∃ x : Nat, vi = .int .i64 x ∧ a1 ≤ x ∧ x ≤ b1 + 1 ∧ b1 + 1 - x ≤ g2 ∧ Hid (SB w0 blk off ds wr) ∧ Hid (scanUp (fun z => ltInt z ds[a]!) ds b1 a1 = scanUp (fun z => ltInt z ds[a]!) ds b1 x))
    case atStart => exact ⟨a1, rfl, by omega, by omega, Nat.le_refl _, S1, Lib.hid rfl⟩
    case round =>
      clear S1
      obtain ⟨x, rfl, hx1, hx2, hg2, SU, HU⟩ := hrel
      by_cases hle : x ≤ b1
      · have hg3 : decide (x ≤ b1) = true := by simp; omega
        have hg4 : (x : Int) ≤ (b1 : Int) := by omega
        cases hlv : ltInt ds[x]! ds[a]! with
        | true =>
          have HN := Lib.hid (HU.out.trans (up_go (p := fun z => ltInt z ds[a]!) (by omega) (by simp [hlv])))
          go_wp2_with fail
          obtain ⟨iNUg, hiNUg⟩ : ∃ zq, zq = x := ⟨_, rfl⟩
          have eiUg : ((x : Int)).toNat = iNUg := by omega
          have piUg : (0 : Int) ≤ (x : Int) := by omega
          have biUg : (x : Int) < (n : Int) := by omega
          have riUg : IntKind.i64.wrap ((x : Int)) = (x : Int) := by rw [IntKind.wrap_i64]; omega
          obtain ⟨jNUg, hjNUg⟩ : ∃ zq, zq = a := ⟨_, rfl⟩
          have ejUg : ((a : Int)).toNat = jNUg := by omega
          have pjUg : (0 : Int) ≤ (a : Int) := by omega
          have bjUg : (a : Int) < (n : Int) := by omega
          have rjUg : IntKind.i64.wrap ((a : Int)) = (a : Int) := by rw [IntKind.wrap_i64]; omega
          obtain ⟨xUg, hxUg⟩ : ∃ zx, zx = ds[x]! := ⟨_, rfl⟩
          obtain ⟨yUg, hyUg⟩ : ∃ zx, zx = ds[a]! := ⟨_, rfl⟩
          have laUg : wr.cell? ⟨blk, off + iNUg, none⟩ = some (.int .u8 xUg) := by rw [hiNUg, hxUg]; exact sb_cell SU.out R (by omega) (x) (by omega)
          have lbUg : wr.cell? ⟨blk, off + jNUg, none⟩ = some (.int .u8 yUg) := by rw [hjNUg, hyUg]; exact sb_cell SU.out R (by omega) (a) (by omega)
          have hvUg : ltInt xUg yUg = true := by rw [hxUg, hyUg]; exact hlv
          have HVUg := Lib.hid hvUg
          clear hxUg hyUg hiNUg hjNUg hvUg
          go_wp2_with fail
          go_quiet ((go_at_call 221; exact Calls.quiet_of_same (less_q _ _ _ HVUg.out _)))
          have SL := Lib.hid (SW.drewN SU.out nq)
          clear laUg lbUg HVUg SU
          generalize wr.drewN nq = wl at SL ⊢
          clear nq eiUg piUg biUg riUg ejUg pjUg bjUg rjUg
          go_wp2
          go_roundg (b1 + 1 - (x + 1))
          case measure => omega
          case rel => exact ⟨x + 1, by go_num, by omega, by omega, Nat.le_refl _, SL, HN⟩
        | false =>
          have HN := Lib.hid (HU.out.trans (up_stop (p := fun z => ltInt z ds[a]!) (.inr (by simp [hlv]))))
          go_wp2_with fail
          obtain ⟨iNUs, hiNUs⟩ : ∃ zq, zq = x := ⟨_, rfl⟩
          have eiUs : ((x : Int)).toNat = iNUs := by omega
          have piUs : (0 : Int) ≤ (x : Int) := by omega
          have biUs : (x : Int) < (n : Int) := by omega
          have riUs : IntKind.i64.wrap ((x : Int)) = (x : Int) := by rw [IntKind.wrap_i64]; omega
          obtain ⟨jNUs, hjNUs⟩ : ∃ zq, zq = a := ⟨_, rfl⟩
          have ejUs : ((a : Int)).toNat = jNUs := by omega
          have pjUs : (0 : Int) ≤ (a : Int) := by omega
          have bjUs : (a : Int) < (n : Int) := by omega
          have rjUs : IntKind.i64.wrap ((a : Int)) = (a : Int) := by rw [IntKind.wrap_i64]; omega
          obtain ⟨xUs, hxUs⟩ : ∃ zx, zx = ds[x]! := ⟨_, rfl⟩
          obtain ⟨yUs, hyUs⟩ : ∃ zx, zx = ds[a]! := ⟨_, rfl⟩
          have laUs : wr.cell? ⟨blk, off + iNUs, none⟩ = some (.int .u8 xUs) := by rw [hiNUs, hxUs]; exact sb_cell SU.out R (by omega) (x) (by omega)
          have lbUs : wr.cell? ⟨blk, off + jNUs, none⟩ = some (.int .u8 yUs) := by rw [hjNUs, hyUs]; exact sb_cell SU.out R (by omega) (a) (by omega)
          have hvUs : ltInt xUs yUs = false := by rw [hxUs, hyUs]; exact hlv
          have HVUs := Lib.hid hvUs
          clear hxUs hyUs hiNUs hjNUs hvUs
          go_wp2_with fail
          go_quiet ((go_at_call 221; exact Calls.quiet_of_same (less_q _ _ _ HVUs.out _)))
          have SL := Lib.hid (SW.drewN SU.out nq)
          clear laUs lbUs HVUs SU
          generalize wr.drewN nq = wl at SL ⊢
          clear nq eiUs piUs biUs riUs ejUs pjUs bjUs rjUs
          go_wp2
          go_meet
          case rel => exact ⟨x, by first | rfl | go_num, hx1, hx2, SL, HN⟩
      · have hg3 : decide (x ≤ b1) = false := by simp; omega
        have hg4 : ¬ (x : Int) ≤ (b1 : Int) := by omega
        have HN := Lib.hid (HU.out.trans (up_stop (p := fun z => ltInt z ds[a]!) (.inl (by omega))))
        go_wp2_with fail
        go_quiet (fail)
        have SL := Lib.hid (SW.drewN SU.out nq)
        generalize wr.drewN nq = wl at SL ⊢
        go_wp2
        go_meet
        case rel => exact ⟨x, rfl, hx1, hx2, SL, HN⟩
  case rest =>
    clear S1
    obtain ⟨I, rfl, hI1, hI2, S3, HI⟩ := hcut
    go_upto_block 2 with fail
    go_cut [11] (fun vi wx => ∃ x : Nat, vi = .int .i64 x ∧ I ≤ x + 1 ∧ x ≤ b1 ∧ Hid (SB w0 blk off ds wx) ∧ Hid (scanDown (fun z => !ltInt z ds[a]!) ds I b1 = x))
    case first =>
      go_wp2_with fail
      go_loopg [11] (b1) (fun g2 vi wr => ∃ x : Nat, vi = .int .i64 x ∧ I ≤ x + 1 ∧ x ≤ b1 ∧ x ≤ g2 ∧ Hid (SB w0 blk off ds wr) ∧ Hid (scanDown (fun z => !ltInt z ds[a]!) ds I b1 = scanDown (fun z => !ltInt z ds[a]!) ds I x))
      case atStart => exact ⟨b1, rfl, by omega, by omega, Nat.le_refl _, S3, Lib.hid rfl⟩
      case round =>
        clear S3
        obtain ⟨x, rfl, hx1, hx2, hg2, SU, HU⟩ := hrel
        by_cases hle : I ≤ x
        · obtain ⟨xp, rfl⟩ : ∃ xp, x = xp + 1 := ⟨x - 1, by omega⟩
          have hg3 : decide (I ≤ xp + 1) = true := by simp; omega
          have hg4 : (I : Int) ≤ (xp : Int) + 1 := by omega
          have hg5 : decide ((I : Int) ≤ (xp : Int) + 1) = true := by simp; omega
          cases hlv : ltInt ds[xp + 1]! ds[a]! with
          | false =>
            have HN := Lib.hid (HU.out.trans (down_go (p := fun z => !ltInt z ds[a]!) (by omega) (by simp [hlv])))
            go_wp2_with fail
            obtain ⟨iNVg, hiNVg⟩ : ∃ zq, zq = xp + 1 := ⟨_, rfl⟩
            have eiVg : ((xp : Int) + 1).toNat = iNVg := by omega
            have piVg : (0 : Int) ≤ (xp : Int) + 1 := by omega
            have biVg : (xp : Int) + 1 < (n : Int) := by omega
            have riVg : IntKind.i64.wrap ((xp : Int) + 1) = (xp : Int) + 1 := by rw [IntKind.wrap_i64]; omega
            obtain ⟨jNVg, hjNVg⟩ : ∃ zq, zq = a := ⟨_, rfl⟩
            have ejVg : ((a : Int)).toNat = jNVg := by omega
            have pjVg : (0 : Int) ≤ (a : Int) := by omega
            have bjVg : (a : Int) < (n : Int) := by omega
            have rjVg : IntKind.i64.wrap ((a : Int)) = (a : Int) := by rw [IntKind.wrap_i64]; omega
            obtain ⟨xVg, hxVg⟩ : ∃ zx, zx = ds[xp + 1]! := ⟨_, rfl⟩
            obtain ⟨yVg, hyVg⟩ : ∃ zx, zx = ds[a]! := ⟨_, rfl⟩
            have laVg : wr.cell? ⟨blk, off + iNVg, none⟩ = some (.int .u8 xVg) := by rw [hiNVg, hxVg]; exact sb_cell SU.out R (by omega) (xp + 1) (by omega)
            have lbVg : wr.cell? ⟨blk, off + jNVg, none⟩ = some (.int .u8 yVg) := by rw [hjNVg, hyVg]; exact sb_cell SU.out R (by omega) (a) (by omega)
            have hvVg : ltInt xVg yVg = false := by rw [hxVg, hyVg]; exact hlv
            have HVVg := Lib.hid hvVg
            clear hxVg hyVg hiNVg hjNVg hvVg
            go_wp2_with fail
            go_quiet ((go_at_call 221; exact Calls.quiet_of_same (less_q _ _ _ HVVg.out _)))
            have SL := Lib.hid (SW.drewN SU.out nq)
            clear laVg lbVg HVVg SU
            generalize wr.drewN nq = wl at SL ⊢
            clear nq eiVg piVg biVg riVg ejVg pjVg bjVg rjVg
            go_wp2
            go_roundg xp
            case measure => omega
            case rel => exact ⟨xp, by go_num, by omega, by omega, Nat.le_refl _, SL, HN⟩
          | true =>
            have HN := Lib.hid (HU.out.trans (down_stop (p := fun z => !ltInt z ds[a]!) (.inr (by simp [hlv]))))
            go_wp2_with fail
            obtain ⟨iNVs, hiNVs⟩ : ∃ zq, zq = xp + 1 := ⟨_, rfl⟩
            have eiVs : ((xp : Int) + 1).toNat = iNVs := by omega
            have piVs : (0 : Int) ≤ (xp : Int) + 1 := by omega
            have biVs : (xp : Int) + 1 < (n : Int) := by omega
            have riVs : IntKind.i64.wrap ((xp : Int) + 1) = (xp : Int) + 1 := by rw [IntKind.wrap_i64]; omega
            obtain ⟨jNVs, hjNVs⟩ : ∃ zq, zq = a := ⟨_, rfl⟩
            have ejVs : ((a : Int)).toNat = jNVs := by omega
            have pjVs : (0 : Int) ≤ (a : Int) := by omega
            have bjVs : (a : Int) < (n : Int) := by omega
            have rjVs : IntKind.i64.wrap ((a : Int)) = (a : Int) := by rw [IntKind.wrap_i64]; omega
            obtain ⟨xVs, hxVs⟩ : ∃ zx, zx = ds[xp + 1]! := ⟨_, rfl⟩
            obtain ⟨yVs, hyVs⟩ : ∃ zx, zx = ds[a]! := ⟨_, rfl⟩
            have laVs : wr.cell? ⟨blk, off + iNVs, none⟩ = some (.int .u8 xVs) := by rw [hiNVs, hxVs]; exact sb_cell SU.out R (by omega) (xp + 1) (by omega)
            have lbVs : wr.cell? ⟨blk, off + jNVs, none⟩ = some (.int .u8 yVs) := by rw [hjNVs, hyVs]; exact sb_cell SU.out R (by omega) (a) (by omega)
            have hvVs : ltInt xVs yVs = true := by rw [hxVs, hyVs]; exact hlv
            have HVVs := Lib.hid hvVs
            clear hxVs hyVs hiNVs hjNVs hvVs
            go_wp2_with fail
            go_quiet ((go_at_call 221; exact Calls.quiet_of_same (less_q _ _ _ HVVs.out _)))
            have SL := Lib.hid (SW.drewN SU.out nq)
            clear laVs lbVs HVVs SU
            generalize wr.drewN nq = wl at SL ⊢
            clear nq eiVs piVs biVs riVs ejVs pjVs bjVs rjVs
            go_wp2
            go_meet
            case rel => exact ⟨xp + 1, by first | rfl | go_num, hx1, hx2, SL, HN⟩
        · have hg3 : decide (I ≤ x) = false := by simp; omega
          have hg4 : ¬ (I : Int) ≤ (x : Int) := by omega
          have HN := Lib.hid (HU.out.trans (down_stop (p := fun z => !ltInt z ds[a]!) (.inl (by omega))))
          go_wp2_with fail
          go_quiet (fail)
          have SL := Lib.hid (SW.drewN SU.out nq)
          generalize wr.drewN nq = wl at SL ⊢
          go_wp2
          go_meet
          case rel => exact ⟨x, rfl, hx1, hx2, SL, HN⟩
    case rest =>
      clear S3
      obtain ⟨J, rfl, hJ1, hJ2, S4, HJ⟩ := hcut
      have HI2 : Hid (scanUp (fun z => ltInt z ds[a]!) ds (b - 1) (a + 1) = I) := Lib.hid (by rw [← HA1.out, ← HB1.out]; exact HI.out)
      have HJ2 : Hid (scanDown (fun z => !ltInt z ds[a]!) ds I (b - 1) = J) := Lib.hid (by rw [← HB1.out]; exact HJ.out)
      by_cases hIJ : J < I
      · have hz : (J : Int) < (I : Int) := by omega
        have hz2 : decide (J < I) = true := by simp; omega
        have HPAR := Lib.hid (par_early HDS.out HI2.out HJ2.out hIJ)
        go_wp2_with fail
        obtain ⟨iNE, hiNE⟩ : ∃ zq, zq = J := ⟨_, rfl⟩
        have eiE : ((J : Int)).toNat = iNE := by omega
        have piE : (0 : Int) ≤ (J : Int) := by omega
        have biE : (J : Int) < (n : Int) := by omega
        have riE : IntKind.i64.wrap ((J : Int)) = (J : Int) := by rw [IntKind.wrap_i64]; omega
        obtain ⟨jNE, hjNE⟩ : ∃ zq, zq = a := ⟨_, rfl⟩
        have ejE : ((a : Int)).toNat = jNE := by omega
        have pjE : (0 : Int) ≤ (a : Int) := by omega
        have bjE : (a : Int) < (n : Int) := by omega
        have rjE : IntKind.i64.wrap ((a : Int)) = (a : Int) := by rw [IntKind.wrap_i64]; omega
        obtain ⟨xE, hxE⟩ : ∃ zx, zx = ds[J]! := ⟨_, rfl⟩
        obtain ⟨yE, hyE⟩ : ∃ zx, zx = ds[a]! := ⟨_, rfl⟩
        have S5 : Hid (SB w0 blk off (swp ds (J) (a)) ((wc.setCell ⟨blk, off + iNE, none⟩ (.int .u8 yE)).setCell ⟨blk, off + jNE, none⟩ (.int .u8 xE)).drew) := Lib.hid (by rw [hiNE, hjNE, hxE, hyE]; exact sb_swap S4.out R (J) (a) (by omega) (by omega))
        have caE : wc.cell? ⟨blk, off + iNE, none⟩ = some (.int .u8 xE) := by rw [hiNE, hxE]; exact sb_cell S4.out R (by omega) (J) (by omega)
        have cbE : wc.cell? ⟨blk, off + jNE, none⟩ = some (.int .u8 yE) := by rw [hjNE, hyE]; exact sb_cell S4.out R (by omega) (a) (by omega)
        have faE : wc.frozen? ⟨blk, off + iNE, none⟩ = false := by rw [hiNE]; exact SW.f1 S4.out R (by omega) (J) (by omega)
        have fbE : wc.frozen? ⟨blk, off + jNE, none⟩ = false := by rw [hjNE]; exact SW.f1 S4.out R (by omega) (a) (by omega)
        obtain ⟨uE, ccE⟩ : ∃ u, (wc.setCell ⟨blk, off + iNE, none⟩ (.int .u8 yE)).cell? ⟨blk, off + jNE, none⟩ = some u := by rw [hiNE, hjNE]; exact SW.c2 S4.out R (by omega) (J) (a) (by omega) (by omega) (.int .u8 yE)
        clear S4 hxE hyE hiNE hjNE
        go_wp2_with fail
        go_region
        clear caE cbE ccE faE fbE
        generalize ((wc.setCell ⟨blk, off + iNE, none⟩ (.int .u8 yE)).setCell ⟨blk, off + jNE, none⟩ (.int .u8 xE)).drew = w5 at S5 ⊢
        clear eiE piE biE riE ejE pjE bjE rjE
        go_wp2
        refine bodyPost_ret (v := .tuple #[.int .i64 (J : Int), .bool true]) (by simp [results, Tryz.results223, go_sem]) rfl ?_
        exact ⟨J, true, _, rfl, HPAR.out, S5.out⟩
      · have hz : ¬ (J : Int) < (I : Int) := by omega
        have hz2 : decide (J < I) = false := by simp; omega
        have hlt := scan_apart (by simp) HI.out HJ.out (by omega) (by omega) (by omega : I ≤ J)
        obtain ⟨Jp, rfl⟩ : ∃ Jp, J = Jp + 1 := ⟨J - 1, by omega⟩
        have HLATE : Hid (∀ m dm, partLoop ltInt a (I + 1) Jp (swp ds I (Jp + 1)) = (m, dm) → partition ltInt d a b pv = (m, false, swp dm m a)) := Lib.hid fun m dm h => par_late HDS.out HI2.out HJ2.out (by omega) h
        go_wp2_with fail
        obtain ⟨iNE, hiNE⟩ : ∃ zq, zq = I := ⟨_, rfl⟩
        have eiE : ((I : Int)).toNat = iNE := by omega
        have piE : (0 : Int) ≤ (I : Int) := by omega
        have biE : (I : Int) < (n : Int) := by omega
        have riE : IntKind.i64.wrap ((I : Int)) = (I : Int) := by rw [IntKind.wrap_i64]; omega
        obtain ⟨jNE, hjNE⟩ : ∃ zq, zq = Jp + 1 := ⟨_, rfl⟩
        have ejE : ((Jp : Int) + 1).toNat = jNE := by omega
        have pjE : (0 : Int) ≤ (Jp : Int) + 1 := by omega
        have bjE : (Jp : Int) + 1 < (n : Int) := by omega
        have rjE : IntKind.i64.wrap ((Jp : Int) + 1) = (Jp : Int) + 1 := by rw [IntKind.wrap_i64]; omega
        obtain ⟨xE, hxE⟩ : ∃ zx, zx = ds[I]! := ⟨_, rfl⟩
        obtain ⟨yE, hyE⟩ : ∃ zx, zx = ds[Jp + 1]! := ⟨_, rfl⟩
        have S5 : Hid (SB w0 blk off (swp ds (I) (Jp + 1)) ((wc.setCell ⟨blk, off + iNE, none⟩ (.int .u8 yE)).setCell ⟨blk, off + jNE, none⟩ (.int .u8 xE)).drew) := Lib.hid (by rw [hiNE, hjNE, hxE, hyE]; exact sb_swap S4.out R (I) (Jp + 1) (by omega) (by omega))
        have caE : wc.cell? ⟨blk, off + iNE, none⟩ = some (.int .u8 xE) := by rw [hiNE, hxE]; exact sb_cell S4.out R (by omega) (I) (by omega)
        have cbE : wc.cell? ⟨blk, off + jNE, none⟩ = some (.int .u8 yE) := by rw [hjNE, hyE]; exact sb_cell S4.out R (by omega) (Jp + 1) (by omega)
        have faE : wc.frozen? ⟨blk, off + iNE, none⟩ = false := by rw [hiNE]; exact SW.f1 S4.out R (by omega) (I) (by omega)
        have fbE : wc.frozen? ⟨blk, off + jNE, none⟩ = false := by rw [hjNE]; exact SW.f1 S4.out R (by omega) (Jp + 1) (by omega)
        obtain ⟨uE, ccE⟩ : ∃ u, (wc.setCell ⟨blk, off + iNE, none⟩ (.int .u8 yE)).cell? ⟨blk, off + jNE, none⟩ = some u := by rw [hiNE, hjNE]; exact SW.c2 S4.out R (by omega) (I) (Jp + 1) (by omega) (by omega) (.int .u8 yE)
        clear S4 hxE hyE hiNE hjNE
        go_wp2_with fail
        go_region
        clear caE cbE ccE faE fbE
        generalize ((wc.setCell ⟨blk, off + iNE, none⟩ (.int .u8 yE)).setCell ⟨blk, off + jNE, none⟩ (.int .u8 xE)).drew = w5 at S5 ⊢
        clear eiE piE biE riE ejE pjE bjE rjE
        have hsw2 : (swp ds I (Jp + 1)).size = n := by rw [size_swp]; exact hsw
        obtain ⟨dt, hdt⟩ : ∃ dt, dt = swp ds I (Jp + 1) := ⟨_, rfl⟩
        rw [← hdt] at HLATE S5 hsw2
        clear hdt HI HJ HI2 HJ2 hz hz2 hIJ
        go_wp2_with fail
        go_loopg [10, 11] (Jp + 1 - (I + 1)) (fun g1 vi vj wr => ∃ (i j : Nat) (dk : Array Int), vi = .int .i64 i ∧ vj = .int .i64 j ∧ a < i ∧ i ≤ j + 1 ∧ j < b ∧ j + 1 - i ≤ g1 ∧ dk.size = n ∧ Hid (SB w0 blk off dk wr) ∧ Hid (partLoop ltInt a i j dk = partLoop ltInt a (I + 1) Jp dt))
        case atStart => exact ⟨I + 1, Jp, dt, by go_num, by go_num, by omega, by omega, by omega, Nat.le_refl _, hsw2, S5, Lib.hid rfl⟩
        case round =>
          clear S5 hI1 hI2 hJ1 hJ2 hlt
          obtain ⟨i, j, dk, rfl, rfl, hai, hij, hjb, hg1, hsk, S1, HO⟩ := hrel
          go_upto_block 6 with fail
          go_cut [10] (fun vi wx => ∃ x : Nat, vi = .int .i64 x ∧ i ≤ x ∧ x ≤ j + 1 ∧ Hid (SB w0 blk off dk wx) ∧ Hid (scanUp (fun z => ltInt z dk[a]!) dk j i = x))
          case first =>
            go_wp2_with fail
            go_loopg [10] (j + 1 - i) (fun g2 vi wr => ∃ x : Nat, vi = .int .i64 x ∧ i ≤ x ∧ x ≤ j + 1 ∧ j + 1 - x ≤ g2 ∧ Hid (SB w0 blk off dk wr) ∧ Hid (scanUp (fun z => ltInt z dk[a]!) dk j i = scanUp (fun z => ltInt z dk[a]!) dk j x))
            case atStart => exact ⟨i, rfl, by omega, by omega, Nat.le_refl _, S1, Lib.hid rfl⟩
            case round =>
              clear S1
              obtain ⟨x, rfl, hx1, hx2, hg2, SU, HU⟩ := hrel
              by_cases hle : x ≤ j
              · have hg3 : decide (x ≤ j) = true := by simp; omega
                have hg4 : (x : Int) ≤ (j : Int) := by omega
                cases hlv : ltInt dk[x]! dk[a]! with
                | true =>
                  have HN := Lib.hid (HU.out.trans (up_go (p := fun z => ltInt z dk[a]!) (by omega) (by simp [hlv])))
                  go_wp2_with fail
                  obtain ⟨iNXg, hiNXg⟩ : ∃ zq, zq = x := ⟨_, rfl⟩
                  have eiXg : ((x : Int)).toNat = iNXg := by omega
                  have piXg : (0 : Int) ≤ (x : Int) := by omega
                  have biXg : (x : Int) < (n : Int) := by omega
                  have riXg : IntKind.i64.wrap ((x : Int)) = (x : Int) := by rw [IntKind.wrap_i64]; omega
                  obtain ⟨jNXg, hjNXg⟩ : ∃ zq, zq = a := ⟨_, rfl⟩
                  have ejXg : ((a : Int)).toNat = jNXg := by omega
                  have pjXg : (0 : Int) ≤ (a : Int) := by omega
                  have bjXg : (a : Int) < (n : Int) := by omega
                  have rjXg : IntKind.i64.wrap ((a : Int)) = (a : Int) := by rw [IntKind.wrap_i64]; omega
                  obtain ⟨xXg, hxXg⟩ : ∃ zx, zx = dk[x]! := ⟨_, rfl⟩
                  obtain ⟨yXg, hyXg⟩ : ∃ zx, zx = dk[a]! := ⟨_, rfl⟩
                  have laXg : wr.cell? ⟨blk, off + iNXg, none⟩ = some (.int .u8 xXg) := by rw [hiNXg, hxXg]; exact sb_cell SU.out R (by omega) (x) (by omega)
                  have lbXg : wr.cell? ⟨blk, off + jNXg, none⟩ = some (.int .u8 yXg) := by rw [hjNXg, hyXg]; exact sb_cell SU.out R (by omega) (a) (by omega)
                  have hvXg : ltInt xXg yXg = true := by rw [hxXg, hyXg]; exact hlv
                  have HVXg := Lib.hid hvXg
                  clear hxXg hyXg hiNXg hjNXg hvXg
                  go_wp2_with fail
                  go_quiet ((go_at_call 221; exact Calls.quiet_of_same (less_q _ _ _ HVXg.out _)))
                  have SL := Lib.hid (SW.drewN SU.out nq)
                  clear laXg lbXg HVXg SU
                  generalize wr.drewN nq = wl at SL ⊢
                  clear nq eiXg piXg biXg riXg ejXg pjXg bjXg rjXg
                  go_wp2
                  go_roundg (j + 1 - (x + 1))
                  case measure => omega
                  case rel => exact ⟨x + 1, by go_num, by omega, by omega, Nat.le_refl _, SL, HN⟩
                | false =>
                  have HN := Lib.hid (HU.out.trans (up_stop (p := fun z => ltInt z dk[a]!) (.inr (by simp [hlv]))))
                  go_wp2_with fail
                  obtain ⟨iNXs, hiNXs⟩ : ∃ zq, zq = x := ⟨_, rfl⟩
                  have eiXs : ((x : Int)).toNat = iNXs := by omega
                  have piXs : (0 : Int) ≤ (x : Int) := by omega
                  have biXs : (x : Int) < (n : Int) := by omega
                  have riXs : IntKind.i64.wrap ((x : Int)) = (x : Int) := by rw [IntKind.wrap_i64]; omega
                  obtain ⟨jNXs, hjNXs⟩ : ∃ zq, zq = a := ⟨_, rfl⟩
                  have ejXs : ((a : Int)).toNat = jNXs := by omega
                  have pjXs : (0 : Int) ≤ (a : Int) := by omega
                  have bjXs : (a : Int) < (n : Int) := by omega
                  have rjXs : IntKind.i64.wrap ((a : Int)) = (a : Int) := by rw [IntKind.wrap_i64]; omega
                  obtain ⟨xXs, hxXs⟩ : ∃ zx, zx = dk[x]! := ⟨_, rfl⟩
                  obtain ⟨yXs, hyXs⟩ : ∃ zx, zx = dk[a]! := ⟨_, rfl⟩
                  have laXs : wr.cell? ⟨blk, off + iNXs, none⟩ = some (.int .u8 xXs) := by rw [hiNXs, hxXs]; exact sb_cell SU.out R (by omega) (x) (by omega)
                  have lbXs : wr.cell? ⟨blk, off + jNXs, none⟩ = some (.int .u8 yXs) := by rw [hjNXs, hyXs]; exact sb_cell SU.out R (by omega) (a) (by omega)
                  have hvXs : ltInt xXs yXs = false := by rw [hxXs, hyXs]; exact hlv
                  have HVXs := Lib.hid hvXs
                  clear hxXs hyXs hiNXs hjNXs hvXs
                  go_wp2_with fail
                  go_quiet ((go_at_call 221; exact Calls.quiet_of_same (less_q _ _ _ HVXs.out _)))
                  have SL := Lib.hid (SW.drewN SU.out nq)
                  clear laXs lbXs HVXs SU
                  generalize wr.drewN nq = wl at SL ⊢
                  clear nq eiXs piXs biXs riXs ejXs pjXs bjXs rjXs
                  go_wp2
                  go_meet
                  case rel => exact ⟨x, by first | rfl | go_num, hx1, hx2, SL, HN⟩
              · have hg3 : decide (x ≤ j) = false := by simp; omega
                have hg4 : ¬ (x : Int) ≤ (j : Int) := by omega
                have HN := Lib.hid (HU.out.trans (up_stop (p := fun z => ltInt z dk[a]!) (.inl (by omega))))
                go_wp2_with fail
                go_quiet (fail)
                have SL := Lib.hid (SW.drewN SU.out nq)
                generalize wr.drewN nq = wl at SL ⊢
                go_wp2
                go_meet
                case rel => exact ⟨x, rfl, hx1, hx2, SL, HN⟩
          case rest =>
            clear S1
            obtain ⟨I2, rfl, hI21, hI22, S3, HI2⟩ := hcut
            go_upto_block 8 with fail
            go_cut [11] (fun vi wx => ∃ x : Nat, vi = .int .i64 x ∧ I2 ≤ x + 1 ∧ x ≤ j ∧ Hid (SB w0 blk off dk wx) ∧ Hid (scanDown (fun z => !ltInt z dk[a]!) dk I2 j = x))
            case first =>
              go_wp2_with fail
              go_loopg [11] (j) (fun g2 vi wr => ∃ x : Nat, vi = .int .i64 x ∧ I2 ≤ x + 1 ∧ x ≤ j ∧ x ≤ g2 ∧ Hid (SB w0 blk off dk wr) ∧ Hid (scanDown (fun z => !ltInt z dk[a]!) dk I2 j = scanDown (fun z => !ltInt z dk[a]!) dk I2 x))
              case atStart => exact ⟨j, rfl, by omega, by omega, Nat.le_refl _, S3, Lib.hid rfl⟩
              case round =>
                clear S3
                obtain ⟨x, rfl, hx1, hx2, hg2, SU, HU⟩ := hrel
                by_cases hle : I2 ≤ x
                · obtain ⟨xp, rfl⟩ : ∃ xp, x = xp + 1 := ⟨x - 1, by omega⟩
                  have hg3 : decide (I2 ≤ xp + 1) = true := by simp; omega
                  have hg4 : (I2 : Int) ≤ (xp : Int) + 1 := by omega
                  have hg5 : decide ((I2 : Int) ≤ (xp : Int) + 1) = true := by simp; omega
                  cases hlv : ltInt dk[xp + 1]! dk[a]! with
                  | false =>
                    have HN := Lib.hid (HU.out.trans (down_go (p := fun z => !ltInt z dk[a]!) (by omega) (by simp [hlv])))
                    go_wp2_with fail
                    obtain ⟨iNYg, hiNYg⟩ : ∃ zq, zq = xp + 1 := ⟨_, rfl⟩
                    have eiYg : ((xp : Int) + 1).toNat = iNYg := by omega
                    have piYg : (0 : Int) ≤ (xp : Int) + 1 := by omega
                    have biYg : (xp : Int) + 1 < (n : Int) := by omega
                    have riYg : IntKind.i64.wrap ((xp : Int) + 1) = (xp : Int) + 1 := by rw [IntKind.wrap_i64]; omega
                    obtain ⟨jNYg, hjNYg⟩ : ∃ zq, zq = a := ⟨_, rfl⟩
                    have ejYg : ((a : Int)).toNat = jNYg := by omega
                    have pjYg : (0 : Int) ≤ (a : Int) := by omega
                    have bjYg : (a : Int) < (n : Int) := by omega
                    have rjYg : IntKind.i64.wrap ((a : Int)) = (a : Int) := by rw [IntKind.wrap_i64]; omega
                    obtain ⟨xYg, hxYg⟩ : ∃ zx, zx = dk[xp + 1]! := ⟨_, rfl⟩
                    obtain ⟨yYg, hyYg⟩ : ∃ zx, zx = dk[a]! := ⟨_, rfl⟩
                    have laYg : wr.cell? ⟨blk, off + iNYg, none⟩ = some (.int .u8 xYg) := by rw [hiNYg, hxYg]; exact sb_cell SU.out R (by omega) (xp + 1) (by omega)
                    have lbYg : wr.cell? ⟨blk, off + jNYg, none⟩ = some (.int .u8 yYg) := by rw [hjNYg, hyYg]; exact sb_cell SU.out R (by omega) (a) (by omega)
                    have hvYg : ltInt xYg yYg = false := by rw [hxYg, hyYg]; exact hlv
                    have HVYg := Lib.hid hvYg
                    clear hxYg hyYg hiNYg hjNYg hvYg
                    go_wp2_with fail
                    go_quiet ((go_at_call 221; exact Calls.quiet_of_same (less_q _ _ _ HVYg.out _)))
                    have SL := Lib.hid (SW.drewN SU.out nq)
                    clear laYg lbYg HVYg SU
                    generalize wr.drewN nq = wl at SL ⊢
                    clear nq eiYg piYg biYg riYg ejYg pjYg bjYg rjYg
                    go_wp2
                    go_roundg xp
                    case measure => omega
                    case rel => exact ⟨xp, by go_num, by omega, by omega, Nat.le_refl _, SL, HN⟩
                  | true =>
                    have HN := Lib.hid (HU.out.trans (down_stop (p := fun z => !ltInt z dk[a]!) (.inr (by simp [hlv]))))
                    go_wp2_with fail
                    obtain ⟨iNYs, hiNYs⟩ : ∃ zq, zq = xp + 1 := ⟨_, rfl⟩
                    have eiYs : ((xp : Int) + 1).toNat = iNYs := by omega
                    have piYs : (0 : Int) ≤ (xp : Int) + 1 := by omega
                    have biYs : (xp : Int) + 1 < (n : Int) := by omega
                    have riYs : IntKind.i64.wrap ((xp : Int) + 1) = (xp : Int) + 1 := by rw [IntKind.wrap_i64]; omega
                    obtain ⟨jNYs, hjNYs⟩ : ∃ zq, zq = a := ⟨_, rfl⟩
                    have ejYs : ((a : Int)).toNat = jNYs := by omega
                    have pjYs : (0 : Int) ≤ (a : Int) := by omega
                    have bjYs : (a : Int) < (n : Int) := by omega
                    have rjYs : IntKind.i64.wrap ((a : Int)) = (a : Int) := by rw [IntKind.wrap_i64]; omega
                    obtain ⟨xYs, hxYs⟩ : ∃ zx, zx = dk[xp + 1]! := ⟨_, rfl⟩
                    obtain ⟨yYs, hyYs⟩ : ∃ zx, zx = dk[a]! := ⟨_, rfl⟩
                    have laYs : wr.cell? ⟨blk, off + iNYs, none⟩ = some (.int .u8 xYs) := by rw [hiNYs, hxYs]; exact sb_cell SU.out R (by omega) (xp + 1) (by omega)
                    have lbYs : wr.cell? ⟨blk, off + jNYs, none⟩ = some (.int .u8 yYs) := by rw [hjNYs, hyYs]; exact sb_cell SU.out R (by omega) (a) (by omega)
                    have hvYs : ltInt xYs yYs = true := by rw [hxYs, hyYs]; exact hlv
                    have HVYs := Lib.hid hvYs
                    clear hxYs hyYs hiNYs hjNYs hvYs
                    go_wp2_with fail
                    go_quiet ((go_at_call 221; exact Calls.quiet_of_same (less_q _ _ _ HVYs.out _)))
                    have SL := Lib.hid (SW.drewN SU.out nq)
                    clear laYs lbYs HVYs SU
                    generalize wr.drewN nq = wl at SL ⊢
                    clear nq eiYs piYs biYs riYs ejYs pjYs bjYs rjYs
                    go_wp2
                    go_meet
                    case rel => exact ⟨xp + 1, by first | rfl | go_num, hx1, hx2, SL, HN⟩
                · have hg3 : decide (I2 ≤ x) = false := by simp; omega
                  have hg4 : ¬ (I2 : Int) ≤ (x : Int) := by omega
                  have HN := Lib.hid (HU.out.trans (down_stop (p := fun z => !ltInt z dk[a]!) (.inl (by omega))))
                  go_wp2_with fail
                  go_quiet (fail)
                  have SL := Lib.hid (SW.drewN SU.out nq)
                  generalize wr.drewN nq = wl at SL ⊢
                  go_wp2
                  go_meet
                  case rel => exact ⟨x, rfl, hx1, hx2, SL, HN⟩
            case rest =>
              clear S3
              obtain ⟨J2, rfl, hJ21, hJ22, S4, HJ2⟩ := hcut
              by_cases hIJ : J2 < I2
              · have hz : (J2 : Int) < (I2 : Int) := by omega
                have hz2 : decide (J2 < I2) = true := by simp; omega
                have HPAR := Lib.hid (HLATE.out J2 dk (HO.out.symm.trans (parLoop_end ltInt HI2.out HJ2.out hIJ)))
                go_wp2_with fail
                obtain ⟨iNE, hiNE⟩ : ∃ zq, zq = J2 := ⟨_, rfl⟩
                have eiE : ((J2 : Int)).toNat = iNE := by omega
                have piE : (0 : Int) ≤ (J2 : Int) := by omega
                have biE : (J2 : Int) < (n : Int) := by omega
                have riE : IntKind.i64.wrap ((J2 : Int)) = (J2 : Int) := by rw [IntKind.wrap_i64]; omega
                obtain ⟨jNE, hjNE⟩ : ∃ zq, zq = a := ⟨_, rfl⟩
                have ejE : ((a : Int)).toNat = jNE := by omega
                have pjE : (0 : Int) ≤ (a : Int) := by omega
                have bjE : (a : Int) < (n : Int) := by omega
                have rjE : IntKind.i64.wrap ((a : Int)) = (a : Int) := by rw [IntKind.wrap_i64]; omega
                obtain ⟨xE, hxE⟩ : ∃ zx, zx = dk[J2]! := ⟨_, rfl⟩
                obtain ⟨yE, hyE⟩ : ∃ zx, zx = dk[a]! := ⟨_, rfl⟩
                have S5 : Hid (SB w0 blk off (swp dk (J2) (a)) ((wc.setCell ⟨blk, off + iNE, none⟩ (.int .u8 yE)).setCell ⟨blk, off + jNE, none⟩ (.int .u8 xE)).drew) := Lib.hid (by rw [hiNE, hjNE, hxE, hyE]; exact sb_swap S4.out R (J2) (a) (by omega) (by omega))
                have caE : wc.cell? ⟨blk, off + iNE, none⟩ = some (.int .u8 xE) := by rw [hiNE, hxE]; exact sb_cell S4.out R (by omega) (J2) (by omega)
                have cbE : wc.cell? ⟨blk, off + jNE, none⟩ = some (.int .u8 yE) := by rw [hjNE, hyE]; exact sb_cell S4.out R (by omega) (a) (by omega)
                have faE : wc.frozen? ⟨blk, off + iNE, none⟩ = false := by rw [hiNE]; exact SW.f1 S4.out R (by omega) (J2) (by omega)
                have fbE : wc.frozen? ⟨blk, off + jNE, none⟩ = false := by rw [hjNE]; exact SW.f1 S4.out R (by omega) (a) (by omega)
                obtain ⟨uE, ccE⟩ : ∃ u, (wc.setCell ⟨blk, off + iNE, none⟩ (.int .u8 yE)).cell? ⟨blk, off + jNE, none⟩ = some u := by rw [hiNE, hjNE]; exact SW.c2 S4.out R (by omega) (J2) (a) (by omega) (by omega) (.int .u8 yE)
                clear S4 hxE hyE hiNE hjNE
                go_wp2_with fail
                go_region
                clear caE cbE ccE faE fbE
                generalize ((wc.setCell ⟨blk, off + iNE, none⟩ (.int .u8 yE)).setCell ⟨blk, off + jNE, none⟩ (.int .u8 xE)).drew = w5 at S5 ⊢
                clear eiE piE biE riE ejE pjE bjE rjE
                go_wp2
                refine bodyPost_ret (v := .tuple #[.int .i64 (J2 : Int), .bool false]) (by simp [results, Tryz.results223, go_sem]) rfl ?_
                exact ⟨J2, false, _, rfl, HPAR.out, S5.out⟩
              · have hz : ¬ (J2 : Int) < (I2 : Int) := by omega
                have hz2 : decide (J2 < I2) = false := by simp; omega
                have hlt := scan_apart (by simp) HI2.out HJ2.out hij (by omega) (by omega : I2 ≤ J2)
                obtain ⟨Jp2, rfl⟩ : ∃ Jp2, J2 = Jp2 + 1 := ⟨J2 - 1, by omega⟩
                have HST := Lib.hid ((parLoop_step ltInt HI2.out HJ2.out (by omega)).symm.trans HO.out)
                go_wp2_with fail
                obtain ⟨iNW, hiNW⟩ : ∃ zq, zq = I2 := ⟨_, rfl⟩
                have eiW : ((I2 : Int)).toNat = iNW := by omega
                have piW : (0 : Int) ≤ (I2 : Int) := by omega
                have biW : (I2 : Int) < (n : Int) := by omega
                have riW : IntKind.i64.wrap ((I2 : Int)) = (I2 : Int) := by rw [IntKind.wrap_i64]; omega
                obtain ⟨jNW, hjNW⟩ : ∃ zq, zq = Jp2 + 1 := ⟨_, rfl⟩
                have ejW : ((Jp2 : Int) + 1).toNat = jNW := by omega
                have pjW : (0 : Int) ≤ (Jp2 : Int) + 1 := by omega
                have bjW : (Jp2 : Int) + 1 < (n : Int) := by omega
                have rjW : IntKind.i64.wrap ((Jp2 : Int) + 1) = (Jp2 : Int) + 1 := by rw [IntKind.wrap_i64]; omega
                obtain ⟨xW, hxW⟩ : ∃ zx, zx = dk[I2]! := ⟨_, rfl⟩
                obtain ⟨yW, hyW⟩ : ∃ zx, zx = dk[Jp2 + 1]! := ⟨_, rfl⟩
                have S5 : Hid (SB w0 blk off (swp dk (I2) (Jp2 + 1)) ((wc.setCell ⟨blk, off + iNW, none⟩ (.int .u8 yW)).setCell ⟨blk, off + jNW, none⟩ (.int .u8 xW)).drew) := Lib.hid (by rw [hiNW, hjNW, hxW, hyW]; exact sb_swap S4.out R (I2) (Jp2 + 1) (by omega) (by omega))
                have caW : wc.cell? ⟨blk, off + iNW, none⟩ = some (.int .u8 xW) := by rw [hiNW, hxW]; exact sb_cell S4.out R (by omega) (I2) (by omega)
                have cbW : wc.cell? ⟨blk, off + jNW, none⟩ = some (.int .u8 yW) := by rw [hjNW, hyW]; exact sb_cell S4.out R (by omega) (Jp2 + 1) (by omega)
                have faW : wc.frozen? ⟨blk, off + iNW, none⟩ = false := by rw [hiNW]; exact SW.f1 S4.out R (by omega) (I2) (by omega)
                have fbW : wc.frozen? ⟨blk, off + jNW, none⟩ = false := by rw [hjNW]; exact SW.f1 S4.out R (by omega) (Jp2 + 1) (by omega)
                obtain ⟨uW, ccW⟩ : ∃ u, (wc.setCell ⟨blk, off + iNW, none⟩ (.int .u8 yW)).cell? ⟨blk, off + jNW, none⟩ = some u := by rw [hiNW, hjNW]; exact SW.c2 S4.out R (by omega) (I2) (Jp2 + 1) (by omega) (by omega) (.int .u8 yW)
                clear S4 hxW hyW hiNW hjNW
                go_wp2_with fail
                go_region
                clear caW cbW ccW faW fbW
                generalize ((wc.setCell ⟨blk, off + iNW, none⟩ (.int .u8 yW)).setCell ⟨blk, off + jNW, none⟩ (.int .u8 xW)).drew = w5 at S5 ⊢
                clear eiW piW biW riW ejW pjW bjW rjW
                go_wp2
                go_roundg (Jp2 + 1 - (I2 + 1))
                case measure => omega
                case rel => exact ⟨I2 + 1, Jp2, swp dk I2 (Jp2 + 1), by go_num, by go_num, by omega, by omega, by omega, by omega, by rw [size_swp]; exact hsk, S5, HST⟩
end Go.Proofs.YtkifdbeklagelaaGreatDoor

/- BYTES SORTED: partialInsertionSortOrdered. -/
namespace Go.Proofs.YtkifdbeklagelaaGreatDoor
open Go.RowKit Go.Sort

section
variable {α : Type} [Inhabited α] (lt : α → α → Bool)
theorem ss_go {b q : Nat} {d : Array α} (h : q + 1 < b) (hp : lt d[q + 1]! d[q]! = false) : scanSorted lt d b (q + 1) = scanSorted lt d b (q + 1 + 1) := by
  rw [scanSorted]; simp [h, hp]
theorem ss_stop {b q : Nat} {d : Array α} (h : b ≤ q + 1 ∨ lt d[q + 1]! d[q]! = true) : scanSorted lt d b (q + 1) = q + 1 := by
  rw [scanSorted]
  rcases h with h | h
  · simp [Nat.not_lt.2 h]
  · simp [h]
theorem sd_stop {j : Nat} {d : Array α} (h : lt d[j + 1]! d[j]! = false) : shiftDown lt (j + 1) d = d := by rw [shiftDown, h]; rfl
theorem sd_go {j : Nat} {d : Array α} (h : lt d[j + 1]! d[j]! = true) : shiftDown lt (j + 1) d = shiftDown lt j (swp d (j + 1) j) := by rw [shiftDown, h]; rfl
theorem su_end {b j : Nat} {d : Array α} (h : ¬ j < b) : shiftUp lt b j d = d := by rw [shiftUp, if_neg h]
theorem su_stop {b j : Nat} {d : Array α} (h : j + 1 < b) (hl : lt d[j + 1]! d[j]! = false) : shiftUp lt b (j + 1) d = d := by
  rw [shiftUp, if_pos h]; simp only [Nat.add_sub_cancel]; rw [hl]; rfl
theorem su_go {b j : Nat} {d : Array α} (h : j + 1 < b) (hl : lt d[j + 1]! d[j]! = true) : shiftUp lt b (j + 1) d = shiftUp lt b (j + 1 + 1) (swp d (j + 1) j) := by
  rw [shiftUp, if_pos h]; simp only [Nat.add_sub_cancel]; rw [hl]; rfl
theorem pi_true {a b s i I : Nat} {d : Array α} (hI : scanSorted lt d b i = I) (h : I = b) : partialIns lt a b (s + 1) i d = (d, true) := by
  rw [partialIns]; simp only [hI, h, if_pos]
theorem pi_short {a b s i I : Nat} {d : Array α} (hI : scanSorted lt d b i = I) (h : I ≠ b) (h2 : b - a < 50) : partialIns lt a b (s + 1) i d = (d, false) := by
  rw [partialIns]; simp only [hI]; rw [if_neg h, if_pos h2]
theorem pi_step {a b s i I : Nat} {d d1 d2 d3 : Array α} (hI : scanSorted lt d b i = I) (h : I ≠ b) (h2 : ¬ b - a < 50) (e1 : d1 = swp d I (I - 1)) (e2 : d2 = if 2 ≤ I - a then shiftDown lt (I - 1) d1 else d1) (e3 : d3 = if 2 ≤ b - I then shiftUp lt b (I + 1) d2 else d2) : partialIns lt a b (s + 1) i d = partialIns lt a b s I d3 := by
  rw [partialIns]; simp only [hI]; rw [if_neg h, if_neg h2]
  subst e1; subst e2; subst e3
  rfl
end
def PIn (w0 : World) (blk off : Nat) (d : Array Int) (a b : Nat) (e : Ending) (w' : World) : Prop := ∃ (ok : Bool) (d' : Array Int), e = .returned (.bool ok) ∧ partialInsertionSort ltInt d a b = (d', ok) ∧ SB w0 blk off d' w'
set_option maxRecDepth 100000 in
set_option maxHeartbeats 8000000 in
theorem pins_any (blk off cap a b n : Nat) (d0 d : Array Int) (w0 w : World) (R : RB w0 blk off d0) (hs0 : d0.size = n) (hsd : d.size = n) (S : SB w0 blk off d w) (hab : a < b) (hb : b ≤ n) (hsz : n < 2305843009213693952) :
    Calls Tryz.prog 220 #[.slice (some ⟨blk, off, none⟩) n cap, .int .i64 a, .int .i64 b] w (PIn w0 blk off d a b) := by
  have S0 := Lib.hid S
  clear S
  go_enter Tryz.func220, Tryz.ntmps220
  go_wp2
  go_loopg [7, 8] 5 (fun g1 vi vt wr => ∃ (t i : Nat) (dk : Array Int), vi = .int .i64 i ∧ vt = .int .i64 t ∧ t ≤ 5 ∧ 5 - t ≤ g1 ∧ a + 1 ≤ i ∧ i ≤ b ∧ dk.size = n ∧ Hid (SB w0 blk off dk wr) ∧ Hid (partialIns ltInt a b (5 - t) i dk = partialIns ltInt a b 5 (a + 1) d))
  case atStart => exact ⟨0, a + 1, d, by go_num, rfl, by omega, by omega, by omega, by omega, hsd, S0, Lib.hid rfl⟩
  case round =>
    clear S0
    obtain ⟨t, i, dk, rfl, rfl, ht5, hg1, hai, hib, hsk, S1, HO⟩ := hrel
    by_cases htl : t < 5
    · have htz : (t : Int) < 5 := by omega
      obtain ⟨s, hs⟩ : ∃ s, s = 5 - (t + 1) := ⟨_, rfl⟩
      have HS := Lib.hid hs
      have HO2 : Hid (partialIns ltInt a b (s + 1) i dk = partialIns ltInt a b 5 (a + 1) d) := Lib.hid (by rw [hs, show 5 - (t + 1) + 1 = 5 - t by omega]; exact HO.out)
      clear hs HO
      go_upto_block 2 with fail
      go_cut [7] (fun vi wx => ∃ x : Nat, vi = .int .i64 x ∧ i ≤ x ∧ x ≤ b ∧ Hid (SB w0 blk off dk wx) ∧ Hid (scanSorted ltInt dk b i = x))
      case first =>
        go_wp2_with fail
        go_loopg [7] (b - i) (fun g2 vi wr => ∃ x : Nat, vi = .int .i64 x ∧ i ≤ x ∧ x ≤ b ∧ b - x ≤ g2 ∧ Hid (SB w0 blk off dk wr) ∧ Hid (scanSorted ltInt dk b i = scanSorted ltInt dk b x))
        case atStart => exact ⟨i, rfl, Nat.le_refl _, hib, Nat.le_refl _, S1, Lib.hid rfl⟩
        case round =>
          clear S1
          obtain ⟨x, rfl, hx1, hx2, hg2, SU, HU⟩ := hrel
          obtain ⟨xp, rfl⟩ : ∃ xp, x = xp + 1 := ⟨x - 1, by omega⟩
          by_cases hle : xp + 1 < b
          · have hg3 : decide (xp + 1 < b) = true := by simp; omega
            have hg4 : (xp : Int) + 1 < (b : Int) := by omega
            have hg5 : decide ((xp : Int) + 1 < (b : Int)) = true := by simp; omega
            cases hlv : ltInt dk[xp + 1]! dk[xp]! with
            | false =>
              have HN := Lib.hid (HU.out.trans (ss_go ltInt hle hlv))
              go_wp2_with fail
              obtain ⟨iNA, hiNA⟩ : ∃ zq, zq = xp + 1 := ⟨_, rfl⟩
              have eiA : ((xp : Int) + 1).toNat = iNA := by omega
              have piA : (0 : Int) ≤ (xp : Int) + 1 := by omega
              have biA : (xp : Int) + 1 < (n : Int) := by omega
              have riA : IntKind.i64.wrap ((xp : Int) + 1) = (xp : Int) + 1 := by rw [IntKind.wrap_i64]; omega
              obtain ⟨jNA, hjNA⟩ : ∃ zq, zq = xp := ⟨_, rfl⟩
              have ejA : ((xp : Int)).toNat = jNA := by omega
              have pjA : (0 : Int) ≤ (xp : Int) := by omega
              have bjA : (xp : Int) < (n : Int) := by omega
              have rjA : IntKind.i64.wrap ((xp : Int)) = (xp : Int) := by rw [IntKind.wrap_i64]; omega
              obtain ⟨xA, hxA⟩ : ∃ zx, zx = dk[xp + 1]! := ⟨_, rfl⟩
              obtain ⟨yA, hyA⟩ : ∃ zx, zx = dk[xp]! := ⟨_, rfl⟩
              have laA : wr.cell? ⟨blk, off + iNA, none⟩ = some (.int .u8 xA) := by rw [hiNA, hxA]; exact sb_cell SU.out R (by omega) (xp + 1) (by omega)
              have lbA : wr.cell? ⟨blk, off + jNA, none⟩ = some (.int .u8 yA) := by rw [hjNA, hyA]; exact sb_cell SU.out R (by omega) (xp) (by omega)
              have hvA : ltInt xA yA = false := by rw [hxA, hyA]; exact hlv
              have HVA := Lib.hid hvA
              clear hxA hyA hiNA hjNA hvA
              go_wp2_with fail
              go_quiet ((go_at_call 221; exact Calls.quiet_of_same (less_q _ _ _ HVA.out _)))
              have SL := Lib.hid (SW.drewN SU.out nq)
              clear laA lbA HVA SU
              generalize wr.drewN nq = wl at SL ⊢
              clear nq eiA piA biA riA ejA pjA bjA rjA
              go_wp2
              go_roundg (b - (xp + 1 + 1))
              case measure => omega
              case rel => exact ⟨xp + 1 + 1, by go_num, by omega, by omega, Nat.le_refl _, SL, HN⟩
            | true =>
              have HN := Lib.hid (HU.out.trans (ss_stop ltInt (.inr hlv)))
              go_wp2_with fail
              obtain ⟨iNB, hiNB⟩ : ∃ zq, zq = xp + 1 := ⟨_, rfl⟩
              have eiB : ((xp : Int) + 1).toNat = iNB := by omega
              have piB : (0 : Int) ≤ (xp : Int) + 1 := by omega
              have biB : (xp : Int) + 1 < (n : Int) := by omega
              have riB : IntKind.i64.wrap ((xp : Int) + 1) = (xp : Int) + 1 := by rw [IntKind.wrap_i64]; omega
              obtain ⟨jNB, hjNB⟩ : ∃ zq, zq = xp := ⟨_, rfl⟩
              have ejB : ((xp : Int)).toNat = jNB := by omega
              have pjB : (0 : Int) ≤ (xp : Int) := by omega
              have bjB : (xp : Int) < (n : Int) := by omega
              have rjB : IntKind.i64.wrap ((xp : Int)) = (xp : Int) := by rw [IntKind.wrap_i64]; omega
              obtain ⟨xB, hxB⟩ : ∃ zx, zx = dk[xp + 1]! := ⟨_, rfl⟩
              obtain ⟨yB, hyB⟩ : ∃ zx, zx = dk[xp]! := ⟨_, rfl⟩
              have laB : wr.cell? ⟨blk, off + iNB, none⟩ = some (.int .u8 xB) := by rw [hiNB, hxB]; exact sb_cell SU.out R (by omega) (xp + 1) (by omega)
              have lbB : wr.cell? ⟨blk, off + jNB, none⟩ = some (.int .u8 yB) := by rw [hjNB, hyB]; exact sb_cell SU.out R (by omega) (xp) (by omega)
              have hvB : ltInt xB yB = true := by rw [hxB, hyB]; exact hlv
              have HVB := Lib.hid hvB
              clear hxB hyB hiNB hjNB hvB
              go_wp2_with fail
              go_quiet ((go_at_call 221; exact Calls.quiet_of_same (less_q _ _ _ HVB.out _)))
              have SL := Lib.hid (SW.drewN SU.out nq)
              clear laB lbB HVB SU
              generalize wr.drewN nq = wl at SL ⊢
              clear nq eiB piB biB riB ejB pjB bjB rjB
              go_wp2
              go_meet
              case rel => exact ⟨xp + 1, by first | rfl | go_num, hx1, hx2, SL, HN⟩
          · have hg3 : decide (xp + 1 < b) = false := by simp; omega
            have hg4 : ¬ (xp : Int) + 1 < (b : Int) := by omega
            have hg5 : decide ((xp : Int) + 1 < (b : Int)) = false := by simp; omega
            have HN := Lib.hid (HU.out.trans (ss_stop ltInt (.inl (by omega))))
            go_wp2_with fail
            go_quiet (fail)
            have SL := Lib.hid (SW.drewN SU.out nq)
            generalize wr.drewN nq = wl at SL ⊢
            go_wp2
            go_meet
            case rel => exact ⟨xp + 1, by first | rfl | go_num, hx1, hx2, SL, HN⟩
      case rest =>
        clear S1
        obtain ⟨I, rfl, hI1, hI2, S3, HI⟩ := hcut
        by_cases hIb : I = b
        · have hz : ((I : Int) == (b : Int)) = true := by rw [hIb]; simp
          have hz2 : (I == b) = true := by rw [hIb]; simp
          have HE := Lib.hid (HO2.out.symm.trans (pi_true ltInt HI.out hIb))
          clear hIb
          go_wp2
          go_ret
          exact ⟨true, dk, rfl, HE.out, S3.out⟩
        · have hz : ((I : Int) == (b : Int)) = false := by rw [beq_eq_false_iff_ne]; omega
          have hz2 : (I == b) = false := by rw [beq_eq_false_iff_ne]; omega
          have HIb := Lib.hid hIb
          have hIlt : I < b := by omega
          clear hIb
          have hba9 : (b : Int) - (a : Int) ≤ 2305843009213693952 := by omega
          by_cases h50 : b - a < 50
          · have h50z : (b : Int) - (a : Int) < 50 := by omega
            have HE := Lib.hid (HO2.out.symm.trans (pi_short ltInt HI.out HIb.out h50))
            go_wp2
            go_ret
            exact ⟨false, dk, rfl, HE.out, S3.out⟩
          · have h50z : ¬ (b : Int) - (a : Int) < 50 := by omega
            obtain ⟨Ip, rfl⟩ : ∃ Ip, I = Ip + 1 := ⟨I - 1, by omega⟩
            go_wp2_with fail
            obtain ⟨iNC, hiNC⟩ : ∃ zq, zq = Ip + 1 := ⟨_, rfl⟩
            have eiC : ((Ip : Int) + 1).toNat = iNC := by omega
            have piC : (0 : Int) ≤ (Ip : Int) + 1 := by omega
            have biC : (Ip : Int) + 1 < (n : Int) := by omega
            have riC : IntKind.i64.wrap ((Ip : Int) + 1) = (Ip : Int) + 1 := by rw [IntKind.wrap_i64]; omega
            obtain ⟨jNC, hjNC⟩ : ∃ zq, zq = Ip := ⟨_, rfl⟩
            have ejC : ((Ip : Int)).toNat = jNC := by omega
            have pjC : (0 : Int) ≤ (Ip : Int) := by omega
            have bjC : (Ip : Int) < (n : Int) := by omega
            have rjC : IntKind.i64.wrap ((Ip : Int)) = (Ip : Int) := by rw [IntKind.wrap_i64]; omega
            obtain ⟨xC, hxC⟩ : ∃ zx, zx = dk[Ip + 1]! := ⟨_, rfl⟩
            obtain ⟨yC, hyC⟩ : ∃ zx, zx = dk[Ip]! := ⟨_, rfl⟩
            have S4 : Hid (SB w0 blk off (swp dk (Ip + 1) (Ip)) ((wc.setCell ⟨blk, off + iNC, none⟩ (.int .u8 yC)).setCell ⟨blk, off + jNC, none⟩ (.int .u8 xC)).drew) := Lib.hid (by rw [hiNC, hjNC, hxC, hyC]; exact sb_swap S3.out R (Ip + 1) (Ip) (by omega) (by omega))
            have caC : wc.cell? ⟨blk, off + iNC, none⟩ = some (.int .u8 xC) := by rw [hiNC, hxC]; exact sb_cell S3.out R (by omega) (Ip + 1) (by omega)
            have cbC : wc.cell? ⟨blk, off + jNC, none⟩ = some (.int .u8 yC) := by rw [hjNC, hyC]; exact sb_cell S3.out R (by omega) (Ip) (by omega)
            have faC : wc.frozen? ⟨blk, off + iNC, none⟩ = false := by rw [hiNC]; exact SW.f1 S3.out R (by omega) (Ip + 1) (by omega)
            have fbC : wc.frozen? ⟨blk, off + jNC, none⟩ = false := by rw [hjNC]; exact SW.f1 S3.out R (by omega) (Ip) (by omega)
            obtain ⟨uC, ccC⟩ : ∃ u, (wc.setCell ⟨blk, off + iNC, none⟩ (.int .u8 yC)).cell? ⟨blk, off + jNC, none⟩ = some u := by rw [hiNC, hjNC]; exact SW.c2 S3.out R (by omega) (Ip + 1) (Ip) (by omega) (by omega) (.int .u8 yC)
            clear S3 hxC hyC hiNC hjNC
            go_wp2_with fail
            go_region
            clear caC cbC ccC faC fbC
            generalize ((wc.setCell ⟨blk, off + iNC, none⟩ (.int .u8 yC)).setCell ⟨blk, off + jNC, none⟩ (.int .u8 xC)).drew = w4 at S4 ⊢
            clear eiC piC biC riC ejC pjC bjC rjC
            obtain ⟨d1, hd1⟩ : ∃ d1, d1 = swp dk (Ip + 1) Ip := ⟨_, rfl⟩
            have hs1 : d1.size = n := by rw [hd1, size_swp]; exact hsk
            have HD1 := Lib.hid hd1
            rw [← hd1] at S4
            clear hd1
            go_upto_if 61 with fail
            go_cut [9] (fun v9 wx => ∃ dm : Array Int, dm.size = n ∧ Hid (SB w0 blk off dm wx) ∧ Hid (dm = if 2 ≤ Ip + 1 - a then shiftDown ltInt Ip d1 else d1))
            case first =>
              by_cases h2 : 2 ≤ Ip + 1 - a
              · have h2z : (2 : Int) ≤ (Ip : Int) + 1 - (a : Int) := by omega
                have h2d : decide ((2 : Int) ≤ (Ip : Int) + 1 - (a : Int)) = true := by simp; omega
                have HIF : Hid ((if 2 ≤ Ip + 1 - a then shiftDown ltInt Ip d1 else d1) = shiftDown ltInt Ip d1) := Lib.hid (if_pos h2)
                go_wp2_with fail
                go_loopg [9] Ip (fun g2 vj wr => ∃ (x : Nat) (dj : Array Int), vj = .int .i64 x ∧ x ≤ Ip ∧ x ≤ g2 ∧ dj.size = n ∧ Hid (SB w0 blk off dj wr) ∧ Hid (shiftDown ltInt x dj = shiftDown ltInt Ip d1))
                case atStart => exact ⟨Ip, d1, by first | rfl | go_num, Nat.le_refl _, Nat.le_refl _, hs1, S4, Lib.hid rfl⟩
                case round =>
                  clear S4
                  obtain ⟨x, dj, rfl, hx1, hg2, hsj, SU, HU⟩ := hrel
                  by_cases hx0 : 1 ≤ x
                  · obtain ⟨xp, rfl⟩ : ∃ xp, x = xp + 1 := ⟨x - 1, by omega⟩
                    have hxz : (1 : Int) ≤ (xp : Int) + 1 := by omega
                    cases hlv : ltInt dj[xp + 1]! dj[xp]! with
                    | true =>
                      have HN := Lib.hid ((sd_go ltInt hlv).symm.trans HU.out)
                      go_wp2_with fail
                      obtain ⟨iND, hiND⟩ : ∃ zq, zq = xp + 1 := ⟨_, rfl⟩
                      have eiD : ((xp : Int) + 1).toNat = iND := by omega
                      have piD : (0 : Int) ≤ (xp : Int) + 1 := by omega
                      have biD : (xp : Int) + 1 < (n : Int) := by omega
                      have riD : IntKind.i64.wrap ((xp : Int) + 1) = (xp : Int) + 1 := by rw [IntKind.wrap_i64]; omega
                      obtain ⟨jND, hjND⟩ : ∃ zq, zq = xp := ⟨_, rfl⟩
                      have ejD : ((xp : Int)).toNat = jND := by omega
                      have pjD : (0 : Int) ≤ (xp : Int) := by omega
                      have bjD : (xp : Int) < (n : Int) := by omega
                      have rjD : IntKind.i64.wrap ((xp : Int)) = (xp : Int) := by rw [IntKind.wrap_i64]; omega
                      obtain ⟨xD, hxD⟩ : ∃ zx, zx = dj[xp + 1]! := ⟨_, rfl⟩
                      obtain ⟨yD, hyD⟩ : ∃ zx, zx = dj[xp]! := ⟨_, rfl⟩
                      have laD : wr.cell? ⟨blk, off + iND, none⟩ = some (.int .u8 xD) := by rw [hiND, hxD]; exact sb_cell SU.out R (by omega) (xp + 1) (by omega)
                      have lbD : wr.cell? ⟨blk, off + jND, none⟩ = some (.int .u8 yD) := by rw [hjND, hyD]; exact sb_cell SU.out R (by omega) (xp) (by omega)
                      have hvD : ltInt xD yD = true := by rw [hxD, hyD]; exact hlv
                      have HVD := Lib.hid hvD
                      clear hxD hyD hiND hjND hvD
                      go_wp2_with fail
                      go_quiet ((go_at_call 221; exact Calls.quiet_of_same (less_q _ _ _ HVD.out _)))
                      have SL := Lib.hid (SW.drewN SU.out nq)
                      clear laD lbD HVD SU
                      generalize wr.drewN nq = wl at SL ⊢
                      clear nq eiD piD biD riD ejD pjD bjD rjD
                      go_wp2_with fail
                      obtain ⟨iNE, hiNE⟩ : ∃ zq, zq = xp + 1 := ⟨_, rfl⟩
                      have eiE : ((xp : Int) + 1).toNat = iNE := by omega
                      have piE : (0 : Int) ≤ (xp : Int) + 1 := by omega
                      have biE : (xp : Int) + 1 < (n : Int) := by omega
                      have riE : IntKind.i64.wrap ((xp : Int) + 1) = (xp : Int) + 1 := by rw [IntKind.wrap_i64]; omega
                      obtain ⟨jNE, hjNE⟩ : ∃ zq, zq = xp := ⟨_, rfl⟩
                      have ejE : ((xp : Int)).toNat = jNE := by omega
                      have pjE : (0 : Int) ≤ (xp : Int) := by omega
                      have bjE : (xp : Int) < (n : Int) := by omega
                      have rjE : IntKind.i64.wrap ((xp : Int)) = (xp : Int) := by rw [IntKind.wrap_i64]; omega
                      obtain ⟨xE, hxE⟩ : ∃ zx, zx = dj[xp + 1]! := ⟨_, rfl⟩
                      obtain ⟨yE, hyE⟩ : ∃ zx, zx = dj[xp]! := ⟨_, rfl⟩
                      have S6 : Hid (SB w0 blk off (swp dj (xp + 1) (xp)) ((wl.setCell ⟨blk, off + iNE, none⟩ (.int .u8 yE)).setCell ⟨blk, off + jNE, none⟩ (.int .u8 xE)).drew) := Lib.hid (by rw [hiNE, hjNE, hxE, hyE]; exact sb_swap SL.out R (xp + 1) (xp) (by omega) (by omega))
                      have caE : wl.cell? ⟨blk, off + iNE, none⟩ = some (.int .u8 xE) := by rw [hiNE, hxE]; exact sb_cell SL.out R (by omega) (xp + 1) (by omega)
                      have cbE : wl.cell? ⟨blk, off + jNE, none⟩ = some (.int .u8 yE) := by rw [hjNE, hyE]; exact sb_cell SL.out R (by omega) (xp) (by omega)
                      have faE : wl.frozen? ⟨blk, off + iNE, none⟩ = false := by rw [hiNE]; exact SW.f1 SL.out R (by omega) (xp + 1) (by omega)
                      have fbE : wl.frozen? ⟨blk, off + jNE, none⟩ = false := by rw [hjNE]; exact SW.f1 SL.out R (by omega) (xp) (by omega)
                      obtain ⟨uE, ccE⟩ : ∃ u, (wl.setCell ⟨blk, off + iNE, none⟩ (.int .u8 yE)).cell? ⟨blk, off + jNE, none⟩ = some u := by rw [hiNE, hjNE]; exact SW.c2 SL.out R (by omega) (xp + 1) (xp) (by omega) (by omega) (.int .u8 yE)
                      clear SL hxE hyE hiNE hjNE
                      go_wp2_with fail
                      go_region
                      clear caE cbE ccE faE fbE
                      generalize ((wl.setCell ⟨blk, off + iNE, none⟩ (.int .u8 yE)).setCell ⟨blk, off + jNE, none⟩ (.int .u8 xE)).drew = w6 at S6 ⊢
                      clear eiE piE biE riE ejE pjE bjE rjE
                      go_wp2
                      go_roundg xp
                      case measure => omega
                      case rel => exact ⟨xp, swp dj (xp + 1) xp, by go_num, by omega, Nat.le_refl _, by rw [size_swp]; exact hsj, S6, HN⟩
                    | false =>
                      have HN := Lib.hid ((sd_stop ltInt hlv).symm.trans HU.out)
                      go_wp2_with fail
                      obtain ⟨iND, hiND⟩ : ∃ zq, zq = xp + 1 := ⟨_, rfl⟩
                      have eiD : ((xp : Int) + 1).toNat = iND := by omega
                      have piD : (0 : Int) ≤ (xp : Int) + 1 := by omega
                      have biD : (xp : Int) + 1 < (n : Int) := by omega
                      have riD : IntKind.i64.wrap ((xp : Int) + 1) = (xp : Int) + 1 := by rw [IntKind.wrap_i64]; omega
                      obtain ⟨jND, hjND⟩ : ∃ zq, zq = xp := ⟨_, rfl⟩
                      have ejD : ((xp : Int)).toNat = jND := by omega
                      have pjD : (0 : Int) ≤ (xp : Int) := by omega
                      have bjD : (xp : Int) < (n : Int) := by omega
                      have rjD : IntKind.i64.wrap ((xp : Int)) = (xp : Int) := by rw [IntKind.wrap_i64]; omega
                      obtain ⟨xD, hxD⟩ : ∃ zx, zx = dj[xp + 1]! := ⟨_, rfl⟩
                      obtain ⟨yD, hyD⟩ : ∃ zx, zx = dj[xp]! := ⟨_, rfl⟩
                      have laD : wr.cell? ⟨blk, off + iND, none⟩ = some (.int .u8 xD) := by rw [hiND, hxD]; exact sb_cell SU.out R (by omega) (xp + 1) (by omega)
                      have lbD : wr.cell? ⟨blk, off + jND, none⟩ = some (.int .u8 yD) := by rw [hjND, hyD]; exact sb_cell SU.out R (by omega) (xp) (by omega)
                      have hvD : ltInt xD yD = false := by rw [hxD, hyD]; exact hlv
                      have HVD := Lib.hid hvD
                      clear hxD hyD hiND hjND hvD
                      go_wp2_with fail
                      go_quiet ((go_at_call 221; exact Calls.quiet_of_same (less_q _ _ _ HVD.out _)))
                      have SL := Lib.hid (SW.drewN SU.out nq)
                      clear laD lbD HVD SU
                      generalize wr.drewN nq = wl at SL ⊢
                      clear nq eiD piD biD riD ejD pjD bjD rjD
                      go_wp2
                      go_meet
                      case rel => exact ⟨dj, hsj, SL, Lib.hid (HN.out.trans HIF.out.symm)⟩
                  · obtain rfl : x = 0 := by omega
                    have hxz : ¬ (1 : Int) ≤ ((0 : Nat) : Int) := by omega
                    have HN : Hid (dj = shiftDown ltInt Ip d1) := HU
                    go_wp2
                    go_meet
                    case rel => exact ⟨dj, hsj, SU, Lib.hid (HN.out.trans HIF.out.symm)⟩
              · have h2z : ¬ (2 : Int) ≤ (Ip : Int) + 1 - (a : Int) := by omega
                have h2d : decide ((2 : Int) ≤ (Ip : Int) + 1 - (a : Int)) = false := by simp; omega
                have HIF : Hid ((if 2 ≤ Ip + 1 - a then shiftDown ltInt Ip d1 else d1) = d1) := Lib.hid (if_neg h2)
                go_wp2
                go_meet
                case rel => exact ⟨d1, hs1, S4, Lib.hid HIF.out.symm⟩
            case rest =>
              clear S4
              obtain ⟨d2, hs2, S5, HD2⟩ := hcut
              have HSTF : Hid (∀ d3, d3 = (if 2 ≤ b - (Ip + 1) then shiftUp ltInt b (Ip + 1 + 1) d2 else d2) → partialIns ltInt a b (5 - (t + 1)) (Ip + 1) d3 = partialIns ltInt a b 5 (a + 1) d) := Lib.hid fun d3 e3 => by
                rw [← HS.out]; exact (pi_step ltInt HI.out HIb.out h50 HD1.out HD2.out e3).symm.trans HO2.out
              by_cases h2 : 2 ≤ b - (Ip + 1)
              · have h2z : (2 : Int) ≤ (b : Int) - ((Ip : Int) + 1) := by omega
                have h2d : decide ((2 : Int) ≤ (b : Int) - ((Ip : Int) + 1)) = true := by simp; omega
                have HIF : Hid ((if 2 ≤ b - (Ip + 1) then shiftUp ltInt b (Ip + 1 + 1) d2 else d2) = shiftUp ltInt b (Ip + 1 + 1) d2) := Lib.hid (if_pos h2)
                go_wp2_with fail
                go_loopg [10] b (fun g2 vj wr => ∃ (x : Nat) (dj : Array Int), vj = .int .i64 (x + 1 : Nat) ∧ Ip + 1 ≤ x ∧ x + 1 ≤ b ∧ b - x ≤ g2 ∧ dj.size = n ∧ Hid (SB w0 blk off dj wr) ∧ Hid (shiftUp ltInt b (x + 1) dj = shiftUp ltInt b (Ip + 1 + 1) d2))
                case atStart => exact ⟨Ip + 1, d2, by first | rfl | go_num, Nat.le_refl _, by omega, by omega, hs2, S5, Lib.hid rfl⟩
                case round =>
                  clear S5
                  obtain ⟨xp, dj, rfl, hx1, hx2, hg2, hsj, SU, HU⟩ := hrel
                  by_cases hx0 : xp + 1 < b
                  · have hxz : (xp : Int) + 1 < (b : Int) := by omega
                    cases hlv : ltInt dj[xp + 1]! dj[xp]! with
                    | true =>
                      have HN := Lib.hid ((su_go ltInt hx0 hlv).symm.trans HU.out)
                      go_wp2_with fail
                      obtain ⟨iND, hiND⟩ : ∃ zq, zq = xp + 1 := ⟨_, rfl⟩
                      have eiD : ((xp : Int) + 1).toNat = iND := by omega
                      have piD : (0 : Int) ≤ (xp : Int) + 1 := by omega
                      have biD : (xp : Int) + 1 < (n : Int) := by omega
                      have riD : IntKind.i64.wrap ((xp : Int) + 1) = (xp : Int) + 1 := by rw [IntKind.wrap_i64]; omega
                      obtain ⟨jND, hjND⟩ : ∃ zq, zq = xp := ⟨_, rfl⟩
                      have ejD : ((xp : Int)).toNat = jND := by omega
                      have pjD : (0 : Int) ≤ (xp : Int) := by omega
                      have bjD : (xp : Int) < (n : Int) := by omega
                      have rjD : IntKind.i64.wrap ((xp : Int)) = (xp : Int) := by rw [IntKind.wrap_i64]; omega
                      obtain ⟨xD, hxD⟩ : ∃ zx, zx = dj[xp + 1]! := ⟨_, rfl⟩
                      obtain ⟨yD, hyD⟩ : ∃ zx, zx = dj[xp]! := ⟨_, rfl⟩
                      have laD : wr.cell? ⟨blk, off + iND, none⟩ = some (.int .u8 xD) := by rw [hiND, hxD]; exact sb_cell SU.out R (by omega) (xp + 1) (by omega)
                      have lbD : wr.cell? ⟨blk, off + jND, none⟩ = some (.int .u8 yD) := by rw [hjND, hyD]; exact sb_cell SU.out R (by omega) (xp) (by omega)
                      have hvD : ltInt xD yD = true := by rw [hxD, hyD]; exact hlv
                      have HVD := Lib.hid hvD
                      clear hxD hyD hiND hjND hvD
                      go_wp2_with fail
                      go_quiet ((go_at_call 221; exact Calls.quiet_of_same (less_q _ _ _ HVD.out _)))
                      have SL := Lib.hid (SW.drewN SU.out nq)
                      clear laD lbD HVD SU
                      generalize wr.drewN nq = wl at SL ⊢
                      clear nq eiD piD biD riD ejD pjD bjD rjD
                      go_wp2_with fail
                      obtain ⟨iNE, hiNE⟩ : ∃ zq, zq = xp + 1 := ⟨_, rfl⟩
                      have eiE : ((xp : Int) + 1).toNat = iNE := by omega
                      have piE : (0 : Int) ≤ (xp : Int) + 1 := by omega
                      have biE : (xp : Int) + 1 < (n : Int) := by omega
                      have riE : IntKind.i64.wrap ((xp : Int) + 1) = (xp : Int) + 1 := by rw [IntKind.wrap_i64]; omega
                      obtain ⟨jNE, hjNE⟩ : ∃ zq, zq = xp := ⟨_, rfl⟩
                      have ejE : ((xp : Int)).toNat = jNE := by omega
                      have pjE : (0 : Int) ≤ (xp : Int) := by omega
                      have bjE : (xp : Int) < (n : Int) := by omega
                      have rjE : IntKind.i64.wrap ((xp : Int)) = (xp : Int) := by rw [IntKind.wrap_i64]; omega
                      obtain ⟨xE, hxE⟩ : ∃ zx, zx = dj[xp + 1]! := ⟨_, rfl⟩
                      obtain ⟨yE, hyE⟩ : ∃ zx, zx = dj[xp]! := ⟨_, rfl⟩
                      have S6 : Hid (SB w0 blk off (swp dj (xp + 1) (xp)) ((wl.setCell ⟨blk, off + iNE, none⟩ (.int .u8 yE)).setCell ⟨blk, off + jNE, none⟩ (.int .u8 xE)).drew) := Lib.hid (by rw [hiNE, hjNE, hxE, hyE]; exact sb_swap SL.out R (xp + 1) (xp) (by omega) (by omega))
                      have caE : wl.cell? ⟨blk, off + iNE, none⟩ = some (.int .u8 xE) := by rw [hiNE, hxE]; exact sb_cell SL.out R (by omega) (xp + 1) (by omega)
                      have cbE : wl.cell? ⟨blk, off + jNE, none⟩ = some (.int .u8 yE) := by rw [hjNE, hyE]; exact sb_cell SL.out R (by omega) (xp) (by omega)
                      have faE : wl.frozen? ⟨blk, off + iNE, none⟩ = false := by rw [hiNE]; exact SW.f1 SL.out R (by omega) (xp + 1) (by omega)
                      have fbE : wl.frozen? ⟨blk, off + jNE, none⟩ = false := by rw [hjNE]; exact SW.f1 SL.out R (by omega) (xp) (by omega)
                      obtain ⟨uE, ccE⟩ : ∃ u, (wl.setCell ⟨blk, off + iNE, none⟩ (.int .u8 yE)).cell? ⟨blk, off + jNE, none⟩ = some u := by rw [hiNE, hjNE]; exact SW.c2 SL.out R (by omega) (xp + 1) (xp) (by omega) (by omega) (.int .u8 yE)
                      clear SL hxE hyE hiNE hjNE
                      go_wp2_with fail
                      go_region
                      clear caE cbE ccE faE fbE
                      generalize ((wl.setCell ⟨blk, off + iNE, none⟩ (.int .u8 yE)).setCell ⟨blk, off + jNE, none⟩ (.int .u8 xE)).drew = w6 at S6 ⊢
                      clear eiE piE biE riE ejE pjE bjE rjE
                      go_wp2
                      go_roundg (b - (xp + 1))
                      case measure => omega
                      case rel => exact ⟨xp + 1, swp dj (xp + 1) xp, by go_num, by omega, by omega, Nat.le_refl _, by rw [size_swp]; exact hsj, S6, HN⟩
                    | false =>
                      have HN := Lib.hid ((su_stop ltInt hx0 hlv).symm.trans HU.out)
                      go_wp2_with fail
                      obtain ⟨iND, hiND⟩ : ∃ zq, zq = xp + 1 := ⟨_, rfl⟩
                      have eiD : ((xp : Int) + 1).toNat = iND := by omega
                      have piD : (0 : Int) ≤ (xp : Int) + 1 := by omega
                      have biD : (xp : Int) + 1 < (n : Int) := by omega
                      have riD : IntKind.i64.wrap ((xp : Int) + 1) = (xp : Int) + 1 := by rw [IntKind.wrap_i64]; omega
                      obtain ⟨jND, hjND⟩ : ∃ zq, zq = xp := ⟨_, rfl⟩
                      have ejD : ((xp : Int)).toNat = jND := by omega
                      have pjD : (0 : Int) ≤ (xp : Int) := by omega
                      have bjD : (xp : Int) < (n : Int) := by omega
                      have rjD : IntKind.i64.wrap ((xp : Int)) = (xp : Int) := by rw [IntKind.wrap_i64]; omega
                      obtain ⟨xD, hxD⟩ : ∃ zx, zx = dj[xp + 1]! := ⟨_, rfl⟩
                      obtain ⟨yD, hyD⟩ : ∃ zx, zx = dj[xp]! := ⟨_, rfl⟩
                      have laD : wr.cell? ⟨blk, off + iND, none⟩ = some (.int .u8 xD) := by rw [hiND, hxD]; exact sb_cell SU.out R (by omega) (xp + 1) (by omega)
                      have lbD : wr.cell? ⟨blk, off + jND, none⟩ = some (.int .u8 yD) := by rw [hjND, hyD]; exact sb_cell SU.out R (by omega) (xp) (by omega)
                      have hvD : ltInt xD yD = false := by rw [hxD, hyD]; exact hlv
                      have HVD := Lib.hid hvD
                      clear hxD hyD hiND hjND hvD
                      go_wp2_with fail
                      go_quiet ((go_at_call 221; exact Calls.quiet_of_same (less_q _ _ _ HVD.out _)))
                      have SL := Lib.hid (SW.drewN SU.out nq)
                      clear laD lbD HVD SU
                      generalize wr.drewN nq = wl at SL ⊢
                      clear nq eiD piD biD riD ejD pjD bjD rjD
                      go_wp2
                      go_roundg (5 - (t + 1))
                      case measure => omega
                      case rel => exact ⟨t + 1, Ip + 1, dj, by go_num, by go_num, by omega, Nat.le_refl _, by omega, by omega, hsj, SL, Lib.hid (HSTF.out dj (HN.out.trans HIF.out.symm))⟩
                  · have hxz : ¬ (xp : Int) + 1 < (b : Int) := by omega
                    have HN := Lib.hid ((su_end ltInt hx0).symm.trans HU.out)
                    go_wp2
                    go_roundg (5 - (t + 1))
                    case measure => omega
                    case rel => exact ⟨t + 1, Ip + 1, dj, by go_num, by go_num, by omega, Nat.le_refl _, by omega, by omega, hsj, SU, Lib.hid (HSTF.out dj (HN.out.trans HIF.out.symm))⟩
              · have h2z : ¬ (2 : Int) ≤ (b : Int) - ((Ip : Int) + 1) := by omega
                have h2d : decide ((2 : Int) ≤ (b : Int) - ((Ip : Int) + 1)) = false := by simp; omega
                have HIF : Hid ((if 2 ≤ b - (Ip + 1) then shiftUp ltInt b (Ip + 1 + 1) d2 else d2) = d2) := Lib.hid (if_neg h2)
                go_wp2
                go_roundg (5 - (t + 1))
                case measure => omega
                case rel => exact ⟨t + 1, Ip + 1, d2, by go_num, by go_num, by omega, Nat.le_refl _, by omega, by omega, hs2, S5, Lib.hid (HSTF.out d2 HIF.out.symm)⟩
    · obtain rfl : t = 5 := by omega
      have htz : ¬ ((5 : Nat) : Int) < 5 := by omega
      have HE : Hid ((dk, false) = partialIns ltInt a b 5 (a + 1) d) := HO
      go_wp2
      go_ret
      exact ⟨false, dk, rfl, HE.out.symm, S1.out⟩
end Go.Proofs.YtkifdbeklagelaaGreatDoor

/- BYTES SORTED: pdqsortOrdered: the part is permuted and ascending. -/
namespace Go.Proofs.YtkifdbeklagelaaGreatDoor
open Go.RowKit Go.Sort

abbrev LowB (a b : Nat) (d : Array Int) : Prop := Go.Sort.Below ltInt a b d
def Srt (w0 : World) (blk off : Nat) (d : Array Int) (a b : Nat) (e : Ending) (w' : World) : Prop := ∃ d' : Array Int, e = .returned (.tuple #[]) ∧ PermIn a b d d' ∧ SortedIn ltInt a b d' ∧ SB w0 blk off d' w'
/-- what is left to do: whoever sorts the part [x, y) of e has sorted [a, b) of d -/
def Fin (a b : Nat) (d : Array Int) (x y : Nat) (e : Array Int) : Prop := ∀ r, PermIn x y e r → SortedIn ltInt x y r → PermIn a b d r ∧ SortedIn ltInt a b r
theorem Fin.perm {a b x y : Nat} {d e e' : Array Int} (h : Fin a b d x y e) (hp : PermIn x y e e') : Fin a b d x y e' := fun r h1 h2 => h r (permIn_trans _ _ _ x y hp h1) h2
def PdqC (n N : Nat) : Prop := ∀ (blk off cap a b lim : Nat) (d0 d : Array Int) (w0 w : World) (R : RB w0 blk off d0) (hs0 : d0.size = n) (hsd : d.size = n) (S : SB w0 blk off d w) (hab : a ≤ b) (hb : b ≤ n) (hL : LowB a b d) (hlim : lim ≤ 1000) (hN : b - a ≤ N),
    Calls Tryz.prog 213 #[.slice (some ⟨blk, off, none⟩) n cap, .int .i64 a, .int .i64 b, .int .i64 lim] w (Srt w0 blk off d a b)
set_option maxRecDepth 100000 in
set_option maxHeartbeats 8000000 in
theorem pdq_of (n N : Nat) (hsz : n < 2305843009213693952) (ih : ∀ M, M < N → PdqC n M) : PdqC n N := by
  intro blk off cap a b lim d0 d w0 w R hs0 hsd S hab hb hL hlim hN
  have S0 := Lib.hid S
  have HL := Lib.hid hL
  have HIH := Lib.hid ih
  clear S hL ih
  go_enter Tryz.func213, Tryz.ntmps213
  go_wp2_with fail
  go_loopg [1, 2, 3, 8, 9] N (fun g1 va vb vl v8 v9 wr => ∃ (x y l : Nat) (wb wp : Bool) (dk : Array Int), va = .int .i64 x ∧ vb = .int .i64 y ∧ vl = .int .i64 l ∧ v8 = .bool wb ∧ v9 = .bool wp ∧ x ≤ y ∧ y ≤ n ∧ l ≤ 1000 ∧ y - x ≤ g1 ∧ g1 ≤ N ∧ dk.size = n ∧ Hid (SB w0 blk off dk wr) ∧ Hid (LowB x y dk) ∧ Hid (Fin a b d x y dk))
  case atStart => exact ⟨a, b, lim, true, true, d, rfl, rfl, rfl, rfl, rfl, hab, hb, hlim, hN, Nat.le_refl _, hsd, S0, HL, Lib.hid fun r h1 h2 => ⟨h1, h2⟩⟩
  case round =>
    clear S0 HL hab hb hlim hN hsd
    obtain ⟨x, y, l, wb, wp, dk, rfl, rfl, rfl, rfl, rfl, hxy, hyn, hl, hg1, hgN, hsk, S1, HL, HF⟩ := hrel
    obtain ⟨L, hLL⟩ : ∃ L, L = y - x := ⟨_, rfl⟩
    have hbl : (y : Int) - (x : Int) = (L : Int) := by omega
    have hL1 : L ≤ y - x := by omega
    have hL2 : y - x ≤ L := by omega
    clear hLL
    by_cases h12 : L ≤ 12
    · have h12z : (L : Int) ≤ 12 := by omega
      go_wp2_with (go_at_call 215; (refine (ins_any blk off cap x y n d0 dk w0 _ R hs0 hsk S1.out hxy hyn (by omega)).mono ?_); rintro e w2 ⟨rfl, hS2⟩; have S2 := Lib.hid hS2; clear hS2)
      refine bodyPost_ret (results_none rfl _ _ _) rfl ?_
      obtain ⟨q1, q2⟩ := insertionSort_holds swo_ltInt dk x y hxy (by omega)
      obtain ⟨p1, p2⟩ := HF.out _ q1 q2
      exact ⟨_, rfl, p1, p2, S2.out⟩
    · have h12z : ¬ (L : Int) ≤ 12 := by omega
      by_cases hl0 : l = 0
      · have hlz : ((l : Int) == 0) = true := by rw [hl0]; rfl
        clear hl0
        go_wp2_with (go_at_call 216; (refine (heap_any blk off cap x y n d0 dk w0 _ R hs0 hsk S1.out (by omega) hyn hsz).mono ?_); rintro e w2 ⟨rfl, hS2⟩; have S2 := Lib.hid hS2; clear hS2)
        refine bodyPost_ret (results_none rfl _ _ _) rfl ?_
        obtain ⟨q1, q2⟩ := heapSort_holds swo_ltInt dk x y hxy (by omega)
        obtain ⟨p1, p2⟩ := HF.out _ q1 q2
        exact ⟨_, rfl, p1, p2, S2.out⟩
      · have hlz : ((l : Int) == 0) = false := by rw [beq_eq_false_iff_ne]; omega
        go_upto_if 35 with fail
        go_cut [3] (fun v3 wx => ∃ (l' : Nat) (d1 : Array Int), v3 = .int .i64 l' ∧ l' ≤ 1000 ∧ d1.size = n ∧ Hid (PermIn x y dk d1) ∧ Hid (SB w0 blk off d1 wx))
        case first =>
          cases wb with
          | true =>
            go_wp2_with fail
            go_meet
            case rel => exact ⟨l, dk, rfl, hl, hsk, Lib.hid (permIn_refl _ _ _), S1⟩
          | false =>
            go_wp2_with (go_at_call 217; (refine (brk_any blk off cap x y n d0 dk w0 _ R hs0 hsk S1.out (by omega) hyn hsz).mono ?_); rintro e w2 ⟨d1, rfl, hp, hS2⟩; have S2 := Lib.hid hS2; have HP := Lib.hid hp; have hs1 : d1.size = n := hp.1.trans hsk; clear hS2 hp)
            go_meet
            case rel => exact ⟨l - 1, d1, by congr 1; omega, by omega, hs1, HP, S2⟩
        case rest =>
          clear S1
          obtain ⟨l', d1, rfl, hl', hs1, HP1, S2⟩ := hcut
          clear hlz hl0 hl
          go_upto_if 50 with (go_at_call 218; (refine (pivot_any blk off cap x y n d0 d1 w0 _ R hs0 hs1 S2.out (by omega) hyn hsz).mono ?_); rintro e w3 ⟨p, h, hp, hh, rfl, hS3⟩; have S3 := Lib.hid hS3; clear hS3)
          obtain ⟨hp1, hp2⟩ := hp
          clear S2
          go_cut [11, 12] (fun v11 v12 wx => ∃ (p h : Nat) (d2 : Array Int), v11 = .int .i64 p ∧ v12 = .int .i64 h ∧ x ≤ p ∧ p < y ∧ d2.size = n ∧ Hid (PermIn x y d1 d2) ∧ Hid (SB w0 blk off d2 wx))
          case first =>
            by_cases h2 : h = 2
            · have h2z : ((h : Int) == 2) = true := by rw [h2]; rfl
              clear h2
              have hyz : (1 : Int) ≤ (y : Int) := by omega
              have hy9 : (y : Int) ≤ 2305843009213693952 := by omega
              have hpx : (x : Int) ≤ (p : Int) := by omega
              go_wp2_with (go_at_call 219; (refine (rev_any blk off cap x y n d0 d1 w0 _ R hs0 hs1 S3.out (by omega) hyn (by omega)).mono ?_); rintro e w4 ⟨rfl, hS4⟩; have S4 := Lib.hid hS4; clear hS4)
              go_meet
              case rel => exact ⟨y - 1 - (p - x), 1, _, by congr 1; omega, rfl, by omega, by omega, (reverseRange_holds d1 x y hxy (by omega)).1.trans hs1, Lib.hid (reverseRange_holds d1 x y hxy (by omega)), S4⟩
            · have h2z : ((h : Int) == 2) = false := by rw [beq_eq_false_iff_ne]; omega
              go_wp2
              go_meet
              case rel => exact ⟨p, h, d1, rfl, rfl, hp1, hp2, hs1, Lib.hid (permIn_refl _ _ _), S3⟩
          case rest =>
            clear S3 hp1 hp2 hh
            obtain ⟨p, h, d2, rfl, rfl, hp1, hp2, hs2, HP2, S3⟩ := hcut
            have HL2 : Hid (LowB x y d2) := Lib.hid (Go.Sort.Below.perm (Go.Sort.Below.perm HL.out (by omega) HP1.out) (by omega) HP2.out)
            have HF2 : Hid (Fin a b d x y d2) := Lib.hid ((HF.out.perm HP1.out).perm HP2.out)
            clear HL HF HP1 HP2
            go_upto_region 15 with fail
            go_cut [68] (fun v wx => ∃ q : Bool, v = .bool q ∧ Hid (SB w0 blk off d2 wx))
            case first =>
              cases wb with
              | false =>
                go_wp2
                go_meet
                case rel => exact ⟨_, rfl, S3⟩
              | true =>
                cases wp with
                | false =>
                  go_wp2
                  go_meet
                  case rel => exact ⟨_, rfl, S3⟩
                | true =>
                  cases h1 : ((h : Int) == 1)
                  · go_wp2
                    go_meet
                    case rel => exact ⟨_, rfl, S3⟩
                  · go_wp2
                    go_meet
                    case rel => exact ⟨_, rfl, S3⟩
            case rest =>
              clear S3
              obtain ⟨q, rfl, S3⟩ := hcut
              go_upto_if 68 with fail
              go_cut [12] (fun v wx => ∃ d3 : Array Int, d3.size = n ∧ Hid (LowB x y d3) ∧ Hid (Fin a b d x y d3) ∧ Hid (SB w0 blk off d3 wx))
              case first =>
                cases q with
                | false =>
                  go_wp2
                  go_meet
                  case rel => exact ⟨d2, hs2, HL2, HF2, S3⟩
                | true =>
                  go_wp2_with fail
                  refine (pins_any blk off cap x y n d0 d2 w0 _ R hs0 hs2 S3.out (by omega) hyn hsz).mono ?_
                  rintro e w4 ⟨ok, d3, rfl, hpi, hS4⟩
                  have S4 := Lib.hid hS4
                  obtain ⟨hq1, hq2⟩ := partialInsertionSort_holds swo_ltInt d2 x y (by omega) (by omega) HL2.out
                  rw [hpi] at hq1 hq2
                  have HQ1 : Hid (PermIn x y d2 d3) := Lib.hid hq1
                  have HQ2 : Hid (ok = true → SortedIn ltInt x y d3) := Lib.hid hq2
                  clear hS4 hpi hq1 hq2 S3
                  cases ok with
                  | true =>
                    go_wp2
                    refine bodyPost_ret (results_none rfl _ _ _) rfl ?_
                    obtain ⟨q1, q2⟩ := HF2.out _ HQ1.out (HQ2.out (by first | rfl | trivial))
                    exact ⟨_, rfl, q1, q2, S4.out⟩
                  | false =>
                    have hs3 : d3.size = n := HQ1.out.1.trans hs2
                    go_wp2
                    go_meet
                    case rel => exact ⟨d3, hs3, Lib.hid (Go.Sort.Below.perm HL2.out (by omega) HQ1.out), Lib.hid (HF2.out.perm HQ1.out), S4⟩
              case rest =>
                clear S3 HL2 HF2
                obtain ⟨d3, hs3, HL3, HF3, S4⟩ := hcut
                go_upto_region 17 with fail
                go_cut [87] (fun v wx => ∃ q : Bool, v = .bool q ∧ Hid (SB w0 blk off d3 wx) ∧ Hid (q = true → 0 < x ∧ ltInt d3[x - 1]! d3[p]! = false))
                case first =>
                  by_cases hx0 : 0 < x
                  · obtain ⟨xp, rfl⟩ : ∃ xp, x = xp + 1 := ⟨x - 1, by omega⟩
                    have hxz : (0 : Int) < (xp : Int) + 1 := by omega
                    have hxd : decide ((0 : Int) < (xp : Int) + 1) = true := decide_eq_true (by omega)
                    cases hlv : ltInt d3[xp]! d3[p]! with
                    | true =>
                      go_wp2_with fail
                      obtain ⟨iNA, hiNA⟩ : ∃ zq, zq = xp := ⟨_, rfl⟩
                      have eiA : ((xp : Int)).toNat = iNA := by omega
                      have piA : (0 : Int) ≤ (xp : Int) := by omega
                      have biA : (xp : Int) < (n : Int) := by omega
                      have riA : IntKind.i64.wrap ((xp : Int)) = (xp : Int) := by rw [IntKind.wrap_i64]; omega
                      obtain ⟨jNA, hjNA⟩ : ∃ zq, zq = p := ⟨_, rfl⟩
                      have ejA : ((p : Int)).toNat = jNA := by omega
                      have pjA : (0 : Int) ≤ (p : Int) := by omega
                      have bjA : (p : Int) < (n : Int) := by omega
                      have rjA : IntKind.i64.wrap ((p : Int)) = (p : Int) := by rw [IntKind.wrap_i64]; omega
                      obtain ⟨xA, hxA⟩ : ∃ zx, zx = d3[xp]! := ⟨_, rfl⟩
                      obtain ⟨yA, hyA⟩ : ∃ zx, zx = d3[p]! := ⟨_, rfl⟩
                      have laA : wc.cell? ⟨blk, off + iNA, none⟩ = some (.int .u8 xA) := by rw [hiNA, hxA]; exact sb_cell S4.out R (by omega) (xp) (by omega)
                      have lbA : wc.cell? ⟨blk, off + jNA, none⟩ = some (.int .u8 yA) := by rw [hjNA, hyA]; exact sb_cell S4.out R (by omega) (p) (by omega)
                      have hvA : ltInt xA yA = true := by rw [hxA, hyA]; exact hlv
                      have HVA := Lib.hid hvA
                      clear hxA hyA hiNA hjNA hvA
                      go_wp2_with fail
                      go_quiet ((go_at_call 221; exact Calls.quiet_of_same (less_q _ _ _ HVA.out _)))
                      have SL := Lib.hid (SW.drewN S4.out nq)
                      clear laA lbA HVA S4
                      generalize wc.drewN nq = wl at SL ⊢
                      clear nq eiA piA biA riA ejA pjA bjA rjA
                      go_wp2
                      go_meet
                      case rel => exact ⟨false, rfl, SL, Lib.hid (by intro h; cases h)⟩
                    | false =>
                      have HLV := Lib.hid hlv
                      go_wp2_with fail
                      obtain ⟨iNA, hiNA⟩ : ∃ zq, zq = xp := ⟨_, rfl⟩
                      have eiA : ((xp : Int)).toNat = iNA := by omega
                      have piA : (0 : Int) ≤ (xp : Int) := by omega
                      have biA : (xp : Int) < (n : Int) := by omega
                      have riA : IntKind.i64.wrap ((xp : Int)) = (xp : Int) := by rw [IntKind.wrap_i64]; omega
                      obtain ⟨jNA, hjNA⟩ : ∃ zq, zq = p := ⟨_, rfl⟩
                      have ejA : ((p : Int)).toNat = jNA := by omega
                      have pjA : (0 : Int) ≤ (p : Int) := by omega
                      have bjA : (p : Int) < (n : Int) := by omega
                      have rjA : IntKind.i64.wrap ((p : Int)) = (p : Int) := by rw [IntKind.wrap_i64]; omega
                      obtain ⟨xA, hxA⟩ : ∃ zx, zx = d3[xp]! := ⟨_, rfl⟩
                      obtain ⟨yA, hyA⟩ : ∃ zx, zx = d3[p]! := ⟨_, rfl⟩
                      have laA : wc.cell? ⟨blk, off + iNA, none⟩ = some (.int .u8 xA) := by rw [hiNA, hxA]; exact sb_cell S4.out R (by omega) (xp) (by omega)
                      have lbA : wc.cell? ⟨blk, off + jNA, none⟩ = some (.int .u8 yA) := by rw [hjNA, hyA]; exact sb_cell S4.out R (by omega) (p) (by omega)
                      have hvA : ltInt xA yA = false := by rw [hxA, hyA]; exact hlv
                      have HVA := Lib.hid hvA
                      clear hxA hyA hiNA hjNA hvA
                      go_wp2_with fail
                      go_quiet ((go_at_call 221; exact Calls.quiet_of_same (less_q _ _ _ HVA.out _)))
                      have SL := Lib.hid (SW.drewN S4.out nq)
                      clear laA lbA HVA S4
                      generalize wc.drewN nq = wl at SL ⊢
                      clear nq eiA piA biA riA ejA pjA bjA rjA
                      go_wp2
                      go_meet
                      case rel => exact ⟨true, rfl, SL, Lib.hid fun _ => ⟨by omega, HLV.out⟩⟩
                  · have hxz : ¬ (0 : Int) < (x : Int) := by omega
                    have hxd : decide ((0 : Int) < (x : Int)) = false := decide_eq_false (by omega)
                    have hxe : decide (0 < x) = false := decide_eq_false hx0
                    go_wp2_with fail
                    go_quiet (fail)
                    have SL := Lib.hid (SW.drewN S4.out nq)
                    go_wp2
                    go_meet
                    case rel => exact ⟨false, rfl, SL, Lib.hid (by intro h; cases h)⟩
                case rest =>
                  clear S4
                  obtain ⟨q, rfl, S5, HQ⟩ := hcut
                  cases q with
                  | true =>
                    obtain ⟨hx0, hnl⟩ := HQ.out (by first | rfl | trivial)
                    have HNL := Lib.hid hnl
                    clear hnl HQ
                    go_wp2_with fail
                    refine (parEq_any blk off cap x y p n d0 d3 w0 _ R hs0 hs3 S5.out hp1 hp2 hyn hsz).mono ?_
                    rintro e w6 ⟨m, d4, rfl, hx, hS6⟩
                    have S6 := Lib.hid hS6
                    obtain ⟨r1, r2, r3, r4, r5⟩ := round_eq swo_ltInt (partitionEqual_holds ltInt) hx0 hp1 hp2 (by omega) HL3.out HNL.out hx
                    have R4 : Hid (LowB m y d4) := Lib.hid r4
                    have R5 : Hid (Fin a b d m y d4) := Lib.hid fun r h1 h2 => HF3.out r (r5 r h1 h2).1 (r5 r h1 h2).2
                    have hs4 : d4.size = n := r3.trans hs3
                    clear hx hS6 S5 r3 r4 r5 HL3 HF3 HNL
                    go_wp2_with fail
                    go_roundg (y - m)
                    case measure => omega
                    case rel => exact ⟨m, y, l', wb, wp, d4, rfl, rfl, rfl, rfl, rfl, r2, hyn, hl', Nat.le_refl _, by omega, hs4, S6, R4, R5⟩
                  | false =>
                    clear HQ
                    go_wp2_with fail
                    refine (part_any blk off cap x y p n d0 d3 w0 _ R hs0 hs3 S5.out hp1 hp2 hyn hsz).mono ?_
                    rintro e w6 ⟨m, ap, d4, rfl, hx, hS6⟩
                    have S6 := Lib.hid hS6
                    obtain ⟨r1, r2, r3, r4, r5, r6, r7⟩ := round_part swo_ltInt (partition_holds ltInt) hp1 hp2 (by omega) HL3.out hx
                    have hs4 : d4.size = n := r3.trans hs3
                    have R4 := Lib.hid r4
                    have R5 := Lib.hid r5
                    have R6 := Lib.hid r6
                    have R7 := Lib.hid r7
                    clear hx hS6 S5 r3 r4 r5 r6 r7 HL3
                    have hL0 : (0 : Int) ≤ (L : Int) := by omega
                    have hm9 : (m : Int) ≤ 2305843009213693952 := by omega
                    have hm0 : (x : Int) ≤ (m : Int) := by omega
                    have hm1 : (m : Int) < (y : Int) := by omega
                    have hy9 : (y : Int) ≤ 2305843009213693952 := by omega
                    by_cases hml : m - x < y - m
                    · have hmz : (m : Int) - (x : Int) < (y : Int) - (m : Int) := by omega
                      go_wp2_with (go_at_call 213; (refine (HIH.out (m - x) (by omega) blk off cap x m l' d0 d4 w0 _ R hs0 hs4 S6.out r1 (by omega) R4.out hl' (Nat.le_refl _)).mono ?_); rintro e w7 ⟨d5, rfl, q1, q2, hS7⟩; have S7 := Lib.hid hS7; have HR := Lib.hid (R6.out d5 q1 q2); have hs5 : d5.size = n := q1.1.trans hs4; clear q1 q2 hS7)
                      go_roundg (y - (m + 1))
                      case measure => omega
                      case rel => exact ⟨m + 1, y, l', _, ap, d5, by go_num, rfl, rfl, rfl, rfl, by omega, hyn, hl', Nat.le_refl _, by omega, hs5, S7, Lib.hid HR.out.1, Lib.hid fun r h1 h2 => HF3.out r (HR.out.2 r h1 h2).1 (HR.out.2 r h1 h2).2⟩
                    · have hmz : ¬ (m : Int) - (x : Int) < (y : Int) - (m : Int) := by omega
                      have HCL : Hid (∀ W, SB w0 blk off d4 W → Calls Tryz.prog 213 #[.slice (some ⟨blk, off, none⟩) n cap, .int .i64 ((m : Int) + 1), .int .i64 y, .int .i64 l'] W (Srt w0 blk off d4 (m + 1) y)) := Lib.hid fun W hW => HIH.out (y - (m + 1)) (by omega) blk off cap (m + 1) y l' d0 d4 w0 W R hs0 hs4 hW (by omega) hyn R5.out hl' (Nat.le_refl _)
                      go_wp2_with (go_at_call 213; (refine (HCL.out _ S6.out).mono ?_); rintro e w7 ⟨d5, rfl, q1, q2, hS7⟩; have S7 := Lib.hid hS7; have HR := Lib.hid (R7.out d5 q1 q2); have hs5 : d5.size = n := q1.1.trans hs4; clear q1 q2 hS7)
                      go_roundg (m - x)
                      case measure => omega
                      case rel => exact ⟨x, m, l', _, ap, d5, rfl, rfl, rfl, rfl, rfl, r1, by omega, hl', Nat.le_refl _, by omega, hs5, S7, Lib.hid HR.out.1, Lib.hid fun r h1 h2 => HF3.out r (HR.out.2 r h1 h2).1 (HR.out.2 r h1 h2).2⟩
end Go.Proofs.YtkifdbeklagelaaGreatDoor
