/- BYTES SORTED: cmp.Less at bytes; the words for the row (a byte is said as the number that it is). -/
import Derived.Test.YtoldfejclimhgaaRec
import Derived.Shelf.SlSortCmp.Kit1
import Derived.Sort.AssemblyPlain
import Derived.Sort.LotD4
import Derived.Deep.LoopGhost
import Derived.ChangeAlike
import Derived.RegionTactic
import Derived.BigRegion
namespace Go.Proofs.Ytoldfejclimhgaa
open Go.RowKit Go.Sort

def encB (z : Int) : Value := .int .u8 z
theorem encB_one : OneCell encB := fun _ => rfl
abbrev SB (w0 : World) (blk off : Nat) (d : Array Int) (W : World) : Prop := SW encB w0 blk off d W
abbrev RB (w0 : World) (blk off : Nat) (d0 : Array Int) : Prop := Row1 encB w0 blk off d0
theorem sb_cell {w0 W : World} {blk off : Nat} {d0 dk : Array Int} (h : SW encB w0 blk off dk W) (R : Row1 encB w0 blk off d0) (hs : dk.size = d0.size) (i : Nat) (hi : i < dk.size) : W.cell? ⟨blk, off + i, none⟩ = some (.int .u8 dk[i]!) := h.c1 R hs i hi
theorem sb_swap {w0 W : World} {blk off : Nat} {d0 dk : Array Int} (h : SW encB w0 blk off dk W) (R : Row1 encB w0 blk off d0) (i j : Nat) (hi : i < dk.size) (hj : j < dk.size) :
    SW encB w0 blk off (swp dk i j) ((W.setCell ⟨blk, off + i, none⟩ (.int .u8 dk[j]!)).setCell ⟨blk, off + j, none⟩ (.int .u8 dk[i]!)).drew := h.swapped R i j hi hj
set_option maxRecDepth 100000 in
theorem nan_any (x : Int) (w : World) : Calls Try.prog 104 #[.int .u8 x] w fun e w' => e = .returned (.bool false) ∧ w = w' := by
  have h : ((x != x) : Bool) = false := by simp
  go_enter Try.func104, Try.ntmps104
  go_wp2
  go_ret
  exact ⟨rfl, rfl⟩
set_option maxRecDepth 100000 in
theorem less_any (x y : Int) (w : World) : Calls Try.prog 94 #[.int .u8 x, .int .u8 y] w fun e w' => e = .returned (.bool (ltInt x y)) ∧ w = w' := by
  have h : ltInt x y = decide (x < y) := rfl
  rw [h]
  clear h
  go_enter Try.func94, Try.ntmps94
  go_wp2_with (go_at_call 104; refine (nan_any _ _).mono ?_; rintro e w' ⟨rfl, rfl⟩)
  go_ret
  exact ⟨rfl, rfl⟩
theorem less_q (x y : Int) (b : Bool) (h : ltInt x y = b) (w : World) : Calls Try.prog 94 #[.int .u8 x, .int .u8 y] w fun e w' => e = .returned (.bool b) ∧ w' = w :=
  (less_any x y w).mono fun _ _ ⟨he, hw⟩ => ⟨by rw [he, h], hw.symm⟩
end Go.Proofs.Ytoldfejclimhgaa
