/- THE CURSOR OF THE DRAWS: what spec's l1.. functions on a cursor return, and that a cursor stays one. -/
import Derived.Test.YtapalfmjebggfaaDoorBase
import Derived.Deep.QuietTactic
import Derived.BigQuiet
import Derived.RegionTactic
import Derived.ChangeAlike
import Derived.IntWalk
namespace Go.Proofs.YtapalfmjebggfaaDoor
open Go.RowKit

/-- block g is a cursor over the bytes of the slice (A, n, cap), at place i, with the number h -/
structure CurI (w : World) (g : Nat) (A : Option Addr) (n cap i : Nat) (h : Int) : Prop where
  len : n ≤ 9223372036854775807
  at_ : i ≤ n
  blk : w.heap[g]? = some (.cells #[.slice A n cap, .int .i64 (i : Int), .int .i64 h] 58 (0, 0))
  bytes : ∀ j, j < n → ∃ (a : Addr) (x : Int), A = some a ∧ a.block ≠ g ∧ 0 ≤ x ∧ x ≤ 255 ∧ w.cell? (a.add j) = some (.int .u8 x)
def Cur (w : World) (g : Nat) (A : Option Addr) (n cap : Nat) : Prop := ∃ i h, CurI w g A n cap i h

theorem add_block (a : Addr) (j : Nat) : (a.add j).block = a.block := by unfold Addr.add; split <;> rfl
section
variable {w w' : World} {g : Nat} {A : Option Addr} {n cap i : Nat} {h : Int}
theorem CurI.lt (c : CurI w g A n cap i h) : g < w.heap.size := by
  rcases Nat.lt_or_ge g w.heap.size with hlt | hge
  · exact hlt
  · have := c.blk; rw [Array.getElem?_eq_none hge] at this; cases this
theorem CurI.drewN (c : CurI w g A n cap i h) (k : Nat) : CurI (w.drewN k) g A n cap i h := ⟨c.len, c.at_, c.blk, fun j hj => by
  obtain ⟨a, x, h1, h2, h3, h4, h5⟩ := c.bytes j hj
  exact ⟨a, x, h1, h2, h3, h4, by simpa using h5⟩⟩
theorem CurI.set2 (c : CurI w g A n cap i h) (h' : Int) : CurI (w.setCell ⟨g, 2, none⟩ (.int .i64 h')) g A n cap i h' :=
  ⟨c.len, c.at_, by rw [heap_setCell_same w g 2 _ _ _ c.blk]; rfl, fun j hj => by
    obtain ⟨a, x, h1, h2, h3, h4, h5⟩ := c.bytes j hj
    exact ⟨a, x, h1, h2, h3, h4, by rw [World.cell?_setCell_other w _ _ _ (fun e => h2 (by rw [← add_block a j, ← e]))]; exact h5⟩⟩
theorem CurI.set1 (c : CurI w g A n cap i h) {i' : Nat} (hi : i' ≤ n) : CurI (w.setCell ⟨g, 1, none⟩ (.int .i64 (i' : Int))) g A n cap i' h :=
  ⟨c.len, hi, by rw [heap_setCell_same w g 1 _ _ _ c.blk]; rfl, fun j hj => by
    obtain ⟨a, x, h1, h2, h3, h4, h5⟩ := c.bytes j hj
    exact ⟨a, x, h1, h2, h3, h4, by rw [World.cell?_setCell_other w _ _ _ (fun e => h2 (by rw [← add_block a j, ← e]))]; exact h5⟩⟩
theorem CurI.next (c : CurI w g A n cap i h) (hi : i < n) : CurI (w.setCell ⟨g, 1, none⟩ (.int .i64 ((i : Int) + 1))) g A n cap (i + 1) h := c.set1 (i' := i + 1) hi
theorem byG_drewN {a : World} {row : Option Nat} (k : a.grownBy w row) (q : Nat) : a.grownBy (w.drewN q) row := ⟨k.os, k.tape, k.output, k.size, k.block⟩
theorem byG_set {a : World} (k : a.grownBy w (some g)) (j : Nat) (u : Value) : a.grownBy (w.setCell ⟨g, j, none⟩ u) (some g) :=
  ⟨k.os, k.tape, k.output, by simpa [World.setCell] using k.size, fun b hb hne => (Below.heap_setCell w ⟨g, j, none⟩ u b (fun e => hne (by rw [e]))).trans (k.block b hb hne)⟩
end

theorem and255 (n : Int) : 0 ≤ bits .and .i64 n 255 ∧ bits .and .i64 n 255 ≤ 255 := by
  have h : ((BitVec.ofInt 64 n) &&& (BitVec.ofInt 64 255)).toNat ≤ 255 := by
    rw [BitVec.toNat_and]; exact Nat.le_trans Nat.and_le_right (by decide)
  have e : bits .and .i64 n 255 = IntKind.i64.wrap (((BitVec.ofInt 64 n) &&& (BitVec.ofInt 64 255)).toNat : Int) := rfl
  rw [e]
  generalize ((BitVec.ofInt 64 n) &&& (BitVec.ofInt 64 255)).toNat = q at h
  rw [IntWalk.i64_in _ (by omega)]
  omega

def ByteOut (w : World) (g : Nat) (A : Option Addr) (n cap : Nat) (e : Ending) (w' : World) : Prop :=
  ∃ x : Int, 0 ≤ x ∧ x ≤ 255 ∧ e = .returned (.int .i64 x) ∧ Cur w' g A n cap ∧ w.grownBy w' (some g)

set_option maxRecDepth 100000 in
set_option maxHeartbeats 1000000 in
theorem byte_any (g : Nat) (A : Option Addr) (n cap : Nat) (w : World) (hc : Cur w g A n cap) :
    Calls Tryd.prog 31 #[.pointer (some ⟨g, 0, none⟩)] w (ByteOut w g A n cap) := by
  obtain ⟨i, h, hc⟩ := hc
  have hi := hc.at_
  have hlen := hc.len
  have c0 : w.cell? ⟨g, 0, none⟩ = some (.slice A n cap) := by rw [cell_of_row w g 0 _ _ _ hc.blk]; rfl
  have c1 : w.cell? ⟨g, 1, none⟩ = some (.int .i64 (i : Int)) := by rw [cell_of_row w g 1 _ _ _ hc.blk]; rfl
  have c2 : w.cell? ⟨g, 2, none⟩ = some (.int .i64 h) := by rw [cell_of_row w g 2 _ _ _ hc.blk]; rfl
  have f1 : w.frozen? ⟨g, 1, none⟩ = false := by simp [World.frozen?, hc.blk]
  have f2 : w.frozen? ⟨g, 2, none⟩ = false := by simp [World.frozen?, hc.blk]
  have g0 : w.grownBy w (some g) := ⟨rfl, rfl, rfl, Nat.le_refl _, fun _ _ _ => rfl⟩
  by_cases hlt : i < n
  · obtain ⟨a, x, rfl, hne, hx0, hx1, hcell⟩ := hc.bytes i hlt
    have hcell' : ∀ y, (w.setCell ⟨g, 2, none⟩ y).cell? (a.add i) = some (.int .u8 x) := fun y => by
      rw [World.cell?_setCell_other w _ _ _ (fun e => hne (by rw [← add_block a i, ← e]))]; exact hcell
    have HC := Lib.hid hc
    have HG := Lib.hid g0
    clear hc g0
    go_enter Tryd.func31, Tryd.ntmps31
    go_wp2
    generalize wrap64 (wrap64 (h * 6364136223846793005) + 1442695040888963407) = y
    have hcy := hcell' (.int .i64 y)
    clear hcell' hcell
    go_quiet (fail)
    have hz := and255 (bits BinOp.xor IntKind.i64 (y / 8589934592) (y / 140737488355328))
    generalize bits BinOp.and IntKind.i64 (bits BinOp.xor IntKind.i64 (y / 8589934592) (y / 140737488355328)) 255 = z at hz ⊢
    go_wp2
    go_quiet (fail)
    go_wp2
    go_quiet (fail)
    go_wp2
    go_ret
    have hv := and255 (z + x)
    exact ⟨_, hv.1, hv.2, rfl, ⟨i + 1, y, ((HC.out.set2 y).drewN _).next (by omega)⟩, byG_set (byG_drewN (byG_set HG.out 2 _) _) 1 _⟩
  · have HC := Lib.hid hc
    have HG := Lib.hid g0
    clear hc g0
    go_enter Tryd.func31, Tryd.ntmps31
    go_wp2
    generalize wrap64 (wrap64 (h * 6364136223846793005) + 1442695040888963407) = y
    go_quiet (fail)
    have hz := and255 (bits BinOp.xor IntKind.i64 (y / 8589934592) (y / 140737488355328))
    generalize bits BinOp.and IntKind.i64 (bits BinOp.xor IntKind.i64 (y / 8589934592) (y / 140737488355328)) 255 = z at hz ⊢
    go_wp2
    go_quiet (fail)
    go_wp2
    go_ret
    exact ⟨z, hz.1, hz.2, rfl, ⟨i, y, ((HC.out.set2 y).drewN _).drewN _⟩, byG_drewN (byG_drewN (byG_set HG.out 2 _) _) _⟩
end Go.Proofs.YtapalfmjebggfaaDoor
