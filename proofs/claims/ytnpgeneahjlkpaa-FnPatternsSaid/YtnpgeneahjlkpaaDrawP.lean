/- MERGED for a claim: Cur CurB DrawBase DrawT DrawP. -/
import Derived.Test.YtnpgeneahjlkpaaBase
import Derived.Deep.QuietTactic
import Derived.BigQuiet
import Derived.RegionTactic
import Derived.ChangeAlike
import Derived.IntWalk
import Derived.ProofKit
import Derived.OpenShut
import Derived.Test.YtnpgeneahjlkpaaStrs
set_option linter.unusedVariables false
set_option linter.unusedSimpArgs false
/- THE CURSOR OF THE DRAWS: what spec's l1.. functions on a cursor return, and that a cursor stays one. -/
namespace Go.Proofs.Ytnpgeneahjlkpaa
open Go.RowKit

/-- block g is a cursor over the bytes of the slice (A, n, cap), at place i, with the number h -/
structure CurI (w : World) (g : Nat) (A : Option Addr) (n cap i : Nat) (h : Int) : Prop where
  len : n ≤ 9223372036854775807
  at_ : i ≤ n
  blk : w.heap[g]? = some (.cells #[.slice A n cap, .int .i64 (i : Int), .int .i64 h] 142 (0, 0))
  bytes : ∀ j, j < n → ∃ (a : Addr) (x : Int), A = some a ∧ a.block ≠ g ∧ 0 ≤ x ∧ x ≤ 255 ∧ w.cell? (a.add j) = some (.int .u8 x)
def Cur (w : World) (g : Nat) (A : Option Addr) (n cap : Nat) : Prop := ∃ i h, CurI w g A n cap i h

theorem add_block (a : Addr) (j : Nat) : (a.add j).block = a.block := by unfold Addr.add; split <;> rfl
section
variable {w w' : World} {g : Nat} {A : Option Addr} {n cap i : Nat} {h : Int}
theorem CurI.lt (c : CurI w g A n cap i h) : g < w.heap.size := by
  rcases Nat.lt_or_ge g w.heap.size with hlt | hge
  · exact hlt
  · have := c.blk; rw [Array.getElem?_eq_none hge] at this; cases this
theorem CurI.drewN (c : CurI w g A n cap i h) (k : Nat) : CurI (w.drewN k) g A n cap i h := ⟨c.len, c.at_, c.blk, fun j hj => by
  obtain ⟨a, x, h1, h2, h3, h4, h5⟩ := c.bytes j hj
  exact ⟨a, x, h1, h2, h3, h4, by simpa using h5⟩⟩
theorem CurI.set2 (c : CurI w g A n cap i h) (h' : Int) : CurI (w.setCell ⟨g, 2, none⟩ (.int .i64 h')) g A n cap i h' :=
  ⟨c.len, c.at_, by rw [heap_setCell_same w g 2 _ _ _ c.blk]; rfl, fun j hj => by
    obtain ⟨a, x, h1, h2, h3, h4, h5⟩ := c.bytes j hj
    exact ⟨a, x, h1, h2, h3, h4, by rw [World.cell?_setCell_other w _ _ _ (fun e => h2 (by rw [← add_block a j, ← e]))]; exact h5⟩⟩
theorem CurI.set1 (c : CurI w g A n cap i h) {i' : Nat} (hi : i' ≤ n) : CurI (w.setCell ⟨g, 1, none⟩ (.int .i64 (i' : Int))) g A n cap i' h :=
  ⟨c.len, hi, by rw [heap_setCell_same w g 1 _ _ _ c.blk]; rfl, fun j hj => by
    obtain ⟨a, x, h1, h2, h3, h4, h5⟩ := c.bytes j hj
    exact ⟨a, x, h1, h2, h3, h4, by rw [World.cell?_setCell_other w _ _ _ (fun e => h2 (by rw [← add_block a j, ← e]))]; exact h5⟩⟩
theorem CurI.next (c : CurI w g A n cap i h) (hi : i < n) : CurI (w.setCell ⟨g, 1, none⟩ (.int .i64 ((i : Int) + 1))) g A n cap (i + 1) h := c.set1 (i' := i + 1) hi
theorem byG_drewN {a : World} {row : Option Nat} (k : a.grownBy w row) (q : Nat) : a.grownBy (w.drewN q) row := ⟨k.os, k.tape, k.output, k.size, k.block⟩
theorem byG_set {a : World} (k : a.grownBy w (some g)) (j : Nat) (u : Value) : a.grownBy (w.setCell ⟨g, j, none⟩ u) (some g) :=
  ⟨k.os, k.tape, k.output, by simpa [World.setCell] using k.size, fun b hb hne => (Below.heap_setCell w ⟨g, j, none⟩ u b (fun e => hne (by rw [e]))).trans (k.block b hb hne)⟩
end

theorem and255 (n : Int) : 0 ≤ bits .and .i64 n 255 ∧ bits .and .i64 n 255 ≤ 255 := by
  have h : ((BitVec.ofInt 64 n) &&& (BitVec.ofInt 64 255)).toNat ≤ 255 := by
    rw [BitVec.toNat_and]; exact Nat.le_trans Nat.and_le_right (by decide)
  have e : bits .and .i64 n 255 = IntKind.i64.wrap (((BitVec.ofInt 64 n) &&& (BitVec.ofInt 64 255)).toNat : Int) := rfl
  rw [e]
  generalize ((BitVec.ofInt 64 n) &&& (BitVec.ofInt 64 255)).toNat = q at h
  rw [IntWalk.i64_in _ (by omega)]
  omega

def ByteOut (w : World) (g : Nat) (A : Option Addr) (n cap : Nat) (e : Ending) (w' : World) : Prop :=
  ∃ x : Int, 0 ≤ x ∧ x ≤ 255 ∧ e = .returned (.int .i64 x) ∧ Cur w' g A n cap ∧ w.grownBy w' (some g)

set_option maxRecDepth 100000 in
set_option maxHeartbeats 1000000 in
theorem byte_any (g : Nat) (A : Option Addr) (n cap : Nat) (w : World) (hc : Cur w g A n cap) :
    Calls Try.prog 124 #[.pointer (some ⟨g, 0, none⟩)] w (ByteOut w g A n cap) := by
  obtain ⟨i, h, hc⟩ := hc
  have hi := hc.at_
  have hlen := hc.len
  have c0 : w.cell? ⟨g, 0, none⟩ = some (.slice A n cap) := by rw [cell_of_row w g 0 _ _ _ hc.blk]; rfl
  have c1 : w.cell? ⟨g, 1, none⟩ = some (.int .i64 (i : Int)) := by rw [cell_of_row w g 1 _ _ _ hc.blk]; rfl
  have c2 : w.cell? ⟨g, 2, none⟩ = some (.int .i64 h) := by rw [cell_of_row w g 2 _ _ _ hc.blk]; rfl
  have f1 : w.frozen? ⟨g, 1, none⟩ = false := by simp [World.frozen?, hc.blk]
  have f2 : w.frozen? ⟨g, 2, none⟩ = false := by simp [World.frozen?, hc.blk]
  have g0 : w.grownBy w (some g) := ⟨rfl, rfl, rfl, Nat.le_refl _, fun _ _ _ => rfl⟩
  by_cases hlt : i < n
  · obtain ⟨a, x, rfl, hne, hx0, hx1, hcell⟩ := hc.bytes i hlt
    have hcell' : ∀ y, (w.setCell ⟨g, 2, none⟩ y).cell? (a.add i) = some (.int .u8 x) := fun y => by
      rw [World.cell?_setCell_other w _ _ _ (fun e => hne (by rw [← add_block a i, ← e]))]; exact hcell
    have HC := Lib.hid hc
    have HG := Lib.hid g0
    clear hc g0
    go_enter Try.func124, Try.ntmps124
    go_wp2
    generalize wrap64 (wrap64 (h * 6364136223846793005) + 1442695040888963407) = y
    have hcy := hcell' (.int .i64 y)
    clear hcell' hcell
    go_quiet (fail)
    have hz := and255 (bits BinOp.xor IntKind.i64 (y / 8589934592) (y / 140737488355328))
    generalize bits BinOp.and IntKind.i64 (bits BinOp.xor IntKind.i64 (y / 8589934592) (y / 140737488355328)) 255 = z at hz ⊢
    go_wp2
    go_quiet (fail)
    go_wp2
    go_quiet (fail)
    go_wp2
    go_ret
    have hv := and255 (z + x)
    exact ⟨_, hv.1, hv.2, rfl, ⟨i + 1, y, ((HC.out.set2 y).drewN _).next (by omega)⟩, byG_set (byG_drewN (byG_set HG.out 2 _) _) 1 _⟩
  · have HC := Lib.hid hc
    have HG := Lib.hid g0
    clear hc g0
    go_enter Try.func124, Try.ntmps124
    go_wp2
    generalize wrap64 (wrap64 (h * 6364136223846793005) + 1442695040888963407) = y
    go_quiet (fail)
    have hz := and255 (bits BinOp.xor IntKind.i64 (y / 8589934592) (y / 140737488355328))
    generalize bits BinOp.and IntKind.i64 (bits BinOp.xor IntKind.i64 (y / 8589934592) (y / 140737488355328)) 255 = z at hz ⊢
    go_wp2
    go_quiet (fail)
    go_wp2
    go_ret
    exact ⟨z, hz.1, hz.2, rfl, ⟨i, y, ((HC.out.set2 y).drewN _).drewN _⟩, byG_drewN (byG_drewN (byG_set HG.out 2 _) _) _⟩
end Go.Proofs.Ytnpgeneahjlkpaa

/- THE CURSOR OF THE DRAWS, SECOND PART: l1Below, l1Once, l1Int, l1Str, l1New. -/
namespace Go.Proofs.Ytnpgeneahjlkpaa
open Go.RowKit

def BelowOut (w : World) (g : Nat) (A : Option Addr) (n cap : Nat) (m : Int) (e : Ending) (w' : World) : Prop :=
  ∃ x : Int, 0 ≤ x ∧ (m ≤ 0 → x = 0) ∧ (0 < m → x < m) ∧ e = .returned (.int .i64 x) ∧ Cur w' g A n cap ∧ w.grownBy w' (some g)
theorem byG_refl (w : World) (row : Option Nat) : w.grownBy w row := ⟨rfl, rfl, rfl, Nat.le_refl _, fun _ _ _ => rfl⟩

set_option maxRecDepth 100000 in
set_option maxHeartbeats 1000000 in
theorem below_any (g : Nat) (A : Option Addr) (n cap : Nat) (m : Int) (hm : m ≤ 9223372036854775807) (w : World) (hc : Cur w g A n cap) :
    Calls Try.prog 100 #[.pointer (some ⟨g, 0, none⟩), .int .i64 m] w (BelowOut w g A n cap m) := by
  by_cases h0 : m ≤ 0
  · go_enter Try.func100, Try.ntmps100
    go_wp2
    go_ret
    exact ⟨0, by omega, fun _ => rfl, fun h => by omega, rfl, hc, byG_refl _ _⟩
  · by_cases h1 : m ≤ 256
    · go_enter Try.func100, Try.ntmps100
      go_wp2_with (go_at_call 124; refine (byte_any g A n cap _ hc).mono ?_; rintro e w' ⟨x, hx0, hx1, rfl, hc1, hg1⟩)
      go_ret
      exact ⟨x % m, Int.emod_nonneg _ (by omega), fun h => by omega, fun h => Int.emod_lt_of_pos _ h, rfl, hc1, hg1⟩
    · go_enter Try.func100, Try.ntmps100
      go_wp2_with (first
        | (go_at_call 124; refine (byte_any g A n cap _ hc).mono ?_; rintro e w1 ⟨x, hx0, hx1, rfl, hc1, hg1⟩; clear hc)
        | (go_at_call 124; refine (byte_any g A n cap _ hc1).mono ?_; rintro e w2 ⟨y, hy0, hy1, rfl, hc2, hg2⟩; clear hc1)
        | (go_at_call 124; refine (byte_any g A n cap _ hc2).mono ?_; rintro e w3 ⟨z, hz0, hz1, rfl, hc3, hg3⟩; clear hc2))
      go_ret
      exact ⟨_, Int.emod_nonneg _ (by omega), fun h => by omega, fun h => Int.emod_lt_of_pos _ h, rfl, hc3, (hg1.trans hg2).trans hg3⟩

def OnceOut (w : World) (g : Nat) (A : Option Addr) (n cap : Nat) (e : Ending) (w' : World) : Prop :=
  ∃ b : Bool, e = .returned (.bool b) ∧ Cur w' g A n cap ∧ w.grownBy w' (some g)
set_option maxRecDepth 100000 in
theorem once_any (g : Nat) (A : Option Addr) (n cap : Nat) (m : Int) (hm : m ≤ 9223372036854775807) (w : World) (hc : Cur w g A n cap) :
    Calls Try.prog 97 #[.pointer (some ⟨g, 0, none⟩), .int .i64 m] w (OnceOut w g A n cap) := by
  go_enter Try.func97, Try.ntmps97
  go_wp2_with (go_at_call 100; refine (below_any g A n cap m hm _ hc).mono ?_; rintro e w' ⟨x, hx0, hx1, hx2, rfl, hc1, hg1⟩)
  go_ret
  exact ⟨_, rfl, hc1, hg1⟩

theorem far_cell {w w' : World} {g : Nat} (h : w.grownBy w' (some g)) {p : Addr} {v : Value} (hp : w.cell? p = some v) (hne : p.block ≠ g) : w'.cell? p = some v := by
  have hlt : p.block < w.heap.size := by
    rcases Nat.lt_or_ge p.block w.heap.size with hlt | hge
    · exact hlt
    · unfold World.cell? at hp; rw [Array.getElem?_eq_none hge] at hp; cases hp
  rw [World.cell?_of_block (h.block p.block hlt (fun e => hne (by injection e)))]; exact hp
/-- a list of integers, each as P asks -/
def IntsAt (P : Int → Prop) (w : World) (g : Nat) (a : Addr) (len : Nat) : Prop := a.block ≠ g ∧ ∀ j, j < len → ∃ v : Int, P v ∧ w.cell? (a.add j) = some (.int .i64 v)
def StrsAt (P : ByteArray → Prop) (w : World) (g : Nat) (a : Addr) (len : Nat) : Prop := a.block ≠ g ∧ ∀ j, j < len → ∃ v : ByteArray, P v ∧ w.cell? (a.add j) = some (.string v)
def IntOut (P : Int → Prop) (w : World) (g : Nat) (A : Option Addr) (n cap : Nat) (e : Ending) (w' : World) : Prop :=
  ∃ v : Int, P v ∧ e = .returned (.int .i64 v) ∧ Cur w' g A n cap ∧ w.grownBy w' (some g)
def StrOut (P : ByteArray → Prop) (w : World) (g : Nat) (A : Option Addr) (n cap : Nat) (e : Ending) (w' : World) : Prop :=
  ∃ v : ByteArray, P v ∧ e = .returned (.string v) ∧ Cur w' g A n cap ∧ w.grownBy w' (some g)
set_option maxRecDepth 100000 in
theorem str_any (P : ByteArray → Prop) (g : Nat) (A : Option Addr) (n cap : Nat) (a : Addr) (len c : Nat) (h0 : 0 < len) (hl : len ≤ 9223372036854775807) (w : World) (hi : StrsAt P w g a len) (hc : Cur w g A n cap) :
    Calls Try.prog 98 #[.pointer (some ⟨g, 0, none⟩), .slice (some a) len c] w (StrOut P w g A n cap) := by
  go_enter Try.func98, Try.ntmps98
  go_wp2_with (go_at_call 100; refine (below_any g A n cap (len : Int) (by omega) _ hc).mono ?_; rintro e w' ⟨x, hx0, hx1, hx2, rfl, hc1, hg1⟩; have hx3 := hx2 (by omega); clear hx1 hx2; obtain ⟨v, hv, hcv⟩ := hi.2 x.toNat (by omega); have hcv' := far_cell hg1 hcv (by rw [add_block]; exact hi.1); clear hcv)
  go_ret
  exact ⟨v, hv, rfl, hc1, hg1⟩

/-- the bytes that a draw is made from -/
def Src (w : World) (A : Option Addr) (n : Nat) : Prop :=
  n ≤ 9223372036854775807 ∧ ∀ j, j < n → ∃ (a : Addr) (x : Int), A = some a ∧ a.block < w.heap.size ∧ 0 ≤ x ∧ x ≤ 255 ∧ w.cell? (a.add j) = some (.int .u8 x)
def NewOut (w : World) (A : Option Addr) (n cap : Nat) (e : Ending) (w' : World) : Prop :=
  ∃ g : Nat, e = .returned (.pointer (some ⟨g, 0, none⟩)) ∧ w.heap.size ≤ g ∧ Cur w' g A n cap ∧ Below w.heap.size w w'
theorem new_end {A : Option Addr} {n cap : Nat} {w : World} {y : Int} (hn : n ≤ 9223372036854775807) (hs : ∀ j, j < n → ∃ (a : Addr) (x : Int), A = some a ∧ a.block < w.heap.size ∧ 0 ≤ x ∧ x ≤ 255 ∧ w.cell? (a.add j) = some (.int .u8 x)) :
    NewOut w A n cap (.returned (.pointer (some ⟨w.heap.size, 0, none⟩))) (w.alloc (.cells #[.slice A n cap, .int .i64 0, .int .i64 y] 142)) :=
  ⟨w.heap.size, rfl, Nat.le_refl _, ⟨0, y, hn, Nat.zero_le _, heap_alloc_new w _, fun j hj => by
    obtain ⟨a, x, h1, h2, h3, h4, h5⟩ := hs j hj
    exact ⟨a, x, h1, by omega, h3, h4, by rw [World.cell?_alloc_lt w _ _ (by rw [add_block]; exact h2)]; exact h5⟩⟩, (Below.refl _ _).alloc (Nat.le_refl _) _⟩
set_option maxRecDepth 100000 in
set_option maxHeartbeats 400000 in
theorem new_any (A : Option Addr) (n cap : Nat) (w : World) (hs : Src w A n) :
    Calls Try.prog 62 #[.slice A n cap] w (NewOut w A n cap) := by
  obtain ⟨hn, hsrc⟩ := hs
  go_enter Try.func62, Try.ntmps62
  go_wp2
  go_loop [3, 4] (fun h i => ∃ (k : Nat) (y : Int), k ≤ n ∧ i = .int .i64 k ∧ h = .int .i64 y) (fun _ i => n - (intOf i).toNat)
  case atStart => exact ⟨0, _, by omega, rfl, rfl⟩
  case round =>
    obtain ⟨k, y, hk, rfl, rfl⟩ := hrel
    by_cases hlt : k < n
    · obtain ⟨a, x, rfl, hab, hx0, hx1, hcell⟩ := hsrc k hlt
      by_cases h4 : (k : Int) < 4000
      · go_wp2
        go_round
        case rel => exact ⟨k + 1, _, by omega, by go_num, rfl⟩
        case measure => simp [intOf]; omega
      · go_wp2
        go_ret
        exact new_end hn hsrc
    · go_wp2
      go_ret
      exact new_end hn hsrc
end Go.Proofs.Ytnpgeneahjlkpaa

/- WHAT EVERY DRAW USES: lists of constants, the cursor behind other work, laws.big. -/
namespace Go.Proofs.Ytnpgeneahjlkpaa
open Go.RowKit Go.ChangeShapes Go.WideShapes Go.ChangeAt

def isI64 (p : Int → Bool) : Value → Bool
  | .int .i64 v => p v
  | _ => false
def isStr (p : ByteArray → Bool) : Value → Bool
  | .string v => p v
  | _ => false
theorem isI64_ex {p : Int → Bool} {u : Value} (h : isI64 p u = true) : ∃ v, p v = true ∧ u = .int .i64 v := by
  unfold isI64 at h; split at h
  · exact ⟨_, h, rfl⟩
  · cases h
theorem isStr_ex {p : ByteArray → Bool} {u : Value} (h : isStr p u = true) : ∃ v, p v = true ∧ u = .string v := by
  unfold isStr at h; split at h
  · exact ⟨_, h, rfl⟩
  · cases h
theorem new_cell (w : World) (cs : Array Value) (T : TypeId) (j : Nat) : (w.alloc (.cells cs T)).cell? ((⟨w.heap.size, 0, none⟩ : Addr).add j) = cs[j]? := by
  have e : (⟨w.heap.size, 0, none⟩ : Addr).add j = ⟨w.heap.size, j, none⟩ := by
    unfold Addr.add; split
    · subst_vars; rfl
    · simp
  rw [e, cell_of_row _ w.heap.size j cs T (0, 0) (heap_alloc_new w _)]
theorem new_ints {w : World} {g : Nat} {cs : Array Value} {T : TypeId} {len : Nat} (p : Int → Bool) (hl : len ≤ cs.size) (h : cs.toList.all (isI64 p) = true) (hg : g < w.heap.size) :
    IntsAt (fun v => p v = true) (w.alloc (.cells cs T)) g ⟨w.heap.size, 0, none⟩ len := by
  refine ⟨by show w.heap.size ≠ g; omega, fun j hj => ?_⟩
  rw [new_cell, Array.getElem?_eq_getElem (by omega)]
  obtain ⟨v, hv, e⟩ := isI64_ex (List.all_eq_true.1 h cs[j] (by simp))
  exact ⟨v, hv, by rw [e]⟩
theorem new_strs {w : World} {g : Nat} {cs : Array Value} {T : TypeId} {len : Nat} (p : ByteArray → Bool) (hl : len ≤ cs.size) (h : cs.toList.all (isStr p) = true) (hg : g < w.heap.size) :
    StrsAt (fun v => p v = true) (w.alloc (.cells cs T)) g ⟨w.heap.size, 0, none⟩ len := by
  refine ⟨by show w.heap.size ≠ g; omega, fun j hj => ?_⟩
  rw [new_cell, Array.getElem?_eq_getElem (by omega)]
  obtain ⟨v, hv, e⟩ := isStr_ex (List.all_eq_true.1 h cs[j] (by simp))
  exact ⟨v, hv, by rw [e]⟩
theorem CurI.alloc {w : World} {g : Nat} {A : Option Addr} {n cap i : Nat} {h : Int} (c : CurI w g A n cap i h) (o : Obj) : CurI (w.alloc o) g A n cap i h :=
  ⟨c.len, c.at_, (Below.heap_alloc w o g c.lt).trans c.blk, fun j hj => by
    obtain ⟨a, x, h1, h2, h3, h4, h5⟩ := c.bytes j hj
    have hlt : (a.add j).block < w.heap.size := by
      rcases Nat.lt_or_ge (a.add j).block w.heap.size with hlt | hge
      · exact hlt
      · unfold World.cell? at h5; rw [Array.getElem?_eq_none hge] at h5; cases h5
    exact ⟨a, x, h1, h2, h3, h4, by rw [World.cell?_alloc_lt w _ _ hlt]; exact h5⟩⟩
theorem Cur.alloc {w : World} {g : Nat} {A : Option Addr} {n cap : Nat} (c : Cur w g A n cap) (o : Obj) : Cur (w.alloc o) g A n cap := by
  obtain ⟨i, h, c⟩ := c; exact ⟨i, h, c.alloc o⟩
theorem Cur.lt {w : World} {g : Nat} {A : Option Addr} {n cap : Nat} (c : Cur w g A n cap) : g < w.heap.size := by
  obtain ⟨i, h, c⟩ := c; exact c.lt
theorem byG_alloc {a w : World} {row : Option Nat} (h : a.grownBy w row) (o : Obj) : a.grownBy (w.alloc o) row :=
  ⟨h.os, h.tape, h.output, Nat.le_trans h.size (by simp), fun i hi hne => (Below.heap_alloc w o i (Nat.lt_of_lt_of_le hi h.size)).trans (h.block i hi hne)⟩

def IntNew (P : Int → Prop) (w : World) (e : Ending) (w' : World) : Prop := ∃ v : Int, P v ∧ e = .returned (.int .i64 v) ∧ Below w.heap.size w w'
def StrNew (P : ByteArray → Prop) (w : World) (e : Ending) (w' : World) : Prop := ∃ v : ByteArray, P v ∧ e = .returned (.string v) ∧ Below w.heap.size w w'
/-- behind l1New, what has turned is the cursor and what is new -/
theorem below_new {w w1 w2 : World} {g : Nat} (hb : Below w.heap.size w w1) (hg : w.heap.size ≤ g) (h : w1.grownBy w2 (some g)) : Below w.heap.size w w2 :=
  hb.grown h hb.size (fun k e => by injection e with e; omega)
theorem CurI.below {w w' : World} {g : Nat} {A : Option Addr} {n cap i : Nat} {h : Int} (c : CurI w g A n cap i h) (hb : Below w.heap.size w w') : CurI w' g A n cap i h :=
  ⟨c.len, c.at_, (hb.block g c.lt).trans c.blk, fun j hj => by
    obtain ⟨a, x, h1, h2, h3, h4, h5⟩ := c.bytes j hj
    have hlt : (a.add j).block < w.heap.size := by
      rcases Nat.lt_or_ge (a.add j).block w.heap.size with hlt | hge
      · exact hlt
      · unfold World.cell? at h5; rw [Array.getElem?_eq_none hge] at h5; cases h5
    exact ⟨a, x, h1, h2, h3, h4, by rw [hb.cell hlt]; exact h5⟩⟩
theorem Cur.below {w w' : World} {g : Nat} {A : Option Addr} {n cap : Nat} (c : Cur w g A n cap) (hb : Below w.heap.size w w') : Cur w' g A n cap := by
  obtain ⟨i, h, c⟩ := c; exact ⟨i, h, c.below hb⟩
theorem byG_below {a w : World} (h : Below a.heap.size a w) (row : Option Nat) : a.grownBy w row := ⟨h.os, h.tape, h.output, h.size, fun i hi _ => h.block i hi⟩
def small (s : ByteArray) : Bool := decide (s.size ≤ 60)
/-- what the frame says of a list of bytes that came in is what the cursor asks -/
theorem src_of {w : World} {A : Option Addr} {n c : Nat} {z : List Int} (h : (A = none ∧ n = 0 ∧ c = 0 ∧ z = []) ∨ ∃ x, A = some x ∧ n ≤ c ∧ c ≤ maxLen ∧ z.length = c ∧ (∀ i, i < z.length → w.cell? (x.add i) = some (.int .u8 (z.getD i 0))) ∧ ∀ y ∈ z, (Lit.int .u8 y).wf = true) : Src w A n := by
  rcases h with ⟨_, rfl, _, _⟩ | ⟨x, rfl, hl, hm, hz, hc, hw⟩
  · exact ⟨by omega, fun j hj => by omega⟩
  · refine ⟨by unfold maxLen at hm; omega, fun j hj => ?_⟩
    have hcell := hc j (by omega)
    have hb := bounds_u8 (hw (z.getD j 0) (by rw [List.getD_eq_getElem?_getD, List.getElem?_eq_getElem (by omega), Option.getD_some]; exact List.getElem_mem _))
    have hlt : (x.add j).block < w.heap.size := by
      rcases Nat.lt_or_ge (x.add j).block w.heap.size with hlt | hge
      · exact hlt
      · unfold World.cell? at hcell; rw [Array.getElem?_eq_none hge] at hcell; cases hcell
    exact ⟨x, _, rfl, by rw [← add_block x j]; exact hlt, by omega, by omega, hcell⟩
theorem src_below {w w' : World} {A : Option Addr} {n : Nat} (h : Src w A n) (hb : Below w.heap.size w w') : Src w' A n :=
  ⟨h.1, fun j hj => by
    obtain ⟨a, x, h1, h2, h3, h4, h5⟩ := h.2 j hj
    exact ⟨a, x, h1, Nat.lt_of_lt_of_le h2 hb.size, h3, h4, by rw [hb.cell (by rw [add_block]; exact h2)]; exact h5⟩⟩
/-- a row that is neither the cursor nor what it reads may turn -/
theorem CurI.grown {w w' : World} {g r : Nat} {A : Option Addr} {n cap i : Nat} {h : Int} (c : CurI w g A n cap i h) (hg : w.grownBy w' (some r)) (hr : g ≠ r) (hA : 0 < n → ∀ a, A = some a → a.block ≠ r) : CurI w' g A n cap i h :=
  ⟨c.len, c.at_, (hg.block g c.lt (fun e => hr (Option.some.inj e))).trans c.blk, fun j hj => by
    obtain ⟨a, x, h1, h2, h3, h4, h5⟩ := c.bytes j hj
    have hlt : (a.add j).block < w.heap.size := by
      rcases Nat.lt_or_ge (a.add j).block w.heap.size with hlt | hge
      · exact hlt
      · unfold World.cell? at h5; rw [Array.getElem?_eq_none hge] at h5; cases h5
    exact ⟨a, x, h1, h2, h3, h4, by rw [World.cell?_of_block (hg.block _ hlt (fun e => hA (by omega) a h1 (by rw [add_block] at e; exact Option.some.inj e)))]; exact h5⟩⟩
theorem Cur.grown {w w' : World} {g r : Nat} {A : Option Addr} {n cap : Nat} (c : Cur w g A n cap) (hg : w.grownBy w' (some r)) (hr : g ≠ r) (hA : 0 < n → ∀ a, A = some a → a.block ≠ r) : Cur w' g A n cap := by
  obtain ⟨i, h, c⟩ := c; exact ⟨i, h, c.grown hg hr hA⟩
set_option maxRecDepth 100000 in
theorem big_any (A : Option Addr) (n cap : Nat) (w : World) :
    Calls Try.prog 29 #[.slice A n cap] w fun e w' => e = .returned (.bool (decide (4096 < n))) ∧ w = w' := by
  by_cases h : (4096 : Int) < (n : Int)
  all_goals
    go_enter Try.func29, Try.ntmps29
    go_wp2
    go_ret
    exact ⟨ret_bool (by simp; omega), rfl⟩
end Go.Proofs.Ytnpgeneahjlkpaa

/- DRAWS OF CHAPTER 2: a text, two texts put together, a list of texts. -/
namespace Go.Proofs.Ytnpgeneahjlkpaa
open Go.RowKit

def midS (s : ByteArray) : Bool := decide (s.size ≤ 200)
def ListNew (B k : Nat) (w : World) (e : Ending) (w' : World) : Prop := ∃ (v : Value) (L : List ByteArray), L.length ≤ k ∧ e = .returned v ∧ Row B w' v L ∧ Below w.heap.size w w'
end Go.Proofs.Ytnpgeneahjlkpaa

/- DRAWS OF CHAPTER 5: a pattern, a word. (Printed by wip/tools/gen_drawP.py.) -/
namespace Go.Proofs.Ytnpgeneahjlkpaa
open Go.RowKit

def SzOut5 (k : Nat) (w : World) (g : Nat) (A : Option Addr) (n cap : Nat) (e : Ending) (w' : World) : Prop := ∃ v : ByteArray, v.size ≤ k ∧ e = .returned (.string v) ∧ Cur w' g A n cap ∧ w.grownBy w' (some g)
theorem sz_40 : (⟨#[40]⟩ : ByteArray).size = 1 := rfl
theorem sz_41 : (⟨#[41]⟩ : ByteArray).size = 1 := rfl
theorem sz_42 : (⟨#[42]⟩ : ByteArray).size = 1 := rfl
theorem sz_124 : (⟨#[124]⟩ : ByteArray).size = 1 := rfl
set_option maxRecDepth 100000 in
theorem draw5_0 (g : Nat) (A : Option Addr) (n cap : Nat) (w : World) (hc : Cur w g A n cap) :
    Calls Try.prog 99 #[.pointer (some ⟨g, 0, none⟩), .int .i64 0] w (SzOut5 60 w g A n cap) := by
  go_enter Try.func99, Try.ntmps99
  go_wp2_with (go_at_call 98; refine (str_any (fun s => small s = true) g A n cap ⟨w.heap.size, 0, none⟩ 10 10 (by omega) (by omega) _ (new_strs small (by decide) (by decide) hc.lt) (hc.alloc _)).mono ?_; rintro e w' ⟨v, hv, rfl, hc1, hg1⟩)
  go_ret
  exact ⟨v, of_decide_eq_true hv, rfl, hc1, (byG_alloc (byG_refl w _) _).trans hg1⟩
set_option maxRecDepth 100000 in
set_option maxHeartbeats 1000000 in
theorem draw5_1 (g : Nat) (A : Option Addr) (n cap : Nat) (w : World) (hc : Cur w g A n cap) :
    Calls Try.prog 99 #[.pointer (some ⟨g, 0, none⟩), .int .i64 1] w (SzOut5 190 w g A n cap) := by
  have H0 := Lib.hid (fun w hc => draw5_0 g A n cap w hc)
  have H1 := Lib.hid (fun w hc => draw5_0 g A n cap w hc)
  go_enter Try.func99, Try.ntmps99
  go_wp2_with fail
  refine (below_any g A n cap 6 (by omega) _ hc).mono ?_
  rintro e w1 ⟨x, hx0, hx1, hx2, rfl, hc1, G1⟩
  clear hx1 hx2 hc
  by_cases x0 : x = 0
  · subst x0
    go_wp2_with fail
    refine (H1.out _ hc1).mono ?_
    rintro e w2 ⟨u, hu, rfl, hc2, hg⟩
    have G2 := G1.trans hg
    clear hg
    go_wp2_with fail
    refine (H1.out _ hc2).mono ?_
    rintro e w3 ⟨v, hv, rfl, hc3, hg⟩
    have G3 := G2.trans hg
    clear hg
    go_wp2
    go_ret
    exact ⟨_, by simp only [ByteArray.size_append, sz_40, sz_41, sz_124]; omega, rfl, hc3, G3⟩
  have e0 : (x == 0) = false := beq_eq_false_iff_ne.2 x0
  by_cases x1 : x = 1
  · subst x1
    go_wp2_with fail
    refine (H0.out _ hc1).mono ?_
    rintro e w2 ⟨u, hu, rfl, hc2, hg⟩
    have G2 := G1.trans hg
    clear hg
    go_wp2
    go_ret
    exact ⟨_, by simp only [ByteArray.size_append, sz_42]; omega, rfl, hc2, G2⟩
  have e1 : (x == 1) = false := beq_eq_false_iff_ne.2 x1
  by_cases x2 : x = 2
  · subst x2
    go_wp2_with fail
    refine (H1.out _ hc1).mono ?_
    rintro e w2 ⟨u, hu, rfl, hc2, hg⟩
    have G2 := G1.trans hg
    clear hg
    go_wp2_with fail
    refine (str_any (fun s => small s = true) g A n cap ⟨w2.heap.size, 0, none⟩ 3 3 (by omega) (by omega) _ (new_strs small (by decide) (by decide) hc2.lt) (hc2.alloc _)).mono ?_
    rintro e w3 ⟨z, hz, rfl, hc3, hg3⟩
    have G3 := (byG_alloc G2 _).trans hg3
    have hz' : z.size ≤ 60 := of_decide_eq_true hz
    clear hz hg3
    go_wp2
    go_ret
    exact ⟨_, by simp only [ByteArray.size_append, sz_40, sz_41]; omega, rfl, hc3, G3⟩
  have e2 : (x == 2) = false := beq_eq_false_iff_ne.2 x2
  · go_wp2_with fail
    refine (H1.out _ hc1).mono ?_
    rintro e w2 ⟨u, hu, rfl, hc2, hg⟩
    have G2 := G1.trans hg
    clear hg
    go_wp2_with fail
    refine (H1.out _ hc2).mono ?_
    rintro e w3 ⟨v, hv, rfl, hc3, hg⟩
    have G3 := G2.trans hg
    clear hg
    go_wp2
    go_ret
    exact ⟨_, by simp only [ByteArray.size_append]; omega, rfl, hc3, G3⟩
set_option maxRecDepth 100000 in
set_option maxHeartbeats 1000000 in
theorem draw5_2 (g : Nat) (A : Option Addr) (n cap : Nat) (w : World) (hc : Cur w g A n cap) :
    Calls Try.prog 99 #[.pointer (some ⟨g, 0, none⟩), .int .i64 2] w (SzOut5 450 w g A n cap) := by
  have H0 := Lib.hid (fun w hc => draw5_0 g A n cap w hc)
  have H1 := Lib.hid (fun w hc => draw5_1 g A n cap w hc)
  go_enter Try.func99, Try.ntmps99
  go_wp2_with fail
  refine (below_any g A n cap 6 (by omega) _ hc).mono ?_
  rintro e w1 ⟨x, hx0, hx1, hx2, rfl, hc1, G1⟩
  clear hx1 hx2 hc
  by_cases x0 : x = 0
  · subst x0
    go_wp2_with fail
    refine (H1.out _ hc1).mono ?_
    rintro e w2 ⟨u, hu, rfl, hc2, hg⟩
    have G2 := G1.trans hg
    clear hg
    go_wp2_with fail
    refine (H1.out _ hc2).mono ?_
    rintro e w3 ⟨v, hv, rfl, hc3, hg⟩
    have G3 := G2.trans hg
    clear hg
    go_wp2
    go_ret
    exact ⟨_, by simp only [ByteArray.size_append, sz_40, sz_41, sz_124]; omega, rfl, hc3, G3⟩
  have e0 : (x == 0) = false := beq_eq_false_iff_ne.2 x0
  by_cases x1 : x = 1
  · subst x1
    go_wp2_with fail
    refine (H0.out _ hc1).mono ?_
    rintro e w2 ⟨u, hu, rfl, hc2, hg⟩
    have G2 := G1.trans hg
    clear hg
    go_wp2
    go_ret
    exact ⟨_, by simp only [ByteArray.size_append, sz_42]; omega, rfl, hc2, G2⟩
  have e1 : (x == 1) = false := beq_eq_false_iff_ne.2 x1
  by_cases x2 : x = 2
  · subst x2
    go_wp2_with fail
    refine (H1.out _ hc1).mono ?_
    rintro e w2 ⟨u, hu, rfl, hc2, hg⟩
    have G2 := G1.trans hg
    clear hg
    go_wp2_with fail
    refine (str_any (fun s => small s = true) g A n cap ⟨w2.heap.size, 0, none⟩ 3 3 (by omega) (by omega) _ (new_strs small (by decide) (by decide) hc2.lt) (hc2.alloc _)).mono ?_
    rintro e w3 ⟨z, hz, rfl, hc3, hg3⟩
    have G3 := (byG_alloc G2 _).trans hg3
    have hz' : z.size ≤ 60 := of_decide_eq_true hz
    clear hz hg3
    go_wp2
    go_ret
    exact ⟨_, by simp only [ByteArray.size_append, sz_40, sz_41]; omega, rfl, hc3, G3⟩
  have e2 : (x == 2) = false := beq_eq_false_iff_ne.2 x2
  · go_wp2_with fail
    refine (H1.out _ hc1).mono ?_
    rintro e w2 ⟨u, hu, rfl, hc2, hg⟩
    have G2 := G1.trans hg
    clear hg
    go_wp2_with fail
    refine (H1.out _ hc2).mono ?_
    rintro e w3 ⟨v, hv, rfl, hc3, hg⟩
    have G3 := G2.trans hg
    clear hg
    go_wp2
    go_ret
    exact ⟨_, by simp only [ByteArray.size_append]; omega, rfl, hc3, G3⟩
set_option maxRecDepth 100000 in
set_option maxHeartbeats 1000000 in
theorem word5_any (g : Nat) (A : Option Addr) (n cap : Nat) (w : World) (hc : Cur w g A n cap) :
    Calls Try.prog 64 #[.pointer (some ⟨g, 0, none⟩)] w (SzOut5 400 w g A n cap) := by
  go_enter Try.func64, Try.ntmps64
  go_wp2_with (go_at_call 100; ((with_reducible refine (below_any g A n cap 6 (by omega) _ hc).mono ?_); rintro e w1 ⟨x, hx0, hx1, hx2, rfl, hc1, hg1⟩; have hx3 := hx2 (by omega); clear hx1 hx2))
  go_loopw [3, 4] (fun s i wr => ∃ (k : Nat) (v : ByteArray), i = .int .i64 k ∧ s = .string v ∧ k ≤ 5 ∧ v.size + 60 * k ≤ 300 ∧ Cur wr g A n cap ∧ w.grownBy wr (some g)) (fun _ i _ => (intOf i).toNat)
  case atStart => exact ⟨x.toNat, ⟨#[]⟩, by rw [Int.toNat_of_nonneg hx0], rfl, by omega, by show 0 + _ ≤ _; omega, hc1, hg1⟩
  case round =>
    obtain ⟨k, v, rfl, rfl, hk8, hv, hcur, hgr⟩ := hrel
    by_cases hk0 : 0 < k
    · have hv2 : v.size ≤ 300 := by omega
      go_wp2_with (go_at_call 98; ((with_reducible refine (str_any (fun s => small s = true) g A n cap ⟨wr.heap.size, 0, none⟩ 7 7 (by omega) (by omega) _ (new_strs small (by decide) (by decide) hcur.lt) (hcur.alloc _)).mono ?_); rintro e w4 ⟨u, hu, rfl, hc4, hg4⟩; have hG4 := (byG_alloc hgr _).trans hg4; have hu4 : u.size ≤ 60 := of_decide_eq_true hu; clear hcur hg4 hgr hu))
      go_roundw
      case rel => exact ⟨k - 1, _, by go_num, rfl, by omega, by rw [ByteArray.size_append]; omega, hc4, hG4⟩
      case measure => simp [intOf]; omega
    · go_wp2
      go_ret
      exact ⟨v, by omega, rfl, hcur, hgr⟩
set_option maxRecDepth 100000 in
set_option maxHeartbeats 1000000 in
theorem some5_any (g : Nat) (A : Option Addr) (n cap : Nat) (w : World) (hc : Cur w g A n cap) :
    Calls Try.prog 63 #[.pointer (some ⟨g, 0, none⟩)] w (SzOut5 450 w g A n cap) := by
  have H2 := Lib.hid (fun w hc => draw5_2 g A n cap w hc)
  go_enter Try.func63, Try.ntmps63
  go_wp2_with fail
  refine (once_any g A n cap 4 (by omega) _ hc).mono ?_
  rintro e w1 ⟨b, rfl, hc1, G1⟩
  cases b
  · go_wp2_with fail
    refine (H2.out _ hc1).mono ?_
    rintro e w2 ⟨v, hv, rfl, hc2, hg2⟩
    have G2 := G1.trans hg2
    go_wp2
    go_ret
    exact ⟨v, hv, rfl, hc2, G2⟩
  · go_wp2_with fail
    refine (str_any (fun s => small s = true) g A n cap ⟨w1.heap.size, 0, none⟩ 16 16 (by omega) (by omega) _ (new_strs small (by decide) (by decide) hc1.lt) (hc1.alloc _)).mono ?_
    rintro e w3 ⟨z, hz, rfl, hc3, hg3⟩
    have G3 := (byG_alloc G1 _).trans hg3
    have hz' : z.size ≤ 60 := of_decide_eq_true hz
    go_wp2
    go_ret
    exact ⟨z, by omega, rfl, hc3, G3⟩
def TwoNew (w : World) (e : Ending) (w' : World) : Prop := ∃ p s : ByteArray, p.size ≤ 600 ∧ s.size ≤ 400 ∧ e = .returned (.tuple #[.string p, .string s]) ∧ Below w.heap.size w w'
set_option maxRecDepth 100000 in
set_option maxHeartbeats 1000000 in
theorem drawM_any (A : Option Addr) (n cap : Nat) (w : World) (hs : Src w A n) :
    Calls Try.prog 30 #[.slice A n cap] w (TwoNew w) := by
  go_enter Try.func30, Try.ntmps30
  go_wp2_with fail
  refine (new_any A n cap _ hs).mono ?_
  rintro e w1 ⟨g, rfl, hg, hc, hb⟩
  go_wp2_with fail
  refine (some5_any g A n cap _ hc).mono ?_
  rintro e w2 ⟨p, hp, rfl, hc2, hg2⟩
  go_wp2_with fail
  refine (word5_any g A n cap _ hc2).mono ?_
  rintro e w3 ⟨s, hs3, rfl, hc3, hg3⟩
  have HB := below_new hb hg (hg2.trans hg3)
  go_wp2
  go_ret2
  exact ⟨p, s, by omega, hs3, rfl, HB⟩
end Go.Proofs.Ytnpgeneahjlkpaa
