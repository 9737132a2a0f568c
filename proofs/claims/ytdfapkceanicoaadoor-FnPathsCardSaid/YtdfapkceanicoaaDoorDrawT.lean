/- MERGED for a claim: Cur CurB DrawBase Strs DrawT. -/
import Derived.Test.YtdfapkceanicoaaDoorBase
import Derived.Deep.QuietTactic
import Derived.BigQuiet
import Derived.RegionTactic
import Derived.ChangeAlike
import Derived.IntWalk
import Derived.ProofKit
import Derived.OpenShut
import Derived.OwnWalk
import Derived.Laws.AppendOwn
import Derived.Deep.AppendLies
import Derived.Deep.Onto
import Derived.Deep.Light
set_option linter.unusedVariables false
set_option linter.unusedSimpArgs false
/- THE CURSOR OF THE DRAWS: what spec's l1.. functions on a cursor return, and that a cursor stays one. -/
namespace Go.Proofs.YtdfapkceanicoaaDoor
open Go.RowKit

/-- block g is a cursor over the bytes of the slice (A, n, cap), at place i, with the number h -/
structure CurI (w : World) (g : Nat) (A : Option Addr) (n cap i : Nat) (h : Int) : Prop where
  len : n ≤ 9223372036854775807
  at_ : i ≤ n
  blk : w.heap[g]? = some (.cells #[.slice A n cap, .int .i64 (i : Int), .int .i64 h] 64 (0, 0))
  bytes : ∀ j, j < n → ∃ (a : Addr) (x : Int), A = some a ∧ a.block ≠ g ∧ 0 ≤ x ∧ x ≤ 255 ∧ w.cell? (a.add j) = some (.int .u8 x)
def Cur (w : World) (g : Nat) (A : Option Addr) (n cap : Nat) : Prop := ∃ i h, CurI w g A n cap i h

theorem add_block (a : Addr) (j : Nat) : (a.add j).block = a.block := by unfold Addr.add; split <;> rfl
section
variable {w w' : World} {g : Nat} {A : Option Addr} {n cap i : Nat} {h : Int}
theorem CurI.lt (c : CurI w g A n cap i h) : g < w.heap.size := by
  rcases Nat.lt_or_ge g w.heap.size with hlt | hge
  · exact hlt
  · have := c.blk; rw [Array.getElem?_eq_none hge] at this; cases this
theorem CurI.drewN (c : CurI w g A n cap i h) (k : Nat) : CurI (w.drewN k) g A n cap i h := ⟨c.len, c.at_, c.blk, fun j hj => by
  obtain ⟨a, x, h1, h2, h3, h4, h5⟩ := c.bytes j hj
  exact ⟨a, x, h1, h2, h3, h4, by simpa using h5⟩⟩
theorem CurI.set2 (c : CurI w g A n cap i h) (h' : Int) : CurI (w.setCell ⟨g, 2, none⟩ (.int .i64 h')) g A n cap i h' :=
  ⟨c.len, c.at_, by rw [heap_setCell_same w g 2 _ _ _ c.blk]; rfl, fun j hj => by
    obtain ⟨a, x, h1, h2, h3, h4, h5⟩ := c.bytes j hj
    exact ⟨a, x, h1, h2, h3, h4, by rw [World.cell?_setCell_other w _ _ _ (fun e => h2 (by rw [← add_block a j, ← e]))]; exact h5⟩⟩
theorem CurI.set1 (c : CurI w g A n cap i h) {i' : Nat} (hi : i' ≤ n) : CurI (w.setCell ⟨g, 1, none⟩ (.int .i64 (i' : Int))) g A n cap i' h :=
  ⟨c.len, hi, by rw [heap_setCell_same w g 1 _ _ _ c.blk]; rfl, fun j hj => by
    obtain ⟨a, x, h1, h2, h3, h4, h5⟩ := c.bytes j hj
    exact ⟨a, x, h1, h2, h3, h4, by rw [World.cell?_setCell_other w _ _ _ (fun e => h2 (by rw [← add_block a j, ← e]))]; exact h5⟩⟩
theorem CurI.next (c : CurI w g A n cap i h) (hi : i < n) : CurI (w.setCell ⟨g, 1, none⟩ (.int .i64 ((i : Int) + 1))) g A n cap (i + 1) h := c.set1 (i' := i + 1) hi
theorem byG_drewN {a : World} {row : Option Nat} (k : a.grownBy w row) (q : Nat) : a.grownBy (w.drewN q) row := ⟨k.os, k.tape, k.output, k.size, k.block⟩
theorem byG_set {a : World} (k : a.grownBy w (some g)) (j : Nat) (u : Value) : a.grownBy (w.setCell ⟨g, j, none⟩ u) (some g) :=
  ⟨k.os, k.tape, k.output, by simpa [World.setCell] using k.size, fun b hb hne => (Below.heap_setCell w ⟨g, j, none⟩ u b (fun e => hne (by rw [e]))).trans (k.block b hb hne)⟩
end

theorem and255 (n : Int) : 0 ≤ bits .and .i64 n 255 ∧ bits .and .i64 n 255 ≤ 255 := by
  have h : ((BitVec.ofInt 64 n) &&& (BitVec.ofInt 64 255)).toNat ≤ 255 := by
    rw [BitVec.toNat_and]; exact Nat.le_trans Nat.and_le_right (by decide)
  have e : bits .and .i64 n 255 = IntKind.i64.wrap (((BitVec.ofInt 64 n) &&& (BitVec.ofInt 64 255)).toNat : Int) := rfl
  rw [e]
  generalize ((BitVec.ofInt 64 n) &&& (BitVec.ofInt 64 255)).toNat = q at h
  rw [IntWalk.i64_in _ (by omega)]
  omega

def ByteOut (w : World) (g : Nat) (A : Option Addr) (n cap : Nat) (e : Ending) (w' : World) : Prop :=
  ∃ x : Int, 0 ≤ x ∧ x ≤ 255 ∧ e = .returned (.int .i64 x) ∧ Cur w' g A n cap ∧ w.grownBy w' (some g)

set_option maxRecDepth 100000 in
set_option maxHeartbeats 1000000 in
theorem byte_any (g : Nat) (A : Option Addr) (n cap : Nat) (w : World) (hc : Cur w g A n cap) :
    Calls Tryd.prog 64 #[.pointer (some ⟨g, 0, none⟩)] w (ByteOut w g A n cap) := by
  obtain ⟨i, h, hc⟩ := hc
  have hi := hc.at_
  have hlen := hc.len
  have c0 : w.cell? ⟨g, 0, none⟩ = some (.slice A n cap) := by rw [cell_of_row w g 0 _ _ _ hc.blk]; rfl
  have c1 : w.cell? ⟨g, 1, none⟩ = some (.int .i64 (i : Int)) := by rw [cell_of_row w g 1 _ _ _ hc.blk]; rfl
  have c2 : w.cell? ⟨g, 2, none⟩ = some (.int .i64 h) := by rw [cell_of_row w g 2 _ _ _ hc.blk]; rfl
  have f1 : w.frozen? ⟨g, 1, none⟩ = false := by simp [World.frozen?, hc.blk]
  have f2 : w.frozen? ⟨g, 2, none⟩ = false := by simp [World.frozen?, hc.blk]
  have g0 : w.grownBy w (some g) := ⟨rfl, rfl, rfl, Nat.le_refl _, fun _ _ _ => rfl⟩
  by_cases hlt : i < n
  · obtain ⟨a, x, rfl, hne, hx0, hx1, hcell⟩ := hc.bytes i hlt
    have hcell' : ∀ y, (w.setCell ⟨g, 2, none⟩ y).cell? (a.add i) = some (.int .u8 x) := fun y => by
      rw [World.cell?_setCell_other w _ _ _ (fun e => hne (by rw [← add_block a i, ← e]))]; exact hcell
    have HC := Lib.hid hc
    have HG := Lib.hid g0
    clear hc g0
    go_enter Tryd.func64, Tryd.ntmps64
    go_wp2
    generalize wrap64 (wrap64 (h * 6364136223846793005) + 1442695040888963407) = y
    have hcy := hcell' (.int .i64 y)
    clear hcell' hcell
    go_quiet (fail)
    have hz := and255 (bits BinOp.xor IntKind.i64 (y / 8589934592) (y / 140737488355328))
    generalize bits BinOp.and IntKind.i64 (bits BinOp.xor IntKind.i64 (y / 8589934592) (y / 140737488355328)) 255 = z at hz ⊢
    go_wp2
    go_quiet (fail)
    go_wp2
    go_quiet (fail)
    go_wp2
    go_ret
    have hv := and255 (z + x)
    exact ⟨_, hv.1, hv.2, rfl, ⟨i + 1, y, ((HC.out.set2 y).drewN _).next (by omega)⟩, byG_set (byG_drewN (byG_set HG.out 2 _) _) 1 _⟩
  · have HC := Lib.hid hc
    have HG := Lib.hid g0
    clear hc g0
    go_enter Tryd.func64, Tryd.ntmps64
    go_wp2
    generalize wrap64 (wrap64 (h * 6364136223846793005) + 1442695040888963407) = y
    go_quiet (fail)
    have hz := and255 (bits BinOp.xor IntKind.i64 (y / 8589934592) (y / 140737488355328))
    generalize bits BinOp.and IntKind.i64 (bits BinOp.xor IntKind.i64 (y / 8589934592) (y / 140737488355328)) 255 = z at hz ⊢
    go_wp2
    go_quiet (fail)
    go_wp2
    go_ret
    exact ⟨z, hz.1, hz.2, rfl, ⟨i, y, ((HC.out.set2 y).drewN _).drewN _⟩, byG_drewN (byG_drewN (byG_set HG.out 2 _) _) _⟩
end Go.Proofs.YtdfapkceanicoaaDoor

/- THE CURSOR OF THE DRAWS, SECOND PART: l1Below, l1Once, l1Int, l1Str, l1New. -/
namespace Go.Proofs.YtdfapkceanicoaaDoor
open Go.RowKit

def BelowOut (w : World) (g : Nat) (A : Option Addr) (n cap : Nat) (m : Int) (e : Ending) (w' : World) : Prop :=
  ∃ x : Int, 0 ≤ x ∧ (m ≤ 0 → x = 0) ∧ (0 < m → x < m) ∧ e = .returned (.int .i64 x) ∧ Cur w' g A n cap ∧ w.grownBy w' (some g)
theorem byG_refl (w : World) (row : Option Nat) : w.grownBy w row := ⟨rfl, rfl, rfl, Nat.le_refl _, fun _ _ _ => rfl⟩

set_option maxRecDepth 100000 in
set_option maxHeartbeats 1000000 in
theorem below_any (g : Nat) (A : Option Addr) (n cap : Nat) (m : Int) (hm : m ≤ 9223372036854775807) (w : World) (hc : Cur w g A n cap) :
    Calls Tryd.prog 36 #[.pointer (some ⟨g, 0, none⟩), .int .i64 m] w (BelowOut w g A n cap m) := by
  by_cases h0 : m ≤ 0
  · go_enter Tryd.func36, Tryd.ntmps36
    go_wp2
    go_ret
    exact ⟨0, by omega, fun _ => rfl, fun h => by omega, rfl, hc, byG_refl _ _⟩
  · by_cases h1 : m ≤ 256
    · go_enter Tryd.func36, Tryd.ntmps36
      go_wp2_with (go_at_call 64; refine (byte_any g A n cap _ hc).mono ?_; rintro e w' ⟨x, hx0, hx1, rfl, hc1, hg1⟩)
      go_ret
      exact ⟨x % m, Int.emod_nonneg _ (by omega), fun h => by omega, fun h => Int.emod_lt_of_pos _ h, rfl, hc1, hg1⟩
    · go_enter Tryd.func36, Tryd.ntmps36
      go_wp2_with (first
        | (go_at_call 64; refine (byte_any g A n cap _ hc).mono ?_; rintro e w1 ⟨x, hx0, hx1, rfl, hc1, hg1⟩; clear hc)
        | (go_at_call 64; refine (byte_any g A n cap _ hc1).mono ?_; rintro e w2 ⟨y, hy0, hy1, rfl, hc2, hg2⟩; clear hc1)
        | (go_at_call 64; refine (byte_any g A n cap _ hc2).mono ?_; rintro e w3 ⟨z, hz0, hz1, rfl, hc3, hg3⟩; clear hc2))
      go_ret
      exact ⟨_, Int.emod_nonneg _ (by omega), fun h => by omega, fun h => Int.emod_lt_of_pos _ h, rfl, hc3, (hg1.trans hg2).trans hg3⟩

def OnceOut (w : World) (g : Nat) (A : Option Addr) (n cap : Nat) (e : Ending) (w' : World) : Prop :=
  ∃ b : Bool, e = .returned (.bool b) ∧ Cur w' g A n cap ∧ w.grownBy w' (some g)
set_option maxRecDepth 100000 in
theorem once_any (g : Nat) (A : Option Addr) (n cap : Nat) (m : Int) (hm : m ≤ 9223372036854775807) (w : World) (hc : Cur w g A n cap) :
    Calls Tryd.prog 62 #[.pointer (some ⟨g, 0, none⟩), .int .i64 m] w (OnceOut w g A n cap) := by
  go_enter Tryd.func62, Tryd.ntmps62
  go_wp2_with (go_at_call 36; refine (below_any g A n cap m hm _ hc).mono ?_; rintro e w' ⟨x, hx0, hx1, hx2, rfl, hc1, hg1⟩)
  go_ret
  exact ⟨_, rfl, hc1, hg1⟩

theorem far_cell {w w' : World} {g : Nat} (h : w.grownBy w' (some g)) {p : Addr} {v : Value} (hp : w.cell? p = some v) (hne : p.block ≠ g) : w'.cell? p = some v := by
  have hlt : p.block < w.heap.size := by
    rcases Nat.lt_or_ge p.block w.heap.size with hlt | hge
    · exact hlt
    · unfold World.cell? at hp; rw [Array.getElem?_eq_none hge] at hp; cases hp
  rw [World.cell?_of_block (h.block p.block hlt (fun e => hne (by injection e)))]; exact hp
/-- a list of integers, each as P asks -/
def IntsAt (P : Int → Prop) (w : World) (g : Nat) (a : Addr) (len : Nat) : Prop := a.block ≠ g ∧ ∀ j, j < len → ∃ v : Int, P v ∧ w.cell? (a.add j) = some (.int .i64 v)
def StrsAt (P : ByteArray → Prop) (w : World) (g : Nat) (a : Addr) (len : Nat) : Prop := a.block ≠ g ∧ ∀ j, j < len → ∃ v : ByteArray, P v ∧ w.cell? (a.add j) = some (.string v)
def IntOut (P : Int → Prop) (w : World) (g : Nat) (A : Option Addr) (n cap : Nat) (e : Ending) (w' : World) : Prop :=
  ∃ v : Int, P v ∧ e = .returned (.int .i64 v) ∧ Cur w' g A n cap ∧ w.grownBy w' (some g)
def StrOut (P : ByteArray → Prop) (w : World) (g : Nat) (A : Option Addr) (n cap : Nat) (e : Ending) (w' : World) : Prop :=
  ∃ v : ByteArray, P v ∧ e = .returned (.string v) ∧ Cur w' g A n cap ∧ w.grownBy w' (some g)
set_option maxRecDepth 100000 in
theorem int_any (P : Int → Prop) (g : Nat) (A : Option Addr) (n cap : Nat) (a : Addr) (len c : Nat) (h0 : 0 < len) (hl : len ≤ 9223372036854775807) (w : World) (hi : IntsAt P w g a len) (hc : Cur w g A n cap) :
    Calls Tryd.prog 65 #[.pointer (some ⟨g, 0, none⟩), .slice (some a) len c] w (IntOut P w g A n cap) := by
  go_enter Tryd.func65, Tryd.ntmps65
  go_wp2_with (go_at_call 36; refine (below_any g A n cap (len : Int) (by omega) _ hc).mono ?_; rintro e w' ⟨x, hx0, hx1, hx2, rfl, hc1, hg1⟩; have hx3 := hx2 (by omega); clear hx1 hx2; obtain ⟨v, hv, hcv⟩ := hi.2 x.toNat (by omega); have hcv' := far_cell hg1 hcv (by rw [add_block]; exact hi.1); clear hcv)
  go_ret
  exact ⟨v, hv, rfl, hc1, hg1⟩
set_option maxRecDepth 100000 in
theorem str_any (P : ByteArray → Prop) (g : Nat) (A : Option Addr) (n cap : Nat) (a : Addr) (len c : Nat) (h0 : 0 < len) (hl : len ≤ 9223372036854775807) (w : World) (hi : StrsAt P w g a len) (hc : Cur w g A n cap) :
    Calls Tryd.prog 38 #[.pointer (some ⟨g, 0, none⟩), .slice (some a) len c] w (StrOut P w g A n cap) := by
  go_enter Tryd.func38, Tryd.ntmps38
  go_wp2_with (go_at_call 36; refine (below_any g A n cap (len : Int) (by omega) _ hc).mono ?_; rintro e w' ⟨x, hx0, hx1, hx2, rfl, hc1, hg1⟩; have hx3 := hx2 (by omega); clear hx1 hx2; obtain ⟨v, hv, hcv⟩ := hi.2 x.toNat (by omega); have hcv' := far_cell hg1 hcv (by rw [add_block]; exact hi.1); clear hcv)
  go_ret
  exact ⟨v, hv, rfl, hc1, hg1⟩

/-- the bytes that a draw is made from -/
def Src (w : World) (A : Option Addr) (n : Nat) : Prop :=
  n ≤ 9223372036854775807 ∧ ∀ j, j < n → ∃ (a : Addr) (x : Int), A = some a ∧ a.block < w.heap.size ∧ 0 ≤ x ∧ x ≤ 255 ∧ w.cell? (a.add j) = some (.int .u8 x)
def NewOut (w : World) (A : Option Addr) (n cap : Nat) (e : Ending) (w' : World) : Prop :=
  ∃ g : Nat, e = .returned (.pointer (some ⟨g, 0, none⟩)) ∧ w.heap.size ≤ g ∧ Cur w' g A n cap ∧ Below w.heap.size w w'
theorem new_end {A : Option Addr} {n cap : Nat} {w : World} {y : Int} (hn : n ≤ 9223372036854775807) (hs : ∀ j, j < n → ∃ (a : Addr) (x : Int), A = some a ∧ a.block < w.heap.size ∧ 0 ≤ x ∧ x ≤ 255 ∧ w.cell? (a.add j) = some (.int .u8 x)) :
    NewOut w A n cap (.returned (.pointer (some ⟨w.heap.size, 0, none⟩))) (w.alloc (.cells #[.slice A n cap, .int .i64 0, .int .i64 y] 64)) :=
  ⟨w.heap.size, rfl, Nat.le_refl _, ⟨0, y, hn, Nat.zero_le _, heap_alloc_new w _, fun j hj => by
    obtain ⟨a, x, h1, h2, h3, h4, h5⟩ := hs j hj
    exact ⟨a, x, h1, by omega, h3, h4, by rw [World.cell?_alloc_lt w _ _ (by rw [add_block]; exact h2)]; exact h5⟩⟩, (Below.refl _ _).alloc (Nat.le_refl _) _⟩
set_option maxRecDepth 100000 in
set_option maxHeartbeats 400000 in
theorem new_any (A : Option Addr) (n cap : Nat) (w : World) (hs : Src w A n) :
    Calls Tryd.prog 17 #[.slice A n cap] w (NewOut w A n cap) := by
  obtain ⟨hn, hsrc⟩ := hs
  go_enter Tryd.func17, Tryd.ntmps17
  go_wp2
  go_loop [3, 4] (fun h i => ∃ (k : Nat) (y : Int), k ≤ n ∧ i = .int .i64 k ∧ h = .int .i64 y) (fun _ i => n - (intOf i).toNat)
  case atStart => exact ⟨0, _, by omega, rfl, rfl⟩
  case round =>
    obtain ⟨k, y, hk, rfl, rfl⟩ := hrel
    by_cases hlt : k < n
    · obtain ⟨a, x, rfl, hab, hx0, hx1, hcell⟩ := hsrc k hlt
      by_cases h4 : (k : Int) < 4000
      · go_wp2
        go_round
        case rel => exact ⟨k + 1, _, by omega, by go_num, rfl⟩
        case measure => simp [intOf]; omega
      · go_wp2
        go_ret
        exact new_end hn hsrc
    · go_wp2
      go_ret
      exact new_end hn hsrc
end Go.Proofs.YtdfapkceanicoaaDoor

/- WHAT EVERY DRAW USES: lists of constants, the cursor behind other work, laws.big. -/
namespace Go.Proofs.YtdfapkceanicoaaDoor
open Go.RowKit Go.ChangeShapes Go.WideShapes Go.ChangeAt

def isI64 (p : Int → Bool) : Value → Bool
  | .int .i64 v => p v
  | _ => false
def isStr (p : ByteArray → Bool) : Value → Bool
  | .string v => p v
  | _ => false
theorem isI64_ex {p : Int → Bool} {u : Value} (h : isI64 p u = true) : ∃ v, p v = true ∧ u = .int .i64 v := by
  unfold isI64 at h; split at h
  · exact ⟨_, h, rfl⟩
  · cases h
theorem isStr_ex {p : ByteArray → Bool} {u : Value} (h : isStr p u = true) : ∃ v, p v = true ∧ u = .string v := by
  unfold isStr at h; split at h
  · exact ⟨_, h, rfl⟩
  · cases h
theorem new_cell (w : World) (cs : Array Value) (T : TypeId) (j : Nat) : (w.alloc (.cells cs T)).cell? ((⟨w.heap.size, 0, none⟩ : Addr).add j) = cs[j]? := by
  have e : (⟨w.heap.size, 0, none⟩ : Addr).add j = ⟨w.heap.size, j, none⟩ := by
    unfold Addr.add; split
    · subst_vars; rfl
    · simp
  rw [e, cell_of_row _ w.heap.size j cs T (0, 0) (heap_alloc_new w _)]
theorem new_ints {w : World} {g : Nat} {cs : Array Value} {T : TypeId} {len : Nat} (p : Int → Bool) (hl : len ≤ cs.size) (h : cs.toList.all (isI64 p) = true) (hg : g < w.heap.size) :
    IntsAt (fun v => p v = true) (w.alloc (.cells cs T)) g ⟨w.heap.size, 0, none⟩ len := by
  refine ⟨by show w.heap.size ≠ g; omega, fun j hj => ?_⟩
  rw [new_cell, Array.getElem?_eq_getElem (by omega)]
  obtain ⟨v, hv, e⟩ := isI64_ex (List.all_eq_true.1 h cs[j] (by simp))
  exact ⟨v, hv, by rw [e]⟩
theorem new_strs {w : World} {g : Nat} {cs : Array Value} {T : TypeId} {len : Nat} (p : ByteArray → Bool) (hl : len ≤ cs.size) (h : cs.toList.all (isStr p) = true) (hg : g < w.heap.size) :
    StrsAt (fun v => p v = true) (w.alloc (.cells cs T)) g ⟨w.heap.size, 0, none⟩ len := by
  refine ⟨by show w.heap.size ≠ g; omega, fun j hj => ?_⟩
  rw [new_cell, Array.getElem?_eq_getElem (by omega)]
  obtain ⟨v, hv, e⟩ := isStr_ex (List.all_eq_true.1 h cs[j] (by simp))
  exact ⟨v, hv, by rw [e]⟩
theorem CurI.alloc {w : World} {g : Nat} {A : Option Addr} {n cap i : Nat} {h : Int} (c : CurI w g A n cap i h) (o : Obj) : CurI (w.alloc o) g A n cap i h :=
  ⟨c.len, c.at_, (Below.heap_alloc w o g c.lt).trans c.blk, fun j hj => by
    obtain ⟨a, x, h1, h2, h3, h4, h5⟩ := c.bytes j hj
    have hlt : (a.add j).block < w.heap.size := by
      rcases Nat.lt_or_ge (a.add j).block w.heap.size with hlt | hge
      · exact hlt
      · unfold World.cell? at h5; rw [Array.getElem?_eq_none hge] at h5; cases h5
    exact ⟨a, x, h1, h2, h3, h4, by rw [World.cell?_alloc_lt w _ _ hlt]; exact h5⟩⟩
theorem Cur.alloc {w : World} {g : Nat} {A : Option Addr} {n cap : Nat} (c : Cur w g A n cap) (o : Obj) : Cur (w.alloc o) g A n cap := by
  obtain ⟨i, h, c⟩ := c; exact ⟨i, h, c.alloc o⟩
theorem Cur.lt {w : World} {g : Nat} {A : Option Addr} {n cap : Nat} (c : Cur w g A n cap) : g < w.heap.size := by
  obtain ⟨i, h, c⟩ := c; exact c.lt
theorem byG_alloc {a w : World} {row : Option Nat} (h : a.grownBy w row) (o : Obj) : a.grownBy (w.alloc o) row :=
  ⟨h.os, h.tape, h.output, Nat.le_trans h.size (by simp), fun i hi hne => (Below.heap_alloc w o i (Nat.lt_of_lt_of_le hi h.size)).trans (h.block i hi hne)⟩

def IntNew (P : Int → Prop) (w : World) (e : Ending) (w' : World) : Prop := ∃ v : Int, P v ∧ e = .returned (.int .i64 v) ∧ Below w.heap.size w w'
def StrNew (P : ByteArray → Prop) (w : World) (e : Ending) (w' : World) : Prop := ∃ v : ByteArray, P v ∧ e = .returned (.string v) ∧ Below w.heap.size w w'
/-- behind l1New, what has turned is the cursor and what is new -/
theorem below_new {w w1 w2 : World} {g : Nat} (hb : Below w.heap.size w w1) (hg : w.heap.size ≤ g) (h : w1.grownBy w2 (some g)) : Below w.heap.size w w2 :=
  hb.grown h hb.size (fun k e => by injection e with e; omega)
theorem CurI.below {w w' : World} {g : Nat} {A : Option Addr} {n cap i : Nat} {h : Int} (c : CurI w g A n cap i h) (hb : Below w.heap.size w w') : CurI w' g A n cap i h :=
  ⟨c.len, c.at_, (hb.block g c.lt).trans c.blk, fun j hj => by
    obtain ⟨a, x, h1, h2, h3, h4, h5⟩ := c.bytes j hj
    have hlt : (a.add j).block < w.heap.size := by
      rcases Nat.lt_or_ge (a.add j).block w.heap.size with hlt | hge
      · exact hlt
      · unfold World.cell? at h5; rw [Array.getElem?_eq_none hge] at h5; cases h5
    exact ⟨a, x, h1, h2, h3, h4, by rw [hb.cell hlt]; exact h5⟩⟩
theorem Cur.below {w w' : World} {g : Nat} {A : Option Addr} {n cap : Nat} (c : Cur w g A n cap) (hb : Below w.heap.size w w') : Cur w' g A n cap := by
  obtain ⟨i, h, c⟩ := c; exact ⟨i, h, c.below hb⟩
theorem byG_below {a w : World} (h : Below a.heap.size a w) (row : Option Nat) : a.grownBy w row := ⟨h.os, h.tape, h.output, h.size, fun i hi _ => h.block i hi⟩
def small (s : ByteArray) : Bool := decide (s.size ≤ 60)
/-- what the frame says of a list of bytes that came in is what the cursor asks -/
theorem src_of {w : World} {A : Option Addr} {n c : Nat} {z : List Int} (h : (A = none ∧ n = 0 ∧ c = 0 ∧ z = []) ∨ ∃ x, A = some x ∧ n ≤ c ∧ c ≤ maxLen ∧ z.length = c ∧ (∀ i, i < z.length → w.cell? (x.add i) = some (.int .u8 (z.getD i 0))) ∧ ∀ y ∈ z, (Lit.int .u8 y).wf = true) : Src w A n := by
  rcases h with ⟨_, rfl, _, _⟩ | ⟨x, rfl, hl, hm, hz, hc, hw⟩
  · exact ⟨by omega, fun j hj => by omega⟩
  · refine ⟨by unfold maxLen at hm; omega, fun j hj => ?_⟩
    have hcell := hc j (by omega)
    have hb := bounds_u8 (hw (z.getD j 0) (by rw [List.getD_eq_getElem?_getD, List.getElem?_eq_getElem (by omega), Option.getD_some]; exact List.getElem_mem _))
    have hlt : (x.add j).block < w.heap.size := by
      rcases Nat.lt_or_ge (x.add j).block w.heap.size with hlt | hge
      · exact hlt
      · unfold World.cell? at hcell; rw [Array.getElem?_eq_none hge] at hcell; cases hcell
    exact ⟨x, _, rfl, by rw [← add_block x j]; exact hlt, by omega, by omega, hcell⟩
theorem src_below {w w' : World} {A : Option Addr} {n : Nat} (h : Src w A n) (hb : Below w.heap.size w w') : Src w' A n :=
  ⟨h.1, fun j hj => by
    obtain ⟨a, x, h1, h2, h3, h4, h5⟩ := h.2 j hj
    exact ⟨a, x, h1, Nat.lt_of_lt_of_le h2 hb.size, h3, h4, by rw [hb.cell (by rw [add_block]; exact h2)]; exact h5⟩⟩
/-- a row that is neither the cursor nor what it reads may turn -/
theorem CurI.grown {w w' : World} {g r : Nat} {A : Option Addr} {n cap i : Nat} {h : Int} (c : CurI w g A n cap i h) (hg : w.grownBy w' (some r)) (hr : g ≠ r) (hA : 0 < n → ∀ a, A = some a → a.block ≠ r) : CurI w' g A n cap i h :=
  ⟨c.len, c.at_, (hg.block g c.lt (fun e => hr (Option.some.inj e))).trans c.blk, fun j hj => by
    obtain ⟨a, x, h1, h2, h3, h4, h5⟩ := c.bytes j hj
    have hlt : (a.add j).block < w.heap.size := by
      rcases Nat.lt_or_ge (a.add j).block w.heap.size with hlt | hge
      · exact hlt
      · unfold World.cell? at h5; rw [Array.getElem?_eq_none hge] at h5; cases h5
    exact ⟨a, x, h1, h2, h3, h4, by rw [World.cell?_of_block (hg.block _ hlt (fun e => hA (by omega) a h1 (by rw [add_block] at e; exact Option.some.inj e)))]; exact h5⟩⟩
theorem Cur.grown {w w' : World} {g r : Nat} {A : Option Addr} {n cap : Nat} (c : Cur w g A n cap) (hg : w.grownBy w' (some r)) (hr : g ≠ r) (hA : 0 < n → ∀ a, A = some a → a.block ≠ r) : Cur w' g A n cap := by
  obtain ⟨i, h, c⟩ := c; exact ⟨i, h, c.grown hg hr hA⟩
set_option maxRecDepth 100000 in
theorem big_any (A : Option Addr) (n cap : Nat) (w : World) :
    Calls Tryd.prog 5 #[.slice A n cap] w fun e w' => e = .returned (.bool (decide (4096 < n))) ∧ w = w' := by
  by_cases h : (4096 : Int) < (n : Int)
  all_goals
    go_enter Tryd.func5, Tryd.ntmps5
    go_wp2
    go_ret
    exact ⟨ret_bool (by simp; omega), rfl⟩
end Go.Proofs.YtdfapkceanicoaaDoor

/- LISTS OF TEXTS: a slice that is read ('Has'), a slice of the call's own ('Row'); laws.szStringS, toStringS, eqStringS. -/
namespace Go.Proofs.YtdfapkceanicoaaDoor
open Go.RowKit

theorem infoStr : (Tryd.prog.info? 9).map (fun i => (i.zero, i.size, i.bytes)) = some (some (.string ⟨#[]⟩), 1, 16) := by kernel_rfl
/-- the value v is a slice that holds the texts l -/
def Has (w : World) (v : Value) (l : List ByteArray) : Prop :=
  ∃ (A : Option Addr) (cap : Nat), v = .slice A l.length cap ∧ l.length ≤ 9223372036854775807 ∧ ∀ i (h : i < l.length), ∃ a, A = some a ∧ a.block < w.heap.size ∧ w.cell? (a.add i) = some (.string l[i])
/-- the slice v is the call's own (its block is from B on) and holds the texts l -/
def Row (B : Nat) (w : World) (v : Value) (l : List ByteArray) : Prop := w.ownsRow B 9 1 v l.length (l.map Value.string)
theorem add_blk (a : Addr) (j : Nat) : (a.add j).block = a.block := by unfold Addr.add; split <;> rfl
theorem add_zero (g j : Nat) : (⟨g, 0, none⟩ : Addr).add j = ⟨g, j, none⟩ := by
  unfold Addr.add; split
  · subst_vars; rfl
  · simp
theorem Has.below {w w' : World} {v : Value} {l : List ByteArray} (h : Has w v l) (hb : Below w.heap.size w w') : Has w' v l := by
  obtain ⟨A, cap, hv, hn, h⟩ := h
  refine ⟨A, cap, hv, hn, fun i hi => ?_⟩
  obtain ⟨a, h1, h2, h3⟩ := h i hi
  exact ⟨a, h1, Nat.lt_of_lt_of_le h2 hb.size, by rw [hb.cell (by rw [add_blk]; exact h2)]; exact h3⟩
theorem Row.cell {B : Nat} {w : World} {l : List ByteArray} {g cap n : Nat} (h : Row B w (.slice (some ⟨g, 0, none⟩) n cap) l) {i : Nat} (hi : i < l.length) : w.cell? ⟨g, i, none⟩ = some (.string l[i]) := by
  have := h.cells (g := g) rfl i (.string l[i]) (by rw [List.getElem?_map, List.getElem?_eq_getElem hi]; rfl)
  rwa [add_zero] at this
theorem Row.len {B : Nat} {w : World} {v : Value} {l : List ByteArray} (h : Row B w v l) : l.length ≤ 9223372036854775807 := by
  rcases h.2 with ⟨_, h0⟩ | ⟨g, cap, cur, _, _, _, h1, h2, _, _⟩
  · omega
  · unfold maxLen at h2; omega
theorem Row.form {B : Nat} {w : World} {v : Value} {l : List ByteArray} (h : Row B w v l) : (v = .slice none 0 0 ∧ l = []) ∨ ∃ g cap, v = .slice (some ⟨g, 0, none⟩) l.length cap ∧ B ≤ g ∧ g < w.heap.size := by
  rcases h.2 with ⟨h1, h0⟩ | ⟨g, cap, cur, h1, h2, h3, _⟩
  · exact .inl ⟨h1, List.length_eq_zero_iff.1 h0⟩
  · exact .inr ⟨g, cap, h1, h2, (Array.getElem?_eq_some_iff.1 h3).1⟩
theorem Row.has {B : Nat} {w : World} {v : Value} {l : List ByteArray} (h : Row B w v l) : Has w v l := by
  rcases h.form with ⟨rfl, rfl⟩ | ⟨g, cap, rfl, _, hg⟩
  · exact ⟨none, 0, rfl, by simp, fun i hi => absurd hi (by simp)⟩
  · exact ⟨_, cap, rfl, h.len, fun i hi => ⟨_, rfl, hg, by rw [add_zero]; exact h.cell hi⟩⟩
theorem has_nil (w : World) : Has w (.slice none 0 0) [] := ⟨none, 0, rfl, by simp, fun i hi => absurd hi (by simp)⟩
theorem lt_of_cell {w : World} {p : Addr} {v : Value} (h : w.cell? p = some v) : p.block < w.heap.size := by
  rcases Nat.lt_or_ge p.block w.heap.size with hlt | hge
  · exact hlt
  · unfold World.cell? at h; rw [Array.getElem?_eq_none hge] at h; cases h
/-- an argument that reads as a list of texts -/
theorem has_of {w : World} {x : Addr} {n c : Nat} {ss : List ByteArray} (hl : n ≤ ss.length) (hm : n ≤ maxLen) (hcell : ∀ i, i < ss.length → w.cell? (x.add i) = some (.string (ss.getD i ByteArray.empty))) : Has w (.slice (some x) n c) (ss.take n) := by
  have e : (ss.take n).length = n := by rw [List.length_take]; omega
  refine ⟨some x, c, by rw [e], by rw [e]; unfold maxLen at hm; omega, fun i hi => ?_⟩
  have hi' : i < ss.length := by rw [e] at hi; omega
  have h := hcell i hi'
  refine ⟨x, rfl, by have := lt_of_cell h; rwa [add_blk] at this, ?_⟩
  rw [h, List.getElem_take, List.getD_eq_getElem?_getD, List.getElem?_eq_getElem hi', Option.getD_some]
theorem Row.alloc {B : Nat} {w : World} {v : Value} {l : List ByteArray} (h : Row B w v l) (o : Obj) : Row B (w.alloc o) v l := World.ownsRow.alloc h o
theorem Row.below {B : Nat} {w w' : World} {v : Value} {l : List ByteArray} (h : Row B w v l) (hb : Below w.heap.size w w') : Row B w' v l :=
  h.kept (row := none) ⟨hb.os, hb.tape, hb.output, hb.size, fun k hk _ => hb.block k hk⟩ (by
    rcases h.form with ⟨rfl, _⟩ | ⟨g, cap, rfl, _, _⟩ <;> simp [Value.ownBlock])
theorem Row.other {B : Nat} {w w' : World} {v u : Value} {l : List ByteArray} (h : Row B w v l) (hg : w.grownBy w' u.ownBlock) (hne : ∀ k, v.ownBlock = some k → u.ownBlock ≠ some k) : Row B w' v l :=
  h.kept hg (by
    cases e : v.ownBlock with
    | none => exact .inl rfl
    | some k => exact .inr fun e' => hne k e e'.symm)
theorem Row.mono {B B' : Nat} {w : World} {v : Value} {l : List ByteArray} (h : Row B w v l) (hb : B' ≤ B) : Row B' w v l := World.ownsRow.mono h hb
theorem Row.lt {B : Nat} {w : World} {v : Value} {l : List ByteArray} (h : Row B w v l) {k : Nat} (hk : v.ownBlock = some k) : B ≤ k ∧ k < w.heap.size := World.ownsRow.lt h k hk
theorem Row.set {B : Nat} {w : World} {l : List ByteArray} {g cap n : Nat} (h : Row B w (.slice (some ⟨g, 0, none⟩) n cap) l) (hn : n = l.length) (i : Nat) (s : ByteArray) :
    Row B (w.setCell ⟨g, i, none⟩ (.string s)) (.slice (some ⟨g, 0, none⟩) n cap) (l.set i s) ∧ w.grownBy (w.setCell ⟨g, i, none⟩ (.string s)) (some g) := by
  subst hn
  have := World.ownsRow.stored h i (.string s)
  refine ⟨?_, this.2⟩
  unfold Row
  rw [List.length_set, List.map_set]
  exact this.1
theorem Row.frozen {B : Nat} {w : World} {l : List ByteArray} {g cap n : Nat} (h : Row B w (.slice (some ⟨g, 0, none⟩) n cap) l) (hn : n = l.length) (i : Nat) : w.frozen? ⟨g, i, none⟩ = false := by
  subst hn; exact World.ownsRow.frozenAt h i
theorem below_drewN {B : Nat} {a w : World} (h : Below B a w) (q : Nat) : Below B a (w.drewN q) := ⟨h.os, h.tape, h.output, h.size, h.block⟩
theorem grown_below {w w' : World} {row : Option Nat} (h : Below w.heap.size w w') : w.grownBy w' row := ⟨h.os, h.tape, h.output, h.size, fun k hk _ => h.block k hk⟩
theorem below_of {w w' : World} (h : w.grownBy w' none) : Below w.heap.size w w' := (Below.refl _ _).grown h (Nat.le_refl _) (by simp)
theorem set_fill {l : List ByteArray} {k : Nat} (hk : k < l.length) (m : Nat) (z : ByteArray) (hm : m = l.length - k) : (l.take k ++ List.replicate m z).set k l[k] = l.take (k + 1) ++ List.replicate (m - 1) z := by
  subst hm
  obtain ⟨m, hm⟩ : ∃ m, l.length - k = m + 1 := ⟨l.length - k - 1, by omega⟩
  rw [hm, List.replicate_succ, List.set_append_right _ _ (by simp only [List.length_take]; exact Nat.min_le_left _ _), List.length_take, Nat.min_eq_left (by omega), Nat.sub_self, List.set_cons_zero, Nat.add_sub_cancel, List.take_succ_eq_append_getElem hk, List.append_assoc]
  rfl

theorem Row.cap' {B : Nat} {w : World} {l : List ByteArray} {g cap n : Nat} (h : Row B w (.slice (some ⟨g, 0, none⟩) n cap) l) : n = l.length := by
  rcases h.2 with ⟨h', _⟩ | ⟨g', cap', cur, h', _⟩
  · cases h'
  · cases h'; rfl
/-- 'append(own, news...)' at a step of a region that draws its order -/
theorem step_row_append {w : World} {ops : Array Oper} {o : Oper} {a : Act} {K : Act → World → Prop} {Q : Exit → Act → World → Prop} {E : Prop} (hgd : o.guard = none) (s x : Operand)
    (ho : o.op = .call { callee := .builtin .append, args := #[s, x], argTypes := #[46, 46] })
    (B g n c : Nat) (L : List ByteArray) (hs : a.eval s = .slice (some ⟨g, 0, none⟩) n c) (hrow : Row B w (.slice (some ⟨g, 0, none⟩) n c) L) (hnL : n = L.length)
    (ad : Addr) (m c' : Nat) (news : List ByteArray) (hx : a.eval x = .slice (some ad) m c') (hm : m = news.length) (hnews : ∀ j (h : j < news.length), w.cell? (ad.add j) = some (.string news[j]))
    (hlen : n + m ≤ 4194304) (hbase : B ≤ w.heap.size) (q : Nat) (hq : q = n + m)
    (h : ∀ g' c'' w', Row B w' (.slice (some ⟨g', 0, none⟩) q c'') (L ++ news) → w.grownBy w' (some g) → K (a.put o.dst (.slice (some ⟨g', 0, none⟩) q c'')) w') :
    if Region.wanted o (yielded ops a.tmps) = true then Oper.wp Tryd.prog o a w K Q else E := by
  have hw : Region.wanted o (yielded ops a.tmps) = true := by simp [Region.wanted, hgd]
  rw [if_pos hw]
  obtain ⟨i0, hi, hz0, hz1, hz2⟩ := info_parts infoStr
  subst hq
  subst hnL hm
  refine wp_append_own w s x 46 ho B 9 i0 (.string ⟨#[]⟩) 1 16 Tryd.underlying46 hi hz0 hz1 hz2 rfl (by decide) _ L.length (L.map Value.string) hs hrow ad news.length c' (news.map Value.string) hx (by simp) (fun j u hj => ?_) (fun u hu => ?_) (by unfold maxLen; omega) (by omega) hbase ?_
  · rw [List.getElem?_map] at hj
    cases hlj : news[j]? with
    | none => rw [hlj] at hj; cases hj
    | some y =>
      rw [hlj] at hj; cases hj
      obtain ⟨hj', hy⟩ := List.getElem?_eq_some_iff.1 hlj
      rw [hnews j hj', hy]
  · obtain ⟨y, _, rfl⟩ := List.mem_map.1 hu; rfl
  · intro v' w' h2 h3 h4
    rcases h2.2 with ⟨h5, _⟩ | ⟨g', cap', cur, h5, _⟩
    · exact absurd (h4.1 h5).1 (by simp)
    · subst h5
      refine h g' cap' w' ?_ h3
      unfold Row
      rw [List.length_append, List.map_append]
      exact h2
/-- the same in a list of operations: 'own = append(own, x)' where x lies in the block that the statement has just laid -/
theorem wpList_row_append {ops : Array Oper} {rest : List Oper} {o : Oper} {a : Act} {Q : Exit → Act → World → Prop} {w : World} (hgd : o.guard = none) (s x : Operand)
    (ho : o.op = .call { callee := .builtin .append, args := #[s, x], argTypes := #[46, 46] })
    (B g n c : Nat) (L : List ByteArray) (hs : a.eval s = .slice (some ⟨g, 0, none⟩) n c) (hrow : Row B w (.slice (some ⟨g, 0, none⟩) n c) L)
    (y : ByteArray) (hx : a.eval x = .slice (some ⟨w.heap.size, 0, none⟩) 1 1) (hlen : n + 1 ≤ 4194304) (hbase : B ≤ w.heap.size) (q : Nat) (hq : q = n + 1)
    (h : ∀ g' c'' w', Row B w' (.slice (some ⟨g', 0, none⟩) q c'') (L ++ [y]) → (w.alloc (.cells #[.string y] 9)).grownBy w' (some g) → wpList Tryd.prog ops Q rest (a.put o.dst (.slice (some ⟨g', 0, none⟩) q c'')) w') :
    wpList Tryd.prog ops Q (o :: rest) a (w.alloc (.cells #[.string y] 9)) := by
  obtain ⟨i0, hi, hz0, hz1, hz2⟩ := info_parts infoStr
  have hnL := hrow.cap'
  subst hq
  subst hnL
  refine wpList_append_own _ hgd s x 46 ho B 9 i0 (.string ⟨#[]⟩) 1 16 Tryd.underlying46 hi hz0 hz1 hz2 rfl (by decide) _ L.length (L.map Value.string) hs (hrow.alloc _) ⟨w.heap.size, 0, none⟩ 1 1 [.string y] hx rfl (World.news_of_block (heap_alloc_new w _)) (by simp [Value.oneCell']) (by unfold maxLen; omega) (by omega) (Nat.le_trans hbase ((Below.refl 0 w).alloc (Nat.zero_le _) _).size) ?_
  intro v' w' h2 h3 h4
  rcases h2.2 with ⟨h5, _⟩ | ⟨g', cap', cur, h5, _⟩
  · exact absurd (h4.1 h5).1 (by simp)
  · subst h5
    refine h g' cap' w' ?_ h3
    unfold Row
    rw [List.length_append, List.map_append]
    exact h2
theorem s_alloc {w3 W : World} {p : Addr} {v : Value} (h : W.cell? p = some v ∧ Below w3.heap.size w3 W) (o : Obj) : (W.alloc o).cell? p = some v ∧ Below w3.heap.size w3 (W.alloc o) :=
  ⟨by rw [World.cell?_alloc_lt W _ _ (by
      rcases Nat.lt_or_ge p.block W.heap.size with hlt | hge
      · exact hlt
      · have := h.1; unfold World.cell? at this; rw [Array.getElem?_eq_none hge] at this; cases this)]; exact h.1, h.2.alloc h.2.size o⟩
theorem s_alloc_d {w3 W : World} {p : Addr} {v : Value} (h : W.drew.cell? p = some v ∧ Below w3.heap.size w3 W.drew) (o : Obj) : (W.alloc o).drew.cell? p = some v ∧ Below w3.heap.size w3 (W.alloc o).drew := s_alloc (W := W.drew) h o
theorem row_empty {B b : Nat} {W : World} (hb : W.heap[b]? = some (.cells #[] 9)) (hB : B ≤ b) : Row B W (.slice (some ⟨b, 0, none⟩) 0 0) [] := ⟨rfl, .inr ⟨b, 0, #[], rfl, hB, hb, by simp, by simp, rfl, rfl⟩⟩
theorem Row.cap {B : Nat} {w : World} {l : List ByteArray} {g cap n : Nat} (h : Row B w (.slice (some ⟨g, 0, none⟩) n cap) l) : n = l.length ∧ n ≤ cap := by
  rcases h.2 with ⟨h', _⟩ | ⟨g', cap', cur, h', _, _, h1, _, _, _⟩
  · cases h'
  · cases h'; exact ⟨rfl, h1⟩
theorem s_of {w3 W : World} {p : Addr} {v : Value} (h0 : w3.cell? p = some v) (h : Below w3.heap.size w3 W) : W.cell? p = some v ∧ Below w3.heap.size w3 W :=
  ⟨by rw [h.cell (by
      rcases Nat.lt_or_ge p.block w3.heap.size with hlt | hge
      · exact hlt
      · have := h0; unfold World.cell? at this; rw [Array.getElem?_eq_none hge] at this; cases this)]; exact h0, h⟩
theorem cell_new (w : World) (v : Value) (t : TypeId) : (w.alloc (.cells #[v] t)).cell? ⟨w.heap.size, 0, none⟩ = some v := by
  have := World.news_of_block (cs := #[v]) (t := t) (fr := (0, 0)) (heap_alloc_new w _) 0 v rfl
  rwa [add_zero] at this
theorem one_src {W : World} {b : Nat} {x : ByteArray} (h : W.cell? ⟨b, 0, none⟩ = some (.string x)) : ∀ j (h : j < [x].length), W.cell? ((⟨b, 0, none⟩ : Addr).add j) = some (.string [x][j]) := fun j hj => by
  have : j = 0 := by simpa using hj
  subst this
  rw [add_zero]; exact h
theorem Row.src_take {B : Nat} {w3 W : World} {L : List ByteArray} {g c m : Nat} (h : Row B w3 (.slice (some ⟨g, 0, none⟩) m c) L) (hb : Below w3.heap.size w3 W) (k : Nat) : ∀ j (hj : j < (L.take k).length), W.cell? ((⟨g, 0, none⟩ : Addr).add j) = some (.string (L.take k)[j]) := fun j hj => by
  have hl : j < L.length := by rw [List.length_take] at hj; omega
  rw [add_zero, hb.cell (p := ⟨g, j, none⟩) (h.lt rfl).2, h.cell hl, List.getElem_take]
theorem Row.src_drop {B : Nat} {w3 W : World} {L : List ByteArray} {g c m : Nat} (h : Row B w3 (.slice (some ⟨g, 0, none⟩) m c) L) (hb : Below w3.heap.size w3 W) (k : Nat) : ∀ j (hj : j < (L.drop k).length), W.cell? ((⟨g, k, none⟩ : Addr).add j) = some (.string (L.drop k)[j]) := fun j hj => by
  have hl : k + j < L.length := by rw [List.length_drop] at hj; omega
  have e : (⟨g, k, none⟩ : Addr).add j = ⟨g, k + j, none⟩ := by
    unfold Addr.add; split
    · subst_vars; rfl
    · rfl
  rw [e, hb.cell (p := ⟨g, k + j, none⟩) (h.lt rfl).2, h.cell hl, List.getElem_drop]
theorem heap_new1 (w : World) (o1 o2 : Obj) : ((w.alloc o1).alloc o2).heap[w.heap.size + 1]? = some o2 := by
  have h := heap_alloc_new (w.alloc o1) o2
  have e : (w.alloc o1).heap.size = w.heap.size + 1 := by simp
  rwa [e] at h
theorem heap_new0 (w : World) (o1 o2 : Obj) : ((w.alloc o1).alloc o2).heap[w.heap.size]? = some o1 := by
  rw [Below.heap_alloc _ _ _ (by have e : (w.alloc o1).heap.size = w.heap.size + 1 := by simp
                                 omega)]
  exact heap_alloc_new w o1
theorem cell_of_heap {w : World} {b : Nat} {v : Value} {t : TypeId} (h : w.heap[b]? = some (.cells #[v] t)) : w.cell? ⟨b, 0, none⟩ = some v := by
  have := World.news_of_block (cs := #[v]) (t := t) (fr := (0, 0)) h 0 v rfl
  rwa [add_zero] at this
end Go.Proofs.YtdfapkceanicoaaDoor

/- DRAWS OF CHAPTER 2: a text, two texts put together, a list of texts. -/
namespace Go.Proofs.YtdfapkceanicoaaDoor
open Go.RowKit

set_option maxRecDepth 100000 in
theorem text_any (g : Nat) (A : Option Addr) (n cap : Nat) (w : World) (hc : Cur w g A n cap) :
    Calls Tryd.prog 63 #[.pointer (some ⟨g, 0, none⟩)] w (StrOut (fun s => small s = true) w g A n cap) := by
  go_enter Tryd.func63, Tryd.ntmps63
  go_wp2_with (go_at_call 38; refine (str_any (fun s => small s = true) g A n cap ⟨w.heap.size, 0, none⟩ 14 14 (by omega) (by omega) _ (new_strs small (by decide) (by decide) hc.lt) (hc.alloc _)).mono ?_; rintro e w' ⟨v, hv, rfl, hc1, hg1⟩)
  go_ret
  exact ⟨v, hv, rfl, hc1, (byG_alloc (byG_refl w _) _).trans hg1⟩
def midS (s : ByteArray) : Bool := decide (s.size ≤ 200)
def ListNew (B k : Nat) (w : World) (e : Ending) (w' : World) : Prop := ∃ (v : Value) (L : List ByteArray), L.length ≤ k ∧ e = .returned v ∧ Row B w' v L ∧ Below w.heap.size w w'
set_option maxRecDepth 100000 in
theorem name_any (g : Nat) (A : Option Addr) (n cap : Nat) (w : World) (hc : Cur w g A n cap) :
    Calls Tryd.prog 61 #[.pointer (some ⟨g, 0, none⟩)] w (StrOut (fun s => small s = true) w g A n cap) := by
  go_enter Tryd.func61, Tryd.ntmps61
  go_wp2_with (go_at_call 38; refine (str_any (fun s => small s = true) g A n cap ⟨w.heap.size, 0, none⟩ 9 9 (by omega) (by omega) _ (new_strs small (by decide) (by decide) hc.lt) (hc.alloc _)).mono ?_; rintro e w' ⟨v, hv, rfl, hc1, hg1⟩)
  go_ret
  exact ⟨v, hv, rfl, hc1, (byG_alloc (byG_refl w _) _).trans hg1⟩
end Go.Proofs.YtdfapkceanicoaaDoor
