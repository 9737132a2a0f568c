/- THE CURSOR OF THE DRAWS, SECOND PART: l1Below, l1Once, l1Int, l1Str, l1New. -/
import Derived.Test.YtapalfmjebggfaaDoorCur
namespace Go.Proofs.YtapalfmjebggfaaDoor
open Go.RowKit

def BelowOut (w : World) (g : Nat) (A : Option Addr) (n cap : Nat) (m : Int) (e : Ending) (w' : World) : Prop :=
  ∃ x : Int, 0 ≤ x ∧ (m ≤ 0 → x = 0) ∧ (0 < m → x < m) ∧ e = .returned (.int .i64 x) ∧ Cur w' g A n cap ∧ w.grownBy w' (some g)
theorem byG_refl (w : World) (row : Option Nat) : w.grownBy w row := ⟨rfl, rfl, rfl, Nat.le_refl _, fun _ _ _ => rfl⟩

set_option maxRecDepth 100000 in
set_option maxHeartbeats 1000000 in
theorem below_any (g : Nat) (A : Option Addr) (n cap : Nat) (m : Int) (hm : m ≤ 9223372036854775807) (w : World) (hc : Cur w g A n cap) :
    Calls Tryd.prog 16 #[.pointer (some ⟨g, 0, none⟩), .int .i64 m] w (BelowOut w g A n cap m) := by
  by_cases h0 : m ≤ 0
  · go_enter Tryd.func16, Tryd.ntmps16
    go_wp2
    go_ret
    exact ⟨0, by omega, fun _ => rfl, fun h => by omega, rfl, hc, byG_refl _ _⟩
  · by_cases h1 : m ≤ 256
    · go_enter Tryd.func16, Tryd.ntmps16
      go_wp2_with (go_at_call 31; refine (byte_any g A n cap _ hc).mono ?_; rintro e w' ⟨x, hx0, hx1, rfl, hc1, hg1⟩)
      go_ret
      exact ⟨x % m, Int.emod_nonneg _ (by omega), fun h => by omega, fun h => Int.emod_lt_of_pos _ h, rfl, hc1, hg1⟩
    · go_enter Tryd.func16, Tryd.ntmps16
      go_wp2_with (first
        | (go_at_call 31; refine (byte_any g A n cap _ hc).mono ?_; rintro e w1 ⟨x, hx0, hx1, rfl, hc1, hg1⟩; clear hc)
        | (go_at_call 31; refine (byte_any g A n cap _ hc1).mono ?_; rintro e w2 ⟨y, hy0, hy1, rfl, hc2, hg2⟩; clear hc1)
        | (go_at_call 31; refine (byte_any g A n cap _ hc2).mono ?_; rintro e w3 ⟨z, hz0, hz1, rfl, hc3, hg3⟩; clear hc2))
      go_ret
      exact ⟨_, Int.emod_nonneg _ (by omega), fun h => by omega, fun h => Int.emod_lt_of_pos _ h, rfl, hc3, (hg1.trans hg2).trans hg3⟩

def OnceOut (w : World) (g : Nat) (A : Option Addr) (n cap : Nat) (e : Ending) (w' : World) : Prop :=
  ∃ b : Bool, e = .returned (.bool b) ∧ Cur w' g A n cap ∧ w.grownBy w' (some g)
set_option maxRecDepth 100000 in
theorem once_any (g : Nat) (A : Option Addr) (n cap : Nat) (m : Int) (hm : m ≤ 9223372036854775807) (w : World) (hc : Cur w g A n cap) :
    Calls Tryd.prog 20 #[.pointer (some ⟨g, 0, none⟩), .int .i64 m] w (OnceOut w g A n cap) := by
  go_enter Tryd.func20, Tryd.ntmps20
  go_wp2_with (go_at_call 16; refine (below_any g A n cap m hm _ hc).mono ?_; rintro e w' ⟨x, hx0, hx1, hx2, rfl, hc1, hg1⟩)
  go_ret
  exact ⟨_, rfl, hc1, hg1⟩

theorem far_cell {w w' : World} {g : Nat} (h : w.grownBy w' (some g)) {p : Addr} {v : Value} (hp : w.cell? p = some v) (hne : p.block ≠ g) : w'.cell? p = some v := by
  have hlt : p.block < w.heap.size := by
    rcases Nat.lt_or_ge p.block w.heap.size with hlt | hge
    · exact hlt
    · unfold World.cell? at hp; rw [Array.getElem?_eq_none hge] at hp; cases hp
  rw [World.cell?_of_block (h.block p.block hlt (fun e => hne (by injection e)))]; exact hp
/-- a list of integers, each as P asks -/
def IntsAt (P : Int → Prop) (w : World) (g : Nat) (a : Addr) (len : Nat) : Prop := a.block ≠ g ∧ ∀ j, j < len → ∃ v : Int, P v ∧ w.cell? (a.add j) = some (.int .i64 v)
def StrsAt (P : ByteArray → Prop) (w : World) (g : Nat) (a : Addr) (len : Nat) : Prop := a.block ≠ g ∧ ∀ j, j < len → ∃ v : ByteArray, P v ∧ w.cell? (a.add j) = some (.string v)
def IntOut (P : Int → Prop) (w : World) (g : Nat) (A : Option Addr) (n cap : Nat) (e : Ending) (w' : World) : Prop :=
  ∃ v : Int, P v ∧ e = .returned (.int .i64 v) ∧ Cur w' g A n cap ∧ w.grownBy w' (some g)
def StrOut (P : ByteArray → Prop) (w : World) (g : Nat) (A : Option Addr) (n cap : Nat) (e : Ending) (w' : World) : Prop :=
  ∃ v : ByteArray, P v ∧ e = .returned (.string v) ∧ Cur w' g A n cap ∧ w.grownBy w' (some g)
set_option maxRecDepth 100000 in
theorem int_any (P : Int → Prop) (g : Nat) (A : Option Addr) (n cap : Nat) (a : Addr) (len c : Nat) (h0 : 0 < len) (hl : len ≤ 9223372036854775807) (w : World) (hi : IntsAt P w g a len) (hc : Cur w g A n cap) :
    Calls Tryd.prog 32 #[.pointer (some ⟨g, 0, none⟩), .slice (some a) len c] w (IntOut P w g A n cap) := by
  go_enter Tryd.func32, Tryd.ntmps32
  go_wp2_with (go_at_call 16; refine (below_any g A n cap (len : Int) (by omega) _ hc).mono ?_; rintro e w' ⟨x, hx0, hx1, hx2, rfl, hc1, hg1⟩; have hx3 := hx2 (by omega); clear hx1 hx2; obtain ⟨v, hv, hcv⟩ := hi.2 x.toNat (by omega); have hcv' := far_cell hg1 hcv (by rw [add_block]; exact hi.1); clear hcv)
  go_ret
  exact ⟨v, hv, rfl, hc1, hg1⟩

/-- the bytes that a draw is made from -/
def Src (w : World) (A : Option Addr) (n : Nat) : Prop :=
  n ≤ 9223372036854775807 ∧ ∀ j, j < n → ∃ (a : Addr) (x : Int), A = some a ∧ a.block < w.heap.size ∧ 0 ≤ x ∧ x ≤ 255 ∧ w.cell? (a.add j) = some (.int .u8 x)
def NewOut (w : World) (A : Option Addr) (n cap : Nat) (e : Ending) (w' : World) : Prop :=
  ∃ g : Nat, e = .returned (.pointer (some ⟨g, 0, none⟩)) ∧ w.heap.size ≤ g ∧ Cur w' g A n cap ∧ Below w.heap.size w w'
theorem new_end {A : Option Addr} {n cap : Nat} {w : World} {y : Int} (hn : n ≤ 9223372036854775807) (hs : ∀ j, j < n → ∃ (a : Addr) (x : Int), A = some a ∧ a.block < w.heap.size ∧ 0 ≤ x ∧ x ≤ 255 ∧ w.cell? (a.add j) = some (.int .u8 x)) :
    NewOut w A n cap (.returned (.pointer (some ⟨w.heap.size, 0, none⟩))) (w.alloc (.cells #[.slice A n cap, .int .i64 0, .int .i64 y] 58)) :=
  ⟨w.heap.size, rfl, Nat.le_refl _, ⟨0, y, hn, Nat.zero_le _, heap_alloc_new w _, fun j hj => by
    obtain ⟨a, x, h1, h2, h3, h4, h5⟩ := hs j hj
    exact ⟨a, x, h1, by omega, h3, h4, by rw [World.cell?_alloc_lt w _ _ (by rw [add_block]; exact h2)]; exact h5⟩⟩, (Below.refl _ _).alloc (Nat.le_refl _) _⟩
set_option maxRecDepth 100000 in
set_option maxHeartbeats 400000 in
theorem new_any (A : Option Addr) (n cap : Nat) (w : World) (hs : Src w A n) :
    Calls Tryd.prog 14 #[.slice A n cap] w (NewOut w A n cap) := by
  obtain ⟨hn, hsrc⟩ := hs
  go_enter Tryd.func14, Tryd.ntmps14
  go_wp2
  go_loop [3, 4] (fun h i => ∃ (k : Nat) (y : Int), k ≤ n ∧ i = .int .i64 k ∧ h = .int .i64 y) (fun _ i => n - (intOf i).toNat)
  case atStart => exact ⟨0, _, by omega, rfl, rfl⟩
  case round =>
    obtain ⟨k, y, hk, rfl, rfl⟩ := hrel
    by_cases hlt : k < n
    · obtain ⟨a, x, rfl, hab, hx0, hx1, hcell⟩ := hsrc k hlt
      by_cases h4 : (k : Int) < 4000
      · go_wp2
        go_round
        case rel => exact ⟨k + 1, _, by omega, by go_num, rfl⟩
        case measure => simp [intOf]; omega
      · go_wp2
        go_ret
        exact new_end hn hsrc
    · go_wp2
      go_ret
      exact new_end hn hsrc
end Go.Proofs.YtapalfmjebggfaaDoor
