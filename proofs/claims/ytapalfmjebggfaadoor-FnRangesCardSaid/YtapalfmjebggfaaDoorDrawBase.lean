/- WHAT EVERY DRAW USES: lists of constants, the cursor behind other work, laws.big. -/
import Derived.Test.YtapalfmjebggfaaDoorCurB
import Derived.ProofKit
import Derived.OpenShut
namespace Go.Proofs.YtapalfmjebggfaaDoor
open Go.RowKit Go.ChangeShapes Go.WideShapes Go.ChangeAt

def isI64 (p : Int → Bool) : Value → Bool
  | .int .i64 v => p v
  | _ => false
def isStr (p : ByteArray → Bool) : Value → Bool
  | .string v => p v
  | _ => false
theorem isI64_ex {p : Int → Bool} {u : Value} (h : isI64 p u = true) : ∃ v, p v = true ∧ u = .int .i64 v := by
  unfold isI64 at h; split at h
  · exact ⟨_, h, rfl⟩
  · cases h
theorem isStr_ex {p : ByteArray → Bool} {u : Value} (h : isStr p u = true) : ∃ v, p v = true ∧ u = .string v := by
  unfold isStr at h; split at h
  · exact ⟨_, h, rfl⟩
  · cases h
theorem new_cell (w : World) (cs : Array Value) (T : TypeId) (j : Nat) : (w.alloc (.cells cs T)).cell? ((⟨w.heap.size, 0, none⟩ : Addr).add j) = cs[j]? := by
  have e : (⟨w.heap.size, 0, none⟩ : Addr).add j = ⟨w.heap.size, j, none⟩ := by
    unfold Addr.add; split
    · subst_vars; rfl
    · simp
  rw [e, cell_of_row _ w.heap.size j cs T (0, 0) (heap_alloc_new w _)]
theorem new_ints {w : World} {g : Nat} {cs : Array Value} {T : TypeId} {len : Nat} (p : Int → Bool) (hl : len ≤ cs.size) (h : cs.toList.all (isI64 p) = true) (hg : g < w.heap.size) :
    IntsAt (fun v => p v = true) (w.alloc (.cells cs T)) g ⟨w.heap.size, 0, none⟩ len := by
  refine ⟨by show w.heap.size ≠ g; omega, fun j hj => ?_⟩
  rw [new_cell, Array.getElem?_eq_getElem (by omega)]
  obtain ⟨v, hv, e⟩ := isI64_ex (List.all_eq_true.1 h cs[j] (by simp))
  exact ⟨v, hv, by rw [e]⟩
theorem new_strs {w : World} {g : Nat} {cs : Array Value} {T : TypeId} {len : Nat} (p : ByteArray → Bool) (hl : len ≤ cs.size) (h : cs.toList.all (isStr p) = true) (hg : g < w.heap.size) :
    StrsAt (fun v => p v = true) (w.alloc (.cells cs T)) g ⟨w.heap.size, 0, none⟩ len := by
  refine ⟨by show w.heap.size ≠ g; omega, fun j hj => ?_⟩
  rw [new_cell, Array.getElem?_eq_getElem (by omega)]
  obtain ⟨v, hv, e⟩ := isStr_ex (List.all_eq_true.1 h cs[j] (by simp))
  exact ⟨v, hv, by rw [e]⟩
theorem CurI.alloc {w : World} {g : Nat} {A : Option Addr} {n cap i : Nat} {h : Int} (c : CurI w g A n cap i h) (o : Obj) : CurI (w.alloc o) g A n cap i h :=
  ⟨c.len, c.at_, (Below.heap_alloc w o g c.lt).trans c.blk, fun j hj => by
    obtain ⟨a, x, h1, h2, h3, h4, h5⟩ := c.bytes j hj
    have hlt : (a.add j).block < w.heap.size := by
      rcases Nat.lt_or_ge (a.add j).block w.heap.size with hlt | hge
      · exact hlt
      · unfold World.cell? at h5; rw [Array.getElem?_eq_none hge] at h5; cases h5
    exact ⟨a, x, h1, h2, h3, h4, by rw [World.cell?_alloc_lt w _ _ hlt]; exact h5⟩⟩
theorem Cur.alloc {w : World} {g : Nat} {A : Option Addr} {n cap : Nat} (c : Cur w g A n cap) (o : Obj) : Cur (w.alloc o) g A n cap := by
  obtain ⟨i, h, c⟩ := c; exact ⟨i, h, c.alloc o⟩
theorem Cur.lt {w : World} {g : Nat} {A : Option Addr} {n cap : Nat} (c : Cur w g A n cap) : g < w.heap.size := by
  obtain ⟨i, h, c⟩ := c; exact c.lt
theorem byG_alloc {a w : World} {row : Option Nat} (h : a.grownBy w row) (o : Obj) : a.grownBy (w.alloc o) row :=
  ⟨h.os, h.tape, h.output, Nat.le_trans h.size (by simp), fun i hi hne => (Below.heap_alloc w o i (Nat.lt_of_lt_of_le hi h.size)).trans (h.block i hi hne)⟩

def IntNew (P : Int → Prop) (w : World) (e : Ending) (w' : World) : Prop := ∃ v : Int, P v ∧ e = .returned (.int .i64 v) ∧ Below w.heap.size w w'
def StrNew (P : ByteArray → Prop) (w : World) (e : Ending) (w' : World) : Prop := ∃ v : ByteArray, P v ∧ e = .returned (.string v) ∧ Below w.heap.size w w'
/-- behind l1New, what has turned is the cursor and what is new -/
theorem below_new {w w1 w2 : World} {g : Nat} (hb : Below w.heap.size w w1) (hg : w.heap.size ≤ g) (h : w1.grownBy w2 (some g)) : Below w.heap.size w w2 :=
  hb.grown h hb.size (fun k e => by injection e with e; omega)
theorem CurI.below {w w' : World} {g : Nat} {A : Option Addr} {n cap i : Nat} {h : Int} (c : CurI w g A n cap i h) (hb : Below w.heap.size w w') : CurI w' g A n cap i h :=
  ⟨c.len, c.at_, (hb.block g c.lt).trans c.blk, fun j hj => by
    obtain ⟨a, x, h1, h2, h3, h4, h5⟩ := c.bytes j hj
    have hlt : (a.add j).block < w.heap.size := by
      rcases Nat.lt_or_ge (a.add j).block w.heap.size with hlt | hge
      · exact hlt
      · unfold World.cell? at h5; rw [Array.getElem?_eq_none hge] at h5; cases h5
    exact ⟨a, x, h1, h2, h3, h4, by rw [hb.cell hlt]; exact h5⟩⟩
theorem Cur.below {w w' : World} {g : Nat} {A : Option Addr} {n cap : Nat} (c : Cur w g A n cap) (hb : Below w.heap.size w w') : Cur w' g A n cap := by
  obtain ⟨i, h, c⟩ := c; exact ⟨i, h, c.below hb⟩
theorem byG_below {a w : World} (h : Below a.heap.size a w) (row : Option Nat) : a.grownBy w row := ⟨h.os, h.tape, h.output, h.size, fun i hi _ => h.block i hi⟩
def small (s : ByteArray) : Bool := decide (s.size ≤ 60)
/-- what the frame says of a list of bytes that came in is what the cursor asks -/
theorem src_of {w : World} {A : Option Addr} {n c : Nat} {z : List Int} (h : (A = none ∧ n = 0 ∧ c = 0 ∧ z = []) ∨ ∃ x, A = some x ∧ n ≤ c ∧ c ≤ maxLen ∧ z.length = c ∧ (∀ i, i < z.length → w.cell? (x.add i) = some (.int .u8 (z.getD i 0))) ∧ ∀ y ∈ z, (Lit.int .u8 y).wf = true) : Src w A n := by
  rcases h with ⟨_, rfl, _, _⟩ | ⟨x, rfl, hl, hm, hz, hc, hw⟩
  · exact ⟨by omega, fun j hj => by omega⟩
  · refine ⟨by unfold maxLen at hm; omega, fun j hj => ?_⟩
    have hcell := hc j (by omega)
    have hb := bounds_u8 (hw (z.getD j 0) (by rw [List.getD_eq_getElem?_getD, List.getElem?_eq_getElem (by omega), Option.getD_some]; exact List.getElem_mem _))
    have hlt : (x.add j).block < w.heap.size := by
      rcases Nat.lt_or_ge (x.add j).block w.heap.size with hlt | hge
      · exact hlt
      · unfold World.cell? at hcell; rw [Array.getElem?_eq_none hge] at hcell; cases hcell
    exact ⟨x, _, rfl, by rw [← add_block x j]; exact hlt, by omega, by omega, hcell⟩
theorem src_below {w w' : World} {A : Option Addr} {n : Nat} (h : Src w A n) (hb : Below w.heap.size w w') : Src w' A n :=
  ⟨h.1, fun j hj => by
    obtain ⟨a, x, h1, h2, h3, h4, h5⟩ := h.2 j hj
    exact ⟨a, x, h1, Nat.lt_of_lt_of_le h2 hb.size, h3, h4, by rw [hb.cell (by rw [add_block]; exact h2)]; exact h5⟩⟩
/-- a row that is neither the cursor nor what it reads may turn -/
theorem CurI.grown {w w' : World} {g r : Nat} {A : Option Addr} {n cap i : Nat} {h : Int} (c : CurI w g A n cap i h) (hg : w.grownBy w' (some r)) (hr : g ≠ r) (hA : 0 < n → ∀ a, A = some a → a.block ≠ r) : CurI w' g A n cap i h :=
  ⟨c.len, c.at_, (hg.block g c.lt (fun e => hr (Option.some.inj e))).trans c.blk, fun j hj => by
    obtain ⟨a, x, h1, h2, h3, h4, h5⟩ := c.bytes j hj
    have hlt : (a.add j).block < w.heap.size := by
      rcases Nat.lt_or_ge (a.add j).block w.heap.size with hlt | hge
      · exact hlt
      · unfold World.cell? at h5; rw [Array.getElem?_eq_none hge] at h5; cases h5
    exact ⟨a, x, h1, h2, h3, h4, by rw [World.cell?_of_block (hg.block _ hlt (fun e => hA (by omega) a h1 (by rw [add_block] at e; exact Option.some.inj e)))]; exact h5⟩⟩
theorem Cur.grown {w w' : World} {g r : Nat} {A : Option Addr} {n cap : Nat} (c : Cur w g A n cap) (hg : w.grownBy w' (some r)) (hr : g ≠ r) (hA : 0 < n → ∀ a, A = some a → a.block ≠ r) : Cur w' g A n cap := by
  obtain ⟨i, h, c⟩ := c; exact ⟨i, h, c.grown hg hr hA⟩
set_option maxRecDepth 100000 in
theorem big_any (A : Option Addr) (n cap : Nat) (w : World) :
    Calls Tryd.prog 4 #[.slice A n cap] w fun e w' => e = .returned (.bool (decide (4096 < n))) ∧ w = w' := by
  by_cases h : (4096 : Int) < (n : Int)
  all_goals
    go_enter Tryd.func4, Tryd.ntmps4
    go_wp2
    go_ret
    exact ⟨ret_bool (by simp; omega), rfl⟩
end Go.Proofs.YtapalfmjebggfaaDoor
