/- DRAWS OF CHAPTER 1: a number, a text. -/
import Derived.Test.YtpjhllffjabnfaaCurB
import Derived.Test.YtpjhllffjabnfaaNumQ
namespace Go.Proofs.Ytpjhllffjabnfaa
open Go.RowKit

def inI64 (v : Int) : Bool := decide (-9223372036854775808 ≤ v) && decide (v ≤ 9223372036854775807)
def P64 (v : Int) : Prop := inI64 v = true
theorem P64.bd {v : Int} (h : P64 v) : -9223372036854775808 ≤ v ∧ v ≤ 9223372036854775807 := by simpa [P64, inI64] using h
theorem P64.mk {v : Int} (h : -9223372036854775808 ≤ v ∧ v ≤ 9223372036854775807) : P64 v := by simpa [P64, inI64] using h
def isI64 (p : Int → Bool) : Value → Bool
  | .int .i64 v => p v
  | _ => false
def isStr (p : ByteArray → Bool) : Value → Bool
  | .string v => p v
  | _ => false
theorem isI64_ex {p : Int → Bool} {u : Value} (h : isI64 p u = true) : ∃ v, p v = true ∧ u = .int .i64 v := by
  unfold isI64 at h; split at h
  · exact ⟨_, h, rfl⟩
  · cases h
theorem isStr_ex {p : ByteArray → Bool} {u : Value} (h : isStr p u = true) : ∃ v, p v = true ∧ u = .string v := by
  unfold isStr at h; split at h
  · exact ⟨_, h, rfl⟩
  · cases h
theorem new_cell (w : World) (cs : Array Value) (T : TypeId) (j : Nat) : (w.alloc (.cells cs T)).cell? ((⟨w.heap.size, 0, none⟩ : Addr).add j) = cs[j]? := by
  have e : (⟨w.heap.size, 0, none⟩ : Addr).add j = ⟨w.heap.size, j, none⟩ := by
    unfold Addr.add; split
    · subst_vars; rfl
    · simp
  rw [e, cell_of_row _ w.heap.size j cs T (0, 0) (heap_alloc_new w _)]
theorem new_ints {w : World} {g : Nat} {cs : Array Value} {T : TypeId} {len : Nat} (p : Int → Bool) (hl : len ≤ cs.size) (h : cs.toList.all (isI64 p) = true) (hg : g < w.heap.size) :
    IntsAt (fun v => p v = true) (w.alloc (.cells cs T)) g ⟨w.heap.size, 0, none⟩ len := by
  refine ⟨by show w.heap.size ≠ g; omega, fun j hj => ?_⟩
  rw [new_cell, Array.getElem?_eq_getElem (by omega)]
  obtain ⟨v, hv, e⟩ := isI64_ex (List.all_eq_true.1 h cs[j] (by simp))
  exact ⟨v, hv, by rw [e]⟩
theorem new_strs {w : World} {g : Nat} {cs : Array Value} {T : TypeId} {len : Nat} (p : ByteArray → Bool) (hl : len ≤ cs.size) (h : cs.toList.all (isStr p) = true) (hg : g < w.heap.size) :
    StrsAt (fun v => p v = true) (w.alloc (.cells cs T)) g ⟨w.heap.size, 0, none⟩ len := by
  refine ⟨by show w.heap.size ≠ g; omega, fun j hj => ?_⟩
  rw [new_cell, Array.getElem?_eq_getElem (by omega)]
  obtain ⟨v, hv, e⟩ := isStr_ex (List.all_eq_true.1 h cs[j] (by simp))
  exact ⟨v, hv, by rw [e]⟩
theorem CurI.alloc {w : World} {g : Nat} {A : Option Addr} {n cap i : Nat} {h : Int} (c : CurI w g A n cap i h) (o : Obj) : CurI (w.alloc o) g A n cap i h :=
  ⟨c.len, c.at_, (Below.heap_alloc w o g c.lt).trans c.blk, fun j hj => by
    obtain ⟨a, x, h1, h2, h3, h4, h5⟩ := c.bytes j hj
    have hlt : (a.add j).block < w.heap.size := by
      rcases Nat.lt_or_ge (a.add j).block w.heap.size with hlt | hge
      · exact hlt
      · unfold World.cell? at h5; rw [Array.getElem?_eq_none hge] at h5; cases h5
    exact ⟨a, x, h1, h2, h3, h4, by rw [World.cell?_alloc_lt w _ _ hlt]; exact h5⟩⟩
theorem Cur.alloc {w : World} {g : Nat} {A : Option Addr} {n cap : Nat} (c : Cur w g A n cap) (o : Obj) : Cur (w.alloc o) g A n cap := by
  obtain ⟨i, h, c⟩ := c; exact ⟨i, h, c.alloc o⟩
theorem Cur.lt {w : World} {g : Nat} {A : Option Addr} {n cap : Nat} (c : Cur w g A n cap) : g < w.heap.size := by
  obtain ⟨i, h, c⟩ := c; exact c.lt
theorem byG_alloc {a w : World} {row : Option Nat} (h : a.grownBy w row) (o : Obj) : a.grownBy (w.alloc o) row :=
  ⟨h.os, h.tape, h.output, Nat.le_trans h.size (by simp), fun i hi hne => (Below.heap_alloc w o i (Nat.lt_of_lt_of_le hi h.size)).trans (h.block i hi hne)⟩

theorem odd_any (g : Nat) (A : Option Addr) (n cap : Nat) (w : World) (hc : Cur w g A n cap) :
    Calls Try.prog 32 #[.pointer (some ⟨g, 0, none⟩)] w (IntOut P64 w g A n cap) := by
  go_enter Try.func32, Try.ntmps32
  go_wp2_with (go_at_call 33; refine (int_any P64 g A n cap ⟨w.heap.size, 0, none⟩ 14 14 (by omega) (by omega) _ (new_ints inI64 (by decide) (by decide) hc.lt) (hc.alloc _)).mono ?_; rintro e w' ⟨v, hv, rfl, hc1, hg1⟩)
  go_ret
  exact ⟨v, hv, rfl, hc1, (byG_alloc (byG_refl w _) _).trans hg1⟩
set_option maxHeartbeats 1000000 in
theorem num_any (g : Nat) (A : Option Addr) (n cap : Nat) (w : World) (hc : Cur w g A n cap) :
    Calls Try.prog 23 #[.pointer (some ⟨g, 0, none⟩)] w (IntOut P64 w g A n cap) := by
  have hG := byG_refl w (some g)
  go_enter Try.func23, Try.ntmps23
  go_wp2_with (first
    | (go_at_call 31; ((with_reducible refine (below_any g A n cap _ (by omega) _ (by assumption)).mono ?_); rintro e w1 ⟨x, hx0, hx1, hx2, rfl, hc1, hg1⟩; have hx3 := hx2 (by omega); clear hx1 hx2; have hG := hG.trans hg1; clear hg1))
    | (go_at_call 32; ((with_reducible refine (odd_any g A n cap _ (by assumption)).mono ?_); rintro e w2 ⟨v, hv, rfl, hc2, hg2⟩; have hG := hG.trans hg2; clear hg2))
    | (go_at_call 33; ((refine (int_any P64 g A n cap ⟨w1.heap.size, 0, none⟩ 4 4 (by omega) (by omega) _ (new_ints inI64 (by decide) (by decide) hc1.lt) (hc1.alloc _)).mono ?_); rintro e w2 ⟨v, hv, rfl, hc2, hg2⟩; have hG := (byG_alloc hG _).trans hg2; clear hg2)))
  all_goals go_ret
  · exact ⟨_, by assumption, rfl, by assumption, hG⟩
  · exact ⟨-x, P64.mk (by omega), rfl, by assumption, hG⟩
  · exact ⟨_, by assumption, rfl, by assumption, hG⟩
  · exact ⟨x, P64.mk (by omega), rfl, by assumption, hG⟩

def IntNew (P : Int → Prop) (w : World) (e : Ending) (w' : World) : Prop := ∃ v : Int, P v ∧ e = .returned (.int .i64 v) ∧ Below w.heap.size w w'
def StrNew (P : ByteArray → Prop) (w : World) (e : Ending) (w' : World) : Prop := ∃ v : ByteArray, P v ∧ e = .returned (.string v) ∧ Below w.heap.size w w'
/-- behind l1New, what has turned is the cursor and what is new -/
theorem below_new {w w1 w2 : World} {g : Nat} (hb : Below w.heap.size w w1) (hg : w.heap.size ≤ g) (h : w1.grownBy w2 (some g)) : Below w.heap.size w w2 :=
  hb.grown h hb.size (fun k e => by injection e with e; omega)
theorem drawN_any (A : Option Addr) (n cap : Nat) (w : World) (hs : Src w A n) :
    Calls Try.prog 10 #[.slice A n cap] w (IntNew P64 w) := by
  go_enter Try.func10, Try.ntmps10
  go_wp2_with (first
    | (go_at_call 22; ((with_reducible refine (new_any A n cap _ hs).mono ?_); rintro e w1 ⟨g, rfl, hg, hc, hb⟩))
    | (go_at_call 23; ((with_reducible refine (num_any _ _ _ _ _ hc).mono ?_); rintro e w2 ⟨v, hv, rfl, hc2, hg2⟩)))
  go_ret
  exact ⟨v, hv, rfl, below_new hb hg hg2⟩
theorem CurI.below {w w' : World} {g : Nat} {A : Option Addr} {n cap i : Nat} {h : Int} (c : CurI w g A n cap i h) (hb : Below w.heap.size w w') : CurI w' g A n cap i h :=
  ⟨c.len, c.at_, (hb.block g c.lt).trans c.blk, fun j hj => by
    obtain ⟨a, x, h1, h2, h3, h4, h5⟩ := c.bytes j hj
    have hlt : (a.add j).block < w.heap.size := by
      rcases Nat.lt_or_ge (a.add j).block w.heap.size with hlt | hge
      · exact hlt
      · unfold World.cell? at h5; rw [Array.getElem?_eq_none hge] at h5; cases h5
    exact ⟨a, x, h1, h2, h3, h4, by rw [hb.cell hlt]; exact h5⟩⟩
theorem Cur.below {w w' : World} {g : Nat} {A : Option Addr} {n cap : Nat} (c : Cur w g A n cap) (hb : Below w.heap.size w w') : Cur w' g A n cap := by
  obtain ⟨i, h, c⟩ := c; exact ⟨i, h, c.below hb⟩
theorem byG_below {a w : World} (h : Below a.heap.size a w) (row : Option Nat) : a.grownBy w row := ⟨h.os, h.tape, h.output, h.size, fun i hi _ => h.block i hi⟩
def small (s : ByteArray) : Bool := decide (s.size ≤ 60)
theorem fmt_small {v : Int} (h : -9223372036854775808 ≤ v ∧ v ≤ 9223372036854775807) : small (NumP.fmtS v) = true := by
  have := NumP.fmtL_length h.1 h.2
  have e : (NumP.fmtS v).size = (NumP.fmtL v).length := by simp [NumP.fmtS, ByteArray.size]
  simp [small, e]; omega
theorem form_any (g : Nat) (A : Option Addr) (n cap : Nat) (w : World) (hc : Cur w g A n cap) :
    Calls Try.prog 29 #[.pointer (some ⟨g, 0, none⟩)] w (StrOut (fun s => small s = true) w g A n cap) := by
  have hG := byG_refl w (some g)
  go_enter Try.func29, Try.ntmps29
  go_wp2_with (first
    | (go_at_call 34; ((with_reducible refine (once_any g A n cap _ (by omega) _ (by assumption)).mono ?_); rintro e w1 ⟨b, rfl, hc1, hg1⟩; have hG := hG.trans hg1; clear hg1))
    | (go_at_call 23; ((with_reducible refine (num_any _ _ _ _ _ hc1).mono ?_); rintro e w2 ⟨v, hv, rfl, hc2, hg2⟩; have hG := hG.trans hg2; clear hg2; have hv' := hv.bd))
    | (go_at_call 17; ((with_reducible refine (sFmt_any v hv'.1 hv'.2 _).mono ?_); rintro e w3 ⟨rfl, hb3⟩))
    | (go_at_call 35; ((refine (str_any (fun s => small s = true) g A n cap ⟨w1.heap.size, 0, none⟩ 17 17 (by omega) (by omega) _ (new_strs small (by decide) (by decide) hc1.lt) (hc1.alloc _)).mono ?_); rintro e w2 ⟨v, hv, rfl, hc2, hg2⟩; have hG := (byG_alloc hG _).trans hg2; clear hg2)))
  · go_ret
    exact ⟨_, by assumption, rfl, by assumption, hG⟩
  · go_ret
    exact ⟨_, fmt_small hv', rfl, hc2.below hb3, hG.trans (byG_below hb3 _)⟩
theorem drawS_any (A : Option Addr) (n cap : Nat) (w : World) (hs : Src w A n) :
    Calls Try.prog 14 #[.slice A n cap] w (StrNew (fun s => small s = true) w) := by
  go_enter Try.func14, Try.ntmps14
  go_wp2_with (first
    | (go_at_call 22; ((with_reducible refine (new_any A n cap _ hs).mono ?_); rintro e w1 ⟨g, rfl, hg, hc, hb⟩))
    | (go_at_call 29; ((with_reducible refine (form_any _ _ _ _ _ hc).mono ?_); rintro e w2 ⟨v, hv, rfl, hc2, hg2⟩)))
  go_ret
  exact ⟨v, hv, rfl, below_new hb hg hg2⟩
theorem big_any (A : Option Addr) (n cap : Nat) (w : World) :
    Calls Try.prog 9 #[.slice A n cap] w fun e w' => e = .returned (.bool (decide (4096 < n))) ∧ w = w' := by
  by_cases h : (4096 : Int) < (n : Int)
  all_goals
    go_enter Try.func9, Try.ntmps9
    go_wp2
    go_ret
    exact ⟨ret_bool (by simp; omega), rfl⟩
end Go.Proofs.Ytpjhllffjabnfaa
