/- CHAPTER 4: LISTS OF RANGES: laws.eqRangeS, szRangeS, toRangeS, markRangeS, heldRangeS. -/
import Derived.Test.YthmjffijhlkgcaaBuf
import Derived.Test.YthmjffijhlkgcaaTree
import Derived.Deep.RegionHeld3
import Derived.Maps.AppendAt
set_option linter.unusedVariables false
set_option linter.unusedSimpArgs false
namespace Go.Proofs.Ythmjffijhlkgcaa
open Go.RowKit

def Rg.enc (x : Rg) : List Value := [.int .i64 x.lo, .int .i64 x.hi]
instance : Inhabited Rg := ⟨⟨0, 0⟩⟩
theorem Rg.enc_len (x : Rg) : x.enc.length = 2 := rfl
/-- the value v is a slice that holds the ranges l; it is the call's own -/
abbrev HasG (w : World) (v : Value) (l : List Rg) : Prop := HasR Rg.enc 2 w v l
/-- at p lies the range x -/
def Gk (w : World) (p : Addr) (x : Rg) : Prop := w.cell? p = some (.int .i64 x.lo) ∧ w.cell? ⟨p.block, p.off + 1, none⟩ = some (.int .i64 x.hi)
theorem Gk.below {w w' : World} {p : Addr} {x : Rg} (h : Gk w p x) (hb : Below w.heap.size w w') (hp : p.block < w.heap.size) : Gk w' p x :=
  ⟨by rw [hb.cell hp]; exact h.1, by rw [hb.cell (p := ⟨p.block, p.off + 1, none⟩) hp]; exact h.2⟩
/-- the k-th range of a list that is read -/
theorem HasG.gk {w : World} {A : Option Addr} {l : List Rg} (h : ∀ i (h : i < l.length), ∃ a, A = some a ∧ a.block < w.heap.size ∧ ∀ j x, (l[i].enc)[j]? = some x → w.cell? ((a.add (i * 2)).add j) = some x) (k : Nat) (hk : k < l.length) :
    ∃ a, A = some a ∧ (a.add (k * 2)).block < w.heap.size ∧ Gk w (a.add (k * 2)) l[k] := by
  obtain ⟨a, ha, hb, hc⟩ := h k hk
  exact ⟨a, ha, by rw [addr_blk]; exact hb, hc 0 _ rfl, hc 1 _ rfl⟩
theorem held_rngs {w w1 w2 : World} {p q : Addr} {x y : Rg} (k : Below w1.heap.size w1 w2)
    (h : (w1.cell? p = some (.int .i64 x.lo) ∧ w1.cell? ⟨p.block, p.off + 1, none⟩ = some (.int .i64 x.hi)) ∧ (w1.cell? q = some (.int .i64 y.lo) ∧ w1.cell? ⟨q.block, q.off + 1, none⟩ = some (.int .i64 y.hi)) ∧ Below w.heap.size w w1)
    (hp : p.block < w.heap.size) (hq : q.block < w.heap.size) :
    (w2.cell? p = some (.int .i64 x.lo) ∧ w2.cell? ⟨p.block, p.off + 1, none⟩ = some (.int .i64 x.hi)) ∧ (w2.cell? q = some (.int .i64 y.lo) ∧ w2.cell? ⟨q.block, q.off + 1, none⟩ = some (.int .i64 y.hi)) ∧ Below w.heap.size w w2 :=
  ⟨Gk.below h.1 k (Nat.lt_of_lt_of_le hp h.2.2.size), Gk.below h.2.1 k (Nat.lt_of_lt_of_le hq h.2.2.size), below_step h.2.2 k⟩
theorem set_fillG {l : List Rg} {k : Nat} (hk : k < l.length) (m : Nat) (z : Rg) (hm : m = l.length - k) : (l.take k ++ List.replicate m z).set k l[k] = l.take (k + 1) ++ List.replicate (m - 1) z := by
  subst hm
  obtain ⟨m, hm⟩ : ∃ m, l.length - k = m + 1 := ⟨l.length - k - 1, by omega⟩
  rw [hm, List.replicate_succ, List.set_append_right _ _ (by simp only [List.length_take]; exact Nat.min_le_left _ _), List.length_take, Nat.min_eq_left (by omega), Nat.sub_self, List.set_cons_zero, Nat.add_sub_cancel, List.take_succ_eq_append_getElem hk, List.append_assoc]
  rfl
theorem news_rng (w : World) (y : Rg) (t : TypeId) : ∀ j u, y.enc[j]? = some u → (w.alloc (.cells #[.int .i64 y.lo, .int .i64 y.hi] t)).cell? ((⟨w.heap.size, 0, none⟩ : Addr).add j) = some u := World.news_of_block (heap_alloc_new w _)
/-- another's row, where one row has grown -/
theorem RowR.apart {α : Type} {enc : α → List Value} {z E B g n c j : Nat} {w w' : World} {l : List α} (h : RowR enc z E B w (.slice (some ⟨g, 0, none⟩) n c) l) (hg : w.grownBy w' (some j)) (hne : g ≠ j) : RowR enc z E B w' (.slice (some ⟨g, 0, none⟩) n c) l :=
  RowR.other (u := .slice (some ⟨j, 0, none⟩) 0 0) h hg (fun k hk e => hne ((Option.some.inj hk).trans (Option.some.inj e).symm))
/-- a boxed struct of two cells, behind calls that leave it alone -/
theorem box2 {w w1 : World} {v0 v1 : Value} {t : TypeId} (h : Below (w.alloc (.cells #[v0, v1] t)).heap.size (w.alloc (.cells #[v0, v1] t)) w1) :
    w1.cell? ⟨w.heap.size, 0, none⟩ = some v0 ∧ w1.cell? ⟨w.heap.size, 1, none⟩ = some v1 := by
  have hn := World.news_of_block (cs := #[v0, v1]) (t := t) (fr := (0, 0)) (heap_alloc_new w _)
  have hl : w.heap.size < (w.alloc (.cells #[v0, v1] t)).heap.size := by simp
  refine ⟨?_, ?_⟩
  · rw [h.cell (p := ⟨w.heap.size, 0, none⟩) hl, ← addr_zero]; exact hn 0 v0 rfl
  · rw [h.cell (p := ⟨w.heap.size, 1, none⟩) hl, ← addr_zero]; exact hn 1 v1 rfl
/-- the range that is marked from the q-th mark on; n of them -/
def mG (q : Nat) : Rg := ⟨q, (q : Int) + 1⟩
def marksG (k n : Nat) : List Rg := (List.range n).map fun i => mG (k + 2 * i)
theorem marksG_length (k n : Nat) : (marksG k n).length = n := by simp [marksG]
theorem marksG_get (k n i : Nat) (h : i < (marksG k n).length) : (marksG k n)[i] = mG (k + 2 * i) := by simp [marksG]
theorem marksG_step {l : List Rg} {k i n : Nat} (hi : i < n) (hn : n = l.length) : (marksG k i ++ l.drop i).set i (mG (k + 2 * i)) = marksG k (i + 1) ++ l.drop (i + 1) := by
  subst hn
  rw [List.set_append_right _ _ (by rw [marksG_length]; exact Nat.le_refl _), marksG_length, Nat.sub_self, List.drop_eq_getElem_cons hi, List.set_cons_zero]
  unfold marksG
  rw [List.range_succ, List.map_append, List.append_assoc]; rfl
end Go.Proofs.Ythmjffijhlkgcaa
