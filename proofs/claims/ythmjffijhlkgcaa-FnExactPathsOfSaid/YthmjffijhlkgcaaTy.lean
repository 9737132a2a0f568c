/- CHAPTER 6: TYPES IN MEMORY, as they are read and as they are owned: laws.szType, toType, eqType; arguments opened. -/
import Derived.Test.YthmjffijhlkgcaaRngOpen
import Derived.Test.YthmjffijhlkgcaaPth
import Derived.Test.YthmjffijhlkgcaaDig
import Derived.Deep.RegionHeld3
set_option linter.unusedVariables false
set_option linter.unusedSimpArgs false
namespace Go.Proofs.Ythmjffijhlkgcaa
open Go.RowKit Go.ChangeShapes Go.WideShapes Go.Deep Go.Joins

/-- what a type says -/
structure Ty where
  k : Int
  rg : List Rg
  nm : List ByteArray
  pt : ByteArray
  ph : ByteArray
/-- how it lies -/
structure TyV where
  k : Int
  vr : Value
  vn : Value
  pt : ByteArray
  ph : ByteArray
abbrev TyV.val (v : TyV) : Value := .agg #[.int .i64 v.k, v.vr, v.vn, .string v.pt, .string v.ph]
structure HasTy (w : World) (v : TyV) (t : Ty) : Prop where
  k : v.k = t.k
  rg : HasG w v.vr t.rg
  nm : Has w v.vn t.nm
  pt : v.pt = t.pt
  ph : v.ph = t.ph
theorem HasTy.below {w w' : World} {v : TyV} {t : Ty} (h : HasTy w v t) (hb : Below w.heap.size w w') : HasTy w' v t := ⟨h.k, h.rg.below hb, h.nm.below hb, h.pt, h.ph⟩
/-- what a frame tells of a type's argument -/
def TyWf (t : Ty) : Prop := (-9223372036854775808 ≤ t.k ∧ t.k ≤ 9223372036854775807) ∧ (∀ x ∈ t.rg, RgWf x) ∧ (∀ s ∈ t.nm, s.size ≤ 9223372036854775807) ∧ t.pt.size ≤ 9223372036854775807 ∧ t.ph.size ≤ 9223372036854775807
theorem bcell {W w1 : World} (hb : Below W.heap.size W w1) : (∀ b o, b < W.heap.size → w1.cell? ⟨b, o, none⟩ = W.cell? ⟨b, o, none⟩) ∧ (∀ b o, b < W.heap.size → w1.frozen? ⟨b, o, none⟩ = W.frozen? ⟨b, o, none⟩) :=
  ⟨fun b o h => hb.cell (p := ⟨b, o, none⟩) h, fun b o h => hb.frozen (p := ⟨b, o, none⟩) h⟩
/-- a block of five cells -/
theorem five {w : World} {b : Nat} {a0 a1 a2 a3 a4 : Value} {t : TypeId} (h : w.heap[b]? = some (.cells #[a0, a1, a2, a3, a4] t (0, 0))) :
    (w.cell? ⟨b, 0, none⟩ = some a0 ∧ w.cell? ⟨b, 1, none⟩ = some a1 ∧ w.cell? ⟨b, 2, none⟩ = some a2 ∧ w.cell? ⟨b, 3, none⟩ = some a3 ∧ w.cell? ⟨b, 4, none⟩ = some a4) ∧
    (w.frozen? ⟨b, 0, none⟩ = false ∧ w.frozen? ⟨b, 1, none⟩ = false ∧ w.frozen? ⟨b, 2, none⟩ = false ∧ w.frozen? ⟨b, 3, none⟩ = false ∧ w.frozen? ⟨b, 4, none⟩ = false) := by
  refine ⟨⟨?_, ?_, ?_, ?_, ?_⟩, frozen_of_row _ b 0 _ _ h, frozen_of_row _ b 1 _ _ h, frozen_of_row _ b 2 _ _ h, frozen_of_row _ b 3 _ _ h, frozen_of_row _ b 4 _ _ h⟩
  · rw [cell_of_row _ b 0 _ _ _ h]; rfl
  · rw [cell_of_row _ b 1 _ _ _ h]; rfl
  · rw [cell_of_row _ b 2 _ _ _ h]; rfl
  · rw [cell_of_row _ b 3 _ _ _ h]; rfl
  · rw [cell_of_row _ b 4 _ _ _ h]; rfl
theorem set5 {w : World} {b : Nat} {a0 a1 a2 a3 a4 : Value} {t : TypeId} (h : w.heap[b]? = some (.cells #[a0, a1, a2, a3, a4] t (0, 0))) (j : Nat) (u : Value) : (w.setCell ⟨b, j, none⟩ u).heap[b]? = some (.cells (#[a0, a1, a2, a3, a4].setIfInBounds j u) t (0, 0)) := heap_setCell_same w b j _ t u h
theorem take_sz {l : List ByteArray} {k : Nat} (hk : k < l.length) (h : ∀ s ∈ l.take k, s.size ≤ 1048576) (h1 : l[k].size ≤ 1048576) : ∀ s ∈ l.take (k + 1), s.size ≤ 1048576 := by
  intro s hs
  rw [List.take_add_one, List.getElem?_eq_getElem hk] at hs
  rcases List.mem_append.1 hs with h2 | h2
  · exact h s h2
  · simp at h2; rw [h2]; exact h1
theorem heap_alloc_new' (w : World) (o : Obj) {b : Nat} (h : b = w.heap.size) : (w.alloc o).heap[b]? = some o := by rw [h]; exact heap_alloc_new w o
theorem below_set' {W W' : World} {b j : Nat} {u : Value} (h : Below W.heap.size W W') (hb : W.heap.size ≤ b) : Below W.heap.size W (W'.setCell ⟨b, j, none⟩ u) := h.setCell (p := ⟨b, j, none⟩) hb u
end Go.Proofs.Ythmjffijhlkgcaa
