/- MERGED for a claim: PtsE PtsF. -/
import Derived.Test.YtdkpleghpnflhaaPtsD
import Derived.Deep.RegionWith
import Derived.Test.YtdkpleghpnflhaaCpyC
import Derived.Test.YtdkpleghpnflhaaRgZ
set_option linter.unusedVariables false
set_option linter.unusedSimpArgs false
/- CHAPTER 8: impl.copyPath. -/
namespace Go.Proofs.Ytdkpleghpnflhaa
open Go.RowKit NumP

/-- the two variables of a call that copies a path: the path, the answer -/
def Two8 (B : Nat) (T : TypeId) (W : World) (r : Bool) (u : Int) (v : Value) : Prop :=
  W.heap[B]? = some (.cells #[.bool r, .int .i64 u, v] T (0, 0)) ∧ W.heap[B + 1]? = some (.cells #[.bool false, .int .i64 0, .slice none 0 0] T (0, 0))
theorem Two8.lt {B : Nat} {T : TypeId} {W : World} {r : Bool} {u : Int} {v : Value} (h : Two8 B T W r u v) : B + 1 < W.heap.size := (Array.getElem?_eq_some_iff.1 h.2).1
theorem Two8.below {B : Nat} {T : TypeId} {W W' : World} {r : Bool} {u : Int} {v : Value} (h : Two8 B T W r u v) (hb : Below W.heap.size W W') : Two8 B T W' r u v :=
  ⟨(hb.block _ (by have := h.lt; omega)).trans h.1, (hb.block _ h.lt).trans h.2⟩
theorem Two8.grown {B : Nat} {T : TypeId} {W W' : World} {r : Bool} {u : Int} {v : Value} {j : Option Nat} (h : Two8 B T W r u v) (hg : W.grownBy W' j) (hj : ∀ k, j = some k → B + 2 ≤ k) : Two8 B T W' r u v :=
  ⟨(hg.block _ (by have := h.lt; omega) (fun e => by have := hj _ e.symm; omega)).trans h.1, (hg.block _ h.lt (fun e => by have := hj _ e.symm; omega)).trans h.2⟩
theorem Two8.put {B : Nat} {T : TypeId} {W : World} {r : Bool} {u : Int} {v : Value} (h : Two8 B T W r u v) (v' : Value) : Two8 B T (W.setCell ⟨B, 2, none⟩ v') r u v' :=
  ⟨(heap_setCell_same W B 2 _ T v' h.1).trans rfl, (Below.heap_setCell W ⟨B, 2, none⟩ _ _ (by simp)).trans h.2⟩
theorem two_cells8 {w : World} {b : Nat} {a0 a1 : Value} {t : TypeId} (h : w.heap[b]? = some (.cells #[a0, a1] t (0, 0))) : w.cell? ⟨b, 0, none⟩ = some a0 ∧ w.cell? ⟨b, 1, none⟩ = some a1 := by
  constructor
  · rw [cell_of_row _ b 0 _ _ _ h]; rfl
  · rw [cell_of_row _ b 1 _ _ _ h]; rfl
/-- the j-th record with a list of tests of its own -/
theorem RowT7.tests {B g n cap : Nat} {w : World} {L : List StR} (h : RowT7 B w (.slice (some ⟨g, 0, none⟩) n cap) L) {i : Nat} (hi : i < L.length) (v : Value) :
    RowT7 B (w.setCell ⟨g, i * 2 + 1, none⟩ v) (.slice (some ⟨g, 0, none⟩) n cap) (L.set i ⟨L[i].n, v⟩) ∧ w.grownBy (w.setCell ⟨g, i * 2 + 1, none⟩ v) (some g) :=
  RowR.set1 StR.enc_len h hi 1 (by omega) v ⟨L[i].n, v⟩ rfl
end Go.Proofs.Ytdkpleghpnflhaa

/- CHAPTER 8: spec.l7Copy. -/
namespace Go.Proofs.Ytdkpleghpnflhaa
open Go.RowKit NumP
end Go.Proofs.Ytdkpleghpnflhaa
