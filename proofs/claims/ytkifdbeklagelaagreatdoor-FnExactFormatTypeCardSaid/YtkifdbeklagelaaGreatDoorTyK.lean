/- CHAPTER 6: impl.copyType, spec.l6Copy. -/
import Derived.Test.YtkifdbeklagelaaGreatDoorTyN
set_option linter.unusedVariables false
set_option linter.unusedSimpArgs false
namespace Go.Proofs.YtkifdbeklagelaaGreatDoor
open Go.RowKit

theorem OwnTy.set5 {B b : Nat} {w : World} {v : TyV} {t : Ty} {u0 u1 u2 u3 u4 : Value} (h : OwnTy B w v t) (hb : b < B) :
    OwnTy B (((((w.setCell ⟨b, 0, none⟩ u0).setCell ⟨b, 1, none⟩ u1).setCell ⟨b, 2, none⟩ u2).setCell ⟨b, 3, none⟩ u3).setCell ⟨b, 4, none⟩ u4) v t := ((((h.setLow hb).setLow hb).setLow hb).setLow hb).setLow hb
theorem below_set5 {W W' : World} {b : Nat} {u0 u1 u2 u3 u4 : Value} (h : Below W.heap.size W W') (hb : W.heap.size ≤ b) :
    Below W.heap.size W (((((W'.setCell ⟨b, 0, none⟩ u0).setCell ⟨b, 1, none⟩ u1).setCell ⟨b, 2, none⟩ u2).setCell ⟨b, 3, none⟩ u3).setCell ⟨b, 4, none⟩ u4) := below_set' (below_set' (below_set' (below_set' (below_set' h hb) hb) hb) hb) hb
/-- a block of a type's five cells -/
def TyBox (w : World) (b : Nat) (k : Int) (vr vn : Value) (pt ph : ByteArray) : Prop := w.heap[b]? = some (.cells #[.int .i64 k, vr, vn, .string pt, .string ph] 30 (0, 0))
theorem TyBox.below {w w' : World} {b : Nat} {k : Int} {vr vn : Value} {pt ph : ByteArray} (h : TyBox w b k vr vn pt ph) (hb : Below w.heap.size w w') : TyBox w' b k vr vn pt ph := (hb.block b (Array.getElem?_eq_some_iff.1 h).1).trans h
theorem TyBox.set {w : World} {b c j : Nat} {u : Value} {k : Int} {vr vn : Value} {pt ph : ByteArray} (h : TyBox w b k vr vn pt ph) (hne : b ≠ c) : TyBox (w.setCell ⟨c, j, none⟩ u) b k vr vn pt ph := (Below.heap_setCell w ⟨c, j, none⟩ u b hne).trans h
theorem TyBox.lt {w : World} {b : Nat} {k : Int} {vr vn : Value} {pt ph : ByteArray} (h : TyBox w b k vr vn pt ph) : b < w.heap.size := (Array.getElem?_eq_some_iff.1 h).1
end Go.Proofs.YtkifdbeklagelaaGreatDoor
