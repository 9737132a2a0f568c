/- MERGED for a claim: TyP TyK. -/
import Derived.Test.YtkifdbeklagelaaGreatDoorTyF
import Derived.Test.YtkifdbeklagelaaGreatDoorTyN
import Derived.Test.YtkifdbeklagelaaGreatDoorRngF
import Derived.Test.YtkifdbeklagelaaGreatDoorQuote
set_option linter.unusedVariables false
set_option linter.unusedSimpArgs false
/- CHAPTER 6: FormatType: what a type is written as; both. -/
namespace Go.Proofs.YtkifdbeklagelaaGreatDoor
open Go.RowKit
set_option maxRecDepth 100000

def tyW (k : Int) : ByteArray := if k = 1 then ⟨#[105, 110, 116]⟩ else if k = 2 then ⟨#[116, 101, 120, 116]⟩ else if k = 3 then ⟨#[98, 111, 111, 108]⟩ else if k = 4 then ⟨#[101, 110, 117, 109]⟩ else if k = 5 then ⟨#[114, 101, 102]⟩ else if k = 6 then ⟨#[102, 108, 97, 103]⟩ else ⟨#[]⟩
def rgL (l : List Rg) : List ByteArray := if l.length = 0 then [] else [formatS l]
def qtL (s : ByteArray) : List ByteArray := if emB s = true then [] else [quoteS s]
def tyP1 (t : Ty) : List ByteArray := [tyW t.k] ++ rgL t.rg
def tyP2 (t : Ty) : List ByteArray := tyP1 t ++ t.nm
def tyP3 (t : Ty) : List ByteArray := tyP2 t ++ qtL t.pt
def tyP4 (t : Ty) : List ByteArray := tyP3 t ++ qtL t.ph
noncomputable def fmtTy (t : Ty) : ByteArray := if isTyB t = true then joinC 32 (tyP4 t) else ⟨#[]⟩
theorem tyW_size (k : Int) : (tyW k).size ≤ 4 := by
  unfold tyW
  repeat' split
  all_goals first | exact (by decide : (_ : Nat) ≤ 4) | (show (_ : Nat) ≤ 4; decide)
theorem formatS_le {l : List Rg} (hn : l.length ≤ 1048576) (hs : ∀ x ∈ l, RgWf x) : (formatS l).size ≤ 47185920 := by
  rw [formatS_size]
  have := join_lenC (xs := (rngsT l).map (·.data.toList)) (m := 44) (c := 124) (fun x hx => by
    obtain ⟨y, hy, rfl⟩ := List.mem_map.1 hx
    obtain ⟨z, hz, rfl⟩ := List.mem_map.1 hy
    have := rangeS_size (hs z hz)
    rw [Array.length_toList]
    exact this)
  rw [List.length_map, show (rngsT l).length = l.length by simp [rngsT]] at this
  omega
theorem quoteS_sizeT (s : ByteArray) : (quoteS s).size ≤ 2 * s.size + 2 := by
  have h : ∀ l : List UInt8, (escL l).length ≤ 2 * l.length := by
    intro l
    induction l with
    | nil => simp [escL]
    | cons c l ih => rw [escL]; split <;> simp only [List.length_cons] <;> omega
  have h := h s.data.toList
  have e : (quoteS s).size = (quoteL s.data.toList).length := by unfold quoteS; rfl
  have e2 : s.data.toList.length = s.size := by simp
  rw [e]; unfold quoteL; simp only [List.length_cons, List.length_append, List.length_nil]; omega
/-- the types that are written: their lists are short -/
structure TyFm (t : Ty) : Prop where
  rg : t.rg.length ≤ 1048576
  wf : ∀ x ∈ t.rg, RgWf x
  nm : t.nm.length ≤ 1048576
  sz : ∀ s ∈ t.nm, s.size ≤ 1048576
  pt : t.pt.size ≤ 1048576
  ph : t.ph.size ≤ 1048576
theorem rgL_mem {l : List Rg} (hn : l.length ≤ 1048576) (hs : ∀ x ∈ l, RgWf x) : ∀ x ∈ rgL l, x.size ≤ 47185920 := by
  intro x hx
  unfold rgL at hx
  split at hx
  · simp at hx
  · rw [List.mem_singleton.1 hx]; exact formatS_le hn hs
theorem qtL_mem {s : ByteArray} (h : s.size ≤ 1048576) : ∀ x ∈ qtL s, x.size ≤ 47185920 := by
  intro x hx
  unfold qtL at hx
  split at hx
  · simp at hx
  · rw [List.mem_singleton.1 hx]; have := quoteS_sizeT s; omega
theorem rgL_len (l : List Rg) : (rgL l).length ≤ 1 := by unfold rgL; split <;> simp
theorem qtL_len (s : ByteArray) : (qtL s).length ≤ 1 := by unfold qtL; split <;> simp
theorem tyP_mem {t : Ty} (h : TyFm t) : ∀ x ∈ tyP4 t, x.size ≤ 47185920 := by
  intro x hx
  unfold tyP4 tyP3 tyP2 tyP1 at hx
  simp only [List.mem_append] at hx
  rcases hx with (((hx | hx) | hx) | hx) | hx
  · rw [List.mem_singleton.1 hx]; have := tyW_size t.k; omega
  · exact rgL_mem h.rg h.wf x hx
  · have := h.sz x hx; omega
  · exact qtL_mem h.pt x hx
  · exact qtL_mem h.ph x hx
theorem tyP_len {t : Ty} (h : TyFm t) : (tyP4 t).length ≤ 1048580 := by
  have := rgL_len t.rg; have := qtL_len t.pt; have := qtL_len t.ph; have := h.nm
  unfold tyP4 tyP3 tyP2 tyP1
  simp only [List.length_append, List.length_cons, List.length_nil]; omega
theorem joinC_le {xs : List ByteArray} (h : ∀ x ∈ xs, x.size ≤ 47185920) (hn : xs.length ≤ 1048580) : (Lib.join (xs.map (·.data.toList)) [32]).length ≤ 140737488355328 := by
  have := join_lenC (xs := xs.map (·.data.toList)) (m := 47185920) (c := 32) (fun x hx => by
    obtain ⟨y, hy, rfl⟩ := List.mem_map.1 hx
    rw [Array.length_toList]
    exact h y hy)
  rw [List.length_map] at this
  have h2 : xs.length * (47185920 + 1) ≤ 1048580 * (47185920 + 1) := Nat.mul_le_mul_right _ hn
  omega
theorem joinC_size {xs : List ByteArray} (h : ∀ x ∈ xs, x.size ≤ 47185920) (hn : xs.length ≤ 1048580) : (joinC 32 xs).size ≤ 140737488355328 := joinC_le h hn
/-- the texts from the first on, each kept short -/
theorem tyP_take {t : Ty} (h : TyFm t) {ys zs : List ByteArray} (e : tyP4 t = ys ++ zs) : (joinC 32 ys).size ≤ 140737488355328 :=
  joinC_size (fun x hx => tyP_mem h x (by rw [e]; exact List.mem_append_left _ hx)) (by have := tyP_len h; rw [e, List.length_append] at this; omega)
end Go.Proofs.YtkifdbeklagelaaGreatDoor

/- CHAPTER 6: impl.copyType, spec.l6Copy. -/
namespace Go.Proofs.YtkifdbeklagelaaGreatDoor
open Go.RowKit

theorem OwnTy.set5 {B b : Nat} {w : World} {v : TyV} {t : Ty} {u0 u1 u2 u3 u4 : Value} (h : OwnTy B w v t) (hb : b < B) :
    OwnTy B (((((w.setCell ⟨b, 0, none⟩ u0).setCell ⟨b, 1, none⟩ u1).setCell ⟨b, 2, none⟩ u2).setCell ⟨b, 3, none⟩ u3).setCell ⟨b, 4, none⟩ u4) v t := ((((h.setLow hb).setLow hb).setLow hb).setLow hb).setLow hb
theorem below_set5 {W W' : World} {b : Nat} {u0 u1 u2 u3 u4 : Value} (h : Below W.heap.size W W') (hb : W.heap.size ≤ b) :
    Below W.heap.size W (((((W'.setCell ⟨b, 0, none⟩ u0).setCell ⟨b, 1, none⟩ u1).setCell ⟨b, 2, none⟩ u2).setCell ⟨b, 3, none⟩ u3).setCell ⟨b, 4, none⟩ u4) := below_set' (below_set' (below_set' (below_set' (below_set' h hb) hb) hb) hb) hb
/-- a block of a type's five cells -/
def TyBox (w : World) (b : Nat) (k : Int) (vr vn : Value) (pt ph : ByteArray) : Prop := w.heap[b]? = some (.cells #[.int .i64 k, vr, vn, .string pt, .string ph] 30 (0, 0))
theorem TyBox.below {w w' : World} {b : Nat} {k : Int} {vr vn : Value} {pt ph : ByteArray} (h : TyBox w b k vr vn pt ph) (hb : Below w.heap.size w w') : TyBox w' b k vr vn pt ph := (hb.block b (Array.getElem?_eq_some_iff.1 h).1).trans h
theorem TyBox.set {w : World} {b c j : Nat} {u : Value} {k : Int} {vr vn : Value} {pt ph : ByteArray} (h : TyBox w b k vr vn pt ph) (hne : b ≠ c) : TyBox (w.setCell ⟨c, j, none⟩ u) b k vr vn pt ph := (Below.heap_setCell w ⟨c, j, none⟩ u b hne).trans h
theorem TyBox.lt {w : World} {b : Nat} {k : Int} {vr vn : Value} {pt ph : ByteArray} (h : TyBox w b k vr vn pt ph) : b < w.heap.size := (Array.getElem?_eq_some_iff.1 h).1
end Go.Proofs.YtkifdbeklagelaaGreatDoor
