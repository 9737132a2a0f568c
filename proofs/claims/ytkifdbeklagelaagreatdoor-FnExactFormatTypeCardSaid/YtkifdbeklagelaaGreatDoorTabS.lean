/- A TABLE OF TEXTS THAT IS A VARIABLE OF THE PACKAGE: what the row's condition tells of its cells. No function is spoken of. -/
import Derived.Test.YtkifdbeklagelaaGreatDoorBase
import Derived.Lib.LaidU8
set_option linter.unusedVariables false
set_option linter.unusedSimpArgs false
namespace Go.Proofs.YtkifdbeklagelaaGreatDoor
open Go.RowKit

/-- the datum of a table of texts -/
def textsD {H : Type} (ss : List (List UInt8)) : DataW H := .agg (ss.map fun s => .lit (.string s))
theorem strTab {P : Program} {w : World} {n : String} {ss : List (List UInt8)} {g : Nat} {t e : TypeId} {m : Nat} (h : Go.Lib.VarReads P w n (textsD ss)) (hg : P.globalNamed n = some g) (ht : (P.globals[g]?).map (·.type) = some t)
    (hu : P.underlying t = some (.array m e)) (he : P.underlying e = some .string) (hc : P.cellsOf e = 1) (i : Nat) (s : List UInt8) (hi : i < m) (hs : ss[i]? = some s) : w.cell? ⟨g, i, none⟩ = some (.string ⟨s.toArray⟩) := by
  obtain ⟨g', t', cs, fuel, p, h1, h2, h3, h4⟩ := h
  obtain rfl := Option.some.inj (hg.symm.trans h1)
  obtain rfl := Option.some.inj (ht.symm.trans h2)
  obtain ⟨fuel', d, q, hd, hf⟩ := Go.Lib.array_elem hu h4 i hi
  rw [hc, Nat.mul_one] at hf
  obtain ⟨s', hcs, hx, _⟩ := DataW.trod_string he hf
  rw [List.getElem?_map, hs] at hd
  simp only [Option.map_some, Option.some.injEq] at hd
  have hx1 := congrArg Prod.fst hx
  rw [← hd] at hx1
  simp only [DataW.lit.injEq, Lit.string.injEq] at hx1
  have h5 : cs.toList[i]? = some (.string s') := by
    have := congrArg (·[0]?) hcs
    simpa [List.getElem?_take, List.getElem?_drop] using this
  have h6 := World.var?_cell hg h3 i
  rw [h6]
  rw [Array.getElem?_toList] at h5
  rw [h5, hx1]
end Go.Proofs.YtkifdbeklagelaaGreatDoor
