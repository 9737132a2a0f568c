/- ARGUMENTS OPENED: a type. -/
import Derived.Test.YtlgooejoohcmfaaTy
import Derived.SliceStrings
import Derived.OpenShut
import Derived.ShutString
import Derived.Deep.RegionWith
set_option linter.unusedVariables false
set_option linter.unusedSimpArgs false
namespace Go.Proofs.Ytlgooejoohcmfaa
open Go.RowKit Go.ChangeShapes Go.WideShapes Go.Deep Go.Joins

section
variable {H : Type} {en : TypeId × Value → H} {w : World} {base : Nat} {spare : Nat → Bool} {held : Bool}
theorem trod_struct5' {P : Program} {t : TypeId} {f0 f1 f2 f3 f4 : Field} {fuel : Nat} {cs : List Value} {x : DataW H × List MemPlace} (ht : P.underlying t = some (.struct #[f0, f1, f2, f3, f4])) (h : DataW.trod en P w base spare held fuel t cs = some x) :
    ∃ y0 y1 y2 y3 y4 n, cs.length = P.cellsOf t ∧ DataW.trod en P w base spare held n f0.type ((cs.drop f0.offset).take (P.cellsOf f0.type)) = some y0 ∧
      DataW.trod en P w base spare held n f1.type ((cs.drop f1.offset).take (P.cellsOf f1.type)) = some y1 ∧ DataW.trod en P w base spare held n f2.type ((cs.drop f2.offset).take (P.cellsOf f2.type)) = some y2 ∧
      DataW.trod en P w base spare held n f3.type ((cs.drop f3.offset).take (P.cellsOf f3.type)) = some y3 ∧ DataW.trod en P w base spare held n f4.type ((cs.drop f4.offset).take (P.cellsOf f4.type)) = some y4 := by
  obtain ⟨xs, n, _, rfl, hl, hlen, hf⟩ := DataW.trod_struct ht h
  match xs, hlen with
  | [y0, y1, y2, y3, y4], _ => exact ⟨y0, y1, y2, y3, y4, n, hl, by simpa using hf 0 f0 rfl, by simpa using hf 1 f1 rfl, by simpa using hf 2 f2 rfl, by simpa using hf 3 f3 rfl, by simpa using hf 4 f4 rfl⟩
theorem strs_open {fuel : Nat} {cs : List Value} {x : DataW H × List MemPlace} (h : DataW.trod en Try.prog w base spare held fuel 31 cs = some x) :
    ∃ (a : Option Addr) (len cap : Nat) (l : List ByteArray), cs = [.slice a len cap] ∧ Has w (.slice a len cap) l ∧ ∀ s ∈ l, s.size ≤ 9223372036854775807 := by
  rcases open_strings Try.underlying31 Try.underlying9 (by kernel_rfl) h with ⟨hcs, _⟩ | ⟨x, l, c, ss, hcs, _, hl, hm, hz, _, hcell, hwz⟩
  · exact ⟨none, 0, 0, [], hcs, has_nil w, by simp⟩
  · have hz' : l ≤ ss.length := by
      rw [hz]; split <;> omega
    exact ⟨some x, l, c, ss.take l, hcs, has_of hz' (by omega) hcell, fun s hs => hwz s (List.mem_of_mem_take hs)⟩
set_option maxRecDepth 100000 in
theorem ty_of_cells {n : Nat} {cs : List Value} {y : DataW H × List MemPlace} (h : DataW.trod en Try.prog w base spare held n 49 cs = some y) :
    ∃ (v : TyV) (t : Ty), cs = [.int .i64 v.k, v.vr, v.vn, .string v.pt, .string v.ph] ∧ HasTy w v t ∧ TyWf t := by
  obtain ⟨y0, y1, y2, y3, y4, m, hl, h0, h1, h2, h3, h4⟩ := trod_struct5' Try.underlying49 h
  rw [show Try.prog.cellsOf 49 = 5 by kernel_rfl] at hl
  match cs, hl with
  | [c0, c1, c2, c3, c4], _ =>
    rw [show Try.prog.cellsOf 3 = 1 by kernel_rfl] at h0
    rw [show Try.prog.cellsOf 47 = 1 by kernel_rfl] at h1
    rw [show Try.prog.cellsOf 31 = 1 by kernel_rfl] at h2
    rw [show Try.prog.cellsOf 9 = 1 by kernel_rfl] at h3 h4
    obtain ⟨k, hk, _, kw⟩ := DataW.trod_int Try.underlying3 h0
    obtain ⟨a1, n1, p1, l1, e1, g1, b1⟩ := rngs_open h1
    obtain ⟨a2, n2, p2, l2, e2, g2, b2⟩ := strs_open h2
    obtain ⟨t, ht, _, hs⟩ := DataW.trod_string Try.underlying9 h3
    obtain ⟨u, hu, _, hs'⟩ := DataW.trod_string Try.underlying9 h4
    simp at hk e1 e2 ht hu
    subst hk e1 e2 ht hu
    exact ⟨⟨k, .slice a1 n1 p1, .slice a2 n2 p2, t, u⟩, ⟨k, l1, l2, t, u⟩, rfl, ⟨rfl, g1, g2, rfl, rfl⟩, wf_i64 kw, b1, b2, by unfold maxLen at hs; omega, by unfold maxLen at hs'; omega⟩
set_option maxRecDepth 100000 in
theorem ty_open {r : Reach} {b0 : Nat} {v : Value} {d : DataW H} {p : List MemPlace} (hv : Value.okWide Try.prog w r b0 49 v) (h : DataW.Trod en Try.prog w base spare held 49 v d p) :
    ∃ (y : TyV) (t : Ty), v = y.val ∧ HasTy w y t ∧ TyWf t := by
  obtain ⟨cs, rfl, hsz⟩ := okWide_struct Try.underlying49 hv
  obtain ⟨fuel, hf⟩ := h
  obtain ⟨y, t, hy, h1, h2⟩ := ty_of_cells hf
  refine ⟨y, t, ?_, h1, h2⟩
  have : cs.toList = [.int .i64 y.k, y.vr, y.vn, .string y.pt, .string y.ph] := hy
  rw [← Array.toArray_toList (xs := cs), this]
end
end Go.Proofs.Ytlgooejoohcmfaa
