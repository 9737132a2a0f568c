/- ARGUMENTS OPENED: a token, a list of tokens. -/
import Derived.Test.YthediljoioahpaaOpen
import Derived.Test.YthediljoioahpaaToks
namespace Go.Proofs.Ythediljoioahpaa
open Go.RowKit Go.ChangeShapes Go.WideShapes Go.Deep Go.Joins

section
variable {H : Type} {en : TypeId × Value → H} {w : World} {base : Nat} {spare : Nat → Bool} {held : Bool}
theorem tok_of_cells {n : Nat} {cs : List Value} {y : DataW H × List MemPlace} (h : DataW.trod en Try.prog w base spare held n 23 cs = some y) : ∃ x : Tok, cs = x.enc ∧ x.t.size ≤ 9223372036854775807 := by
  obtain ⟨y0, y1, y2, m, _, hl, h0, h1, h2⟩ := trod_struct3 Try.underlying23 h
  rw [show Try.prog.cellsOf 23 = 3 by kernel_rfl] at hl
  match cs, hl with
  | [c0, c1, c2], _ =>
    rw [show Try.prog.cellsOf 3 = 1 by kernel_rfl] at h0 h2
    rw [show Try.prog.cellsOf 9 = 1 by kernel_rfl] at h1
    obtain ⟨k, hk, _, _⟩ := DataW.trod_int Try.underlying3 h0
    obtain ⟨t, ht, _, hs⟩ := DataW.trod_string Try.underlying9 h1
    obtain ⟨p, hp, _, _⟩ := DataW.trod_int Try.underlying3 h2
    simp at hk ht hp
    subst hk ht hp
    exact ⟨⟨k, t, p⟩, rfl, by unfold maxLen at hs; omega⟩
theorem toks_open {fuel : Nat} {cs : List Value} {x : DataW H × List MemPlace} (h : DataW.trod en Try.prog w base spare held fuel 29 cs = some x) :
    ∃ (a : Option Addr) (len cap : Nat) (l : List Tok), cs = [.slice a len cap] ∧ HasT w (.slice a len cap) l ∧ ∀ x ∈ l, x.t.size ≤ 9223372036854775807 :=
  open_rows Try.underlying29 (by kernel_rfl) (by omega) (fun _ _ _ h => tok_of_cells h) h
theorem tok_open {r : Reach} {b0 : Nat} {v : Value} {d : DataW H} {p : List MemPlace} (hv : Value.okWide Try.prog w r b0 23 v) (h : DataW.Trod en Try.prog w base spare held 23 v d p) :
    ∃ x : Tok, v = .agg #[.int .i64 x.k, .string x.t, .int .i64 x.p] ∧ x.t.size ≤ 9223372036854775807 := by
  obtain ⟨cs, rfl, hsz⟩ := okWide_struct Try.underlying23 hv
  obtain ⟨fuel, hf⟩ := h
  obtain ⟨x, hx, hs⟩ := tok_of_cells hf
  refine ⟨x, ?_, hs⟩
  have : cs.toList = x.enc := hx
  rw [← Array.toArray_toList (xs := cs), this]; rfl
end
end Go.Proofs.Ythediljoioahpaa
