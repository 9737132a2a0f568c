/- CHAPTER 8, 9, impl: walk's iterator, walked. PRINTED by tools/gen_wkE.py. -/
import Derived.Test.YthmjffijhlkgcaaWkUE
import Derived.Test.YthmjffijhlkgcaaWkW
import Derived.WideMake
set_option linter.unusedVariables false
set_option linter.unusedSimpArgs false
namespace Go.Proofs.Ythmjffijhlkgcaa
open Go.RowKit Go.Shelf
attribute [local go_sem] Oper.semAt_some run_makeMap_plain
/-- the round's blocks stay apart from the walk's -/
theorem apart_roundE {Z M M' : Nat → Prop} {b4 b5 bm : Nat} {v : Value} {A B : World} (hM : ∀ b, M b → b < A.heap.size ∧ ¬ Z b ∧ ¬ OwnWE b4 b5 bm v b) (hZ : ∀ b, Z b → b < A.heap.size) (ho : ∀ b, OwnWE b4 b5 bm v b → b < A.heap.size) (k : StepM M M' A B) :
    ∀ b, M' b → b < B.heap.size ∧ ¬ Z b ∧ ¬ OwnWE b4 b5 bm v b := fun b hb => by
  refine ⟨k.lt b hb, fun hz => ?_, fun hw => ?_⟩
  · rcases k.sub b hb with h | h
    · exact (hM b h).2.1 hz
    · have := hZ b hz; omega
  · rcases k.sub b hb with h | h
    · exact (hM b h).2.2 hw
    · have := ho b hw; omega
theorem ws_formE {n₀ B b4 b5 bm : Nat} {w0 wr : World} {p : ItSE} {rest : List ItSE} {v : Value} (h : WSE n₀ B w0 b4 b5 bm (p :: rest) v wr) : ∃ g c, v = .slice (some ⟨g, 0, none⟩) (rest.length + 1) c ∧ B ≤ g ∧ RowAE B wr (.slice (some ⟨g, 0, none⟩) (rest.length + 1) c) (rest.reverse.map (·.a) ++ [p.a]) ∧ wr.cell? ⟨g, rest.length, none⟩ = some (.pointer (some p.a)) ∧ rest.length + 1 ≤ c := by
  have hr := h.row
  have e : (p :: rest).reverse.map (·.a) = rest.reverse.map (·.a) ++ [p.a] := by simp
  rw [e] at hr
  rcases hr.2 with ⟨_, h0⟩ | ⟨g, c, cur, rfl, h1, h2, h3, h4, h5, h6⟩
  · simp at h0
  · have hlen : (rest.reverse.map (·.a) ++ [p.a]).length = rest.length + 1 := by simp
    have hcell := RowR.cell encA_len hr (i := rest.length) (j := 0) (by simp) (x := .pointer (some p.a)) (by simp [encA])
    rw [hlen] at h3 hr
    refine ⟨g, c, by rw [hlen], h1, hr, ?_, h3⟩
    simpa using hcell
theorem ws_nilE {n₀ B b4 b5 bm : Nat} {w0 wr : World} {v : Value} (h : WSE n₀ B w0 b4 b5 bm [] v wr) : ∃ A c, v = .slice A 0 c := by
  rcases h.row.2 with ⟨h1, _⟩ | ⟨g, c, cur, h1, _⟩
  · exact ⟨_, _, h1⟩
  · exact ⟨_, _, h1⟩
theorem drop_consE {α : Type} {l l' : List α} {x : α} {i : Nat} (h : l.drop i = x :: l') : ∃ (hi : i < l.length), l[i] = x ∧ l.drop (i + 1) = l' := by
  have hi : i < l.length := by
    rcases Nat.lt_or_ge i l.length with h1 | h1
    · exact h1
    · rw [List.drop_eq_nil_iff.2 h1] at h; cases h
  rw [List.drop_eq_getElem_cons hi] at h
  injection h with h1 h2
  exact ⟨hi, h1, h2⟩
end Go.Proofs.Ythmjffijhlkgcaa
