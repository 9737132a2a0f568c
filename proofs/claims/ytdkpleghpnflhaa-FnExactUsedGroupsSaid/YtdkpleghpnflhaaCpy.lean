/- COPIES OF LISTS OF RECORDS (no function and no type is spoken of): 'append([]T{}, l...)', slices.Clone. -/
import Derived.Test.YtdkpleghpnflhaaOpen
import Derived.Test.YtdkpleghpnflhaaNumPlain
import Derived.Laws.AppendOwnNone
import Derived.Lib.SliceRun
set_option linter.unusedVariables false
set_option linter.unusedSimpArgs false
namespace Go.Proofs.Ytdkpleghpnflhaa
open Go.RowKit

theorem addr_add_add (a : Addr) (i j : Nat) : (a.add i).add j = a.add (i + j) := by
  unfold Addr.add
  by_cases hi : i = 0
  · subst hi; simp
  · by_cases hj : j = 0
    · subst hj; simp [hi]
    · have : ¬ (i + j = 0) := by omega
      simp [hi, hj, this, Nat.add_assoc]
/-- the cells of a list that is read, one behind the other -/
theorem hasR_cells {α : Type} {enc : α → List Value} {z : Nat} {w : World} {l : List α} {a : Addr} (hz : ∀ x, (enc x).length = z) (h0 : 0 < z)
    (hc : ∀ i (h : i < l.length), ∃ a', some a = some a' ∧ a'.block < w.heap.size ∧ ∀ j x, (enc l[i])[j]? = some x → w.cell? ((a'.add (i * z)).add j) = some x) (j : Nat) (u : Value) (hj : (l.flatMap enc)[j]? = some u) : w.cell? (a.add j) = some u := by
  have hlt : j < l.length * z := by rw [← flat_len hz]; exact (List.getElem?_eq_some_iff.1 hj).1
  have hd : j / z < l.length := (Nat.div_lt_iff_lt_mul h0).2 hlt
  have hm : j % z < z := Nat.mod_lt _ h0
  have hx : (enc l[j / z])[j % z]? = some ((enc l[j / z])[j % z]'(by rw [hz]; exact hm)) := List.getElem?_eq_getElem _
  have hf := flat_get hz hd hx
  have hjj : j / z * z + j % z = j := by rw [Nat.mul_comm]; exact Nat.div_add_mod j z
  rw [hjj, hj] at hf
  obtain ⟨a', ha, hb, h⟩ := hc (j / z) hd
  cases ha
  have h := h _ _ hx
  rw [addr_add_add, hjj] at h
  rw [h, ← hf]
/-- a slice without an array has no room -/
def NilOk (v : Value) : Prop := ∀ n c, v = .slice none n c → c = 0
theorem RowR.nilOk {α : Type} {enc : α → List Value} {z E B : Nat} {w : World} {v : Value} {l : List α} (h : RowR enc z E B w v l) : NilOk v := by
  rcases RowR.form h with ⟨rfl, _⟩ | ⟨g, cap, rfl, _, _⟩
  · rintro n c e; cases e; rfl
  · rintro n c e; cases e
theorem rowR_nil {α : Type} {enc : α → List Value} {z E B : Nat} (w : World) : RowR enc z E B w (.slice none 0 0) ([] : List α) := ⟨by simp, .inl ⟨rfl, rfl⟩⟩
theorem hasR_none {α : Type} {enc : α → List Value} {z : Nat} {w : World} {n c : Nat} {l : List α} (h : HasR enc z w (.slice none n c) l) : l = [] := by
  obtain ⟨A, cap, e, _, hc⟩ := h
  cases l with
  | nil => rfl
  | cons x r => obtain ⟨a, h, _⟩ := hc 0 (by simp); cases e; cases h
/-- 'append([]T{}, l...)' at any record: L the list's type, E the record's -/
theorem wpList_copy_rec {α : Type} {P : Program} {enc : α → List Value} {z bytes E L : Nat} {zero : Value} (hz : ∀ x, (enc x).length = z) (h0 : 0 < z) (hL : P.underlying L = some (.slice E))
    (hi : (P.info? E).map (fun i => (i.zero, i.size, i.bytes)) = some (some zero, z, bytes)) (hzs : zero.cells.size = z) (hby : bytes ≤ 1024)
    {ops : Array Oper} {rest : List Oper} {o : Oper} {a : Act} {Q : Exit → Act → World → Prop} {w : World} (hgd : o.guard = none) (s x : Operand)
    (ho : o.op = .call { callee := .builtin .append, args := #[s, x], argTypes := #[L, L] })
    (b : Nat) (hs : a.eval s = .slice (some ⟨b, 0, none⟩) 0 0) (hb : b = w.heap.size) (v : Value) (l : List α) (hx : a.eval x = v) (hv : HasR enc z w v l) (hone : ∀ x ∈ l, ∀ u ∈ enc x, u.oneCell' = true) (hk : NilOk v) (hn : l.length ≤ 1048576)
    (h : ∀ v' w', RowR enc z E w.heap.size w' v' l → Below w.heap.size w w' → wpList P ops Q rest (a.put o.dst v') w') :
    wpList P ops Q (o :: rest) a (w.alloc (.cells #[] E)) := by
  obtain ⟨i0, hi, hz0, hz1, hz2⟩ : ∃ i0, P.info? E = some i0 ∧ i0.zero = some zero ∧ i0.size = z ∧ i0.bytes = bytes := by
    cases he : P.info? E with
    | none => rw [he] at hi; cases hi
    | some i0 => rw [he] at hi; simp at hi; exact ⟨i0, rfl, hi.1, hi.2.1, hi.2.2⟩
  subst hb
  have hown : (w.alloc (.cells #[] E)).ownsRow w.heap.size E z (.slice (some ⟨w.heap.size, 0, none⟩) 0 0) 0 [] := ⟨by simp, .inr ⟨w.heap.size, 0, #[], rfl, Nat.le_refl _, heap_alloc_new w _, by simp, by simp, by simp, by simp⟩⟩
  have hb0 : Below w.heap.size w (w.alloc (.cells #[] E)) := below_al (Below.refl _ _) _
  obtain ⟨A, c, rfl, hn', hc⟩ := id hv
  cases A with
  | none =>
    obtain rfl := hasR_none hv
    obtain rfl := hk _ _ rfl
    exact wpList_append_own_none hgd s x L ho w.heap.size E i0 z hL hi _ 0 [] hs hown hx (h _ _ hown hb0)
  | some p =>
    refine wpList_append_own _ hgd s x L ho w.heap.size E i0 zero z bytes hL hi hz0 hz1 hz2 hzs h0 _ 0 [] hs hown p l.length c (l.flatMap enc) hx (flat_len hz l) (fun j u hj => ?_) (fun u hu => by obtain ⟨y, hm, hy⟩ := List.mem_flatMap.1 hu; exact hone y hm u hy) (by unfold maxLen; omega) (Nat.le_trans (Nat.mul_le_mul (by omega : 0 + l.length ≤ 1048576) hby) (by omega)) hb0.size ?_
    · have hj' := hasR_cells hz h0 hc j u hj
      rw [hb0.cell (lt_of_cell hj')]; exact hj'
    · intro v' w' h2 h3 h4
      refine h v' w' ?_ (hb0.grown h3 hb0.size (fun k hk => by cases hk; exact Nat.le_refl _))
      unfold RowR
      simpa using h2
end Go.Proofs.Ytdkpleghpnflhaa
