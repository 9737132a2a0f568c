/- CHAPTER 6: copies of types: slices.Clone at ranges and at texts, impl.copyType, spec.l6Copy. -/
import Derived.Test.YtkifdbeklagelaaGreatDoorTyM
import Derived.Laws.AppendOwnNone
import Derived.Lib.SliceRun
set_option linter.unusedVariables false
set_option linter.unusedSimpArgs false
namespace Go.Proofs.YtkifdbeklagelaaGreatDoor
open Go.RowKit

theorem addr_add_add (a : Addr) (i j : Nat) : (a.add i).add j = a.add (i + j) := by
  unfold Addr.add
  by_cases hi : i = 0
  · subst hi; simp
  · by_cases hj : j = 0
    · subst hj; simp [hi]
    · have : ¬ (i + j = 0) := by omega
      simp [hi, hj, this, Nat.add_assoc]
/-- the cells of a list that is read, one behind the other -/
theorem hasR_cells {α : Type} {enc : α → List Value} {z : Nat} {w : World} {l : List α} {a : Addr} (hz : ∀ x, (enc x).length = z) (h0 : 0 < z)
    (hc : ∀ i (h : i < l.length), ∃ a', some a = some a' ∧ a'.block < w.heap.size ∧ ∀ j x, (enc l[i])[j]? = some x → w.cell? ((a'.add (i * z)).add j) = some x) (j : Nat) (u : Value) (hj : (l.flatMap enc)[j]? = some u) : w.cell? (a.add j) = some u := by
  have hlt : j < l.length * z := by rw [← flat_len hz]; exact (List.getElem?_eq_some_iff.1 hj).1
  have hd : j / z < l.length := (Nat.div_lt_iff_lt_mul h0).2 hlt
  have hm : j % z < z := Nat.mod_lt _ h0
  have hx : (enc l[j / z])[j % z]? = some ((enc l[j / z])[j % z]'(by rw [hz]; exact hm)) := List.getElem?_eq_getElem _
  have hf := flat_get hz hd hx
  have hjj : j / z * z + j % z = j := by rw [Nat.mul_comm]; exact Nat.div_add_mod j z
  rw [hjj, hj] at hf
  obtain ⟨a', ha, hb, h⟩ := hc (j / z) hd
  cases ha
  have h := h _ _ hx
  rw [addr_add_add, hjj] at h
  rw [h, ← hf]
/-- a slice without an array has no room -/
def NilOk (v : Value) : Prop := ∀ n c, v = .slice none n c → c = 0
theorem RowR.nilOk {α : Type} {enc : α → List Value} {z E B : Nat} {w : World} {v : Value} {l : List α} (h : RowR enc z E B w v l) : NilOk v := by
  rcases RowR.form h with ⟨rfl, _⟩ | ⟨g, cap, rfl, _, _⟩
  · rintro n c e; cases e; rfl
  · rintro n c e; cases e
theorem Row.nilOk {B : Nat} {w : World} {v : Value} {l : List ByteArray} (h : Row B w v l) : NilOk v := by
  rcases h.form with ⟨rfl, _⟩ | ⟨g, cap, rfl, _, _⟩
  · rintro n c e; cases e; rfl
  · rintro n c e; cases e
theorem rowG_nil (B : Nat) (w : World) : RowG B w (.slice none 0 0) [] := ⟨by simp, .inl ⟨rfl, rfl⟩⟩
theorem row_nil (B : Nat) (w : World) : Row B w (.slice none 0 0) [] := ⟨by simp, .inl ⟨rfl, rfl⟩⟩
theorem hasG_none {w : World} {n c : Nat} {l : List Rg} (h : HasG w (.slice none n c) l) : l = [] := by
  obtain ⟨A, cap, e, _, hc⟩ := h
  cases l with
  | nil => rfl
  | cons x r => obtain ⟨a, h, _⟩ := hc 0 (by simp); cases e; cases h
theorem has_none {w : World} {n c : Nat} {l : List ByteArray} (h : Has w (.slice none n c) l) : l = [] := by
  obtain ⟨A, cap, e, _, hc⟩ := h
  cases l with
  | nil => rfl
  | cons x r => obtain ⟨a, h, _⟩ := hc 0 (by simp); cases e; cases h
/-- 'append([]Range{}, l...)' -/
theorem wpList_copy_rngs {ops : Array Oper} {rest : List Oper} {o : Oper} {a : Act} {Q : Exit → Act → World → Prop} {w : World} (hgd : o.guard = none) (s x : Operand)
    (ho : o.op = .call { callee := .builtin .append, args := #[s, x], argTypes := #[28, 28] })
    (b : Nat) (hs : a.eval s = .slice (some ⟨b, 0, none⟩) 0 0) (hb : b = w.heap.size) (v : Value) (l : List Rg) (hx : a.eval x = v) (hv : HasG w v l) (hk : NilOk v) (hn : l.length ≤ 1048576)
    (h : ∀ v' w', RowG w.heap.size w' v' l → Below w.heap.size w w' → wpList Tryz.prog ops Q rest (a.put o.dst v') w') :
    wpList Tryz.prog ops Q (o :: rest) a (w.alloc (.cells #[] 81)) := by
  obtain ⟨i0, hi, hz0, hz1, hz2⟩ := info_parts infoRng
  subst hb
  have hown : (w.alloc (.cells #[] 81)).ownsRow w.heap.size 81 2 (.slice (some ⟨w.heap.size, 0, none⟩) 0 0) 0 [] := rowG_new w w.heap.size (Nat.le_refl _)
  have hb0 : Below w.heap.size w (w.alloc (.cells #[] 81)) := below_al (Below.refl _ _) _
  obtain ⟨A, c, rfl, hn', hc⟩ := id hv
  cases A with
  | none =>
    obtain rfl := hasG_none hv
    obtain rfl := hk _ _ rfl
    exact wpList_append_own_none hgd s x 28 ho w.heap.size 81 i0 2 Tryz.underlying28 hi _ 0 [] hs hown hx (h _ _ hown hb0)
  | some p =>
    refine wpList_append_own _ hgd s x 28 ho w.heap.size 81 i0 (.agg #[.int .i64 0, .int .i64 0]) 2 16 Tryz.underlying28 hi hz0 hz1 hz2 rfl (by decide) _ 0 [] hs hown p l.length c (l.flatMap Rg.enc) hx (flat_len Rg.enc_len l) (fun j u hj => ?_) (fun u hu => by obtain ⟨y, _, hy⟩ := List.mem_flatMap.1 hu; simp [Rg.enc] at hy; rcases hy with rfl | rfl <;> rfl) (by unfold maxLen; omega) (by omega) hb0.size ?_
    · have hj' := hasR_cells Rg.enc_len (by omega) hc j u hj
      rw [hb0.cell (lt_of_cell hj')]; exact hj'
    · intro v' w' h2 h3 h4
      refine h v' w' ?_ (hb0.grown h3 hb0.size (fun k hk => by cases hk; exact Nat.le_refl _))
      unfold RowG RowR
      simpa using h2
theorem strs_cells {w : World} {l : List ByteArray} {a : Addr} (hc : ∀ i (h : i < l.length), ∃ a', some a = some a' ∧ a'.block < w.heap.size ∧ w.cell? (a'.add i) = some (.string l[i])) (j : Nat) (u : Value) (hj : (l.map Value.string)[j]? = some u) : w.cell? (a.add j) = some u := by
  obtain ⟨hlt, e⟩ := List.getElem?_eq_some_iff.1 hj
  rw [List.length_map] at hlt
  obtain ⟨a', ha, hb, h⟩ := hc j hlt
  cases ha
  rw [h, ← e, List.getElem_map]
/-- 'append([]string{}, l...)' -/
theorem wpList_copy_strs {ops : Array Oper} {rest : List Oper} {o : Oper} {a : Act} {Q : Exit → Act → World → Prop} {w : World} (hgd : o.guard = none) (s x : Operand)
    (ho : o.op = .call { callee := .builtin .append, args := #[s, x], argTypes := #[23, 23] })
    (b : Nat) (hs : a.eval s = .slice (some ⟨b, 0, none⟩) 0 0) (hb : b = w.heap.size) (v : Value) (l : List ByteArray) (hx : a.eval x = v) (hv : Has w v l) (hk : NilOk v) (hn : l.length ≤ 1048576)
    (h : ∀ v' w', Row w.heap.size w' v' l → Below w.heap.size w w' → wpList Tryz.prog ops Q rest (a.put o.dst v') w') :
    wpList Tryz.prog ops Q (o :: rest) a (w.alloc (.cells #[] 9)) := by
  obtain ⟨i0, hi, hz0, hz1, hz2⟩ := info_parts infoStr
  subst hb
  have hown : (w.alloc (.cells #[] 9)).ownsRow w.heap.size 9 1 (.slice (some ⟨w.heap.size, 0, none⟩) 0 0) 0 [] := ⟨by simp, .inr ⟨w.heap.size, 0, #[], rfl, Nat.le_refl _, heap_alloc_new w _, by simp, by simp, by simp, by simp⟩⟩
  have hb0 : Below w.heap.size w (w.alloc (.cells #[] 9)) := below_al (Below.refl _ _) _
  obtain ⟨A, c, rfl, hn', hc⟩ := id hv
  cases A with
  | none =>
    obtain rfl := has_none hv
    obtain rfl := hk _ _ rfl
    exact wpList_append_own_none hgd s x 23 ho w.heap.size 9 i0 1 Tryz.underlying23 hi _ 0 [] hs hown hx (h _ _ hown hb0)
  | some p =>
    refine wpList_append_own _ hgd s x 23 ho w.heap.size 9 i0 (.string ⟨#[]⟩) 1 16 Tryz.underlying23 hi hz0 hz1 hz2 rfl (by decide) _ 0 [] hs hown p l.length c (l.map Value.string) hx (by simp) (fun j u hj => ?_) (fun u hu => by obtain ⟨y, _, rfl⟩ := List.mem_map.1 hu; rfl) (by unfold maxLen; omega) (by omega) hb0.size ?_
    · have hj' := strs_cells hc j u hj
      rw [hb0.cell (lt_of_cell hj')]; exact hj'
    · intro v' w' h2 h3 h4
      refine h v' w' ?_ (hb0.grown h3 hb0.size (fun k hk => by cases hk; exact Nat.le_refl _))
      unfold Row
      simpa using h2
/-- a type's lists, as arguments of copies -/
def NilTy (v : TyV) : Prop := NilOk v.vr ∧ NilOk v.vn
theorem OwnTy.nilTy {B : Nat} {w : World} {v : TyV} {t : Ty} (h : OwnTy B w v t) : NilTy v := ⟨RowR.nilOk h.rg, h.nm.nilOk⟩
end Go.Proofs.YtkifdbeklagelaaGreatDoor
