/- APPENDS OF RECORDS (no function and no type is spoken of): 'own = append(own, x)', 'own = append(own, more...)', anywhere and in a round. -/
import Derived.Test.YthmjffijhlkgcaaRgZ
import Derived.Maps.OwnIn
set_option linter.unusedVariables false
set_option linter.unusedSimpArgs false
namespace Go.Proofs.Ythmjffijhlkgcaa
open Go.RowKit

theorem grown_refl (w : World) (j : Option Nat) : w.grownBy w j := ⟨rfl, rfl, rfl, Nat.le_refl _, fun _ _ _ => rfl⟩
section
variable {α : Type} {P : Program} {enc : α → List Value} {z bytes E L : Nat} {zero : Value} {ops : Array Oper} {rest : List Oper} {o : Oper} {a : Act} {Q : Exit → Act → World → Prop} {w : World}
theorem wpList_rec_join (hz : ∀ x, (enc x).length = z) (h0 : 0 < z) (hL : P.underlying L = some (.slice E))
    (hi : (P.info? E).map (fun i => (i.zero, i.size, i.bytes)) = some (some zero, z, bytes)) (hzs : zero.cells.size = z) (hby : bytes ≤ 1024) (hgd : o.guard = none) (s x : Operand)
    (ho : o.op = .call { callee := .builtin .append, args := #[s, x], argTypes := #[L, L] })
    (B n : Nat) (v : Value) (l : List α) (hs : a.eval s = v) (hrow : RowR enc z E B w v l) (hn : n = l.length)
    (v2 : Value) (l2 : List α) (hx : a.eval x = v2) (hv2 : HasR enc z w v2 l2) (hone : ∀ x ∈ l2, ∀ u ∈ enc x, u.oneCell' = true) (hk : NilOk v2)
    (hlen : n + l2.length ≤ 4194304) (hbase : B ≤ w.heap.size)
    (h : ∀ v' w', RowR enc z E B w' v' (l ++ l2) → w.grownBy w' v.ownBlock → (v'.ownBlock = v.ownBlock ∨ v'.ownBlock = some w.heap.size) → wpList P ops Q rest (a.put o.dst v') w') :
    wpList P ops Q (o :: rest) a w := by
  obtain ⟨i0, hi, hz0, hz1, hz2⟩ := info_of hi
  subst hn
  obtain ⟨A, c, rfl, hn', hc⟩ := id hv2
  cases A with
  | none =>
    obtain rfl := hasR_none hv2
    obtain rfl := hk _ _ rfl
    exact wpList_append_own_none hgd s x L ho B E i0 z hL hi v l.length (l.flatMap enc) hs hrow hx (h _ _ (by rw [List.append_nil]; exact hrow) (grown_refl _ _) (.inl rfl))
  | some p =>
    refine wpList_append_own_at w hgd s x L ho B E i0 zero z bytes hL hi hz0 hz1 hz2 hzs h0 v l.length (l.flatMap enc) hs hrow p l2.length c (l2.flatMap enc) hx (flat_len hz l2) (fun j u hj => hasR_cells hz h0 hc j u hj) (fun u hu => by obtain ⟨y, hm, hy⟩ := List.mem_flatMap.1 hu; exact hone y hm u hy) (by unfold maxLen; omega) (Nat.le_trans (Nat.mul_le_mul hlen hby) (by omega)) hbase ?_
    intro v' w' h2 h3 h4 h5
    refine h v' w' ?_ h3 h5
    unfold RowR
    rw [List.length_append, List.flatMap_append]
    exact h2
theorem wpList_rec_append (hz : ∀ x, (enc x).length = z) (h0 : 0 < z) (hL : P.underlying L = some (.slice E))
    (hi : (P.info? E).map (fun i => (i.zero, i.size, i.bytes)) = some (some zero, z, bytes)) (hzs : zero.cells.size = z) (hby : bytes ≤ 1024) (hgd : o.guard = none) (s x : Operand)
    (ho : o.op = .call { callee := .builtin .append, args := #[s, x], argTypes := #[L, L] })
    (B n : Nat) (v : Value) (l : List α) (hs : a.eval s = v) (hrow : RowR enc z E B w v l) (hn : n = l.length)
    (y : α) (ad : Addr) (c' : Nat) (hx : a.eval x = .slice (some ad) 1 c') (hnews : ∀ j u, (enc y)[j]? = some u → w.cell? (ad.add j) = some u) (hone : ∀ u ∈ enc y, u.oneCell' = true)
    (hlen : n + 1 ≤ 4194304) (hbase : B ≤ w.heap.size)
    (h : ∀ v' w', RowR enc z E B w' v' (l ++ [y]) → w.grownBy w' v.ownBlock → (v'.ownBlock = v.ownBlock ∨ v'.ownBlock = some w.heap.size) → wpList P ops Q rest (a.put o.dst v') w') :
    wpList P ops Q (o :: rest) a w := by
  obtain ⟨i0, hi, hz0, hz1, hz2⟩ := info_of hi
  subst hn
  refine wpList_append_own_at w hgd s x L ho B E i0 zero z bytes hL hi hz0 hz1 hz2 hzs h0 v l.length (l.flatMap enc) hs hrow ad 1 c' (enc y) hx (by rw [hz]; omega) hnews hone (by unfold maxLen; omega) (Nat.le_trans (Nat.mul_le_mul hlen hby) (by omega)) hbase ?_
  intro v' w' h2 h3 h4 h5
  refine h v' w' ?_ h3 h5
  unfold RowR
  rw [List.length_append, List.flatMap_append, List.flatMap_singleton]
  exact h2
theorem wpListIn_rec_append {F : Fence} {m : Nat} (hz : ∀ x, (enc x).length = z) (h0 : 0 < z) (hL : P.underlying L = some (.slice E))
    (hi : (P.info? E).map (fun i => (i.zero, i.size, i.bytes)) = some (some zero, z, bytes)) (hzs : zero.cells.size = z) (hby : bytes ≤ 1024) (hgd : o.guard = none) (s x : Operand)
    (ho : o.op = .call { callee := .builtin .append, args := #[s, x], argTypes := #[L, L] })
    (B n : Nat) (v : Value) (l : List α) (hs : a.eval s = v) (hrow : RowR enc z E B w v l) (hn : n = l.length)
    (y : α) (ad : Addr) (c' : Nat) (hx : a.eval x = .slice (some ad) 1 c') (hnews : ∀ j u, (enc y)[j]? = some u → w.cell? (ad.add j) = some u) (hone : ∀ u ∈ enc y, u.oneCell' = true)
    (hlen : n + 1 ≤ 4194304) (hbase : B ≤ w.heap.size)
    (h : ∀ v' w', RowR enc z E B w' v' (l ++ [y]) → w.grownBy w' v.ownBlock → (v'.ownBlock = v.ownBlock ∨ v'.ownBlock = some w.heap.size) → wpListIn F m P ops Q rest (a.put o.dst v') w') :
    wpListIn F m P ops Q (o :: rest) a w := by
  obtain ⟨i0, hi, hz0, hz1, hz2⟩ := info_of hi
  subst hn
  refine wpListIn_append_own_at w hgd s x L ho B E i0 zero z bytes hL hi hz0 hz1 hz2 hzs h0 v l.length (l.flatMap enc) hs hrow ad 1 c' (enc y) hx (by rw [hz]; omega) hnews hone (by unfold maxLen; omega) (Nat.le_trans (Nat.mul_le_mul hlen hby) (by omega)) hbase ?_
  intro v' w' h2 h3 h4 h5
  refine h v' w' ?_ h3 h5
  unfold RowR
  rw [List.length_append, List.flatMap_append, List.flatMap_singleton]
  exact h2
end
end Go.Proofs.Ythmjffijhlkgcaa
