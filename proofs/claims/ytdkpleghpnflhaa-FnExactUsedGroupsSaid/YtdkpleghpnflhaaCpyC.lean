/- MERGED for a claim: CpyB CpyC. -/
import Derived.Test.YtdkpleghpnflhaaCpy
import Derived.Maps.AppendAt
import Derived.Maps.OwnIn
set_option linter.unusedVariables false
set_option linter.unusedSimpArgs false
/- COPIES OF LISTS OF RECORDS AT A STEP OF A REGION THAT DRAWS ITS ORDER (no function and no type is spoken of): 'append([]T{}, l...)', 'own = append(own, x)'. -/
namespace Go.Proofs.Ytdkpleghpnflhaa
open Go.RowKit

/-- what the seat tells of a record's type, parted -/
theorem info_of {P : Program} {E z bytes : Nat} {zero : Value} (hi : (P.info? E).map (fun i => (i.zero, i.size, i.bytes)) = some (some zero, z, bytes)) : ∃ i0, P.info? E = some i0 ∧ i0.zero = some zero ∧ i0.size = z ∧ i0.bytes = bytes := by
  cases he : P.info? E with
  | none => rw [he] at hi; cases hi
  | some i0 => rw [he] at hi; simp at hi; exact ⟨i0, rfl, hi.1, hi.2.1, hi.2.2⟩
theorem step_copy_rec {α : Type} {P : Program} {enc : α → List Value} {z bytes E L : Nat} {zero : Value} (hz : ∀ x, (enc x).length = z) (h0 : 0 < z) (hL : P.underlying L = some (.slice E))
    (hi : (P.info? E).map (fun i => (i.zero, i.size, i.bytes)) = some (some zero, z, bytes)) (hzs : zero.cells.size = z) (hby : bytes ≤ 1024)
    {w : World} {ops : Array Oper} {o : Oper} {a : Act} {K : Act → World → Prop} {Q : Exit → Act → World → Prop} {X : Prop} (hgd : o.guard = none) (s x : Operand)
    (ho : o.op = .call { callee := .builtin .append, args := #[s, x], argTypes := #[L, L] })
    (b : Nat) (hs : a.eval s = .slice (some ⟨b, 0, none⟩) 0 0) (hown : RowR enc z E b w (.slice (some ⟨b, 0, none⟩) 0 0) ([] : List α)) (v : Value) (l : List α) (hx : a.eval x = v) (hv : HasR enc z w v l) (hone : ∀ x ∈ l, ∀ u ∈ enc x, u.oneCell' = true) (hk : NilOk v) (hn : l.length ≤ 1048576)
    (m : Nat) (hm : m = l.length)
    (h : ∀ A' c' w', RowR enc z E b w' (.slice A' m c') l → w.grownBy w' (some b) → K (a.put o.dst (.slice A' m c')) w') :
    if Region.wanted o (yielded ops a.tmps) = true then Oper.wp P o a w K Q else X := by
  have hw : Region.wanted o (yielded ops a.tmps) = true := by simp [Region.wanted, hgd]
  rw [if_pos hw]
  obtain ⟨i0, hi, hz0, hz1, hz2⟩ := info_of hi
  have hb : b ≤ w.heap.size := by
    rcases RowR.form hown with ⟨e, _⟩ | ⟨g, cap, e, h1, h2⟩
    · cases e
    · cases e; omega
  have hfin : ∀ v' w', RowR enc z E b w' v' l → w.grownBy w' (some b) → K (a.put o.dst v') w' := fun v' w' h1 h2 => by
    obtain ⟨A', c', e, _⟩ := RowR.has hz h1
    subst e
    rw [← hm] at h1 ⊢
    exact h A' c' w' h1 h2
  obtain ⟨A, c, rfl, hn', hc⟩ := id hv
  unfold Oper.wp execOp
  cases A with
  | none =>
    obtain rfl := hasR_none hv
    obtain rfl := hk _ _ rfl
    have hr := run_append_owned_none (P := P) (w := w) b L o.type E i0 z hL hi _ 0 [] hown
    simp only [ho, resolve, invoke, builtin, Sem.run_bind, Sem.run_pure, Result.andThen_ok, List.map_toArray, List.map_cons, List.map_nil, hs, hx, hr, List.length_nil]
    exact hfin _ _ hown ⟨rfl, rfl, rfl, Nat.le_refl _, fun _ _ _ => rfl⟩
  | some p =>
    obtain ⟨v', w', hr, h2, h3, h4, h5⟩ := run_append_own_at (P := P) w b L o.type E i0 zero z bytes hL hi hz0 hz1 hz2 hzs h0 (.slice (some ⟨b, 0, none⟩) 0 0) 0 [] hown p l.length c (l.flatMap enc) (flat_len hz l) (fun j u hj => hasR_cells hz h0 hc j u hj) (fun u hu => by obtain ⟨y, hm, hy⟩ := List.mem_flatMap.1 hu; exact hone y hm u hy) (by unfold maxLen; omega) (Nat.le_trans (Nat.mul_le_mul (by omega : 0 + l.length ≤ 1048576) hby) (by omega)) hb
    simp only [ho, resolve, invoke, builtin, Sem.run_bind, Sem.run_pure, Result.andThen_ok, List.map_toArray, List.map_cons, List.map_nil, hs, hx, hr]
    exact hfin _ _ (by unfold RowR; simpa using h2) h3
/-- 'own = append(own, x)' of one record; own may be nil -/
theorem step_rec_append {α : Type} {P : Program} {enc : α → List Value} {z bytes E L : Nat} {zero : Value} (hz : ∀ x, (enc x).length = z) (h0 : 0 < z) (hL : P.underlying L = some (.slice E))
    (hi : (P.info? E).map (fun i => (i.zero, i.size, i.bytes)) = some (some zero, z, bytes)) (hzs : zero.cells.size = z) (hby : bytes ≤ 1024)
    {w : World} {ops : Array Oper} {o : Oper} {a : Act} {K : Act → World → Prop} {Q : Exit → Act → World → Prop} {X : Prop} (hgd : o.guard = none) (s x : Operand)
    (ho : o.op = .call { callee := .builtin .append, args := #[s, x], argTypes := #[L, L] })
    (B n : Nat) (v : Value) (l : List α) (hs : a.eval s = v) (hrow : RowR enc z E B w v l) (hn : n = l.length)
    (y : α) (ad : Addr) (c' : Nat) (hx : a.eval x = .slice (some ad) 1 c') (hnews : ∀ j u, (enc y)[j]? = some u → w.cell? (ad.add j) = some u) (hone : ∀ u ∈ enc y, u.oneCell' = true)
    (hlen : n + 1 ≤ 1048577) (hbase : B ≤ w.heap.size) (q : Nat) (hq : q = n + 1)
    (h : ∀ g' c'' w', RowR enc z E B w' (.slice (some ⟨g', 0, none⟩) q c'') (l ++ [y]) → w.grownBy w' v.ownBlock → (some g' = v.ownBlock ∨ g' = w.heap.size) → K (a.put o.dst (.slice (some ⟨g', 0, none⟩) q c'')) w') :
    if Region.wanted o (yielded ops a.tmps) = true then Oper.wp P o a w K Q else X := by
  have hw : Region.wanted o (yielded ops a.tmps) = true := by simp [Region.wanted, hgd]
  rw [if_pos hw]
  obtain ⟨i0, hi, hz0, hz1, hz2⟩ := info_of hi
  subst hq hn
  obtain ⟨v', w', hr, h2, h3, h4, h5⟩ := run_append_own_at (P := P) w B L o.type E i0 zero z bytes hL hi hz0 hz1 hz2 hzs h0 v l.length (l.flatMap enc) hrow ad 1 c' (enc y) (by rw [hz]; omega) hnews hone (by unfold maxLen; omega) (Nat.le_trans (Nat.mul_le_mul (by omega : l.length + 1 ≤ 1048577) hby) (by omega)) hbase
  unfold Oper.wp execOp
  simp only [ho, resolve, invoke, builtin, Sem.run_bind, Sem.run_pure, Result.andThen_ok, List.map_toArray, List.map_cons, List.map_nil, hs, hx, hr]
  rcases h2.2 with ⟨_, h6⟩ | ⟨g', cap', cur, h6, _⟩
  · omega
  · subst h6
    refine h g' cap' w' ?_ h3 (h5.imp id fun e => by simpa [Value.ownBlock] using e)
    unfold RowR
    rw [List.length_append, List.flatMap_append, List.flatMap_singleton]
    exact h2
end Go.Proofs.Ytdkpleghpnflhaa

/- APPENDS OF RECORDS (no function and no type is spoken of): 'own = append(own, x)', 'own = append(own, more...)', anywhere and in a round. -/
namespace Go.Proofs.Ytdkpleghpnflhaa
open Go.RowKit

theorem grown_refl (w : World) (j : Option Nat) : w.grownBy w j := ⟨rfl, rfl, rfl, Nat.le_refl _, fun _ _ _ => rfl⟩
section
variable {α : Type} {P : Program} {enc : α → List Value} {z bytes E L : Nat} {zero : Value} {ops : Array Oper} {rest : List Oper} {o : Oper} {a : Act} {Q : Exit → Act → World → Prop} {w : World}
theorem wpList_rec_join (hz : ∀ x, (enc x).length = z) (h0 : 0 < z) (hL : P.underlying L = some (.slice E))
    (hi : (P.info? E).map (fun i => (i.zero, i.size, i.bytes)) = some (some zero, z, bytes)) (hzs : zero.cells.size = z) (hby : bytes ≤ 1024) (hgd : o.guard = none) (s x : Operand)
    (ho : o.op = .call { callee := .builtin .append, args := #[s, x], argTypes := #[L, L] })
    (B n : Nat) (v : Value) (l : List α) (hs : a.eval s = v) (hrow : RowR enc z E B w v l) (hn : n = l.length)
    (v2 : Value) (l2 : List α) (hx : a.eval x = v2) (hv2 : HasR enc z w v2 l2) (hone : ∀ x ∈ l2, ∀ u ∈ enc x, u.oneCell' = true) (hk : NilOk v2)
    (hlen : n + l2.length ≤ 4194304) (hbase : B ≤ w.heap.size)
    (h : ∀ v' w', RowR enc z E B w' v' (l ++ l2) → w.grownBy w' v.ownBlock → (v'.ownBlock = v.ownBlock ∨ v'.ownBlock = some w.heap.size) → wpList P ops Q rest (a.put o.dst v') w') :
    wpList P ops Q (o :: rest) a w := by
  obtain ⟨i0, hi, hz0, hz1, hz2⟩ := info_of hi
  subst hn
  obtain ⟨A, c, rfl, hn', hc⟩ := id hv2
  cases A with
  | none =>
    obtain rfl := hasR_none hv2
    obtain rfl := hk _ _ rfl
    exact wpList_append_own_none hgd s x L ho B E i0 z hL hi v l.length (l.flatMap enc) hs hrow hx (h _ _ (by rw [List.append_nil]; exact hrow) (grown_refl _ _) (.inl rfl))
  | some p =>
    refine wpList_append_own_at w hgd s x L ho B E i0 zero z bytes hL hi hz0 hz1 hz2 hzs h0 v l.length (l.flatMap enc) hs hrow p l2.length c (l2.flatMap enc) hx (flat_len hz l2) (fun j u hj => hasR_cells hz h0 hc j u hj) (fun u hu => by obtain ⟨y, hm, hy⟩ := List.mem_flatMap.1 hu; exact hone y hm u hy) (by unfold maxLen; omega) (Nat.le_trans (Nat.mul_le_mul hlen hby) (by omega)) hbase ?_
    intro v' w' h2 h3 h4 h5
    refine h v' w' ?_ h3 h5
    unfold RowR
    rw [List.length_append, List.flatMap_append]
    exact h2
theorem wpList_rec_append (hz : ∀ x, (enc x).length = z) (h0 : 0 < z) (hL : P.underlying L = some (.slice E))
    (hi : (P.info? E).map (fun i => (i.zero, i.size, i.bytes)) = some (some zero, z, bytes)) (hzs : zero.cells.size = z) (hby : bytes ≤ 1024) (hgd : o.guard = none) (s x : Operand)
    (ho : o.op = .call { callee := .builtin .append, args := #[s, x], argTypes := #[L, L] })
    (B n : Nat) (v : Value) (l : List α) (hs : a.eval s = v) (hrow : RowR enc z E B w v l) (hn : n = l.length)
    (y : α) (ad : Addr) (c' : Nat) (hx : a.eval x = .slice (some ad) 1 c') (hnews : ∀ j u, (enc y)[j]? = some u → w.cell? (ad.add j) = some u) (hone : ∀ u ∈ enc y, u.oneCell' = true)
    (hlen : n + 1 ≤ 4194304) (hbase : B ≤ w.heap.size)
    (h : ∀ v' w', RowR enc z E B w' v' (l ++ [y]) → w.grownBy w' v.ownBlock → (v'.ownBlock = v.ownBlock ∨ v'.ownBlock = some w.heap.size) → wpList P ops Q rest (a.put o.dst v') w') :
    wpList P ops Q (o :: rest) a w := by
  obtain ⟨i0, hi, hz0, hz1, hz2⟩ := info_of hi
  subst hn
  refine wpList_append_own_at w hgd s x L ho B E i0 zero z bytes hL hi hz0 hz1 hz2 hzs h0 v l.length (l.flatMap enc) hs hrow ad 1 c' (enc y) hx (by rw [hz]; omega) hnews hone (by unfold maxLen; omega) (Nat.le_trans (Nat.mul_le_mul hlen hby) (by omega)) hbase ?_
  intro v' w' h2 h3 h4 h5
  refine h v' w' ?_ h3 h5
  unfold RowR
  rw [List.length_append, List.flatMap_append, List.flatMap_singleton]
  exact h2
theorem wpListIn_rec_append {F : Fence} {m : Nat} (hz : ∀ x, (enc x).length = z) (h0 : 0 < z) (hL : P.underlying L = some (.slice E))
    (hi : (P.info? E).map (fun i => (i.zero, i.size, i.bytes)) = some (some zero, z, bytes)) (hzs : zero.cells.size = z) (hby : bytes ≤ 1024) (hgd : o.guard = none) (s x : Operand)
    (ho : o.op = .call { callee := .builtin .append, args := #[s, x], argTypes := #[L, L] })
    (B n : Nat) (v : Value) (l : List α) (hs : a.eval s = v) (hrow : RowR enc z E B w v l) (hn : n = l.length)
    (y : α) (ad : Addr) (c' : Nat) (hx : a.eval x = .slice (some ad) 1 c') (hnews : ∀ j u, (enc y)[j]? = some u → w.cell? (ad.add j) = some u) (hone : ∀ u ∈ enc y, u.oneCell' = true)
    (hlen : n + 1 ≤ 4194304) (hbase : B ≤ w.heap.size)
    (h : ∀ v' w', RowR enc z E B w' v' (l ++ [y]) → w.grownBy w' v.ownBlock → (v'.ownBlock = v.ownBlock ∨ v'.ownBlock = some w.heap.size) → wpListIn F m P ops Q rest (a.put o.dst v') w') :
    wpListIn F m P ops Q (o :: rest) a w := by
  obtain ⟨i0, hi, hz0, hz1, hz2⟩ := info_of hi
  subst hn
  refine wpListIn_append_own_at w hgd s x L ho B E i0 zero z bytes hL hi hz0 hz1 hz2 hzs h0 v l.length (l.flatMap enc) hs hrow ad 1 c' (enc y) hx (by rw [hz]; omega) hnews hone (by unfold maxLen; omega) (Nat.le_trans (Nat.mul_le_mul hlen hby) (by omega)) hbase ?_
  intro v' w' h2 h3 h4 h5
  refine h v' w' ?_ h3 h5
  unfold RowR
  rw [List.length_append, List.flatMap_append, List.flatMap_singleton]
  exact h2
end
end Go.Proofs.Ytdkpleghpnflhaa
