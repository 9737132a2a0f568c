/- PATTERNS MARKED, AND FOUND AS MARKED: laws.markPatS, heldPatS. -/
import Derived.Test.YtkifdbeklagelaaGreatDoorPat
import Derived.Test.YtkifdbeklagelaaGreatDoorMark
set_option linter.unusedVariables false
set_option linter.unusedSimpArgs false
namespace Go.Proofs.YtkifdbeklagelaaGreatDoor
open Go.RowKit NumP

def mkStep (F : Nat → List Pat → List Pat × Nat) (a : List Pat × Nat) (t : Pat) : List Pat × Nat := (a.1 ++ [.mk ⟨(a.2 : Int), markS (a.2 + 1)⟩ (F (a.2 + 2) t.kids).1], (F (a.2 + 2) t.kids).2)
/-- the trees marked from the q-th mark on, and the mark behind -/
def mkL : Nat → Nat → List Pat → List Pat × Nat
  | 0, q, l => (l, q)
  | d + 1, q, l => l.foldl (mkStep (mkL d)) ([], q)
theorem mk_snoc (d q : Nat) (l : List Pat) (t : Pat) : mkL (d + 1) q (l ++ [t]) = mkStep (mkL d) (mkL (d + 1) q l) t := by
  unfold mkL; rw [List.foldl_append]; rfl
theorem mk_take {d q : Nat} {l : List Pat} {i : Nat} (hi : i < l.length) : mkL (d + 1) q (l.take (i + 1)) = mkStep (mkL d) (mkL (d + 1) q (l.take i)) l[i] := by
  rw [List.take_succ_eq_append_getElem hi, mk_snoc]
theorem mk_mono : ∀ (d q : Nat) (l : List Pat), q ≤ (mkL d q l).2
  | 0, q, l => Nat.le_refl _
  | d + 1, q, l => by
    have h : ∀ (l : List Pat) (a : List Pat × Nat), a.2 ≤ (l.foldl (mkStep (mkL d)) a).2 := fun l => by
      induction l with
      | nil => intro a; exact Nat.le_refl _
      | cons t r ih =>
        intro a
        rw [List.foldl_cons]
        refine Nat.le_trans ?_ (ih _)
        have := mk_mono d (a.2 + 2) t.kids
        show a.2 ≤ (mkL d (a.2 + 2) t.kids).2; omega
    exact h l ([], q)
theorem mk_fold (d : Nat) (l : List Pat) : ∀ a : List Pat × Nat, (l.foldl (mkStep (mkL d)) a).1.length = a.1.length + l.length := by
  induction l with
  | nil => intro a; rfl
  | cons t r ih => intro a; rw [List.foldl_cons, ih]; simp [mkStep]; omega
theorem mk_len (d q : Nat) (l : List Pat) : (mkL d q l).1.length = l.length := by
  cases d with
  | zero => rfl
  | succ d => have := mk_fold d l ([], q); simpa [mkL] using this
theorem mk_le {d q : Nat} {l : List Pat} {i : Nat} (hi : i ≤ l.length) : (mkL (d + 1) q (l.take i)).2 ≤ (mkL (d + 1) q l).2 := by
  have h : ∀ j, i + j ≤ l.length → (mkL (d + 1) q (l.take i)).2 ≤ (mkL (d + 1) q (l.take (i + j))).2 := fun j => by
    induction j with
    | zero => intro _; exact Nat.le_refl _
    | succ j ih =>
      intro hj
      refine Nat.le_trans (ih (by omega)) ?_
      rw [show i + (j + 1) = (i + j) + 1 by omega, mk_take (by omega)]
      have := mk_mono d ((mkL (d + 1) q (l.take (i + j))).2 + 2) (l[i + j]'(by omega)).kids
      show _ ≤ (mkL d ((mkL (d + 1) q (l.take (i + j))).2 + 2) (l[i + j]'(by omega)).kids).2
      omega
  have := h (l.length - i) (by omega)
  rwa [show i + (l.length - i) = l.length by omega, List.take_length] at this
theorem mk_get {d q : Nat} {l : List Pat} {i : Nat} (hi : i < l.length) (hi' : i < (mkL (d + 1) q l).1.length) :
    (mkL (d + 1) q l).1[i] = .mk ⟨((mkL (d + 1) q (l.take i)).2 : Int), markS ((mkL (d + 1) q (l.take i)).2 + 1)⟩ (mkL d ((mkL (d + 1) q (l.take i)).2 + 2) l[i].kids).1 := by
  have h : ∀ j, i + 1 + j ≤ l.length → (mkL (d + 1) q (l.take (i + 1 + j))).1[i]? = some (.mk ⟨((mkL (d + 1) q (l.take i)).2 : Int), markS ((mkL (d + 1) q (l.take i)).2 + 1)⟩ (mkL d ((mkL (d + 1) q (l.take i)).2 + 2) l[i].kids).1) := fun j => by
    induction j with
    | zero =>
      intro _
      rw [Nat.add_zero, mk_take hi]
      have hl : (mkL (d + 1) q (l.take i)).1.length = i := by rw [mk_len, List.length_take]; omega
      show ((mkL (d + 1) q (l.take i)).1 ++ [_])[i]? = _
      rw [List.getElem?_append_right (by omega), hl]; simp
    | succ j ih =>
      intro hj
      rw [show i + 1 + (j + 1) = (i + 1 + j) + 1 by omega, mk_take (by omega)]
      show ((mkL (d + 1) q (l.take (i + 1 + j))).1 ++ [_])[i]? = _
      rw [List.getElem?_append_left (by rw [mk_len, List.length_take]; omega)]
      exact ih (by omega)
  have := h (l.length - (i + 1)) (by omega)
  rw [show i + 1 + (l.length - (i + 1)) = l.length by omega, List.take_length, List.getElem?_eq_getElem hi'] at this
  exact Option.some.inj this
theorem mkN (q : Nat) (hq : q + 1 ≤ 4611686018427387904) (w : World) :
    Calls Tryz.prog 77 #[.int .i64 ((q : Int) + 1)] w fun e w' => e = .returned (.string (markS (q + 1))) ∧ Below w.heap.size w w' := by
  have h := mark_any (q + 1) (by omega) hq w
  rwa [Int.natCast_add] at h
/-- one tree of a list turned into another, in the same blocks -/
theorem OwL.change {α : Type} {k : Kd α} {d B : Nat} {w w' : World} {v : Value} {l : List (Tr α)} {S : Nat → Prop} {R : List k.ρ} {K : Nat → Nat → Prop} {i : Nat} {r' : k.ρ} {t' : Tr α}
    (h2 : R.length = l.length) (h3 : ∀ i (h : i < R.length) (h' : i < l.length), OwN k d B w R[i] l[i] (K i))
    (h4 : ∀ i j b, i < R.length → j < R.length → K i b → K j b → i = j) (h5 : ∀ i b, i < R.length → K i b → v.ownBlock ≠ some b) (h6 : ∀ b, S b ↔ v.ownBlock = some b ∨ ∃ i, i < R.length ∧ K i b)
    (hrow : RowR k.enc k.z k.E B w' v (R.set i r')) (hn : OwN k d B w' r' t' (K i)) (hf : ∀ j b, j < R.length → j ≠ i → K j b → w'.heap[b]? = w.heap[b]?) : OwL k (d + 1) B w' v (l.set i t') S := by
  refine OwL.whole hrow (by simpa using h2) (fun j hj hj' => ?_) (fun j j' b hj hj' => h4 j j' b (by simpa using hj) (by simpa using hj')) (fun j b hj => h5 j b (by simpa using hj)) (fun b => by simpa using h6 b)
  by_cases e : j = i
  · subst e; simpa using hn
  · have hj1 : j < R.length := by simpa using hj
    have := (h3 j hj1 (by rw [← h2]; exact hj1)).frame fun b hb => hf j b hj1 e hb
    have e1 : (R.set i r')[j] = R[j] := List.getElem_set_ne (fun e' => e e'.symm) _
    have e2 : (l.set i t')[j] = l[j]'(by simpa using hj') := List.getElem_set_ne (fun e' => e e'.symm) _
    rw [e1, e2]; exact this
/-- a record of a row turned in its first two fields, a call between -/
theorem RowP.put {B g n cap : Nat} {w w1 : World} {R : List PatR} {i : Nat} {q : Int} {t : ByteArray} (h : RowR PatR.enc 3 124 B w (.slice (some ⟨g, 0, none⟩) n cap) R) (hi : i < R.length)
    (hb : Below (w.setCell ⟨g, i * 3, none⟩ (.int .i64 q)).heap.size (w.setCell ⟨g, i * 3, none⟩ (.int .i64 q)) w1) :
    RowR PatR.enc 3 124 B (w1.setCell ⟨g, i * 3 + 1, none⟩ (.string t)) (.slice (some ⟨g, 0, none⟩) n cap) (R.set i ⟨q, t, R[i].kv⟩) ∧
    w.grownBy (w1.setCell ⟨g, i * 3 + 1, none⟩ (.string t)) (some g) ∧
    (w1.cell? ⟨g, i * 3 + 1, none⟩ = some (.string R[i].text) ∧ w1.cell? ⟨g, i * 3 + 2, none⟩ = some R[i].kv) ∧ w1.frozen? ⟨g, i * 3 + 1, none⟩ = false := by
  have hz : ∀ r : PatR, r.enc.length = 3 := fun _ => rfl
  have h0 := RowR.set1 hz h hi 0 (by omega) (.int .i64 q) ⟨q, R[i].text, R[i].kv⟩ rfl
  have h0' := RowR.below h0.1 hb
  have hi' : i < (R.set i ⟨q, R[i].text, R[i].kv⟩).length := by simpa using hi
  have h1 := RowR.set1 hz h0' hi' 1 (by omega) (.string t) ⟨q, t, R[i].kv⟩ (by simp [PatR.enc])
  have hg : (w.setCell ⟨g, i * 3, none⟩ (.int .i64 q)).grownBy w1 (some g) := ⟨hb.os, hb.tape, hb.output, hb.size, fun k hk _ => hb.block k hk⟩
  refine ⟨?_, (h0.2.trans hg).trans h1.2, ⟨?_, ?_⟩, RowR.frozen h0' _⟩
  · have := h1.1; rwa [List.set_set] at this
  · exact RowR.cell hz h0' hi' (j := 1) (by simp [PatR.enc])
  · exact RowR.cell hz h0' hi' (j := 2) (by simp [PatR.enc])
theorem held_pat {w w1 w2 : World} {p : Addr} {t : ByteArray} (k : Below w1.heap.size w1 w2) (h : w1.cell? p = some (.string t) ∧ Below w.heap.size w w1) (hp : p.block < w.heap.size) : w2.cell? p = some (.string t) ∧ Below w.heap.size w w2 :=
  ⟨by rw [k.cell (Nat.lt_of_lt_of_le hp h.2.size)]; exact h.1, below_step h.2 k⟩
end Go.Proofs.YtkifdbeklagelaaGreatDoor
