/- CHAPTER 5, PLAIN MATHEMATICS: what is read as a pattern has few parts: no list of more than 31, no more than 4 to the power of the bytes that it takes. No function is spoken of. -/
import Derived.Test.YtkifdbeklagelaaGreatDoorPatP
import Derived.Test.YtkifdbeklagelaaGreatDoorPatM
set_option linter.unusedVariables false
set_option linter.unusedSimpArgs false
namespace Go.Proofs.YtkifdbeklagelaaGreatDoor
open Go.RowKit

/-- no list of more than 31 within, and of the depth d -/
def Few : Nat → List Pat → Prop
  | 0, l => l = []
  | d + 1, l => l.length ≤ 31 ∧ ∀ t ∈ l, Few d t.kids
theorem Few.deeper : ∀ {d : Nat} {l : List Pat}, Few d l → Few (d + 1) l
  | 0, l, h => by
    have h' : l = [] := h
    subst h'
    exact ⟨by simp, fun t ht => absurd ht (by simp)⟩
  | d + 1, l, h => ⟨h.1, fun t ht => Few.deeper (h.2 t ht)⟩
theorem Few.to {d e : Nat} {l : List Pat} (h : Few d l) (he : d ≤ e) : Few e l := by
  obtain ⟨j, rfl⟩ := Nat.le.dest he
  induction j with
  | zero => exact h
  | succ j ih => exact (ih (Nat.le_add_right _ _)).deeper
theorem few_nil (d : Nat) : Few d [] := (show Few 0 [] from rfl).to (Nat.zero_le d)
theorem few_cons {d : Nat} {l : List Pat} (h1 : l.length ≤ 31) (h2 : ∀ t ∈ l, Few d t.kids) : Few (d + 1) l := ⟨h1, h2⟩
theorem few_one {d : Nat} {p : Pat} (h : Few d p.kids) : Few (d + 1) [p] := ⟨by simp, fun t ht => by rw [List.mem_singleton.1 ht]; exact h⟩
theorem few_rep {d : Nat} {p : Pat} (h : Few d p.kids) (l : List UInt8) : Few (d + 2) (repT p l).1.kids := by
  unfold repT
  split
  · exact h.to (by omega)
  · split
    · exact (few_one h).to (by omega)
    · split
      · exact (few_one h).to (by omega)
      · split
        · refine few_cons (show 2 ≤ 31 by decide) fun t ht => ?_
          rcases List.mem_cons.1 ht with rfl | ht
          · exact h.to (by omega)
          · rw [List.mem_singleton.1 ht]; exact few_one h
        · exact h.to (by omega)
theorem few_join {d : Nat} {l : List Pat} (op : Int) (h1 : l.length ≤ 31) (h2 : ∀ t ∈ l, Few d t.kids) : Few (d + 1) (joinP op l).kids := by
  unfold joinP
  split
  · exact (h2 _ (by simp)).to (by omega)
  · exact few_cons h1 h2
def FewA (d : Nat) (A : List UInt8 → Option (Pat × List UInt8)) : Prop := ∀ l p r, A l = some (p, r) → l.length ≤ 30 → Few d p.kids
theorem few_repL {d : Nat} {A : List UInt8 → Option (Pat × List UInt8)} (h : FewA d A) : FewA (d + 2) (repL A) := by
  intro l p r e hl
  unfold repL at e
  cases hA : A l with
  | none => rw [hA] at e; cases e
  | some x =>
    obtain ⟨q, t⟩ := x
    rw [hA] at e
    have e2 : repT q t = (p, r) := Option.some.inj e
    have := few_rep (h l q t hA hl) t
    rw [e2] at this
    exact this
theorem few_seqL {d : Nat} {A : List UInt8 → Option (Pat × List UInt8)} (h : FewA d A) (hs : Sh A) : ∀ (m : Nat) (l : List UInt8), l.length ≤ 30 → (seqL A m l).1.length ≤ l.length ∧ ∀ t ∈ (seqL A m l).1, Few (d + 2) t.kids
  | 0, l, hl => ⟨by simp [seqL], fun t ht => absurd ht (by simp [seqL])⟩
  | m + 1, l, hl => by
    rw [seqL]
    split
    · exact ⟨by simp, fun t ht => absurd ht (by simp)⟩
    · rename_i p r e
      have h1 := (repL_sh hs l p r e).2
      have ih := few_seqL h hs m r (by omega)
      refine ⟨by simp only [List.length_cons]; omega, fun t ht => ?_⟩
      rcases List.mem_cons.1 ht with rfl | ht
      · exact few_repL h l _ r e hl
      · exact ih.2 t ht
theorem few_seqP {d : Nat} {A : List UInt8 → Option (Pat × List UInt8)} (h : FewA d A) (hs : Sh A) (l : List UInt8) (hl : l.length ≤ 30) : Few (d + 3) (seqP A l).1.kids :=
  few_join 2 (by have := (few_seqL h hs l.length l hl).1; omega) (few_seqL h hs l.length l hl).2
theorem few_altL {d : Nat} {A : List UInt8 → Option (Pat × List UInt8)} (h : FewA d A) (hs : Sh A) : ∀ (m : Nat) (l : List UInt8), l.length ≤ 30 → (altL A m l).1.length ≤ l.length + 1 ∧ ∀ t ∈ (altL A m l).1, Few (d + 3) t.kids
  | 0, l, hl => ⟨by simp [altL], fun t ht => by rw [List.mem_singleton.1 (show t ∈ [(seqP A l).1] from ht)]; exact few_seqP h hs l hl⟩
  | m + 1, l, hl => by
    have hsf := (seqP_suf hs l).len
    have one : ∀ t ∈ [(seqP A l).1], Few (d + 3) t.kids := fun t ht => by rw [List.mem_singleton.1 ht]; exact few_seqP h hs l hl
    rw [altL]
    split
    · exact ⟨by simp, one⟩
    · rename_i c r e
      rw [e, List.length_cons] at hsf
      split
      · have ih := few_altL h hs m r (by omega)
        refine ⟨by simp only [List.length_cons]; omega, fun t ht => ?_⟩
        rcases List.mem_cons.1 ht with rfl | ht
        · exact few_seqP h hs l hl
        · exact ih.2 t ht
      · exact ⟨by simp, one⟩
theorem few_altP {d : Nat} {A : List UInt8 → Option (Pat × List UInt8)} (h : FewA d A) (hs : Sh A) (l : List UInt8) (hl : l.length ≤ 30) : Few (d + 4) (altP A l).1.kids :=
  few_join 3 (by have := (few_altL h hs l.length l hl).1; omega) (few_altL h hs l.length l hl).2
theorem classL_kids {l : List UInt8} {p : Pat} {r : List UInt8} (h : classL l = some (p, r)) : p.kids = [] := by
  unfold classL at h
  split at h
  · cases h
  · split at h
    · cases h; rfl
    · cases h
theorem few_atomF : ∀ n, FewA (4 * n) (atomF n)
  | 0 => fun l p r e _ => by cases e
  | n + 1 => fun l p r e hl => by
    have ih := few_altP (few_atomF n) (atomF_sh n)
    have e' : atomL (altP (atomF n)) l = some (p, r) := e
    unfold atomL at e'
    split at e'
    · cases e'
    · rename_i c t
      rw [List.length_cons] at hl
      split at e'
      · split at e'
        · cases e'
        · split at e'
          · cases e'; exact ih t (by omega)
          · cases e'
      · split at e'
        · rw [classL_kids e']; exact few_nil _
        · split at e'
          · cases e'; exact few_nil _
          · split at e'
            · cases e'; exact few_nil _
            · cases e'

/-- how many parts, to the depth d -/
def cntL : Nat → List Pat → Nat
  | 0, _ => 0
  | d + 1, l => (l.map fun t => 1 + cntL d t.kids).sum
def cntP (d : Nat) (p : Pat) : Nat := 1 + cntL d p.kids
theorem cntL_nil (d : Nat) : cntL d [] = 0 := by cases d <;> rfl
theorem cntL_le (d : Nat) (l : List Pat) : cntL d l ≤ (l.map (cntP d)).sum := by
  induction d generalizing l with
  | zero => exact Nat.zero_le _
  | succ d ih =>
    have h : ∀ l : List Pat, (l.map fun t => 1 + cntL d t.kids).sum ≤ (l.map fun t => 1 + cntL (d + 1) t.kids).sum := fun l => by
      induction l with
      | nil => exact Nat.le_refl _
      | cons t r ihr =>
        simp only [List.map_cons, List.sum_cons]
        have h2 : cntL d t.kids ≤ cntL (d + 1) t.kids := ih t.kids
        omega
    exact h l
theorem mk_cnt : ∀ (d q : Nat) (l : List Pat), (mkL d q l).2 = q + 2 * cntL d l
  | 0, q, l => by simp [mkL, cntL]
  | d + 1, q, l => by
    have h : ∀ (l : List Pat) (a : List Pat × Nat), (l.foldl (mkStep (mkL d)) a).2 = a.2 + 2 * (l.map fun t => 1 + cntL d t.kids).sum := fun l => by
      induction l with
      | nil => intro a; simp
      | cons t r ih =>
        intro a
        rw [List.foldl_cons, ih]
        have h2 : (mkStep (mkL d) a t).2 = (mkL d (a.2 + 2) t.kids).2 := rfl
        rw [h2, mk_cnt d (a.2 + 2) t.kids]
        simp only [List.map_cons, List.sum_cons]
        omega
    exact h l ([], q)
/-- what one more than nothing is -/
def nOne (l : List Pat) : Nat := if l.length = 1 then 0 else 1
theorem cnt_join (d : Nat) (op : Int) (l : List Pat) : cntP d (joinP op l) ≤ (l.map (cntP d)).sum + nOne l := by
  unfold joinP
  split
  · simp [nOne]
  · rename_i h
    have hl : l.length ≠ 1 := fun e => by
      obtain ⟨p, rfl⟩ := List.length_eq_one_iff.1 e
      exact h p rfl
    unfold nOne
    rw [if_neg hl]
    show 1 + cntL d l ≤ _
    have := cntL_le d l
    omega
def CntA (A : List UInt8 → Option (Pat × List UInt8)) : Prop := ∀ l p r, A l = some (p, r) → ∀ d, cntP d p ≤ 4 ^ (l.length - r.length)
theorem pow4_pos (k : Nat) : 1 ≤ 4 ^ k := Nat.pos_of_ne_zero (by simp)
theorem cnt_pos (d : Nat) (p : Pat) : 1 ≤ cntP d p := Nat.le_add_right _ _
theorem cnt_one (d : Nat) (op : Int) (p : Pat) : cntP d (opP op [p]) ≤ 1 + cntP d p := by
  have := cntL_le d [p]
  show 1 + cntL d [p] ≤ _
  simp at this
  omega
theorem cnt_two (d : Nat) (op : Int) (p q : Pat) : cntP d (opP op [p, q]) ≤ 1 + cntP d p + cntP d q := by
  have := cntL_le d [p, q]
  show 1 + cntL d [p, q] ≤ _
  simp at this
  omega
theorem pow4_succ (k : Nat) : 4 ^ (k + 1) = 4 * 4 ^ k := by rw [Nat.pow_succ]; omega
theorem cnt_rep {d : Nat} {p : Pat} {k : Nat} (h : cntP d p ≤ 4 ^ k) (l : List UInt8) : cntP d (repT p l).1 ≤ 4 ^ (k + (l.length - (repT p l).2.length)) := by
  have h1 := cnt_pos d p
  have h2 := pow4_succ k
  unfold repT
  split
  · simpa using h
  · rename_i c r
    have hk : k + ((c :: r).length - r.length) = k + 1 := by simp
    split
    · show cntP d (opP 4 [p]) ≤ 4 ^ (k + ((c :: r).length - r.length))
      rw [hk]
      have := cnt_one d 4 p; omega
    · split
      · show cntP d (opP 5 [p]) ≤ 4 ^ (k + ((c :: r).length - r.length))
        rw [hk]
        have := cnt_one d 5 p; omega
      · split
        · show cntP d (opP 2 [p, opP 4 [p]]) ≤ 4 ^ (k + ((c :: r).length - r.length))
          rw [hk]
          have := cnt_two d 2 p (opP 4 [p])
          have := cnt_one d 4 p; omega
        · simpa using h
theorem cnt_repL {A : List UInt8 → Option (Pat × List UInt8)} (h : CntA A) (hs : Sh A) : CntA (repL A) := by
  intro l p r e d
  unfold repL at e
  cases hA : A l with
  | none => rw [hA] at e; cases e
  | some x =>
    obtain ⟨q, t⟩ := x
    rw [hA] at e
    have e2 : repT q t = (p, r) := Option.some.inj e
    have h1 := cnt_rep (h l q t hA d) t
    have h2 := (hs l q t hA).1.len
    have h3 := (repT_suf q t).len
    rw [e2] at h1 h3
    have h3' : r.length ≤ t.length := h3
    have h1' : cntP d p ≤ 4 ^ (l.length - t.length + (t.length - r.length)) := h1
    rw [show l.length - t.length + (t.length - r.length) = l.length - r.length by omega] at h1'
    exact h1'
theorem mul_ge {x y : Nat} (hx : 4 ≤ x) (hy : 4 ≤ y) : x + y + 1 ≤ x * y := by
  obtain ⟨a, rfl⟩ := Nat.le.dest hx
  obtain ⟨b, rfl⟩ := Nat.le.dest hy
  rw [Nat.mul_add, Nat.add_mul, Nat.add_mul]
  have := Nat.zero_le (a * b)
  omega
theorem mul_ge4 {x y : Nat} (hx : 1 ≤ x) (hy : 1 ≤ y) : x + y + 1 ≤ 4 * (x * y) := by
  obtain ⟨a, rfl⟩ := Nat.le.dest hx
  obtain ⟨b, rfl⟩ := Nat.le.dest hy
  rw [Nat.mul_add, Nat.add_mul, Nat.add_mul]
  have := Nat.zero_le (a * b)
  omega
theorem cnt_seqL {A : List UInt8 → Option (Pat × List UInt8)} (h : CntA A) (hs : Sh A) (d : Nat) : ∀ (m : Nat) (l : List UInt8), ((seqL A m l).1.map (cntP d)).sum + nOne (seqL A m l).1 ≤ 4 ^ (l.length - (seqL A m l).2.length) ∧ ((seqL A m l).1 ≠ [] → (seqL A m l).2.length < l.length)
  | 0, l => ⟨by simp [seqL, nOne], fun hn => absurd (show (seqL A 0 l).1 = [] from rfl) hn⟩
  | m + 1, l => by
    rw [seqL]
    split
    · exact ⟨by simp [nOne], fun hn => absurd rfl hn⟩
    · rename_i p r e
      have h1 := cnt_repL h hs l p r e d
      have h2 := (repL_sh hs l p r e).2
      obtain ⟨ih, ihn⟩ := cnt_seqL h hs d m r
      have h3 := (seqL_suf hs m r).len
      obtain ⟨T, hT⟩ : ∃ T, T = seqL A m r := ⟨_, rfl⟩
      rw [← hT] at ih ihn h3 ⊢
      refine ⟨?_, fun _ => by show T.2.length < l.length; omega⟩
      show (cntP d p + (T.1.map (cntP d)).sum) + nOne (p :: T.1) ≤ 4 ^ (l.length - T.2.length)
      by_cases he : T.1 = []
      · rw [he]
        simp only [nOne, List.map_nil, List.sum_nil, List.length_cons, List.length_nil]
        have h4 : 4 ^ (l.length - r.length) ≤ 4 ^ (l.length - T.2.length) := Nat.pow_le_pow_right (by decide) (by omega)
        simp
        omega
      · have h4 := ihn he
        have hn1 : nOne (p :: T.1) = 1 := by
          unfold nOne
          rw [if_neg]
          simp only [List.length_cons]
          intro hh
          exact he (List.length_eq_zero_iff.1 (by omega))
        rw [hn1, show l.length - T.2.length = (l.length - r.length) + (r.length - T.2.length) by omega, Nat.pow_add]
        have h5 : 4 ^ 1 ≤ 4 ^ (l.length - r.length) := Nat.pow_le_pow_right (by decide) (by omega)
        have h6 : 4 ^ 1 ≤ 4 ^ (r.length - T.2.length) := Nat.pow_le_pow_right (by decide) (by omega)
        have := mul_ge h5 h6
        omega
theorem cnt_seqP {A : List UInt8 → Option (Pat × List UInt8)} (h : CntA A) (hs : Sh A) (d : Nat) (l : List UInt8) : cntP d (seqP A l).1 ≤ 4 ^ (l.length - (seqP A l).2.length) :=
  Nat.le_trans (cnt_join d 2 _) (cnt_seqL h hs d l.length l).1
theorem cnt_altL {A : List UInt8 → Option (Pat × List UInt8)} (h : CntA A) (hs : Sh A) (d : Nat) : ∀ (m : Nat) (l : List UInt8), (altL A m l).1 ≠ [] ∧ ((altL A m l).1.map (cntP d)).sum + nOne (altL A m l).1 ≤ 4 ^ (l.length - (altL A m l).2.length)
  | 0, l => by
    have := cnt_seqP h hs d l
    refine ⟨by simp [altL], ?_⟩
    show ([(seqP A l).1].map (cntP d)).sum + nOne [(seqP A l).1] ≤ 4 ^ (l.length - (seqP A l).2.length)
    simpa [nOne] using this
  | m + 1, l => by
    have h1 := cnt_seqP h hs d l
    have h2 := (seqP_suf hs l).len
    rw [altL]
    split
    · rename_i e
      rw [e] at h1
      exact ⟨by simp, by simpa [nOne] using h1⟩
    · rename_i c r e
      rw [e] at h1 h2
      rw [List.length_cons] at h1 h2
      split
      · obtain ⟨ihn, ih⟩ := cnt_altL h hs d m r
        have h3 := (altL_suf hs m r).len
        obtain ⟨T, hT⟩ : ∃ T, T = altL A m r := ⟨_, rfl⟩
        rw [← hT] at ihn ih h3 ⊢
        refine ⟨by simp, ?_⟩
        show (cntP d (seqP A l).1 + (T.1.map (cntP d)).sum) + nOne ((seqP A l).1 :: T.1) ≤ 4 ^ (l.length - T.2.length)
        have hn1 : nOne ((seqP A l).1 :: T.1) = 1 := by
          unfold nOne
          rw [if_neg]
          simp only [List.length_cons]
          intro hh
          exact ihn (List.length_eq_zero_iff.1 (by omega))
        rw [hn1, show l.length - T.2.length = ((l.length - (r.length + 1)) + (r.length - T.2.length)) + 1 by omega, pow4_succ, Nat.pow_add]
        have := mul_ge4 (pow4_pos (l.length - (r.length + 1))) (pow4_pos (r.length - T.2.length))
        omega
      · refine ⟨by simp, ?_⟩
        show ([(seqP A l).1].map (cntP d)).sum + nOne [(seqP A l).1] ≤ 4 ^ (l.length - (c :: r).length)
        simpa [nOne] using h1
theorem cnt_altP {A : List UInt8 → Option (Pat × List UInt8)} (h : CntA A) (hs : Sh A) (d : Nat) (l : List UInt8) : cntP d (altP A l).1 ≤ 4 ^ (l.length - (altP A l).2.length) :=
  Nat.le_trans (cnt_join d 3 _) (cnt_altL h hs d l.length l).2
theorem cnt_flat {p : Pat} (h : p.kids = []) (d k : Nat) : cntP d p ≤ 4 ^ k := by
  unfold cntP; rw [h, cntL_nil]; exact pow4_pos k
theorem cnt_atomF : ∀ n, CntA (atomF n)
  | 0 => fun l p r e => by cases e
  | n + 1 => fun l p r e d => by
    have ih := cnt_altP (cnt_atomF n) (atomF_sh n) d
    have hsf := fun t => (altP_suf (atomF_sh n) t).len
    have e' : atomL (altP (atomF n)) l = some (p, r) := e
    unfold atomL at e'
    split at e'
    · cases e'
    · rename_i c t
      split at e'
      · have h1 := ih t
        have h2 := hsf t
        split at e'
        · cases e'
        · rename_i d' r' e2
          split at e'
          · rw [e2] at h1 h2
            cases e'
            refine Nat.le_trans h1 (Nat.pow_le_pow_right (by decide) ?_)
            simp only [List.length_cons]
            omega
          · cases e'
      · split at e'
        · exact cnt_flat (classL_kids e') d _
        · split at e'
          · cases e'; exact cnt_flat rfl d _
          · split at e'
            · cases e'; exact cnt_flat rfl d _
            · cases e'
/-- a pattern that is read has few parts, and its marks fit -/
theorem patS_few {l : List UInt8} {p : Pat} (h : patS l = some p) : Few (4 * l.length + 4) p.kids ∧ ∀ d, (mkL d 1 p.kids).2 ≤ 2305843009213693952 := by
  unfold patS at h
  split at h
  · cases h
  · rename_i hl
    split at h
    · rename_i hr
      cases h
      refine ⟨few_altP (few_atomF l.length) (atomF_sh l.length) l (by omega), fun d => ?_⟩
      rw [mk_cnt]
      have h1 := cnt_altP (cnt_atomF l.length) (atomF_sh l.length) d l
      have h2 : 4 ^ (l.length - (altP (atomF l.length) l).2.length) ≤ 4 ^ 30 := Nat.pow_le_pow_right (by decide) (by omega)
      have h3 : (4 : Nat) ^ 30 = 1152921504606846976 := by decide
      rw [h3] at h2
      unfold cntP at h1
      omega
    · cases h
end Go.Proofs.YtkifdbeklagelaaGreatDoor
