/- CHAPTER 5, PLAIN MATHEMATICS: a pattern that is read has few parts: at most two to the power of its length. No function is spoken of. -/
import Derived.Test.YtdmccopggmienaaGreatPatF
set_option linter.unusedVariables false
set_option linter.unusedSimpArgs false
namespace Go.Proofs.YtdmccopggmienaaGreat
open Go.RowKit

theorem pow2_succ (k : Nat) : 2 ^ (k + 1) = 2 * 2 ^ k := by rw [Nat.pow_succ]; omega
theorem pow2_pos (k : Nat) : 1 ≤ 2 ^ k := Nat.pos_of_ne_zero (by simp)
theorem pow2_two {k : Nat} (h : 1 ≤ k) : 2 ≤ 2 ^ k := by
  obtain ⟨j, rfl⟩ : ∃ j, k = j + 1 := ⟨k - 1, by omega⟩
  rw [pow2_succ]; have := pow2_pos j; omega
theorem mul_two {x y : Nat} (hx : 2 ≤ x) (hy : 2 ≤ y) : x + y ≤ x * y := by
  obtain ⟨a, rfl⟩ := Nat.le.dest hx
  obtain ⟨b, rfl⟩ := Nat.le.dest hy
  rw [Nat.mul_add, Nat.add_mul, Nat.add_mul]
  have := Nat.zero_le (a * b)
  omega
theorem mul_one2 {x y : Nat} (hx : 1 ≤ x) (hy : 1 ≤ y) : x + y ≤ 2 * (x * y) := by
  obtain ⟨a, rfl⟩ := Nat.le.dest hx
  obtain ⟨b, rfl⟩ := Nat.le.dest hy
  rw [Nat.mul_add, Nat.add_mul, Nat.add_mul]
  have := Nat.zero_le (a * b)
  omega
def CntB (A : List UInt8 → Option (Pat × List UInt8)) : Prop := ∀ l p r, A l = some (p, r) → ∀ d, cntP d p + 2 ≤ 2 ^ (l.length - r.length + 1)
theorem cnb_rep {d : Nat} {p : Pat} {k : Nat} (h : cntP d p + 2 ≤ 2 ^ (k + 1)) (l : List UInt8) : cntP d (repT p l).1 + 2 ≤ 2 ^ (k + (l.length - (repT p l).2.length) + 1) := by
  have h1 := cnt_pos d p
  have h2 := pow2_succ (k + 1)
  unfold repT
  split
  · simpa using h
  · rename_i c r
    have hk : k + ((c :: r).length - r.length) = k + 1 := by simp
    split
    · show cntP d (opP 4 [p]) + 2 ≤ 2 ^ (k + ((c :: r).length - r.length) + 1)
      rw [hk]
      have := cnt_one d 4 p; omega
    · split
      · show cntP d (opP 5 [p]) + 2 ≤ 2 ^ (k + ((c :: r).length - r.length) + 1)
        rw [hk]
        have := cnt_one d 5 p; omega
      · split
        · show cntP d (opP 2 [p, opP 4 [p]]) + 2 ≤ 2 ^ (k + ((c :: r).length - r.length) + 1)
          rw [hk]
          have := cnt_two d 2 p (opP 4 [p])
          have := cnt_one d 4 p; omega
        · simpa using h
theorem cnb_repL {A : List UInt8 → Option (Pat × List UInt8)} (h : CntB A) (hs : Sh A) : CntB (repL A) := by
  intro l p r e d
  unfold repL at e
  cases hA : A l with
  | none => rw [hA] at e; cases e
  | some x =>
    obtain ⟨q, t⟩ := x
    rw [hA] at e
    have e2 : repT q t = (p, r) := Option.some.inj e
    have h1 := cnb_rep (h l q t hA d) t
    have h2 := (hs l q t hA).1.len
    have h3 := (repT_suf q t).len
    rw [e2] at h1 h3
    have h3' : r.length ≤ t.length := h3
    have h1' : cntP d p + 2 ≤ 2 ^ (l.length - t.length + (t.length - r.length) + 1) := h1
    rw [show l.length - t.length + (t.length - r.length) = l.length - r.length by omega] at h1'
    exact h1'
theorem cnb_seqL {A : List UInt8 → Option (Pat × List UInt8)} (h : CntB A) (hs : Sh A) (d : Nat) : ∀ (m : Nat) (l : List UInt8), ((seqL A m l).1.map (cntP d)).sum + nOne (seqL A m l).1 + 1 ≤ 2 ^ (l.length - (seqL A m l).2.length + 1) ∧ ((seqL A m l).1 ≠ [] → (seqL A m l).2.length < l.length)
  | 0, l => ⟨by simp [seqL, nOne], fun hn => absurd (show (seqL A 0 l).1 = [] from rfl) hn⟩
  | m + 1, l => by
    rw [seqL]
    split
    · exact ⟨by simp [nOne], fun hn => absurd rfl hn⟩
    · rename_i p r e
      have h1 := cnb_repL h hs l p r e d
      have h2 := (repL_sh hs l p r e).2
      obtain ⟨ih, ihn⟩ := cnb_seqL h hs d m r
      have h3 := (seqL_suf hs m r).len
      obtain ⟨T, hT⟩ : ∃ T, T = seqL A m r := ⟨_, rfl⟩
      rw [← hT] at ih ihn h3 ⊢
      refine ⟨?_, fun _ => by show T.2.length < l.length; omega⟩
      show (cntP d p + (T.1.map (cntP d)).sum) + nOne (p :: T.1) + 1 ≤ 2 ^ (l.length - T.2.length + 1)
      by_cases he : T.1 = []
      · rw [he]
        have h4 : 2 ^ (l.length - r.length + 1) ≤ 2 ^ (l.length - T.2.length + 1) := Nat.pow_le_pow_right (by decide) (by omega)
        simp only [nOne, List.map_nil, List.sum_nil, List.length_cons, List.length_nil]
        simp
        omega
      · have h4 := ihn he
        have hn1 : nOne (p :: T.1) = 1 := by
          unfold nOne
          rw [if_neg]
          simp only [List.length_cons]
          intro hh
          exact he (List.length_eq_zero_iff.1 (by omega))
        rw [hn1, show l.length - T.2.length = (l.length - r.length) + (r.length - T.2.length) by omega, pow2_succ, Nat.pow_add]
        rw [pow2_succ] at h1 ih
        have := mul_two (pow2_two (k := l.length - r.length) (by omega)) (pow2_two (k := r.length - T.2.length) (by omega))
        omega
theorem cnb_seqP {A : List UInt8 → Option (Pat × List UInt8)} (h : CntB A) (hs : Sh A) (d : Nat) (l : List UInt8) : cntP d (seqP A l).1 + 1 ≤ 2 ^ (l.length - (seqP A l).2.length + 1) :=
  Nat.le_trans (Nat.add_le_add_right (cnt_join d 2 _) 1) (cnb_seqL h hs d l.length l).1
theorem cnb_altL {A : List UInt8 → Option (Pat × List UInt8)} (h : CntB A) (hs : Sh A) (d : Nat) : ∀ (m : Nat) (l : List UInt8), (altL A m l).1 ≠ [] ∧ ((altL A m l).1.map (cntP d)).sum + nOne (altL A m l).1 + 1 ≤ 2 ^ (l.length - (altL A m l).2.length + 1)
  | 0, l => by
    have := cnb_seqP h hs d l
    refine ⟨by simp [altL], ?_⟩
    show ([(seqP A l).1].map (cntP d)).sum + nOne [(seqP A l).1] + 1 ≤ 2 ^ (l.length - (seqP A l).2.length + 1)
    simpa [nOne] using this
  | m + 1, l => by
    have h1 := cnb_seqP h hs d l
    have h2 := (seqP_suf hs l).len
    rw [altL]
    split
    · rename_i e
      rw [e] at h1
      exact ⟨by simp, by simpa [nOne] using h1⟩
    · rename_i c r e
      rw [e] at h1 h2
      rw [List.length_cons] at h1 h2
      split
      · obtain ⟨ihn, ih⟩ := cnb_altL h hs d m r
        have h3 := (altL_suf hs m r).len
        obtain ⟨T, hT⟩ : ∃ T, T = altL A m r := ⟨_, rfl⟩
        rw [← hT] at ihn ih h3 ⊢
        refine ⟨by simp, ?_⟩
        show (cntP d (seqP A l).1 + (T.1.map (cntP d)).sum) + nOne ((seqP A l).1 :: T.1) + 1 ≤ 2 ^ (l.length - T.2.length + 1)
        have hn1 : nOne ((seqP A l).1 :: T.1) = 1 := by
          unfold nOne
          rw [if_neg]
          simp only [List.length_cons]
          intro hh
          exact ihn (List.length_eq_zero_iff.1 (by omega))
        rw [hn1, show l.length - T.2.length + 1 = ((l.length - (r.length + 1)) + (r.length - T.2.length)) + 1 + 1 by omega, pow2_succ, pow2_succ, Nat.pow_add]
        rw [pow2_succ] at h1 ih
        have := mul_one2 (pow2_pos (l.length - (r.length + 1))) (pow2_pos (r.length - T.2.length))
        omega
      · refine ⟨by simp, ?_⟩
        show ([(seqP A l).1].map (cntP d)).sum + nOne [(seqP A l).1] + 1 ≤ 2 ^ (l.length - (c :: r).length + 1)
        simpa [nOne] using h1
theorem cnb_altP {A : List UInt8 → Option (Pat × List UInt8)} (h : CntB A) (hs : Sh A) (d : Nat) (l : List UInt8) : cntP d (altP A l).1 + 1 ≤ 2 ^ (l.length - (altP A l).2.length + 1) :=
  Nat.le_trans (Nat.add_le_add_right (cnt_join d 3 _) 1) (cnb_altL h hs d l.length l).2
theorem cnb_flat {p : Pat} (h : p.kids = []) (d k : Nat) (hk : 1 ≤ k) : cntP d p + 2 ≤ 2 ^ (k + 1) := by
  unfold cntP; rw [h, cntL_nil, pow2_succ]; have := pow2_two hk; omega
theorem cnb_atomF : ∀ n, CntB (atomF n)
  | 0 => fun l p r e => by cases e
  | n + 1 => fun l p r e d => by
    have ih := cnb_altP (cnb_atomF n) (atomF_sh n) d
    have hsf := fun t => (altP_suf (atomF_sh n) t).len
    have hlt := (atomF_sh (n + 1) l p r e).2
    have e' : atomL (altP (atomF n)) l = some (p, r) := e
    unfold atomL at e'
    split at e'
    · cases e'
    · rename_i c t
      split at e'
      · have h1 := ih t
        have h2 := hsf t
        split at e'
        · cases e'
        · rename_i d' r' e2
          split at e'
          · rw [e2] at h1 h2
            cases e'
            have h3 : 2 ^ (t.length - (d' :: r).length + 1) + 1 ≤ 2 ^ ((c :: t).length - r.length + 1) := by
              have h4 : 2 ^ (t.length - (d' :: r).length + 1 + 1) ≤ 2 ^ ((c :: t).length - r.length + 1) := Nat.pow_le_pow_right (by decide) (by simp only [List.length_cons] at h2 ⊢; omega)
              have h5 := pow2_succ (t.length - (d' :: r).length + 1)
              have h6 := pow2_pos (t.length - (d' :: r).length + 1)
              omega
            omega
          · cases e'
      · split at e'
        · exact cnb_flat (classL_kids e') d _ (by omega)
        · split at e'
          · cases e'; exact cnb_flat rfl d _ (by omega)
          · split at e'
            · cases e'; exact cnb_flat rfl d _ (by omega)
            · cases e'
theorem patS_cnt {l : List UInt8} {p : Pat} (h : patS l = some p) (d : Nat) : 1 + cntL d p.kids ≤ 2147483647 := by
  unfold patS at h
  split at h
  · cases h
  · rename_i hl
    split at h
    · rename_i hr
      cases h
      have h1 := cnb_altP (cnb_atomF l.length) (atomF_sh l.length) d l
      have h2 : 2 ^ (l.length - (altP (atomF l.length) l).2.length + 1) ≤ 2 ^ 31 := Nat.pow_le_pow_right (by decide) (by omega)
      have h3 : (2 : Nat) ^ 31 = 2147483648 := by decide
      rw [h3] at h2
      unfold cntP at h1
      omega
    · cases h
end Go.Proofs.YtdmccopggmienaaGreat
