/- CHAPTER 3, PLAIN MATHEMATICS: tokens that are joined are read again. No function is spoken of. -/
import Derived.Test.YthediljoioahpaaDoorLexA
import Derived.Test.YthediljoioahpaaDoorJoin
namespace Go.Proofs.YthediljoioahpaaDoor
open Go.RowKit

theorem ex_take' (s : ByteArray) (a n : Nat) : s.extract a (a + n) = ⟨((s.data.toList.drop a).take n).toArray⟩ := ba_of (by rw [Lib.extract_data]; congr 1; omega)
/-- the bytes of a token's text -/
def tokB (x : Tok) : List UInt8 := (tokS x.k x.t).data.toList
/-- a token that is read as itself wherever the text goes on with a blank, or ends -/
def Good (x : Tok) : Prop :=
  (∃ c u, tokB x = c :: u ∧ c ≠ 32 ∧ c ≠ 10 ∧ c ≠ 35) ∧ ∀ R : List UInt8, (R = [] ∨ ∃ R', R = 32 :: R') → tokL (tokB x ++ R) = some (x.k, x.t.data.toList, (tokB x).length)
theorem tokB_plain {k : Int} {t : List UInt8} {p : Int} (h : k ≠ 3) : tokB ⟨k, ⟨t.toArray⟩, p⟩ = t := by
  unfold tokB tokS; rw [if_neg h]
theorem tokB_quote {t : List UInt8} {p : Int} : tokB ⟨3, ⟨t.toArray⟩, p⟩ = 34 :: (escL t ++ [34]) := by
  unfold tokB tokS; rw [if_pos rfl]; rfl
theorem rdq_back' (l r : List UInt8) : rdq (escL l ++ 34 :: r) = some (l, r) := by
  induction l with
  | nil => rw [escL, List.nil_append, rdq_end rfl]
  | cons c l ih =>
    cases hc : escB c
    · rw [escL_plain hc, List.cons_append, rdq_on (escB_not hc).1 (escB_not hc).2, ih]; rfl
    · rw [escL_esc hc, List.cons_append, List.cons_append, rdq_esc rfl hc, ih]; rfl
theorem tw_app {p : UInt8 → Bool} {A R : List UInt8} (hA : ∀ c ∈ A, p c = true) (h32 : p 32 = false) (hR : R = [] ∨ ∃ R', R = 32 :: R') : (A ++ R).takeWhile p = A := by
  rw [List.takeWhile_append_of_pos hA]
  rcases hR with rfl | ⟨R', rfl⟩
  · simp
  · rw [List.takeWhile_cons, if_neg (by rw [h32]; decide)]; simp
theorem dw_dw (p : UInt8 → Bool) (l : List UInt8) : (l.dropWhile p).dropWhile p = l.dropWhile p := by
  induction l with
  | nil => rfl
  | cons c r ih =>
    rw [List.dropWhile_cons]
    split
    · exact ih
    · rename_i h
      rw [List.dropWhile_cons, if_neg h]
theorem trim_trim (l : List UInt8) : Lib.trimRightB (Lib.trimRightB l 45) 45 = Lib.trimRightB l 45 := by
  unfold Lib.trimRightB
  rw [List.reverse_reverse, dw_dw]
theorem trim_pre (l : List UInt8) : ∃ d, l = Lib.trimRightB l 45 ++ d := by
  refine ⟨(l.reverse.takeWhile (· == 45)).reverse, ?_⟩
  unfold Lib.trimRightB
  rw [← List.reverse_append, List.takeWhile_append_dropWhile, List.reverse_reverse]
theorem tw_pre (p : UInt8 → Bool) (l : List UInt8) : ∃ d, l = l.takeWhile p ++ d := ⟨l.dropWhile p, (List.takeWhile_append_dropWhile ..).symm⟩
theorem take_pre {l A d : List UInt8} (h : l = A ++ d) : l.take A.length = A := by rw [h, List.take_left]
theorem nm_take (l : List UInt8) : l.take (nmLen l) = Lib.trimRightB (l.takeWhile nbB) 45 := by
  obtain ⟨d, hd⟩ := trim_pre (l.takeWhile nbB)
  obtain ⟨d', hd'⟩ := tw_pre nbB l
  unfold nmLen
  refine take_pre (d := d ++ d') ?_
  rw [← List.append_assoc, ← hd]; exact hd'
theorem mem_tw {p : UInt8 → Bool} {l : List UInt8} {c : UInt8} (h : c ∈ l.takeWhile p) : p c = true := by
  induction l with
  | nil => cases h
  | cons d r ih =>
    rw [List.takeWhile_cons] at h
    split at h
    · rcases List.mem_cons.1 h with rfl | h
      · assumption
      · exact ih h
    · cases h
theorem digB_let {c : UInt8} (h : digB c = true) : letB c = false := by
  unfold digB at h; unfold letB
  have := of_decide_eq_true h
  exact decide_eq_false (by omega)
theorem mk2_sep {c : UInt8} {R : List UInt8} (hR : R = [] ∨ ∃ R', R = 32 :: R') : mk2 (c :: R) = false := by
  rcases hR with rfl | ⟨R', rfl⟩
  · rfl
  · unfold mk2; simp
theorem tokL_good {c : UInt8} {r : List UInt8} {k : Int} {t : List UInt8} {z : Nat} (p : Int) (h : tokL (c :: r) = some (k, t, z)) (h32 : c ≠ 32) (h10 : c ≠ 10) (h35 : c ≠ 35) : Good ⟨k, ⟨t.toArray⟩, p⟩ ∧ t.length + 1 ≤ 2 * z := by
  cases h1 : letB c with
  | true =>
    rw [tokL_let h1] at h
    obtain ⟨u, hu⟩ := trim_head (l := r.takeWhile nbB) (letB_45 h1)
    have e : (c :: r).takeWhile nbB = c :: r.takeWhile nbB := by rw [List.takeWhile_cons, if_pos (letB_nb h1)]
    have hz := nmLen_pos (r := r) h1
    have hl := nmLen_le (c :: r)
    have ht := nm_take (c :: r)
    generalize hn : nmLen (c :: r) = n at h hz hl ht
    cases h
    rw [ht]
    obtain ⟨A, hA⟩ : ∃ A, A = Lib.trimRightB ((c :: r).takeWhile nbB) 45 := ⟨_, rfl⟩
    have hAn : A.length = z := by rw [hA, ← hn]; rfl
    have hAc : A = c :: u := by rw [hA, e, hu]
    have hAA : Lib.trimRightB A 45 = A := by rw [hA, trim_trim]
    have hAm : ∀ d ∈ A, nbB d = true := fun d hd => by
      obtain ⟨q, hq⟩ := trim_pre ((c :: r).takeWhile nbB)
      exact mem_tw (l := c :: r) (by rw [hq, ← hA]; exact List.mem_append_left _ hd)
    rw [← hA]
    refine ⟨⟨⟨c, u, by rw [tokB_plain (by decide)]; exact hAc, h32, h10, h35⟩, fun R hR => ?_⟩, by omega⟩
    rw [tokB_plain (by decide)]
    have hnm : nmLen (A ++ R) = A.length := by unfold nmLen; rw [tw_app hAm (by decide) hR, hAA]
    have htk : (A ++ R).take A.length = A := List.take_left
    rw [← hnm] at htk
    have : tokL (A ++ R) = some (1, (A ++ R).take (nmLen (A ++ R)), nmLen (A ++ R)) := by rw [hAc]; exact tokL_let h1
    rw [this, htk, hnm]
  | false =>
    cases h2 : digB c with
    | true =>
      rw [tokL_dig h1 h2] at h
      have hz := dgLen_pos (r := r) h2
      have ht : (c :: r).take (dgLen (c :: r)) = (c :: r).takeWhile digB := by
        obtain ⟨d, hd⟩ := tw_pre digB (c :: r)
        exact take_pre hd
      generalize hn : dgLen (c :: r) = n at h hz ht
      cases h
      rw [ht]
      obtain ⟨A, hA⟩ : ∃ A, A = (c :: r).takeWhile digB := ⟨_, rfl⟩
      have hAn : A.length = z := by rw [hA, ← hn]; rfl
      have hAc : A = c :: r.takeWhile digB := by rw [hA, List.takeWhile_cons, if_pos h2]
      have hAm : ∀ d ∈ A, digB d = true := fun d hd => mem_tw (l := c :: r) (by rw [← hA]; exact hd)
      rw [← hA]
      refine ⟨⟨⟨c, _, by rw [tokB_plain (by decide)]; exact hAc, h32, h10, h35⟩, fun R hR => ?_⟩, by omega⟩
      rw [tokB_plain (by decide)]
      have hnm : dgLen (A ++ R) = A.length := by unfold dgLen; rw [tw_app hAm (by decide) hR]
      have htk : (A ++ R).take A.length = A := List.take_left
      rw [← hnm] at htk
      have : tokL (A ++ R) = some (2, (A ++ R).take (dgLen (A ++ R)), dgLen (A ++ R)) := by rw [hAc]; exact tokL_dig h1 h2
      rw [this, htk, hnm]
    | false =>
      by_cases h3 : c = 34
      · rw [tokL_quo h3] at h
        cases hr : rdq r with
        | none => rw [hr] at h; cases h
        | some q =>
          rw [hr] at h
          have hl := rdq_meant r.length r q.1 q.2 (Nat.le_refl _) hr
          cases h
          refine ⟨⟨⟨34, _, tokB_quote, by decide, by decide, by decide⟩, fun R _ => ?_⟩, by omega⟩
          rw [tokB_quote, List.cons_append, tokL_quo rfl, List.append_assoc, List.singleton_append, rdq_back']
          simp only [Option.map_some, List.length_cons, List.length_append, List.length_nil]
          congr 3; omega
      · by_cases h4 : mkLen (c :: r) = 0
        · rw [tokL_non h1 h2 h3 h4] at h; cases h
        · rw [tokL_mrk h1 h2 h3 h4] at h
          cases hm : mk2 (c :: r) with
          | true =>
            match r, hm, h, h4 with
            | d :: r', hm, h, h4 =>
              rw [mkLen_two hm] at h
              cases h
              refine ⟨⟨⟨c, [d], by rw [tokB_plain (by decide)]; rfl, h32, h10, h35⟩, fun R _ => ?_⟩, by simp⟩
              rw [tokB_plain (by decide)]
              have hm' : mk2 (c :: d :: R) = true := hm
              show tokL (c :: d :: R) = _
              rw [tokL_mrk h1 h2 h3 (by rw [mkLen_two hm']; decide), mkLen_two hm']; rfl
          | false =>
            have h5 := mkLen_one hm
            by_cases h6 : marks1.contains c = true
            · rw [if_pos h6] at h5
              rw [h5] at h
              cases h
              refine ⟨⟨⟨c, [], by rw [tokB_plain (by decide)]; rfl, h32, h10, h35⟩, fun R hR => ?_⟩, by simp⟩
              rw [tokB_plain (by decide)]
              show tokL (c :: R) = _
              have h7 : mkLen (c :: R) = 1 := by rw [mkLen_one (mk2_sep hR), if_pos h6]
              rw [tokL_mrk h1 h2 h3 (by rw [h7]; decide), h7]; rfl
            · rw [if_neg h6] at h5; exact absurd h5 h4
/-- how much the texts of the tokens take -/
def sumT (T : List Tok) : Nat := (T.map fun x => x.t.size + 1).sum
theorem Lx.good {N : Nat} {l : List UInt8} {T : List Tok} {e : Option Nat} (h : Lx N l T e) : (∀ x ∈ T, Good x) ∧ sumT T ≤ 2 * l.length := by
  induction h with
  | fin _ => exact ⟨by simp, by simp [sumT]⟩
  | bad _ _ => exact ⟨by simp, by simp [sumT]⟩
  | @tok l c r k t z T e h h' h'' ih =>
    obtain ⟨h32, h10, h35⟩ := skip_head h
    obtain ⟨m, hm, e'⟩ := skip_suffix l false
    have hlen : (c :: r).length ≤ l.length := by rw [← h, e', List.length_drop]; omega
    have hg := tokL_good ((N - (r.length + 1) : Nat) : Int) h' h32 h10 h35
    have hb := tokL_bd h'
    have hd : ((c :: r).drop z).length = (c :: r).length - z := List.length_drop
    refine ⟨fun x hx => ?_, ?_⟩
    · rcases List.mem_cons.1 hx with rfl | hx
      · exact hg.1
      · exact ih.1 x hx
    · have h2 := ih.2
      unfold sumT at h2 ⊢
      rw [List.map_cons, List.sum_cons]
      have e1 : (⟨t.toArray⟩ : ByteArray).size = t.length := rfl
      dsimp only
      rw [e1]
      omega
end Go.Proofs.YthediljoioahpaaDoor
