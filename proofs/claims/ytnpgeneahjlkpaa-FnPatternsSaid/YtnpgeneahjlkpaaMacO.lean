/- MERGED for a claim: PatG MacOm MacO. -/
import Derived.Test.YtnpgeneahjlkpaaPatF
import Derived.Test.YtnpgeneahjlkpaaMacN
import Derived.Test.YtnpgeneahjlkpaaMatB
import Derived.Test.YtnpgeneahjlkpaaPatAB
import Derived.Test.YtnpgeneahjlkpaaPatAA
set_option linter.unusedVariables false
set_option linter.unusedSimpArgs false
/- CHAPTER 5, PLAIN MATHEMATICS: a pattern that is read has few parts: at most two to the power of its length. No function is spoken of. -/
namespace Go.Proofs.Ytnpgeneahjlkpaa
open Go.RowKit

theorem pow2_succ (k : Nat) : 2 ^ (k + 1) = 2 * 2 ^ k := by rw [Nat.pow_succ]; omega
theorem pow2_pos (k : Nat) : 1 ≤ 2 ^ k := Nat.pos_of_ne_zero (by simp)
theorem pow2_two {k : Nat} (h : 1 ≤ k) : 2 ≤ 2 ^ k := by
  obtain ⟨j, rfl⟩ : ∃ j, k = j + 1 := ⟨k - 1, by omega⟩
  rw [pow2_succ]; have := pow2_pos j; omega
theorem mul_two {x y : Nat} (hx : 2 ≤ x) (hy : 2 ≤ y) : x + y ≤ x * y := by
  obtain ⟨a, rfl⟩ := Nat.le.dest hx
  obtain ⟨b, rfl⟩ := Nat.le.dest hy
  rw [Nat.mul_add, Nat.add_mul, Nat.add_mul]
  have := Nat.zero_le (a * b)
  omega
theorem mul_one2 {x y : Nat} (hx : 1 ≤ x) (hy : 1 ≤ y) : x + y ≤ 2 * (x * y) := by
  obtain ⟨a, rfl⟩ := Nat.le.dest hx
  obtain ⟨b, rfl⟩ := Nat.le.dest hy
  rw [Nat.mul_add, Nat.add_mul, Nat.add_mul]
  have := Nat.zero_le (a * b)
  omega
def CntB (A : List UInt8 → Option (Pat × List UInt8)) : Prop := ∀ l p r, A l = some (p, r) → ∀ d, cntP d p + 2 ≤ 2 ^ (l.length - r.length + 1)
theorem cnb_rep {d : Nat} {p : Pat} {k : Nat} (h : cntP d p + 2 ≤ 2 ^ (k + 1)) (l : List UInt8) : cntP d (repT p l).1 + 2 ≤ 2 ^ (k + (l.length - (repT p l).2.length) + 1) := by
  have h1 := cnt_pos d p
  have h2 := pow2_succ (k + 1)
  unfold repT
  split
  · simpa using h
  · rename_i c r
    have hk : k + ((c :: r).length - r.length) = k + 1 := by simp
    split
    · show cntP d (opP 4 [p]) + 2 ≤ 2 ^ (k + ((c :: r).length - r.length) + 1)
      rw [hk]
      have := cnt_one d 4 p; omega
    · split
      · show cntP d (opP 5 [p]) + 2 ≤ 2 ^ (k + ((c :: r).length - r.length) + 1)
        rw [hk]
        have := cnt_one d 5 p; omega
      · split
        · show cntP d (opP 2 [p, opP 4 [p]]) + 2 ≤ 2 ^ (k + ((c :: r).length - r.length) + 1)
          rw [hk]
          have := cnt_two d 2 p (opP 4 [p])
          have := cnt_one d 4 p; omega
        · simpa using h
theorem cnb_repL {A : List UInt8 → Option (Pat × List UInt8)} (h : CntB A) (hs : Sh A) : CntB (repL A) := by
  intro l p r e d
  unfold repL at e
  cases hA : A l with
  | none => rw [hA] at e; cases e
  | some x =>
    obtain ⟨q, t⟩ := x
    rw [hA] at e
    have e2 : repT q t = (p, r) := Option.some.inj e
    have h1 := cnb_rep (h l q t hA d) t
    have h2 := (hs l q t hA).1.len
    have h3 := (repT_suf q t).len
    rw [e2] at h1 h3
    have h3' : r.length ≤ t.length := h3
    have h1' : cntP d p + 2 ≤ 2 ^ (l.length - t.length + (t.length - r.length) + 1) := h1
    rw [show l.length - t.length + (t.length - r.length) = l.length - r.length by omega] at h1'
    exact h1'
theorem cnb_seqL {A : List UInt8 → Option (Pat × List UInt8)} (h : CntB A) (hs : Sh A) (d : Nat) : ∀ (m : Nat) (l : List UInt8), ((seqL A m l).1.map (cntP d)).sum + nOne (seqL A m l).1 + 1 ≤ 2 ^ (l.length - (seqL A m l).2.length + 1) ∧ ((seqL A m l).1 ≠ [] → (seqL A m l).2.length < l.length)
  | 0, l => ⟨by simp [seqL, nOne], fun hn => absurd (show (seqL A 0 l).1 = [] from rfl) hn⟩
  | m + 1, l => by
    rw [seqL]
    split
    · exact ⟨by simp [nOne], fun hn => absurd rfl hn⟩
    · rename_i p r e
      have h1 := cnb_repL h hs l p r e d
      have h2 := (repL_sh hs l p r e).2
      obtain ⟨ih, ihn⟩ := cnb_seqL h hs d m r
      have h3 := (seqL_suf hs m r).len
      obtain ⟨T, hT⟩ : ∃ T, T = seqL A m r := ⟨_, rfl⟩
      rw [← hT] at ih ihn h3 ⊢
      refine ⟨?_, fun _ => by show T.2.length < l.length; omega⟩
      show (cntP d p + (T.1.map (cntP d)).sum) + nOne (p :: T.1) + 1 ≤ 2 ^ (l.length - T.2.length + 1)
      by_cases he : T.1 = []
      · rw [he]
        have h4 : 2 ^ (l.length - r.length + 1) ≤ 2 ^ (l.length - T.2.length + 1) := Nat.pow_le_pow_right (by decide) (by omega)
        simp only [nOne, List.map_nil, List.sum_nil, List.length_cons, List.length_nil]
        simp
        omega
      · have h4 := ihn he
        have hn1 : nOne (p :: T.1) = 1 := by
          unfold nOne
          rw [if_neg]
          simp only [List.length_cons]
          intro hh
          exact he (List.length_eq_zero_iff.1 (by omega))
        rw [hn1, show l.length - T.2.length = (l.length - r.length) + (r.length - T.2.length) by omega, pow2_succ, Nat.pow_add]
        rw [pow2_succ] at h1 ih
        have := mul_two (pow2_two (k := l.length - r.length) (by omega)) (pow2_two (k := r.length - T.2.length) (by omega))
        omega
theorem cnb_seqP {A : List UInt8 → Option (Pat × List UInt8)} (h : CntB A) (hs : Sh A) (d : Nat) (l : List UInt8) : cntP d (seqP A l).1 + 1 ≤ 2 ^ (l.length - (seqP A l).2.length + 1) :=
  Nat.le_trans (Nat.add_le_add_right (cnt_join d 2 _) 1) (cnb_seqL h hs d l.length l).1
theorem cnb_altL {A : List UInt8 → Option (Pat × List UInt8)} (h : CntB A) (hs : Sh A) (d : Nat) : ∀ (m : Nat) (l : List UInt8), (altL A m l).1 ≠ [] ∧ ((altL A m l).1.map (cntP d)).sum + nOne (altL A m l).1 + 1 ≤ 2 ^ (l.length - (altL A m l).2.length + 1)
  | 0, l => by
    have := cnb_seqP h hs d l
    refine ⟨by simp [altL], ?_⟩
    show ([(seqP A l).1].map (cntP d)).sum + nOne [(seqP A l).1] + 1 ≤ 2 ^ (l.length - (seqP A l).2.length + 1)
    simpa [nOne] using this
  | m + 1, l => by
    have h1 := cnb_seqP h hs d l
    have h2 := (seqP_suf hs l).len
    rw [altL]
    split
    · rename_i e
      rw [e] at h1
      exact ⟨by simp, by simpa [nOne] using h1⟩
    · rename_i c r e
      rw [e] at h1 h2
      rw [List.length_cons] at h1 h2
      split
      · obtain ⟨ihn, ih⟩ := cnb_altL h hs d m r
        have h3 := (altL_suf hs m r).len
        obtain ⟨T, hT⟩ : ∃ T, T = altL A m r := ⟨_, rfl⟩
        rw [← hT] at ihn ih h3 ⊢
        refine ⟨by simp, ?_⟩
        show (cntP d (seqP A l).1 + (T.1.map (cntP d)).sum) + nOne ((seqP A l).1 :: T.1) + 1 ≤ 2 ^ (l.length - T.2.length + 1)
        have hn1 : nOne ((seqP A l).1 :: T.1) = 1 := by
          unfold nOne
          rw [if_neg]
          simp only [List.length_cons]
          intro hh
          exact ihn (List.length_eq_zero_iff.1 (by omega))
        rw [hn1, show l.length - T.2.length + 1 = ((l.length - (r.length + 1)) + (r.length - T.2.length)) + 1 + 1 by omega, pow2_succ, pow2_succ, Nat.pow_add]
        rw [pow2_succ] at h1 ih
        have := mul_one2 (pow2_pos (l.length - (r.length + 1))) (pow2_pos (r.length - T.2.length))
        omega
      · refine ⟨by simp, ?_⟩
        show ([(seqP A l).1].map (cntP d)).sum + nOne [(seqP A l).1] + 1 ≤ 2 ^ (l.length - (c :: r).length + 1)
        simpa [nOne] using h1
theorem cnb_altP {A : List UInt8 → Option (Pat × List UInt8)} (h : CntB A) (hs : Sh A) (d : Nat) (l : List UInt8) : cntP d (altP A l).1 + 1 ≤ 2 ^ (l.length - (altP A l).2.length + 1) :=
  Nat.le_trans (Nat.add_le_add_right (cnt_join d 3 _) 1) (cnb_altL h hs d l.length l).2
theorem cnb_flat {p : Pat} (h : p.kids = []) (d k : Nat) (hk : 1 ≤ k) : cntP d p + 2 ≤ 2 ^ (k + 1) := by
  unfold cntP; rw [h, cntL_nil, pow2_succ]; have := pow2_two hk; omega
theorem cnb_atomF : ∀ n, CntB (atomF n)
  | 0 => fun l p r e => by cases e
  | n + 1 => fun l p r e d => by
    have ih := cnb_altP (cnb_atomF n) (atomF_sh n) d
    have hsf := fun t => (altP_suf (atomF_sh n) t).len
    have hlt := (atomF_sh (n + 1) l p r e).2
    have e' : atomL (altP (atomF n)) l = some (p, r) := e
    unfold atomL at e'
    split at e'
    · cases e'
    · rename_i c t
      split at e'
      · have h1 := ih t
        have h2 := hsf t
        split at e'
        · cases e'
        · rename_i d' r' e2
          split at e'
          · rw [e2] at h1 h2
            cases e'
            have h3 : 2 ^ (t.length - (d' :: r).length + 1) + 1 ≤ 2 ^ ((c :: t).length - r.length + 1) := by
              have h4 : 2 ^ (t.length - (d' :: r).length + 1 + 1) ≤ 2 ^ ((c :: t).length - r.length + 1) := Nat.pow_le_pow_right (by decide) (by simp only [List.length_cons] at h2 ⊢; omega)
              have h5 := pow2_succ (t.length - (d' :: r).length + 1)
              have h6 := pow2_pos (t.length - (d' :: r).length + 1)
              omega
            omega
          · cases e'
      · split at e'
        · exact cnb_flat (classL_kids e') d _ (by omega)
        · split at e'
          · cases e'; exact cnb_flat rfl d _ (by omega)
          · split at e'
            · cases e'; exact cnb_flat rfl d _ (by omega)
            · cases e'
theorem patS_cnt {l : List UInt8} {p : Pat} (h : patS l = some p) (d : Nat) : 1 + cntL d p.kids ≤ 2147483647 := by
  unfold patS at h
  split at h
  · cases h
  · rename_i hl
    split at h
    · rename_i hr
      cases h
      have h1 := cnb_altP (cnb_atomF l.length) (atomF_sh l.length) d l
      have h2 : 2 ^ (l.length - (altP (atomF l.length) l).2.length + 1) ≤ 2 ^ 31 := Nat.pow_le_pow_right (by decide) (by omega)
      have h3 : (2 : Nat) ^ 31 = 2147483648 := by decide
      rw [h3] at h2
      unfold cntP at h1
      omega
    · cases h
end Go.Proofs.Ytnpgeneahjlkpaa

/- CHAPTER 5, impl: MatchPattern. -/
namespace Go.Proofs.Ytnpgeneahjlkpaa
open Go.RowKit Mac

set_option maxRecDepth 100000 in
set_option maxHeartbeats 4000000 in
theorem imatch (s : ByteArray) (hs : s.size ≤ 4611686018427387904) (d : Nat) (r : PatR) (t : Pat) (w : World) (hr : RdN patK d w r t) (hf : TxFit d t.kids) (ht : t.x.text.size ≤ 9223372036854775807) (hcnt : 1 + cntL d t.kids ≤ 2147483647) :
    Calls Try.prog 27 #[.agg #[.int .i64 r.op, .string r.text, r.kv], .string s] w fun e w' => ∃ b : Bool, e = .returned (.bool b) ∧ Hid (b = true ↔ Mt s d t 0 s.size) ∧ Below w.heap.size w w' := by
  obtain ⟨A, cap, hkv⟩ := hr.2.form
  obtain ⟨op, text, kv⟩ := r
  obtain rfl : kv = .slice A t.kids.length cap := hkv
  obtain ⟨X, hX⟩ : ∃ X : Cx, X = ⟨w, w.heap.size + 1, w.heap.size + 3, w.heap.size + 2⟩ := ⟨_, rfl⟩
  have x0 : X.w0 = w := by rw [hX]
  have xm : X.m = w.heap.size + 1 := by rw [hX]
  have xe : X.e = w.heap.size + 3 := by rw [hX]
  have xv : X.mv = w.heap.size + 2 := by rw [hX]
  obtain ⟨n, hn⟩ : ∃ n, n = t.kids.length := ⟨_, rfl⟩
  have hr' : RdN patK d X.w0 ⟨op, text, .slice A t.kids.length cap⟩ t := by rw [x0]; exact hr
  rw [← hn] at hr' ⊢
  have HDEEP := Lib.hid (rd_deep hr.2)
  have HREST := Lib.hid (And.intro ht (And.intro hf hcnt))
  obtain ⟨W0, hW0⟩ : ∃ W0, W0 = ((((w.alloc (.cells #[.int .i64 op, .string text, .slice A n cap] 56)).alloc (.cells #[.int .i64 0, .slice none 0 0, .slice none 0 0] tS)).alloc (bx (ptr (w.heap.size + 1)) tM)).alloc (bx (.int .i64 (-1)) 3)) := ⟨_, rfl⟩
  have hz0 : W0.heap.size = w.heap.size + 4 := by rw [hW0]; simp
  have hB0 : Below w.heap.size w W0 := by rw [hW0]; exact below_al (below_al (below_al (below_al (Below.refl _ _) _) _) _) _
  have hRep : Rep X (fun x => if x = w.heap.size + 2 then some (bx (ptr X.m) tM) else none) (.slice none 0 0) (.slice none 0 0) [] W0 ⟨[], [], [], 0, -1⟩ := by
    have nilrow : ∀ E : Nat, RowV E X.w0.heap.size W0 (.slice none 0 0) [] := fun E => ⟨by simp, .inl ⟨rfl, rfl⟩⟩
    refine ⟨⟨by rw [x0, xm]; omega, by rw [xm, xe]; omega, if_neg (by omega), if_neg (by omega), fun p hp => (List.not_mem_nil hp).elim, fun p hp => (List.not_mem_nil hp).elim, fun i j p q hp => (by simp at hp), fun g hg => (by cases hg), fun g hg => (by cases hg)⟩, by rw [x0]; exact hB0, fun b o hb => ?_, ?_, ?_, by rw [xv]; exact if_pos rfl, nilrow _, nilrow _, rfl, fun q hq => absurd hq (by simp), fun p hp => (List.not_mem_nil hp).elim, fun p hp => (List.not_mem_nil hp).elim, fun p hp => (List.not_mem_nil hp).elim, fun p hp => (List.not_mem_nil hp).elim, fun i hi => (List.not_mem_nil hi).elim, fun b o hb => ?_⟩
    · split at hb
      · rename_i e; cases hb; rw [e, hW0, xm, Below.heap_alloc _ _ _ (by simp)]; exact alloc_new_at _ _ (by simp)
      · cases hb
    · rw [xm, hW0, Below.heap_alloc _ _ _ (by simp), Below.heap_alloc _ _ _ (by simp)]; exact alloc_new_at _ _ (by simp)
    · rw [xe, hW0]; exact alloc_new_at _ _ (by simp)
    · split at hb
      · cases hb; rfl
      · cases hb
  have hbf := before_any hRep (t := t) (e := d) (r := ⟨op, text, .slice A n cap⟩) (nx := 0) (Nat.zero_le _) ⟨hr', ht, hf⟩
  have e0 : refV X ([] : List Pl) 0 = .func (.func 59) #[] #[ptr (w.heap.size + 2), ptr (w.heap.size + 3)] := by rw [hX]; rfl
  have HBF : Hid (Calls Try.prog 58 #[ptr (w.heap.size + 1), .agg #[.int .i64 op, .string text, .slice A n cap], .func (.func 59) #[] #[ptr (w.heap.size + 2), ptr (w.heap.size + 3)]] W0 fun e w1 => e = .returned (placeV (w.heap.size + 4)) ∧ Hid (∃ K', Rep X K' (.slice none 0 0) (.slice none 0 0) [] w1 ⟨[⟨t, d, ⟨op, text, .slice A n cap⟩, 0, w.heap.size + 4, -1, none⟩], [], [], 0, -1⟩)) := Lib.hid (by
    rw [show refV X (({ pl := [], reached := [], waiting := [], pos := 0, en := -1 } : Mc).pl) 0 = refV X ([] : List Pl) 0 from rfl, e0, xm, hz0] at hbf
    refine hbf.mono ?_
    rintro e w1 ⟨rfl, K', _, _, hR, _⟩
    exact ⟨rfl, Lib.hid ⟨K', hR⟩⟩)
  have HRUN : Hid (∀ K' w1, Rep X K' (.slice none 0 0) (.slice none 0 0) [] w1 ⟨[⟨t, d, ⟨op, text, .slice A n cap⟩, 0, w.heap.size + 4, -1, none⟩], [], [], 0, -1⟩ → Calls Try.prog 60 #[ptr (w.heap.size + 1), placeV (w.heap.size + 4), .string s] w1 fun e w2 => e = .returned (.tuple #[]) ∧ ∃ en : Int, w2.cell? ⟨w.heap.size + 3, 0, none⟩ = some (.int .i64 en) ∧ Hid (en = s.size ↔ Mt s d t 0 s.size) ∧ Hid (Below w.heap.size w w2)) := Lib.hid fun K' w1 hR => by
    have := run_any (s := s) (D := d) (N := 2147483647) hR HDEEP.out (Nat.le_refl _) HREST.out.2.2 (Nat.le_refl _) hs
    rw [xm] at this
    refine this.mono ?_
    rintro e w2 ⟨rfl, K2, vr2, vw2, cs2, S2, hR2, hiff⟩
    have hc := cell_of_one hR2.he
    rw [xe] at hc
    have hb := hR2.bel
    rw [x0] at hb
    exact ⟨rfl, S2.en, hc, Lib.hid hiff, Lib.hid hb⟩
  have HRD : Hid (∀ K' w1, Rep X K' (.slice none 0 0) (.slice none 0 0) [] w1 ⟨[⟨t, d, ⟨op, text, .slice A n cap⟩, 0, w.heap.size + 4, -1, none⟩], [], [], 0, -1⟩ → w1.cell? ⟨w.heap.size + 2, 0, none⟩ = some (ptr (w.heap.size + 1))) := Lib.hid fun K' w1 hR => by
    have := cell_of_one (hR.hk _ _ hR.hv)
    rw [xv, xm] at this; exact this
  rw [hW0] at HBF
  clear hr hf ht hcnt hX x0 xm xe xv hn hr' HDEEP HREST hW0 hz0 hB0 hRep hbf e0
  go_enter Try.func27, Try.ntmps27
  go_wp2_with fail
  refine HBF.out.mono ?_
  rintro e w1 ⟨rfl, HK⟩
  obtain ⟨K', hR⟩ := HK.out
  have c1 := HRD.out K' w1 hR
  have HC := Lib.hid (HRUN.out K' w1 hR)
  clear hR HK HRUN HRD HBF
  go_wp2_with fail
  refine HC.out.mono ?_
  rintro e w2 ⟨rfl, en, hc, HI, HB⟩
  have HE : Hid ((en == s.size) = true ↔ Mt s d t 0 s.size) := Lib.hid (by rw [← HI.out]; simp)
  clear HC c1 HI
  go_wp2
  go_ret
  exact ⟨_, rfl, HE, HB.out⟩
end Go.Proofs.Ytnpgeneahjlkpaa

/- CHAPTER 5, impl: MatchPattern, MatchText. -/
namespace Go.Proofs.Ytnpgeneahjlkpaa
open Go.RowKit Mac

/-- spec's and impl's answer: whether s is a text of the pattern that p is read as -/
noncomputable def textOfB (p s : ByteArray) : Bool := @decide (TextOf p s) (Classical.propDecidable _)
theorem textOf_b {p s : ByteArray} {b : Bool} (h : b = true ↔ TextOf p s) : b = textOfB p s := by
  unfold textOfB
  cases b
  · exact (@decide_eq_false _ (Classical.propDecidable _) (fun hh => by have := h.2 hh; cases this)).symm
  · exact (@decide_eq_true _ (Classical.propDecidable _) (h.1 rfl)).symm
set_option maxRecDepth 100000 in
set_option maxHeartbeats 2000000 in
theorem iMText_any (p s : ByteArray) (hp : p.size ≤ maxLen) (hs : s.size ≤ 4611686018427387904) (w : World) : Calls Try.prog 31 #[.string p, .string s] w fun e w' => e = .returned (.bool (textOfB p s)) ∧ Below w.heap.size w w' := by
  have HC := Lib.hid (fun w => iPat_any p hp w)
  have HM := Lib.hid (fun d r t w => imatch s hs d r t w)
  cases ho : patS p.data.toList with
  | none =>
    have HT : Hid (false = textOfB p s) := Lib.hid (textOf_b ⟨fun h => (by cases h), fun ⟨t, h, _⟩ => (by rw [ho] at h; cases h)⟩)
    rw [ho] at HC
    clear ho
    go_enter Try.func31, Try.ntmps31
    go_wp2_with (first
      | (go_at_call 65; ((refine (HC.out _).mono ?_); rintro e w1 ⟨rfl, hb⟩)))
    go_ret
    exact ⟨by rw [← HT.out]; rfl, below_al hb _⟩
  | some t =>
    have HT : Hid (TextOf p s ↔ Mt s 124 t 0 s.size) := Lib.hid ⟨fun ⟨t', h, h'⟩ => by rw [ho] at h; cases h; exact h', fun h => ⟨t, ho, h⟩⟩
    have HX := Lib.hid (And.intro (tx_patS ho) (patS_cnt ho 124))
    rw [ho] at HC
    clear ho
    go_enter Try.func31, Try.ntmps31
    go_wp2_with (first
      | (go_at_call 65; ((refine (HC.out _).mono ?_); rintro e w1 ⟨A, c, S, rfl, hown, hb⟩; have HR := Lib.hid (OwN.rd hown); clear hown))
      | (go_at_call 27; (go_loud (refine (HM.out 124 ⟨t.x.op, t.x.text, .slice A t.kids.length c⟩ t _ (RdN.below HR.out (below_al (Below.refl _ _) _)) (HX.out.1.2 124) HX.out.1.1 HX.out.2).mono ?_); rintro e w2 ⟨b, rfl, hB, hb2⟩)))
    go_ret
    exact ⟨by rw [← textOf_b (hB.out.trans HT.out.symm)]; rfl, below_step (below_al hb _) hb2⟩
end Go.Proofs.Ytnpgeneahjlkpaa
