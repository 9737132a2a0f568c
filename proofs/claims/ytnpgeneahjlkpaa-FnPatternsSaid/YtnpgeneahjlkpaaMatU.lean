/- CHAPTER 5, spec: l5Ends of a sequence, an alternative (made by tools/genmat.py). -/
import Derived.Test.YtnpgeneahjlkpaaMatT
import Derived.Test.YtnpgeneahjlkpaaMatQ
set_option linter.unusedVariables false
set_option linter.unusedSimpArgs false
namespace Go.Proofs.Ytnpgeneahjlkpaa
open Go.RowKit

/-- 'b = true', which the walk's simp leaves standing -/
def Tru (b : Bool) : Prop := b = true
theorem rowB_made {w1 : World} {g n1 B : Nat} (hown1 : w1.ownsRow B 4 1 (.slice (some ⟨g, 0, none⟩) n1 n1) n1 (madeCells (Value.bool false).cells (n1 * 1)).toList) : RowB B w1 (.slice (some ⟨g, 0, none⟩) n1 n1) (List.replicate n1 false) := by
  have := hown1
  rw [show (madeCells (Value.bool false).cells (n1 * 1)).toList = (List.replicate n1 false).flatMap bE from made_flat bE_len (by omega) _ false rfl n1] at this
  unfold RowB RowR
  rw [List.length_replicate]
  exact this
theorem iff_step {U O : List Bool} {k : Nat} {q ux ox : Bool} (h1 : Tru q ↔ ∃ i, i < k ∧ U[i]? ≠ O[i]?) (h3 : U[k]? = some ux) (h4 : O[k]? = some ox) : Tru (q || (ux != ox)) ↔ ∃ i, i < k + 1 ∧ U[i]? ≠ O[i]? := by
  unfold Tru at *
  constructor
  · intro h
    rw [Bool.or_eq_true] at h
    rcases h with h | h
    · obtain ⟨i, hi, hne⟩ := h1.1 h
      exact ⟨i, by omega, hne⟩
    · refine ⟨k, by omega, ?_⟩
      rw [h3, h4]
      intro e
      rw [Option.some.inj e] at h
      simp at h
  · rintro ⟨i, hi, hne⟩
    rw [Bool.or_eq_true]
    by_cases e : i = k
    · subst e
      rw [h3, h4] at hne
      right
      rw [bne_iff_ne]
      exact fun e => hne (by rw [e])
    · exact .inl (h1.2 ⟨i, by omega, hne⟩)
theorem step_idle {s : ByteArray} {R : Pat → Nat → Nat → Prop} {t : Pat} (h : t.x.op = 4 ∨ t.x.op = 5) (hl : t.kids.length ≠ 1) (i j : Nat) : StepM s R t i j ↔ i = j := by
  unfold StepM
  rcases h with h | h <;> rw [h] <;> simp
  all_goals
    split
    · rename_i k e; rw [e] at hl; simp at hl
    · rfl
set_option maxRecDepth 100000 in
set_option maxHeartbeats 4000000 in
theorem ends_seq (s : ByteArray) (d : Nat) (t : Pat) (h2 : t.x.op = 2) : EndsC s d t := by
  intro Ak m ck v A w hK hm hA hl hs ht hmm
  obtain ⟨i0, hi0, hz0, hz1, hz2⟩ := info_parts infoBool
  rw [h2]
  obtain ⟨n1, hn1⟩ : ∃ n1, n1 = s.size + 1 := ⟨_, rfl⟩
  have hnz : (s.size : Int) + 1 = (n1 : Int) := by omega
  have hn9 : n1 ≤ 1048577 := by omega
  have hs9 : s.size ≤ 9223372036854775807 := by omega
  have HN1 := Lib.hid hn1
  rw [← hn1] at hl
  obtain ⟨Av, cv, rfl⟩ := hA.form
  rw [hl] at hA ⊢
  have HAl := Lib.hid hl
  have HA := Lib.hid hA
  have HK := Lib.hid hK
  have HM := Lib.hid hm
  have hn0 : 0 < n1 := by omega
  have hb2 : i0.bytes * n1 ≤ 281474976710656 := by rw [hz2]; omega
  have hb3 : n1 ≤ maxLen := by unfold maxLen; omega
  clear hz2 hK hm hA hl hn1
  have HSZ : Hid (∀ o : Obj, (w.alloc o).heap.size = w.heap.size + 1) := Lib.hid (fun o => by simp)
  go_enter Try.func56, Try.ntmps56
  go_wp2_with (first
    | (at_make; refine wpList_make_full _ rfl _ _ 94 rfl (w.heap.size + 1) 4 i0 (.bool false) 1 Try.underlying94 hi0 hz0 hz1 _ _ _ _ n1 rfl rfl (by first | rfl | exact hnz) (by first | rfl | exact hnz) hb2 hb3 (by simp) ?_; intro w1 hown1 hg1; have hbel1 : Below w.heap.size w w1 := (below_al (Below.refl _ _) _).grown hg1 (by simp) (by simp); have hq1 : w1.heap[w.heap.size]? = some (.cells #[.int .i64 2, .string t.x.text, .slice Ak m ck] 56 (0, 0)) := (hg1.block _ (by simp) (by simp)).trans (heap_alloc_new w _); have HQ1 := Lib.hid hq1; have HZ1 : Hid (w.heap.size + 1 ≤ w1.heap.size) := Lib.hid (by have := hg1.size; simpa using this); have c0 : w1.cell? ⟨w.heap.size, 0, none⟩ = some (.int .i64 2) := (by rw [cell_of_row _ w.heap.size 0 _ _ _ hq1]; rfl); have c1 : w1.cell? ⟨w.heap.size, 1, none⟩ = some (.string t.x.text) := (by rw [cell_of_row _ w.heap.size 1 _ _ _ hq1]; rfl); have c2 : w1.cell? ⟨w.heap.size, 2, none⟩ = some (.slice Ak m ck) := (by rw [cell_of_row _ w.heap.size 2 _ _ _ hq1]; rfl); have hrow1 : RowB (w.heap.size + 1) w1 (.slice (some ⟨w.heap.size + 1, 0, none⟩) n1 n1) (List.replicate n1 false) := (by have h := rowB_made hown1; rw [HSZ.out] at h; exact h); clear hq1 hown1 hg1)
    | ((with_reducible show wpList _ _ _ ((⟨_, .call { callee := .builtin .copy, args := _, argTypes := _ }, _, _, _, _⟩ : Oper) :: _) _ _); go_loud (refine wpList_copy_bools rfl _ _ rfl (w.heap.size + 1) (w.heap.size + 1) n1 n1 (List.replicate n1 false) A rfl hrow1 _ rfl (HasR.below HA.out hbel1) HAl.out hn0 ?_); intro w2 hrow2 hg2 z2; have hbel2 : Below w.heap.size w w2 := hbel1.grown hg2 hbel1.size (fun q hq => by cases hq; omega); have hq2 : w2.heap[w.heap.size]? = some (.cells #[.int .i64 2, .string t.x.text, .slice Ak m ck] 56 (0, 0)) := (hg2.block _ (by have := HZ1.out; omega) (by simp)).trans HQ1.out; have HQ2 := Lib.hid hq2; have c0 : w2.cell? ⟨w.heap.size, 0, none⟩ = some (.int .i64 2) := (by rw [cell_of_row _ w.heap.size 0 _ _ _ hq2]; rfl); have c2 : w2.cell? ⟨w.heap.size, 2, none⟩ = some (.slice Ak m ck) := (by rw [cell_of_row _ w.heap.size 2 _ _ _ hq2]; rfl); have HROW := Lib.hid hrow2; clear hq2 hrow2 hg2 hrow1 hbel1))
  go_loopw [7, 10] (fun o i wr => ∃ (k : Nat) (O : List Bool), k ≤ m ∧ i = .int .i64 k ∧ O.length = n1 ∧ Hid (RowB (w.heap.size + 1) wr o O) ∧ Hid (EndsOf (SeqR (kidM s d) (t.kids.take k)) A O) ∧ Hid (wr.heap[w.heap.size]? = some (.cells #[.int .i64 2, .string t.x.text, .slice Ak m ck] 56 (0, 0))) ∧ Below w.heap.size w wr) (fun _ i _ => m - (intOf i).toNat)
  case atStart => exact ⟨0, A, Nat.zero_le _, rfl, HAl.out, HROW, Lib.hid (by rw [List.take_zero]; exact ends_self A), HQ2, hbel2⟩
  case round =>
    clear HROW hbel2 HQ2 c0 c2
    obtain ⟨k, O, hk, rfl, hO, HR, HE, HQ, hbel⟩ := hrel
    have c2 : wr.cell? ⟨w.heap.size, 2, none⟩ = some (.slice Ak m ck) := by rw [cell_of_row _ w.heap.size 2 _ _ _ HQ.out]; rfl
    by_cases hlt : k < m
    · have hkz : (k : Int) < (m : Int) := by omega
      have hkl : k < t.kids.length := by rw [← HM.out]; exact hlt
      obtain ⟨a, x, rfl, hab, hx, hcall⟩ := HK.out k hkl
      obtain ⟨d0, d1, d2⟩ := hx.below hbel hab
      have HTK := Lib.hid (List.take_succ_eq_append_getElem (l := t.kids) hkl)
      have HCALL := Lib.hid (hcall u7 O wr hbel (RowR.has bE_len HR.out) (by rw [hO]; exact HN1.out))
      clear hx hcall
      go_wp2_with (go_at_call 56; (refine (HCALL.out).mono ?_); rintro e w2 ⟨o2, O2, rfl, HR2, hl2, HE2, HB2⟩)
      go_roundw
      case rel =>
        refine ⟨k + 1, O2, by omega, by go_num, by rw [hl2]; exact HN1.out.symm, Lib.hid (RowR.mono HR2.out (by have := hbel.size; have := (Array.getElem?_eq_some_iff.1 HQ.out).1; omega)), Lib.hid ?_, Lib.hid ((HB2.out.block _ (Array.getElem?_eq_some_iff.1 HQ.out).1).trans HQ.out), below_step hbel HB2.out⟩
        rw [HTK.out]
        refine EndsOf.congr (ends_comp HE.out HE2.out HAl.out hO (by rw [HN1.out]; exact seq_bd (fun p => kid_bd s d p) _)) (fun i j => (seq_snoc).symm)
      case measure => simp [intOf]; omega
    · have hkz : ¬ (k : Int) < (m : Int) := by omega
      have hall : t.kids.take k = t.kids := List.take_of_length_le (by rw [← HM.out]; omega)
      rw [hall] at HE
      go_wp2
      go_ret
      exact ⟨u7, O, rfl, Lib.hid (RowR.mono HR.out (by omega)), by rw [hO]; exact HN1.out, Lib.hid (EndsOf.congr HE.out (fun i j => by unfold StepM; simp [h2])), Lib.hid hbel⟩
set_option maxRecDepth 100000 in
set_option maxHeartbeats 4000000 in
theorem ends_alts (s : ByteArray) (d : Nat) (t : Pat) (h2 : t.x.op = 3) : EndsC s d t := by
  intro Ak m ck v A w hK hm hA hl hs ht hmm
  obtain ⟨i0, hi0, hz0, hz1, hz2⟩ := info_parts infoBool
  rw [h2]
  obtain ⟨n1, hn1⟩ : ∃ n1, n1 = s.size + 1 := ⟨_, rfl⟩
  have hnz : (s.size : Int) + 1 = (n1 : Int) := by omega
  have hn9 : n1 ≤ 1048577 := by omega
  have hs9 : s.size ≤ 9223372036854775807 := by omega
  have HN1 := Lib.hid hn1
  rw [← hn1] at hl
  obtain ⟨Av, cv, rfl⟩ := hA.form
  rw [hl] at hA ⊢
  have HAl := Lib.hid hl
  have HA := Lib.hid hA
  have HK := Lib.hid hK
  have HM := Lib.hid hm
  have hn0 : 0 < n1 := by omega
  have hb2 : i0.bytes * n1 ≤ 281474976710656 := by rw [hz2]; omega
  have hb3 : n1 ≤ maxLen := by unfold maxLen; omega
  clear hz2 hK hm hA hl hn1
  have HSZ : Hid (∀ o : Obj, (w.alloc o).heap.size = w.heap.size + 1) := Lib.hid (fun o => by simp)
  go_enter Try.func56, Try.ntmps56
  go_wp2_with (first
    | (at_make; refine wpList_make_full _ rfl _ _ 94 rfl (w.heap.size + 1) 4 i0 (.bool false) 1 Try.underlying94 hi0 hz0 hz1 _ _ _ _ n1 rfl rfl (by first | rfl | exact hnz) (by first | rfl | exact hnz) hb2 hb3 (by simp) ?_; intro w1 hown1 hg1; have hbel1 : Below w.heap.size w w1 := (below_al (Below.refl _ _) _).grown hg1 (by simp) (by simp); have hq1 : w1.heap[w.heap.size]? = some (.cells #[.int .i64 3, .string t.x.text, .slice Ak m ck] 56 (0, 0)) := (hg1.block _ (by simp) (by simp)).trans (heap_alloc_new w _); have HQ1 := Lib.hid hq1; have HZ1 : Hid (w.heap.size + 1 ≤ w1.heap.size) := Lib.hid (by have := hg1.size; simpa using this); have c0 : w1.cell? ⟨w.heap.size, 0, none⟩ = some (.int .i64 3) := (by rw [cell_of_row _ w.heap.size 0 _ _ _ hq1]; rfl); have c1 : w1.cell? ⟨w.heap.size, 1, none⟩ = some (.string t.x.text) := (by rw [cell_of_row _ w.heap.size 1 _ _ _ hq1]; rfl); have c2 : w1.cell? ⟨w.heap.size, 2, none⟩ = some (.slice Ak m ck) := (by rw [cell_of_row _ w.heap.size 2 _ _ _ hq1]; rfl); have hrow1 : RowB (w.heap.size + 1) w1 (.slice (some ⟨w.heap.size + 1, 0, none⟩) n1 n1) (List.replicate n1 false) := (by have h := rowB_made hown1; rw [HSZ.out] at h; exact h); clear hq1 hown1 hg1))
  go_loopw [7, 11] (fun o i wr => ∃ (k : Nat) (O : List Bool), k ≤ m ∧ i = .int .i64 k ∧ O.length = n1 ∧ Hid (RowB (w.heap.size + 1) wr o O) ∧ Hid (EndsOf (fun i j => ∃ q, q ∈ t.kids.take k ∧ kidM s d q i j) A O) ∧ Hid (wr.heap[w.heap.size]? = some (.cells #[.int .i64 3, .string t.x.text, .slice Ak m ck] 56 (0, 0))) ∧ Below w.heap.size w wr) (fun _ i _ => m - (intOf i).toNat)
  case atStart => exact ⟨0, _, Nat.zero_le _, rfl, List.length_replicate, Lib.hid hrow1, Lib.hid (ends_none (s := s) (by rintro i j ⟨q, hq, _⟩; simp at hq) n1), HQ1, hbel1⟩
  case round =>
    clear hrow1 hbel1 HQ1 c0 c1 c2
    obtain ⟨k, O, hk, rfl, hO, HR, HE, HQ, hbel⟩ := hrel
    have c2 : wr.cell? ⟨w.heap.size, 2, none⟩ = some (.slice Ak m ck) := by rw [cell_of_row _ w.heap.size 2 _ _ _ HQ.out]; rfl
    by_cases hlt : k < m
    · have hkz : (k : Int) < (m : Int) := by omega
      have hkl : k < t.kids.length := by rw [← HM.out]; exact hlt
      obtain ⟨a, x, rfl, hab, hx, hcall⟩ := HK.out k hkl
      obtain ⟨d0, d1, d2⟩ := hx.below hbel hab
      have HTK := Lib.hid (List.take_succ_eq_append_getElem (l := t.kids) hkl)
      have HCALL := Lib.hid (hcall (.slice Av n1 cv) A wr hbel (HasR.below HA.out hbel) (by rw [HAl.out]; exact HN1.out))
      have HO := Lib.hid hO
      clear hx hcall
      go_wp2_with (first
        | (go_at_call 56; (refine (HCALL.out).mono ?_); rintro e w2 ⟨o2, O2, rfl, HR2, hl2, HE2, HB2⟩; have HL2 := Lib.hid (hl2.trans HN1.out.symm); clear hl2)
        | (go_at_call 92; (refine (sboth_any u7 o2 O O2 w2 (HasR.below (RowR.has bE_len HR.out) HB2.out) (RowR.has bE_len HR2.out) (by rw [HO.out, HL2.out]) (by rw [HO.out]; omega)).mono ?_); rintro e w3 ⟨o3, rfl, HR3, HB3⟩))
      go_roundw
      case rel =>
        have hB := below_step HB2.out HB3.out
        refine ⟨k + 1, orL O O2, by omega, by go_num, by rw [orL_len (by rw [HO.out, HL2.out])]; exact HO.out, Lib.hid (RowR.mono HR3.out (by have := HB2.out.size; have := (Array.getElem?_eq_some_iff.1 HQ.out).1; omega)), Lib.hid ?_, Lib.hid ((hB.block _ (Array.getElem?_eq_some_iff.1 HQ.out).1).trans HQ.out), below_step hbel hB⟩
        rw [HTK.out]
        exact ends_alt HE.out HE2.out (by rw [HO.out, HL2.out]) _ (orL_len (by rw [HO.out, HL2.out])) (fun i => on_or (by rw [HO.out, HL2.out]) i)
      case measure => simp [intOf]; omega
    · have hkz : ¬ (k : Int) < (m : Int) := by omega
      have hall : t.kids.take k = t.kids := List.take_of_length_le (by rw [← HM.out]; omega)
      rw [hall] at HE
      go_wp2
      go_ret
      exact ⟨u7, O, rfl, Lib.hid (RowR.mono HR.out (by omega)), by rw [hO]; exact HN1.out, Lib.hid (EndsOf.congr HE.out (fun i j => by unfold StepM; simp [h2])), Lib.hid hbel⟩
end Go.Proofs.Ytnpgeneahjlkpaa
