/- CHAPTER 5, spec: MatchPattern. -/
import Derived.Test.YtnpgeneahjlkpaaMatY
set_option linter.unusedVariables false
set_option linter.unusedSimpArgs false
namespace Go.Proofs.Ytnpgeneahjlkpaa
open Go.RowKit

set_option maxRecDepth 100000 in
set_option maxHeartbeats 4000000 in
theorem smatch (s : ByteArray) (hs : s.size ≤ 1048576) (d : Nat) (r : PatR) (t : Pat) (w : World) (hr : RdN patK d w r t) (hf : TxFit d t.kids) (ht : t.x.text.size ≤ 9223372036854775807) :
    Calls Try.prog 25 #[.agg #[.int .i64 r.op, .string r.text, r.kv], .string s] w fun e w' => ∃ b : Bool, e = .returned (.bool b) ∧ Hid (b = true ↔ Mt s d t 0 s.size) ∧ Below w.heap.size w w' := by
  obtain ⟨i0, hi0, hz0, hz1, hz2⟩ := info_parts infoBool
  obtain ⟨n1, hn1⟩ : ∃ n1, n1 = s.size + 1 := ⟨_, rfl⟩
  have hnz : (s.size : Int) + 1 = (n1 : Int) := by omega
  have hn9 : n1 ≤ 1048577 := by omega
  have hs9 : s.size ≤ 9223372036854775807 := by omega
  have HN1 := Lib.hid hn1
  have hn0 : 0 < n1 := by omega
  have hsn : (s.size : Int) < (n1 : Int) := by omega
  have hnp : (0 : Int) < (n1 : Int) := by omega
  have hb2 : i0.bytes * n1 ≤ 281474976710656 := by rw [hz2]; omega
  have hb3 : n1 ≤ maxLen := by unfold maxLen; omega
  have HE := Lib.hid (ends_tree s hs d)
  have HR0 := Lib.hid hr
  have HF := Lib.hid hf
  have HT := Lib.hid ht
  clear hz2 hn1 hr hf ht
  have HSZ : Hid (∀ o : Obj, (w.alloc o).heap.size = w.heap.size + 1) := Lib.hid (fun o => by simp)
  go_enter Try.func25, Try.ntmps25
  go_wp2_with (first
    | (at_make; go_loud (refine wpList_make_full _ rfl _ _ 94 rfl (w.heap.size + 1) 4 i0 (.bool false) 1 Try.underlying94 hi0 hz0 hz1 _ _ _ _ n1 rfl rfl (by first | rfl | exact hnz) (by first | rfl | exact hnz) hb2 hb3 (by simp) ?_); intro w1 hown1 hg1; have hbel1 : Below w.heap.size w w1 := (below_al (Below.refl _ _) _).grown hg1 (by simp) (by simp); have hq1 : w1.heap[w.heap.size]? = some (.cells #[.int .i64 r.op, .string r.text, r.kv] 56 (0, 0)) := (hg1.block _ (by simp) (by simp)).trans (heap_alloc_new w _); have HQ1 := Lib.hid hq1; have c0 : w1.cell? ⟨w.heap.size, 0, none⟩ = some (.int .i64 r.op) := (by rw [cell_of_row _ w.heap.size 0 _ _ _ hq1]; rfl); have c1 : w1.cell? ⟨w.heap.size, 1, none⟩ = some (.string r.text) := (by rw [cell_of_row _ w.heap.size 1 _ _ _ hq1]; rfl); have c2 : w1.cell? ⟨w.heap.size, 2, none⟩ = some r.kv := (by rw [cell_of_row _ w.heap.size 2 _ _ _ hq1]; rfl); have hrow1 : RowB (w.heap.size + 1) w1 (.slice (some ⟨w.heap.size + 1, 0, none⟩) n1 n1) (List.replicate n1 false) := (by have h := rowB_made hown1; rw [HSZ.out] at h; exact h); have hlt : 0 < (List.replicate n1 false).length := (by rw [List.length_replicate]; exact hn0); have hfz := RowR.frozen hrow1 0; have hcell : w1.cell? ⟨w.heap.size + 1, 0, none⟩ = some (.bool false) := (by have h := RowB.at hrow1 hlt; rw [List.getElem_replicate] at h; exact h); have HPUT := Lib.hid (RowB.put hrow1 hlt true); clear hown1 hrow1 hlt hq1 hg1)
    | (go_at_call 56; go_loud (refine (HE.out r t _ _ ((List.replicate n1 false).set 0 true) (RdN.below HR0.out (below_set hbel1 (show w.heap.size ≤ w.heap.size + 1 by omega))) HF.out HT.out (RowR.has bE_len HPUT.out.1) (by rw [List.length_set, List.length_replicate]; exact HN1.out)).mono ?_); rintro e w2 ⟨o, O, rfl, HR, hO, HEO, HB⟩; obtain ⟨ao, co, eo, hob, hoc⟩ := HasB.cell (i := s.size) (RowR.has bE_len HR.out) (by omega); rw [show O.length = n1 by rw [hO]; exact HN1.out.symm] at eo; cases eo; have hG : Hid (On O s.size ↔ O[s.size] = true) := Lib.hid (on_get (by omega)); generalize O[s.size] = b at hoc hG; have HO := Lib.hid hO; clear hO))
  go_ret
  refine ⟨b, rfl, Lib.hid ?_, below_step (below_set hbel1 (show w.heap.size ≤ w.heap.size + 1 by omega)) HB.out⟩
  have hA : ∀ i, On ((List.replicate n1 false).set 0 true) i ↔ i = 0 := fun i => by
    rw [on_set (by rw [List.length_replicate]; exact hn0)]
    constructor
    · rintro (⟨h, _⟩ | ⟨_, h⟩)
      · exact h
      · exact absurd h (on_rep _ _)
    · intro h; exact .inl ⟨h, rfl⟩
  rw [← hG.out, HEO.out s.size (by rw [HO.out]; omega)]
  constructor
  · rintro ⟨i, h1, h2⟩; rw [(hA i).1 h1] at h2; exact h2
  · intro h; exact ⟨0, (hA 0).2 rfl, h⟩
end Go.Proofs.Ytnpgeneahjlkpaa
