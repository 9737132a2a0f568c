/- CHAPTER 3, impl: readToken. -/
import Derived.Test.YtapalfmjebggfaaDoorLexA
import Derived.Lib.IndexBytes
namespace Go.Proofs.YtapalfmjebggfaaDoor
open Go.RowKit

theorem box3f {w w1 : World} {v0 v1 v2 : Value} {t : TypeId} (h : Below (w.alloc (.cells #[v0, v1, v2] t)).heap.size (w.alloc (.cells #[v0, v1, v2] t)) w1) :
    (w1.cell? ⟨w.heap.size, 0, none⟩ = some v0 ∧ w1.cell? ⟨w.heap.size, 1, none⟩ = some v1 ∧ w1.cell? ⟨w.heap.size, 2, none⟩ = some v2) ∧
    w1.frozen? ⟨w.heap.size, 0, none⟩ = false ∧ w1.frozen? ⟨w.heap.size, 1, none⟩ = false ∧ w1.frozen? ⟨w.heap.size, 2, none⟩ = false := by
  have hl : w.heap.size < (w.alloc (.cells #[v0, v1, v2] t)).heap.size := by simp
  have hf : ∀ j, w1.frozen? ⟨w.heap.size, j, none⟩ = false := fun j => by
    rw [h.frozen (p := ⟨w.heap.size, j, none⟩) hl]
    unfold World.frozen?
    dsimp only
    rw [heap_alloc_new]
    simp
  exact ⟨box3 h, hf 0, hf 1, hf 2⟩
set_option maxRecDepth 100000 in
set_option maxHeartbeats 1000000 in
theorem iTok_some (s : ByteArray) (hs : s.size ≤ 1048576) (a : Nat) (ha : a < s.size) (k : Int) (t : List UInt8) (z : Nat) (h : tokL (s.data.toList.drop a) = some (k, t, z)) (w : World) :
    Calls Tryd.prog 37 #[.string s, .int .i64 a] w fun e w' => e = .returned (.tuple #[.agg #[.int .i64 k, .string ⟨t.toArray⟩, .int .i64 a], .int .i64 z]) ∧ Below w.heap.size w w' := by
  have hr : (s.extract a s.size).data.toList = s.data.toList.drop a := Lib.extract_to_end s a
  have hz : (s.extract a s.size).size = s.size - a := by simp
  have h0 : 0 < (s.extract a s.size).size := by omega
  have hc := data_cons _ h0
  have h' := h
  rw [← hr, hc] at h'
  have hle : (s.extract a s.size).size ≤ 1048576 := by omega
  cases h1 : letB (s.extract a s.size)[0]
  · cases h2 : digB (s.extract a s.size)[0]
    · by_cases h3 : (s.extract a s.size)[0] = 34
      · have t3 : (((s.extract a s.size)[0].toNat : Int) == 34) = true := byte_on h3
        rw [tokL_quo h3] at h'
        have C := iReadQ_any _ hle
        rw [quotedAt_is h0 h3] at C
        cases hq : rdq ((s.extract a s.size).data.toList.drop 1) with
        | none => rw [hq] at h'; cases h'
        | some p =>
          rw [show (0 : Nat) + 1 = 1 from rfl, hq] at C
          rw [hq] at h'
          cases h'
          have hsh := rdq_short _ _ p.1 p.2 (Nat.le_refl _) hq
          rw [hr, List.drop_drop, dlen] at hsh
          have e0 : ((s.extract a s.size).data.toList.drop 1).length + 1 - p.2.length = s.size - a - p.2.length := by rw [hr, List.drop_drop, dlen]; omega
          rw [e0]
          simp only [Option.map_some, readV, hz] at C
          generalize s.size - a - p.2.length = n at C ⊢
          clear hq hr hc h e0 h3
          go_enter Tryd.func37, Tryd.ntmps37
          go_wp2_with (first
            | (go_at_call 57; refine (iLet_any _ _).mono ?_; rw [h1]; rintro e w' ⟨rfl, rfl⟩)
            | (go_at_call 59; refine (iDigB_any _ _).mono ?_; rw [h2]; rintro e w' ⟨rfl, rfl⟩)
            | (go_at_call 61; refine (C _).mono ?_; rintro e w' ⟨rfl, hb⟩; obtain ⟨⟨c0, c1, c2⟩, f0, f1, f2⟩ := box3f hb))
          exact bodyPost_ret (v := .tuple #[.agg #[.int .i64 3, .string ⟨p.1.toArray⟩, .int .i64 a], .int .i64 n]) (by simp [results, Tryd.results37, go_sem, c0, c1, c2]) rfl ⟨rfl, (((below_step (below_al (Below.refl _ _) _) hb).setCell (Nat.le_refl _) _).setCell (Nat.le_refl _) _).setCell (Nat.le_refl _) _⟩
      · have t3 : (((s.extract a s.size)[0].toNat : Int) == 34) = false := byte_ne (d := 34) h3
        by_cases h4 : mkLen ((s.extract a s.size)[0] :: (s.extract a s.size).data.toList.drop 1) = 0
        · rw [tokL_non h1 h2 h3 h4] at h'; cases h'
        · rw [tokL_mrk h1 h2 h3 h4, ← hc, hr] at h'
          cases h'
          have C := iMark_any _ hle h0
          rw [hr] at C
          have hnl := mkLen_le (s.data.toList.drop a)
          rw [dlen] at hnl
          have ht : Hid (∀ n, (s.extract a s.size).extract 0 n = ⟨((s.data.toList.drop a).take n).toArray⟩) := Lib.hid fun n => ba_of (by rw [Lib.extract_data, hr]; simp)
          clear hr hc h h3 h4
          generalize mkLen (s.data.toList.drop a) = n at C hnl ⊢
          go_enter Tryd.func37, Tryd.ntmps37
          go_wp2_with (first
            | (go_at_call 57; refine (iLet_any _ _).mono ?_; rw [h1]; rintro e w' ⟨rfl, rfl⟩)
            | (go_at_call 59; refine (iDigB_any _ _).mono ?_; rw [h2]; rintro e w' ⟨rfl, rfl⟩)
            | (go_at_call 62; refine (C _).mono ?_; rintro e w' ⟨rfl, rfl⟩))
          exact bodyPost_ret (v := .tuple #[.agg #[.int .i64 4, .string ((s.extract a s.size).extract 0 n), .int .i64 a], .int .i64 n]) (by simp [results, Tryd.results37, go_sem]) rfl ⟨by rw [ht.out], below_al (Below.refl _ _) _⟩
    · rw [tokL_dig h1 h2, ← hc, hr] at h'
      cases h'
      have C := iNumSize_any _ hle
      rw [hr] at C
      have hnl := dgLen_le (s.data.toList.drop a)
      rw [dlen] at hnl
      have ht : Hid (∀ n, (s.extract a s.size).extract 0 n = ⟨((s.data.toList.drop a).take n).toArray⟩) := Lib.hid fun n => ba_of (by rw [Lib.extract_data, hr]; simp)
      clear hr hc h
      generalize dgLen (s.data.toList.drop a) = n at C hnl ⊢
      go_enter Tryd.func37, Tryd.ntmps37
      go_wp2_with (first
        | (go_at_call 57; refine (iLet_any _ _).mono ?_; rw [h1]; rintro e w' ⟨rfl, rfl⟩)
        | (go_at_call 59; refine (iDigB_any _ _).mono ?_; rw [h2]; rintro e w' ⟨rfl, rfl⟩)
        | (go_at_call 60; refine (C _).mono ?_; rintro e w' ⟨rfl, rfl⟩))
      exact bodyPost_ret (v := .tuple #[.agg #[.int .i64 2, .string ((s.extract a s.size).extract 0 n), .int .i64 a], .int .i64 n]) (by simp [results, Tryd.results37, go_sem]) rfl ⟨by rw [ht.out], below_al (Below.refl _ _) _⟩
  · rw [tokL_let h1, ← hc, hr] at h'
    cases h'
    have C := iNameSize_any _ hle
    rw [hr] at C
    have hnl := nmLen_le (s.data.toList.drop a)
    rw [dlen] at hnl
    have ht : Hid (∀ n, (s.extract a s.size).extract 0 n = ⟨((s.data.toList.drop a).take n).toArray⟩) := Lib.hid fun n => ba_of (by rw [Lib.extract_data, hr]; simp)
    clear hr hc h
    generalize nmLen (s.data.toList.drop a) = n at C hnl ⊢
    go_enter Tryd.func37, Tryd.ntmps37
    go_wp2_with (first
      | (go_at_call 57; refine (iLet_any _ _).mono ?_; rw [h1]; rintro e w' ⟨rfl, rfl⟩)
      | (go_at_call 58; refine (C _).mono ?_; rintro e w' ⟨rfl, rfl⟩))
    exact bodyPost_ret (v := .tuple #[.agg #[.int .i64 1, .string ((s.extract a s.size).extract 0 n), .int .i64 a], .int .i64 n]) (by simp [results, Tryd.results37, go_sem]) rfl ⟨by rw [ht.out], below_al (Below.refl _ _) _⟩
set_option maxRecDepth 100000 in
set_option maxHeartbeats 1000000 in
theorem iTok_none (s : ByteArray) (hs : s.size ≤ 1048576) (a : Nat) (ha : a < s.size) (h : tokL (s.data.toList.drop a) = none) (w : World) :
    Calls Tryd.prog 37 #[.string s, .int .i64 a] w fun e w' => (∃ (k : Int) (t : ByteArray), e = .returned (.tuple #[.agg #[.int .i64 k, .string t, .int .i64 a], .int .i64 0])) ∧ Below w.heap.size w w' := by
  have hr : (s.extract a s.size).data.toList = s.data.toList.drop a := Lib.extract_to_end s a
  have hz : (s.extract a s.size).size = s.size - a := by simp
  have h0 : 0 < (s.extract a s.size).size := by omega
  have hc := data_cons _ h0
  have h' := h
  rw [← hr, hc] at h'
  have hle : (s.extract a s.size).size ≤ 1048576 := by omega
  cases h1 : letB (s.extract a s.size)[0]
  · cases h2 : digB (s.extract a s.size)[0]
    · by_cases h3 : (s.extract a s.size)[0] = 34
      · have t3 : (((s.extract a s.size)[0].toNat : Int) == 34) = true := byte_on h3
        rw [tokL_quo h3] at h'
        have C := iReadQ_any _ hle
        rw [quotedAt_is h0 h3] at C
        cases hq : rdq ((s.extract a s.size).data.toList.drop 1) with
        | some p => rw [hq] at h'; cases h'
        | none =>
          rw [show (0 : Nat) + 1 = 1 from rfl, hq] at C
          simp only [Option.map_none, readV] at C
          clear hq hr hc h h3 h'
          go_enter Tryd.func37, Tryd.ntmps37
          go_wp2_with (first
            | (go_at_call 57; refine (iLet_any _ _).mono ?_; rw [h1]; rintro e w' ⟨rfl, rfl⟩)
            | (go_at_call 59; refine (iDigB_any _ _).mono ?_; rw [h2]; rintro e w' ⟨rfl, rfl⟩)
            | (go_at_call 61; refine (C _).mono ?_; rintro e w' ⟨rfl, hb⟩; obtain ⟨⟨c0, c1, c2⟩, f0, f1, f2⟩ := box3f hb))
          exact bodyPost_ret (v := .tuple #[.agg #[.int .i64 3, .string ⟨#[]⟩, .int .i64 a], .int .i64 0]) (by simp [results, Tryd.results37, go_sem, c0, c1, c2]) rfl ⟨⟨_, _, rfl⟩, (((below_step (below_al (Below.refl _ _) _) hb).setCell (Nat.le_refl _) _).setCell (Nat.le_refl _) _).setCell (Nat.le_refl _) _⟩
      · have t3 : (((s.extract a s.size)[0].toNat : Int) == 34) = false := byte_ne (d := 34) h3
        by_cases h4 : mkLen ((s.extract a s.size)[0] :: (s.extract a s.size).data.toList.drop 1) = 0
        · have C := iMark_any _ hle h0
          rw [hc, h4] at C
          clear hr hc h h3 h4 h'
          go_enter Tryd.func37, Tryd.ntmps37
          go_wp2_with (first
            | (go_at_call 57; refine (iLet_any _ _).mono ?_; rw [h1]; rintro e w' ⟨rfl, rfl⟩)
            | (go_at_call 59; refine (iDigB_any _ _).mono ?_; rw [h2]; rintro e w' ⟨rfl, rfl⟩)
            | (go_at_call 62; refine (C _).mono ?_; rintro e w' ⟨rfl, rfl⟩))
          exact bodyPost_ret (v := .tuple #[.agg #[.int .i64 4, .string ((s.extract a s.size).extract 0 0), .int .i64 a], .int .i64 0]) (by simp [results, Tryd.results37, go_sem]) rfl ⟨⟨_, _, rfl⟩, below_al (Below.refl _ _) _⟩
        · rw [tokL_mrk h1 h2 h3 h4] at h'; cases h'
    · rw [tokL_dig h1 h2] at h'; cases h'
  · rw [tokL_let h1] at h'; cases h'
end Go.Proofs.YtapalfmjebggfaaDoor
