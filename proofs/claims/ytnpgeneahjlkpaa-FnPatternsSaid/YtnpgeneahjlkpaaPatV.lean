/- CHAPTER 5, spec: ParsePattern, IsPattern (the alternative is asked for as a premise). -/
import Derived.Test.YtnpgeneahjlkpaaPatT
import Derived.Test.YtnpgeneahjlkpaaPatK
set_option linter.unusedVariables false
set_option linter.unusedSimpArgs false
namespace Go.Proofs.Ytnpgeneahjlkpaa
open Go.RowKit

set_option maxRecDepth 100000 in
set_option maxHeartbeats 1000000 in
theorem sParsePat_any (hA : ∀ n, SAltC n) (s : ByteArray) (hs : s.size ≤ maxLen) (w : World) : Calls Try.prog 66 #[.string s] w (ParseOut (patS s.data.toList) w) := by
  unfold maxLen at hs
  have hll : s.data.toList.length = s.size := by simp
  unfold patS
  rw [hll]
  by_cases h30 : 30 < s.size
  · rw [if_pos h30]
    have hq : decide ((30 : Int) < (s.size : Int)) = true := by simp; omega
    have hq' : (30 : Int) < (s.size : Int) := by omega
    clear h30 hll
    go_enter Try.func66, Try.ntmps66
    go_wp2
    refine bodyPost_ret (v := .tuple #[.agg #[.int .i64 0, .string ⟨#[]⟩, .slice none 0 0], .bool false]) (by simp [results, Try.results66, go_sem]) rfl ?_
    exact ⟨rfl, below_al (below_al (Below.refl _ _) _) _⟩
  · rw [if_neg h30]
    obtain ⟨W0, hW0⟩ : ∃ W0, W0 = (w.alloc (.cells #[.int .i64 0, .string ⟨#[]⟩, .slice none 0 0] 56)).alloc (.cells #[.string s, .int .i64 0, .bool false] 151) := ⟨_, rfl⟩
    have hP0 : PS W0 (w.heap.size + 1) s 0 false := by
      subst hW0
      have := heap_alloc_new (w.alloc (.cells #[.int .i64 0, .string ⟨#[]⟩, .slice none 0 0] 56)) (.cells #[.string s, .int .i64 0, .bool false] 151)
      rw [show (w.alloc (.cells #[.int .i64 0, .string ⟨#[]⟩, .slice none 0 0] 56)).heap.size = w.heap.size + 1 by simp] at this
      exact this
    have hB0 : Below w.heap.size w W0 := by rw [hW0]; exact below_al (below_al (Below.refl _ _) _) _
    have hC := hA s.size (w.heap.size + 1) s 0 W0 hP0 (by omega) (by omega) (by omega)
    rw [List.drop_zero] at hC
    obtain ⟨⟨p, r⟩, hpr⟩ : ∃ x, x = altP (atomF s.size) s.data.toList := ⟨_, rfl⟩
    rw [← hpr] at hC ⊢
    simp only at hC ⊢
    have hq : decide ((30 : Int) < (s.size : Int)) = false := by simp; omega
    have hq' : ¬ (30 : Int) < (s.size : Int) := by omega
    have hbox : ∀ w1, RT (w.heap.size + 1) W0 w1 → ((w1.cell? ⟨w.heap.size, 0, none⟩ = some (.int .i64 0) ∧ w1.cell? ⟨w.heap.size, 1, none⟩ = some (.string ⟨#[]⟩) ∧ w1.cell? ⟨w.heap.size, 2, none⟩ = some (.slice none 0 0)) ∧ (w1.frozen? ⟨w.heap.size, 0, none⟩ = false ∧ w1.frozen? ⟨w.heap.size, 1, none⟩ = false ∧ w1.frozen? ⟨w.heap.size, 2, none⟩ = false) ∧ w.heap.size < w1.heap.size) ∧ Below w.heap.size w w1 ∧ w.heap.size + 1 < w1.heap.size := fun w1 ht => by
      have hsz : W0.heap.size = w.heap.size + 2 := by rw [hW0]; simp
      have h0 : W0.heap[w.heap.size]? = some (.cells #[.int .i64 0, .string ⟨#[]⟩, .slice none 0 0] 56 (0, 0)) := by
        rw [hW0]
        rw [Below.heap_alloc _ _ w.heap.size (by simp)]
        exact heap_alloc_new w _
      have h1 := (ht.block w.heap.size (by omega) (by show ¬ w.heap.size = w.heap.size + 1; omega)).trans h0
      refine ⟨⟨⟨?_, ?_, ?_⟩, ⟨?_, ?_, ?_⟩, by have := ht.size; omega⟩, ?_⟩
      · rw [cell_of_row _ w.heap.size 0 _ _ _ h1]; rfl
      · rw [cell_of_row _ w.heap.size 1 _ _ _ h1]; rfl
      · rw [cell_of_row _ w.heap.size 2 _ _ _ h1]; rfl
      · simp [World.frozen?, h1]
      · simp [World.frozen?, h1]
      · simp [World.frozen?, h1]
      · exact ⟨hB0.trans (ht.below (by omega) (fun q hq => by rw [hq]; omega)), by have := ht.size; omega⟩
    have HBOX := Lib.hid hbox
    have H30 := Lib.hid h30
    cases hok : okR r with
    | false =>
      rw [hok, if_neg (by decide)] at hC
      have hr : r ≠ [] := by rintro rfl; cases hok
      rw [if_neg hr]
      have HC := Lib.hid hC
      clear hC hA hbox hok hr hpr h30 hll hP0 hB0
      go_enter Try.func66, Try.ntmps66
      go_wp2_with (go_at_call 102; (rw [← hW0]; (refine (HC.out).mono ?_); rintro e w1 ⟨op, text, A, m, c, i, rfl, hP1, hT1⟩; obtain ⟨⟨⟨b0, b1, b2⟩, ⟨f0, f1, f2⟩, hz⟩, hb1, hz1⟩ := HBOX.out w1 hT1; obtain ⟨⟨p0, p1, p2⟩, g1, g2⟩ := hP1.cells))
      refine bodyPost_ret (v := .tuple #[.agg #[.int .i64 0, .string ⟨#[]⟩, .slice none 0 0], .bool false]) (by simp [results, Try.results66, go_sem, b0, b1, b2, hz]) rfl ?_
      exact ⟨rfl, below_al (below_set (below_set (below_set hb1 (Nat.le_refl _)) (Nat.le_refl _)) (Nat.le_refl _)) _⟩
    | true =>
      rw [hok, if_pos rfl] at hC
      obtain ⟨k, hk⟩ : ∃ k, s.size - r.length = k := ⟨_, rfl⟩
      have HC : Hid (Calls Try.prog 102 #[.pointer (some ⟨w.heap.size + 1, 0, none⟩)] W0 fun e w' => ∃ (A : Option Addr) (c : Nat) (S : Nat → Prop), e = .returned (.agg #[.int .i64 p.x.op, .string p.x.text, .slice A p.kids.length c]) ∧ OwN patK (4 * s.size + 4) W0.heap.size w' ⟨p.x.op, p.x.text, .slice A p.kids.length c⟩ p S ∧ PS w' (w.heap.size + 1) s k false ∧ RT (w.heap.size + 1) W0 w') := Lib.hid (by rw [← hk]; exact hC)
      by_cases hr : r = []
      · rw [if_pos hr]
        have hks : k = s.size := by rw [hr] at hk; simpa using hk.symm
        have hq2 : ((k : Int) != (s.size : Int)) = false := by simp; omega
        have HKS := Lib.hid hks
        have HB0 := Lib.hid hB0
        clear hC hA hbox hok hr hpr h30 hll hP0 hB0 hk hks
        go_enter Try.func66, Try.ntmps66
        go_wp2_with (go_at_call 102; (rw [← hW0]; (refine (HC.out).mono ?_); rintro e w1 ⟨A, c, S, rfl, ho, hP1, hT1⟩; obtain ⟨⟨⟨b0, b1, b2⟩, ⟨f0, f1, f2⟩, hz⟩, hb1, hz1⟩ := HBOX.out w1 hT1; obtain ⟨⟨p0, p1, p2⟩, g1, g2⟩ := hP1.cells))
        refine bodyPost_ret (v := .tuple #[.agg #[.int .i64 p.x.op, .string p.x.text, .slice A p.kids.length c], .bool true]) (by simp [results, Try.results66, go_sem, b0, b1, b2, hz]) rfl ?_
        have hsz : W0.heap.size = w.heap.size + 2 := by rw [hW0]; simp
        exact ⟨A, c, S, rfl, (((((OwN.set ho (by omega)).set (by omega)).set (by omega)).al _).mono HB0.out.size).to (by have := H30.out; omega), below_al (below_set (below_set (below_set hb1 (Nat.le_refl _)) (Nat.le_refl _)) (Nat.le_refl _)) _⟩
      · rw [if_neg hr]
        have hks : k ≠ s.size := by
          have := List.length_pos_iff.2 hr
          have h30' := H30.out
          by_cases h0 : s.size = 0
          · have hs1 := (altP_suf (atomF_sh s.size) s.data.toList).len
            rw [← hpr, hll] at hs1
            simp only at hs1; omega
          · omega
        have hq2 : ((k : Int) != (s.size : Int)) = true := by simp; omega
        have HKS := Lib.hid hks
        clear hC hA hbox hok hr hpr h30 hll hP0 hB0 hk hks
        go_enter Try.func66, Try.ntmps66
        go_wp2_with (go_at_call 102; (rw [← hW0]; (refine (HC.out).mono ?_); rintro e w1 ⟨A, c, S, rfl, ho, hP1, hT1⟩; obtain ⟨⟨⟨b0, b1, b2⟩, ⟨f0, f1, f2⟩, hz⟩, hb1, hz1⟩ := HBOX.out w1 hT1; obtain ⟨⟨p0, p1, p2⟩, g1, g2⟩ := hP1.cells))
        refine bodyPost_ret (v := .tuple #[.agg #[.int .i64 0, .string ⟨#[]⟩, .slice none 0 0], .bool false]) (by simp [results, Try.results66, go_sem, b0, b1, b2, hz]) rfl ?_
        exact ⟨rfl, below_al (below_set (below_set (below_set hb1 (Nat.le_refl _)) (Nat.le_refl _)) (Nat.le_refl _)) _⟩
set_option maxRecDepth 100000 in
theorem sIsPat_any (hA : ∀ n, SAltC n) (s : ByteArray) (hs : s.size ≤ maxLen) (w : World) : Calls Try.prog 33 #[.string s] w fun e w' => e = .returned (.bool (patS s.data.toList).isSome) ∧ Below w.heap.size w w' := by
  have HC := Lib.hid (fun w => sParsePat_any hA s hs w)
  unfold maxLen at hs
  cases ho : patS s.data.toList with
  | none =>
    rw [ho] at HC
    clear ho
    go_enter Try.func33, Try.ntmps33
    go_wp2_with (go_at_call 66; ((refine (HC.out _).mono ?_); rintro e w1 ⟨rfl, hb⟩))
    go_ret
    exact ⟨rfl, below_al hb _⟩
  | some p =>
    rw [ho] at HC
    clear ho
    go_enter Try.func33, Try.ntmps33
    go_wp2_with (go_at_call 66; ((refine (HC.out _).mono ?_); rintro e w1 ⟨A, c, S, rfl, _, hb⟩))
    go_ret
    exact ⟨rfl, below_al hb _⟩
end Go.Proofs.Ytnpgeneahjlkpaa
