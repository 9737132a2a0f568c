/- BYTES SORTED: choosePivotOrdered (a place in the part, and some hint). -/
import Derived.Test.YtoldfejclimhgaaBsD
namespace Go.Proofs.Ytoldfejclimhgaa
open Go.RowKit Go.Sort

def Piv (w0 : World) (blk off : Nat) (d : Array Int) (a b : Nat) (e : Ending) (w' : World) : Prop := ∃ x h : Nat, (a ≤ x ∧ x < b) ∧ h ≤ 2 ∧ e = .returned (.tuple #[.int .i64 x, .int .i64 h]) ∧ SB w0 blk off d w'
theorem Ct.start {w0 W : World} {blk off : Nat} {d : Array Int} (h : SB w0 blk off d W) : Ct w0 blk off d W.heap.size 0 (W.alloc (.cells #[.int .i64 0] 3)) := ⟨0, Nat.le_refl _, Cnt1.start h _⟩
set_option maxRecDepth 100000 in
set_option maxHeartbeats 4000000 in
theorem pivot_any (blk off cap a b n : Nat) (d0 d : Array Int) (w0 w : World) (R : RB w0 blk off d0) (hs0 : d0.size = n) (hsd : d.size = n) (S : SB w0 blk off d w) (hab : a + 12 < b) (hb : b ≤ n) (hsz : n < 2305843009213693952) :
    Calls Try.prog 91 #[.slice (some ⟨blk, off, none⟩) n cap, .int .i64 a, .int .i64 b] w (Piv w0 blk off d a b) := by
  have HS := Lib.hid (Ct.start S)
  obtain ⟨l, hl⟩ : ∃ l, l = b - a := ⟨_, rfl⟩
  have hbl : (b : Int) - (a : Int) = (l : Int) := by omega
  obtain ⟨q, hq⟩ : ∃ q, q = l / 4 := ⟨_, rfl⟩
  have hlq : (l : Int) / 4 = (q : Int) := by omega
  obtain ⟨i, hi⟩ : ∃ i, i = a + q := ⟨_, rfl⟩
  obtain ⟨j, hj⟩ : ∃ j, j = a + q * 2 := ⟨_, rfl⟩
  obtain ⟨k, hk⟩ : ∃ k, k = a + q * 3 := ⟨_, rfl⟩
  have hi1 : (a : Int) + (q : Int) = (i : Int) := by omega
  have hj1 : (a : Int) + (q : Int) * 2 = (j : Int) := by omega
  have hk1 : (a : Int) + (q : Int) * 3 = (k : Int) := by omega
  have hiR : a ≤ i ∧ i < b := by omega
  have hjR : a ≤ j ∧ j < b := by omega
  have hkR : a ≤ k ∧ k < b := by omega
  have hl8 : (8 : Int) ≤ (l : Int) := by omega
  have hl9 : (l : Int) ≤ 2305843009213693952 := by omega
  have hq9 : (q : Int) ≤ 2305843009213693952 := by omega
  have hq0 : (0 : Int) ≤ (q : Int) := by omega
  have ha0 : (0 : Int) ≤ (a : Int) := by omega
  have ha9 : (a : Int) ≤ 2305843009213693952 := by omega
  by_cases h50 : 50 ≤ l
  · have h50z : (50 : Int) ≤ (l : Int) := by omega
    have hi2 : a + 1 ≤ i ∧ i + 1 < b := by omega
    have hj2 : a + 1 ≤ j ∧ j + 1 < b := by omega
    have hk2 : a + 1 ≤ k ∧ k + 1 < b := by omega
    clear S hl hq hi hj hk h50
    go_enter Try.func91, Try.ntmps91
    go_wp2_with fail
    refine (medAdj_any blk off cap i n w.heap.size 0 a b d0 d w0 _ R hs0 hsd HS.out hi2 hb (by omega) hsz).mono ?_
    rintro e w1 ⟨x1, hx1, rfl, HS1⟩
    have HS1 := Lib.hid HS1
    clear HS
    go_wp2_with fail
    refine (medAdj_any blk off cap j n w.heap.size 3 a b d0 d w0 _ R hs0 hsd HS1.out hj2 hb (by omega) hsz).mono ?_
    rintro e w2 ⟨x2, hx2, rfl, HS2⟩
    have HS2 := Lib.hid HS2
    clear HS1
    go_wp2_with fail
    refine (medAdj_any blk off cap k n w.heap.size 6 a b d0 d w0 _ R hs0 hsd HS2.out hk2 hb (by omega) hsz).mono ?_
    rintro e w3 ⟨x3, hx3, rfl, HS3⟩
    have HS3 := Lib.hid HS3
    clear HS2
    go_wp2_with fail
    refine (median_any blk off cap x1 x2 x3 n w.heap.size 9 a b d0 d w0 _ R hs0 hsd HS3.out hx1 hx2 hx3 hb (by omega) hsz).mono ?_
    rintro e w4 ⟨x4, hx4, rfl, HS4⟩
    have HSB := Lib.hid (Ct.sb HS4)
    obtain ⟨t, ht, hC⟩ := HS4
    have c0 := hC.2.1
    have HX4 := Lib.hid hx4
    clear hC HS3 hx1 hx2 hx3 hx4 hi1 hj1 hk1 hbl hlq
    by_cases h0 : t = 0
    · have hz : ((t : Int) == 0) = true := by rw [h0]; rfl
      have hz2 : ((t : Int) == 12) = false := by rw [h0]; rfl
      clear h0
      go_wp2
      refine bodyPost_ret (v := .tuple #[.int .i64 (x4 : Int), .int .i64 1]) (by simp [results, Try.results91, go_sem]) rfl ?_
      exact ⟨x4, 1, HX4.out, by omega, rfl, HSB.out⟩
    · have hz : ((t : Int) == 0) = false := by rw [beq_eq_false_iff_ne]; omega
      by_cases h12 : t = 12
      · have hz2 : ((t : Int) == 12) = true := by rw [h12]; rfl
        clear h0 h12
        go_wp2
        refine bodyPost_ret (v := .tuple #[.int .i64 (x4 : Int), .int .i64 2]) (by simp [results, Try.results91, go_sem]) rfl ?_
        exact ⟨x4, 2, HX4.out, by omega, rfl, HSB.out⟩
      · have hz2 : ((t : Int) == 12) = false := by rw [beq_eq_false_iff_ne]; omega
        clear h0 h12
        go_wp2
        refine bodyPost_ret (v := .tuple #[.int .i64 (x4 : Int), .int .i64 0]) (by simp [results, Try.results91, go_sem]) rfl ?_
        exact ⟨x4, 0, HX4.out, by omega, rfl, HSB.out⟩
  · have h50z : ¬ (50 : Int) ≤ (l : Int) := by omega
    clear S hl hq hi hj hk h50
    go_enter Try.func91, Try.ntmps91
    go_wp2_with fail
    refine (median_any blk off cap i j k n w.heap.size 0 a b d0 d w0 _ R hs0 hsd HS.out hiR hjR hkR hb (by omega) hsz).mono ?_
    rintro e w4 ⟨x4, hx4, rfl, HS4⟩
    have HSB := Lib.hid (Ct.sb HS4)
    obtain ⟨t, ht, hC⟩ := HS4
    have c0 := hC.2.1
    have HX4 := Lib.hid hx4
    clear hC HS hx4 hi1 hj1 hk1 hbl hlq
    by_cases h0 : t = 0
    · have hz : ((t : Int) == 0) = true := by rw [h0]; rfl
      have hz2 : ((t : Int) == 12) = false := by rw [h0]; rfl
      clear h0
      go_wp2
      refine bodyPost_ret (v := .tuple #[.int .i64 (x4 : Int), .int .i64 1]) (by simp [results, Try.results91, go_sem]) rfl ?_
      exact ⟨x4, 1, HX4.out, by omega, rfl, HSB.out⟩
    · have hz : ((t : Int) == 0) = false := by rw [beq_eq_false_iff_ne]; omega
      by_cases h12 : t = 12
      · have hz2 : ((t : Int) == 12) = true := by rw [h12]; rfl
        clear h0 h12
        go_wp2
        refine bodyPost_ret (v := .tuple #[.int .i64 (x4 : Int), .int .i64 2]) (by simp [results, Try.results91, go_sem]) rfl ?_
        exact ⟨x4, 2, HX4.out, by omega, rfl, HSB.out⟩
      · have hz2 : ((t : Int) == 12) = false := by rw [beq_eq_false_iff_ne]; omega
        clear h0 h12
        go_wp2
        refine bodyPost_ret (v := .tuple #[.int .i64 (x4 : Int), .int .i64 0]) (by simp [results, Try.results91, go_sem]) rfl ?_
        exact ⟨x4, 0, HX4.out, by omega, rfl, HSB.out⟩
end Go.Proofs.Ytoldfejclimhgaa
