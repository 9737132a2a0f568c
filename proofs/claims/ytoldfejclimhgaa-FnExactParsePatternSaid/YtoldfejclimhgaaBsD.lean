/- BYTES SORTED: order2Ordered, medianOrdered, medianAdjacentOrdered, choosePivotOrdered (what is said of them: the places that they choose lie in the part, the row is left alone). -/
import Derived.Test.YtoldfejclimhgaaBsC
import Derived.Sort.LotD1
namespace Go.Proofs.Ytoldfejclimhgaa
open Go.RowKit Go.Sort

/-- the row, and a counter of the call's own in block c, no more than s -/
def Ct (w0 : World) (blk off : Nat) (d : Array Int) (c s : Nat) (W : World) : Prop := ∃ t : Nat, t ≤ s ∧ Cnt1 encB w0 blk off d c t W
theorem Ct.sb {w0 W : World} {blk off : Nat} {d : Array Int} {c s : Nat} (h : Ct w0 blk off d c s W) : SB w0 blk off d W := by obtain ⟨t, _, h⟩ := h; exact h.1
theorem Cnt1.drewN {w0 W : World} {blk off : Nat} {d : Array Int} {c s : Nat} (h : Cnt1 encB w0 blk off d c s W) (q : Nat) : Cnt1 encB w0 blk off d c s (W.drewN q) := ⟨SW.drewN h.1 q, h.2.1, h.2.2.1, h.2.2.2.1, h.2.2.2.2⟩
/-- what order2 leaves -/
def Ord2 (w0 : World) (blk off : Nat) (d : Array Int) (c s a b : Nat) (e : Ending) (w' : World) : Prop := ∃ x y : Nat, ((x = a ∧ y = b) ∨ (x = b ∧ y = a)) ∧ e = .returned (.tuple #[.int .i64 x, .int .i64 y]) ∧ Ct w0 blk off d c (s + 1) w'
set_option maxRecDepth 100000 in
set_option maxHeartbeats 4000000 in
theorem order2_any (blk off cap a b n c s : Nat) (d0 d : Array Int) (w0 w : World) (R : RB w0 blk off d0) (hs0 : d0.size = n) (hsd : d.size = n) (S : Ct w0 blk off d c s w) (ha : a < n) (hb : b < n) (hs : s ≤ 1000) (hsz : n < 2305843009213693952) :
    Calls Try.prog 105 #[.slice (some ⟨blk, off, none⟩) n cap, .int .i64 a, .int .i64 b, .pointer (some ⟨c, 0, none⟩)] w (Ord2 w0 blk off d c s a b) := by
  obtain ⟨t, ht, hC⟩ := S
  have S1 := Lib.hid hC.1
  have HC := Lib.hid hC
  have ht1 : (t : Int) ≤ 1000 := by omega
  have ht2 : (0 : Int) ≤ (t : Int) := by omega
  clear hC
  cases hlv : ltInt d[b]! d[a]! with
  | true =>
    go_enter Try.func105, Try.ntmps105
    go_wp2_with fail
    obtain ⟨x, hx⟩ : ∃ x, x = d[b]! := ⟨_, rfl⟩
    obtain ⟨y, hy⟩ : ∃ x, x = d[a]! := ⟨_, rfl⟩
    have la : w.cell? ⟨blk, off + b, none⟩ = some (.int .u8 x) := by rw [hx]; exact sb_cell S1.out R (by omega) b (by omega)
    have lb : w.cell? ⟨blk, off + a, none⟩ = some (.int .u8 y) := by rw [hy]; exact sb_cell S1.out R (by omega) a (by omega)
    have hz1 : (b : Int) < (n : Int) := by omega
    have hz2 : (a : Int) < (n : Int) := by omega
    have hv : ltInt x y = true := by rw [hx, hy]; exact hlv
    have HV := Lib.hid hv
    clear hx hy hv hlv
    go_quiet ((go_at_call 94; exact Calls.quiet_of_same (less_q _ _ _ HV.out _)))
    have HC2 := Lib.hid (Cnt1.drewN HC.out nq)
    generalize w.drewN nq = w2 at HC2 ⊢
    clear la lb
    have c0 := HC2.out.2.1
    have f0 := HC2.out.2.2.1
    have hcb := HC2.out.2.2.2.2
    go_wp2
    refine bodyPost_ret (v := .tuple #[.int .i64 (b : Int), .int .i64 (a : Int)]) (by simp [results, Try.results105, go_sem]) rfl ?_
    exact ⟨b, a, .inr ⟨rfl, rfl⟩, rfl, t + 1, by omega, HC2.out.bump (t + 1)⟩
  | false =>
    go_enter Try.func105, Try.ntmps105
    go_wp2_with fail
    obtain ⟨x, hx⟩ : ∃ x, x = d[b]! := ⟨_, rfl⟩
    obtain ⟨y, hy⟩ : ∃ x, x = d[a]! := ⟨_, rfl⟩
    have la : w.cell? ⟨blk, off + b, none⟩ = some (.int .u8 x) := by rw [hx]; exact sb_cell S1.out R (by omega) b (by omega)
    have lb : w.cell? ⟨blk, off + a, none⟩ = some (.int .u8 y) := by rw [hy]; exact sb_cell S1.out R (by omega) a (by omega)
    have hz1 : (b : Int) < (n : Int) := by omega
    have hz2 : (a : Int) < (n : Int) := by omega
    have hv : ltInt x y = false := by rw [hx, hy]; exact hlv
    have HV := Lib.hid hv
    clear hx hy hv hlv
    go_quiet ((go_at_call 94; exact Calls.quiet_of_same (less_q _ _ _ HV.out _)))
    have HC2 := Lib.hid (Cnt1.drewN HC.out nq)
    generalize w.drewN nq = w2 at HC2 ⊢
    clear la lb
    go_wp2
    refine bodyPost_ret (v := .tuple #[.int .i64 (a : Int), .int .i64 (b : Int)]) (by simp [results, Try.results105, go_sem]) rfl ?_
    exact ⟨a, b, .inl ⟨rfl, rfl⟩, rfl, t, by omega, HC2.out⟩
/-- what median leaves: one of the places -/
def Med (w0 : World) (blk off : Nat) (d : Array Int) (c s lo hi : Nat) (e : Ending) (w' : World) : Prop := ∃ x : Nat, (lo ≤ x ∧ x < hi) ∧ e = .returned (.int .i64 x) ∧ Ct w0 blk off d c s w'
set_option maxRecDepth 100000 in
set_option maxHeartbeats 4000000 in
theorem median_any (blk off cap x y z n c s lo hi : Nat) (d0 d : Array Int) (w0 w : World) (R : RB w0 blk off d0) (hs0 : d0.size = n) (hsd : d.size = n) (S : Ct w0 blk off d c s w) (hx : lo ≤ x ∧ x < hi) (hy : lo ≤ y ∧ y < hi) (hz : lo ≤ z ∧ z < hi) (hh : hi ≤ n) (hs : s ≤ 100) (hsz : n < 2305843009213693952) :
    Calls Try.prog 103 #[.slice (some ⟨blk, off, none⟩) n cap, .int .i64 x, .int .i64 y, .int .i64 z, .pointer (some ⟨c, 0, none⟩)] w (Med w0 blk off d c (s + 3) lo hi) := by
  have HS := Lib.hid S
  clear S
  go_enter Try.func103, Try.ntmps103
  go_wp2_with fail
  refine (order2_any blk off cap x y n c s d0 d w0 _ R hs0 hsd HS.out (by omega) (by omega) (by omega) hsz).mono ?_
  rintro e w1 ⟨x1, y1, h1, rfl, HS1⟩
  have HS1 := Lib.hid HS1
  have hx1 : lo ≤ x1 ∧ x1 < hi := by omega
  have hy1 : lo ≤ y1 ∧ y1 < hi := by omega
  clear h1 HS
  go_wp2_with fail
  refine (order2_any blk off cap y1 z n c (s + 1) d0 d w0 _ R hs0 hsd HS1.out (by omega) (by omega) (by omega) hsz).mono ?_
  rintro e w2 ⟨x2, y2, h2, rfl, HS2⟩
  have HS2 := Lib.hid HS2
  have hx2 : lo ≤ x2 ∧ x2 < hi := by omega
  clear h2 HS1
  go_wp2_with fail
  refine (order2_any blk off cap x1 x2 n c (s + 2) d0 d w0 _ R hs0 hsd HS2.out (by omega) (by omega) (by omega) hsz).mono ?_
  rintro e w3 ⟨x3, y3, h3, rfl, HS3⟩
  have HS3 := Lib.hid HS3
  have hy3 : lo ≤ y3 ∧ y3 < hi := by omega
  clear h3 HS2
  go_wp2
  go_ret
  exact ⟨y3, hy3, rfl, HS3.out⟩
set_option maxRecDepth 100000 in
set_option maxHeartbeats 4000000 in
theorem medAdj_any (blk off cap x n c s lo hi : Nat) (d0 d : Array Int) (w0 w : World) (R : RB w0 blk off d0) (hs0 : d0.size = n) (hsd : d.size = n) (S : Ct w0 blk off d c s w) (hx : lo + 1 ≤ x ∧ x + 1 < hi) (hh : hi ≤ n) (hs : s ≤ 100) (hsz : n < 2305843009213693952) :
    Calls Try.prog 102 #[.slice (some ⟨blk, off, none⟩) n cap, .int .i64 x, .pointer (some ⟨c, 0, none⟩)] w (Med w0 blk off d c (s + 3) lo hi) := by
  obtain ⟨q, rfl⟩ : ∃ q, x = q + 1 := ⟨x - 1, by omega⟩
  have hM : ∀ W, Ct w0 blk off d c s W → Calls Try.prog 103 #[.slice (some ⟨blk, off, none⟩) n cap, .int .i64 (q : Int), .int .i64 ((q : Int) + 1), .int .i64 ((q : Int) + 1 + 1), .pointer (some ⟨c, 0, none⟩)] W (Med w0 blk off d c (s + 3) lo hi) := fun W h =>
    median_any blk off cap q (q + 1) (q + 1 + 1) n c s lo hi d0 d w0 W R hs0 hsd h (by omega) (by omega) (by omega) hh hs hsz
  have HM := Lib.hid hM
  have HS := Lib.hid S
  have hq9 : (q : Int) + 1 + 1 ≤ 2305843009213693952 := by omega
  clear hM S
  go_enter Try.func102, Try.ntmps102
  go_wp2_with (go_at_call 103; (refine (HM.out _ HS.out).mono ?_); rintro e w1 ⟨x1, hx1, rfl, HS1⟩; have HS1 := Lib.hid HS1)
  go_ret
  exact ⟨x1, hx1, rfl, HS1.out⟩
end Go.Proofs.Ytoldfejclimhgaa
