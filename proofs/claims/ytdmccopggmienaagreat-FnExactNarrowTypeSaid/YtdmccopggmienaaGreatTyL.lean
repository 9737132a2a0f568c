/- CHAPTER 6: NarrowType of both. (Printed by wip/tools/gen_tyL.py.) -/
import Derived.Test.YtdmccopggmienaaGreatTyK
import Derived.Test.YtdmccopggmienaaGreatTyF
import Derived.Test.YtdmccopggmienaaGreatRngO
set_option linter.unusedVariables false
set_option linter.unusedSimpArgs false
namespace Go.Proofs.YtdmccopggmienaaGreat
open Go.RowKit

theorem alloc_cell' {w : World} {o : Obj} {p : Addr} (h : p.block < w.heap.size) : (w.alloc o).cell? p = w.cell? p := (below_al (Below.refl w.heap.size w) o).cell h
/-- a type that may be narrowed; no number is left; the answer -/
noncomputable def mayB (t : Ty) : Bool := isTyB t && (decide (t.k = 1) || decide (t.k = 2))
noncomputable def nothB (t : Ty) (r : List Rg) : Bool := decide ((meetS t.rg r).length = 0) && decide (0 < t.rg.length + r.length)
noncomputable def narT (t : Ty) (r : List Rg) : Ty := { t with rg := meetS t.rg r }
noncomputable def narrT (t : Ty) (r : List Rg) : Ty × Bool := if (mayB t && areB r) = true then (if (nothB t r || !isTyB (narT t r)) = true then (t, false) else (narT t r, true)) else (t, false)
theorem narr_a {t : Ty} {r : List Rg} (h : mayB t = false) : narrT t r = (t, false) := by unfold narrT; rw [h]; rfl
theorem narr_b {t : Ty} {r : List Rg} (h : areB r = false) : narrT t r = (t, false) := by unfold narrT; rw [h, Bool.and_false]; rfl
theorem narr_c {t : Ty} {r : List Rg} (h : nothB t r = true) : narrT t r = (t, false) := by unfold narrT; rw [h, Bool.true_or]; split <;> rfl
theorem narr_d {t : Ty} {r : List Rg} (h : isTyB (narT t r) = false) : narrT t r = (t, false) := by unfold narrT; rw [h, Bool.not_false, Bool.or_true]; split <;> rfl
theorem narr_e {t : Ty} {r : List Rg} (h1 : mayB t = true) (h2 : areB r = true) (h3 : nothB t r = false) (h4 : isTyB (narT t r) = true) : narrT t r = (narT t r, true) := by unfold narrT; rw [h1, h2, h3, h4]; rfl
theorem may_are {t : Ty} (h : mayB t = true) : areB t.rg = true := by
  unfold mayB at h
  obtain ⟨k, rg, nm, pt, ph⟩ := t
  dsimp only at h ⊢
  cases ha : areB rg with
  | true => rfl
  | false =>
    by_cases k1 : k = 1
    · subst k1; rw [isTy_1, ha] at h; cases h
    · by_cases k2 : k = 2
      · subst k2; rw [isTy_2, ha] at h; cases h
      · simp [k1, k2] at h
theorem are_len {l : List Rg} (h : areB l = true) : l.length ≤ 6 := by
  by_cases hh : Are l
  · exact hh.1
  · rw [areB_no hh] at h; cases h
theorem mul36 {a b : Nat} (h1 : a ≤ 6) (h2 : b ≤ 6) : a * b ≤ 274877906944 := Nat.le_trans (Nat.mul_le_mul h1 h2) (by omega)
/-- the walk of mayBeNarrowed where the type has been told -/
def MayK (K : Value) (v : TyV) (b : Bool) (w : World) : Prop :=
  (∀ W, Below w.heap.size w W → Calls Tryz.prog 29 #[v.val] W fun e w' => e = .returned K ∧ Below W.heap.size W w') →
  Calls Tryz.prog 41 #[v.val] w fun e w' => e = .returned (.bool b) ∧ Below w.heap.size w w'
set_option maxRecDepth 100000 in
set_option maxHeartbeats 1000000 in
theorem may_nil (k : Int) (A A' : Option Addr) (n c m c' : Nat) (pt ph : ByteArray) (w : World) : MayK (.nilIface) ⟨k, .slice A n c, .slice A' m c', pt, ph⟩ false w := by
  intro hC
  have HC := Lib.hid hC
  have T0 := ta_nil_int
  have T1 := ta_nil_text
  have HB0 := Lib.hid (below_al (Below.refl w.heap.size w) (.cells #[.int .i64 k, .slice A n c, .slice A' m c', .string pt, .string ph] 31))
  clear hC
  go_enter Tryz.func41, Tryz.ntmps41
  go_wp2_with (first | (go_at_call 29; refine (HC.out _ HB0.out).mono ?_; rintro e w1 ⟨rfl, hb1⟩; have HB1 := Lib.hid (below_step HB0.out hb1)))
  go_ret
  exact ⟨rfl, HB1.out⟩
set_option maxRecDepth 100000 in
set_option maxHeartbeats 1000000 in
theorem may_int (k : Int) (A A' : Option Addr) (n c m c' : Nat) (pt ph : ByteArray) (w : World) : MayK (.iface 55 (.agg #[.slice A n c])) ⟨k, .slice A n c, .slice A' m c', pt, ph⟩ true w := by
  intro hC
  have HC := Lib.hid hC
  have T0 := ta_int_int
  have T1 := ta_int_text
  have HB0 := Lib.hid (below_al (Below.refl w.heap.size w) (.cells #[.int .i64 k, .slice A n c, .slice A' m c', .string pt, .string ph] 31))
  clear hC
  go_enter Tryz.func41, Tryz.ntmps41
  go_wp2_with (first | (go_at_call 29; refine (HC.out _ HB0.out).mono ?_; rintro e w1 ⟨rfl, hb1⟩; have HB1 := Lib.hid (below_step HB0.out hb1)))
  go_ret
  exact ⟨rfl, HB1.out⟩
set_option maxRecDepth 100000 in
set_option maxHeartbeats 1000000 in
theorem may_text (k : Int) (A A' : Option Addr) (n c m c' : Nat) (pt ph : ByteArray) (w : World) : MayK (.iface 58 (.agg #[.slice A n c, .string pt])) ⟨k, .slice A n c, .slice A' m c', pt, ph⟩ true w := by
  intro hC
  have HC := Lib.hid hC
  have T0 := ta_text_int
  have T1 := ta_text_text
  have HB0 := Lib.hid (below_al (Below.refl w.heap.size w) (.cells #[.int .i64 k, .slice A n c, .slice A' m c', .string pt, .string ph] 31))
  clear hC
  go_enter Tryz.func41, Tryz.ntmps41
  go_wp2_with (first | (go_at_call 29; refine (HC.out _ HB0.out).mono ?_; rintro e w1 ⟨rfl, hb1⟩; have HB1 := Lib.hid (below_step HB0.out hb1)))
  go_ret
  exact ⟨rfl, HB1.out⟩
set_option maxRecDepth 100000 in
set_option maxHeartbeats 1000000 in
theorem may_bool (k : Int) (A A' : Option Addr) (n c m c' : Nat) (pt ph : ByteArray) (w : World) : MayK (.iface 61 (.agg #[])) ⟨k, .slice A n c, .slice A' m c', pt, ph⟩ false w := by
  intro hC
  have HC := Lib.hid hC
  have T0 := ta_bool_int
  have T1 := ta_bool_text
  have HB0 := Lib.hid (below_al (Below.refl w.heap.size w) (.cells #[.int .i64 k, .slice A n c, .slice A' m c', .string pt, .string ph] 31))
  clear hC
  go_enter Tryz.func41, Tryz.ntmps41
  go_wp2_with (first | (go_at_call 29; refine (HC.out _ HB0.out).mono ?_; rintro e w1 ⟨rfl, hb1⟩; have HB1 := Lib.hid (below_step HB0.out hb1)))
  go_ret
  exact ⟨rfl, HB1.out⟩
set_option maxRecDepth 100000 in
set_option maxHeartbeats 1000000 in
theorem may_enum (k : Int) (A A' : Option Addr) (n c m c' : Nat) (pt ph : ByteArray) (w : World) : MayK (.iface 64 (.agg #[.slice A' m c'])) ⟨k, .slice A n c, .slice A' m c', pt, ph⟩ false w := by
  intro hC
  have HC := Lib.hid hC
  have T0 := ta_enum_int
  have T1 := ta_enum_text
  have HB0 := Lib.hid (below_al (Below.refl w.heap.size w) (.cells #[.int .i64 k, .slice A n c, .slice A' m c', .string pt, .string ph] 31))
  clear hC
  go_enter Tryz.func41, Tryz.ntmps41
  go_wp2_with (first | (go_at_call 29; refine (HC.out _ HB0.out).mono ?_; rintro e w1 ⟨rfl, hb1⟩; have HB1 := Lib.hid (below_step HB0.out hb1)))
  go_ret
  exact ⟨rfl, HB1.out⟩
set_option maxRecDepth 100000 in
set_option maxHeartbeats 1000000 in
theorem may_ref (k : Int) (A A' : Option Addr) (n c m c' : Nat) (pt ph : ByteArray) (w : World) : MayK (.iface 67 (.agg #[.string ph])) ⟨k, .slice A n c, .slice A' m c', pt, ph⟩ false w := by
  intro hC
  have HC := Lib.hid hC
  have T0 := ta_ref_int
  have T1 := ta_ref_text
  have HB0 := Lib.hid (below_al (Below.refl w.heap.size w) (.cells #[.int .i64 k, .slice A n c, .slice A' m c', .string pt, .string ph] 31))
  clear hC
  go_enter Tryz.func41, Tryz.ntmps41
  go_wp2_with (first | (go_at_call 29; refine (HC.out _ HB0.out).mono ?_; rintro e w1 ⟨rfl, hb1⟩; have HB1 := Lib.hid (below_step HB0.out hb1)))
  go_ret
  exact ⟨rfl, HB1.out⟩
set_option maxRecDepth 100000 in
set_option maxHeartbeats 1000000 in
theorem may_flag (k : Int) (A A' : Option Addr) (n c m c' : Nat) (pt ph : ByteArray) (w : World) : MayK (.iface 68 (.agg #[])) ⟨k, .slice A n c, .slice A' m c', pt, ph⟩ false w := by
  intro hC
  have HC := Lib.hid hC
  have T0 := ta_flag_int
  have T1 := ta_flag_text
  have HB0 := Lib.hid (below_al (Below.refl w.heap.size w) (.cells #[.int .i64 k, .slice A n c, .slice A' m c', .string pt, .string ph] 31))
  clear hC
  go_enter Tryz.func41, Tryz.ntmps41
  go_wp2_with (first | (go_at_call 29; refine (HC.out _ HB0.out).mono ?_; rintro e w1 ⟨rfl, hb1⟩; have HB1 := Lib.hid (below_step HB0.out hb1)))
  go_ret
  exact ⟨rfl, HB1.out⟩
theorem may_any (v : TyV) (t : Ty) (w : World) (h : HasTy w v t) (hc : CapN v.vn) (hs : TySz t) :
    Calls Tryz.prog 41 #[v.val] w fun e w' => e = .returned (.bool (mayB t)) ∧ Below w.heap.size w w' := by
  have hC := fun W (hb : Below w.heap.size w W) => kindOf_any v t W (h.below hb) hc hs
  obtain ⟨A, c, h1, -⟩ := id h.rg
  obtain ⟨A', c', h2, -⟩ := id h.nm
  unfold mayB
  cases hq : isTyB t with
  | false =>
    rw [hq] at hC
    obtain ⟨k, vr, vn, pt, ph⟩ := v
    obtain rfl : vr = _ := h1
    obtain rfl : vn = _ := h2
    exact may_nil _ _ _ _ _ _ _ _ _ _ hC
  | true =>
    rw [hq] at hC
    obtain ⟨k, rg, nm, pt, ph⟩ := t
    obtain ⟨k', vr, vn, pt', ph'⟩ := v
    obtain ⟨rfl, hr, hn, rfl, rfl⟩ := h
    dsimp only at hr hn hC h1 h2 ⊢
    subst h1 h2
    by_cases k1 : k' = 1
    · subst k1; exact may_int _ _ _ _ _ _ _ _ _ _ hC
    by_cases k2 : k' = 2
    · subst k2; exact may_text _ _ _ _ _ _ _ _ _ _ hC
    by_cases k3 : k' = 3
    · subst k3; exact may_bool _ _ _ _ _ _ _ _ _ _ hC
    by_cases k4 : k' = 4
    · subst k4; exact may_enum _ _ _ _ _ _ _ _ _ _ hC
    by_cases k5 : k' = 5
    · subst k5; exact may_ref _ _ _ _ _ _ _ _ _ _ hC
    by_cases k6 : k' = 6
    · subst k6; exact may_flag _ _ _ _ _ _ _ _ _ _ hC
    unfold isTyB validB at hq
    simp [k1, k2, k3, k4, k5, k6] at hq
set_option maxRecDepth 100000 in
set_option maxHeartbeats 8000000 in
theorem iNarrow_any (v : TyV) (t : Ty) (u : Value) (r : List Rg) (w : World) (h : HasTy w v t) (hc : CapN v.vn) (hk : NilTy v) (hs : TySz t) (h1 : t.rg.length ≤ 1048576) (h2 : t.nm.length ≤ 1048576) (hr : HasG w u r) (hr1 : r.length ≤ 1048576) :
    Calls Tryz.prog 16 #[v.val, u] w fun e w' => ∃ v' : TyV, e = .returned (.tuple #[v'.val, .bool (narrT t r).2]) ∧ OwnTy w.heap.size w' v' (narrT t r).1 ∧ Below w.heap.size w w' := by
  have HCP := Lib.hid (fun W (hb : Below w.heap.size w W) => iCopy_any v t W (h.below hb) hk h1 h2)
  have HMY := Lib.hid (fun W (hb : Below w.heap.size w W) => may_any v t W (h.below hb) hc hs)
  have HAR := Lib.hid (fun W (hb : Below w.heap.size w W) => iAre_any u r W (HasR.below hr hb))
  have HMT := Lib.hid (fun (a1 : areB t.rg = true) (a2 : areB r = true) W (hb : Below w.heap.size w W) => iMeet_any v.vr u t.rg r W (HasR.below h.rg hb) (HasR.below hr hb) (by have := are_len a1; omega) hr1 (mul36 (are_len a1) (are_len a2)))
  have HIS := Lib.hid (fun v2 W (h2 : HasTy W v2 (narT t r)) (hc2 : CapN v2.vn) => iIsTy_any v2 (narT t r) W h2 hc2 hs)
  have HMA := Lib.hid (may_are (t := t))
  have HNA := Lib.hid (@narr_a t r)
  have HNB := Lib.hid (@narr_b t r)
  have HNC := Lib.hid (@narr_c t r)
  have HND := Lib.hid (@narr_d t r)
  have HNE := Lib.hid (@narr_e t r)
  have HNO : Hid (nothB t r = (decide ((meetS t.rg r).length = 0) && decide (0 < t.rg.length + r.length))) := Lib.hid rfl
  have HT2 : Hid (narT t r = { t with rg := meetS t.rg r }) := Lib.hid rfl
  have HMB : Hid (mayB t = (isTyB t && (decide (t.k = 1) || decide (t.k = 2)))) := Lib.hid rfl
  obtain ⟨F, d, rfl, -⟩ := id hr
  obtain ⟨A, c, h3, -⟩ := id h.rg
  obtain ⟨A', c', h4, -⟩ := id h.nm
  obtain ⟨Z, hZ⟩ : ∃ Z, Z = narrT t r := ⟨_, rfl⟩
  obtain ⟨a, ha⟩ : ∃ a, a = mayB t := ⟨_, rfl⟩
  obtain ⟨b, hb⟩ : ∃ b, b = areB r := ⟨_, rfl⟩
  obtain ⟨f, hf⟩ : ∃ f, f = isTyB (narT t r) := ⟨_, rfl⟩
  obtain ⟨t2, ht2⟩ : ∃ t2, t2 = narT t r := ⟨_, rfl⟩
  obtain ⟨M, hM⟩ : ∃ M, M = meetS t.rg r := ⟨_, rfl⟩
  obtain ⟨no, hno⟩ : ∃ no, no = nothB t r := ⟨_, rfl⟩
  rw [← hZ] at HNA HNB HNC HND HNE ⊢
  rw [← ha] at HNA HNE HMA HMB
  rw [← hb] at HNB HNE HAR HMT
  rw [← hno] at HNC HNE HNO
  rw [← hM] at HMT HT2 HNO
  rw [← ht2] at HND HNE HIS HT2 hf
  rw [← hf] at HND HNE HIS
  rw [← ha] at HMY
  obtain ⟨k, rg, nm, pt, ph⟩ := t
  obtain ⟨k', vr, vn, pt', ph'⟩ := v
  obtain ⟨rfl, hg, hn, rfl, rfl⟩ := h
  clear hZ ha hb hf ht2 hM hno
  dsimp only at *
  subst h3 h4
  generalize r.length = q at *
  generalize hgn : rg.length = n at *
  generalize hnm : nm.length = m at *
  have HB0 := Lib.hid (Below.refl w.heap.size w)
  clear hr hg hn hc hk hs
  go_enter Tryz.func16, Tryz.ntmps16
  go_wp2_with fail
  refine (HCP.out _ (below_al (below_al HB0.out (.cells #[.int .i64 k', .slice A n c, .slice A' m c', .string pt', .string ph'] 31)) (.cells #[.int .i64 0, .slice none 0 0, .slice none 0 0, .string ⟨#[]⟩, .string ⟨#[]⟩] 31))).mono ?_
  rintro e w1 ⟨v1, rfl, hown, hb1⟩
  have HB1 := Lib.hid (below_step (below_al (below_al HB0.out (.cells #[.int .i64 k', .slice A n c, .slice A' m c', .string pt', .string ph'] 31)) (.cells #[.int .i64 0, .slice none 0 0, .slice none 0 0, .string ⟨#[]⟩, .string ⟨#[]⟩] 31)) hb1)
  have R1 : TyBox w1 (w.heap.size + 1) 0 (.slice none 0 0) (.slice none 0 0) ⟨#[]⟩ ⟨#[]⟩ := (hb1.block _ (by simp)).trans (heap_alloc_new' _ _ (by simp))
  have A1 : TyBox w1 w.heap.size k' (.slice A n c) (.slice A' m c') pt' ph' := (hb1.block _ (by simp; omega)).trans (by rw [Below.heap_alloc _ _ _ (by simp)]; exact heap_alloc_new' _ _ rfl)
  have hz1 : w.heap.size + 2 ≤ w1.heap.size := by have := hb1.size; simpa using this
  have hz2 : w.heap.size < w1.heap.size := by omega
  have hz3 : w.heap.size + 1 < w1.heap.size := by omega
  have HO := Lib.hid (hown.mono (B' := w.heap.size + 2) (by simp))
  have HOW' : Hid (∀ j, TyV.own v1 j → j < w1.heap.size) := Lib.hid fun j hj => (hown.lt hj).2
  obtain ⟨D1, n1, c1, g1⟩ : ∃ A n c, v1.vr = .slice A n c := by obtain ⟨A, c, hv, _⟩ := RowR.hasG hown.rg; exact ⟨A, _, c, hv⟩
  obtain ⟨D2, n2, c2, g2⟩ : ∃ A n c, v1.vn = .slice A n c := by obtain ⟨A, c, hv, _⟩ := Row.has hown.nm; exact ⟨A, _, c, hv⟩
  have g3 : v1.k = k' := hown.k
  have g4 : v1.pt = pt' := hown.pt
  have g5 : v1.ph = ph' := hown.ph
  have HCN := Lib.hid hown.nm.capN
  obtain ⟨k1, vr1, vn1, p1, q1⟩ := v1
  dsimp only at g1 g2 g3 g4 g5 HCN
  subst g1 g2 g3 g4 g5
  have HOW := HOW'
  have HH : Hid (∀ W, Below (w1.alloc (.cells #[.int .i64 k1, .slice D1 n1 c1, .slice D2 n2 c2, .string p1, .string q1] 31)).heap.size (w1.alloc (.cells #[.int .i64 k1, .slice D1 n1 c1, .slice D2 n2 c2, .string p1, .string q1] 31)) W →
      TyBox W w.heap.size k1 (.slice A n c) (.slice A' m c') p1 q1 ∧ TyBox W (w.heap.size + 1) 0 (.slice none 0 0) (.slice none 0 0) ⟨#[]⟩ ⟨#[]⟩ ∧ TyBox W w1.heap.size k1 (.slice D1 n1 c1) (.slice D2 n2 c2) p1 q1 ∧ OwnTy (w.heap.size + 2) W ⟨k1, .slice D1 n1 c1, .slice D2 n2 c2, p1, q1⟩ ⟨k1, rg, nm, p1, q1⟩ ∧ Below w.heap.size w W) := Lib.hid fun W hb =>
    ⟨(A1.below (below_al (Below.refl _ _) _)).below hb, (R1.below (below_al (Below.refl _ _) _)).below hb, TyBox.below (heap_alloc_new w1 _) hb, (HO.out.below (below_al (Below.refl _ _) _)).below hb, below_step (below_al HB1.out _) hb⟩
  obtain ⟨⟨x0, x1, x2, x3, x4⟩, -⟩ := five A1
  have HR1 := Lib.hid R1
  have HO1 := Lib.hid HO.out
  clear hown hb1 R1 A1 HO
  have HOLT : Hid (∀ j, TyV.own ⟨k1, .slice D1 n1 c1, .slice D2 n2 c2, p1, q1⟩ j → j ≠ w1.heap.size) := Lib.hid (by
    intro j hj e
    have := HOW.out j hj; omega)
  go_wp2_with fail
  refine (HMY.out _ (HH.out _ (Below.refl _ _)).2.2.2.2).mono ?_
  rintro e w2 ⟨rfl, hb2⟩
  clear x0 x1 x2 x3 x4
  cases a
  ·
    have HL : Hid (Z = (⟨k1, rg, nm, p1, q1⟩, false)) := Lib.hid (HNA.out (by first | rfl | trivial))
    obtain ⟨hA, hR, hN, hO, hW⟩ := HH.out _ hb2
    obtain ⟨⟨y0, y1, y2, y3, y4⟩, -⟩ := five hN
    obtain ⟨⟨RR0, RR1, RR2, RR3, RR4⟩, r0, r1, r2, r3, r4⟩ := five hR
    have HO2 := Lib.hid hO
    have HW := Lib.hid hW
    have hq1 : w.heap.size < w2.heap.size := hA.lt
    have hq2 : w.heap.size + 1 < w2.heap.size := hR.lt
    clear hA hR hN hO hW
    go_wp2
    refine bodyPost_ret (v := .tuple #[.agg #[.int .i64 k1, .slice D1 n1 c1, .slice D2 n2 c2, .string p1, .string q1], .bool false]) (by simp [results, Tryz.results16, go_sem, r0, r1, r2, r3, r4, RR0, RR1, RR2, RR3, RR4, y0, y1, y2, y3, y4]) rfl ?_
    exact ⟨⟨k1, .slice D1 n1 c1, .slice D2 n2 c2, p1, q1⟩, by rw [HL.out], by rw [HL.out]; exact (HO2.out.set5 (by omega)).mono (by omega), below_set5 HW.out (by omega)⟩
  ·
    go_wp2_with fail
    refine (HAR.out _ (HH.out _ hb2).2.2.2.2).mono ?_
    rintro e w3 ⟨rfl, hb3⟩
    cases b
    ·
      have HL : Hid (Z = (⟨k1, rg, nm, p1, q1⟩, false)) := Lib.hid (HNB.out (by first | rfl | trivial))
      obtain ⟨hA, hR, hN, hO, hW⟩ := HH.out _ (below_step hb2 hb3)
      obtain ⟨⟨y0, y1, y2, y3, y4⟩, -⟩ := five hN
      obtain ⟨⟨RR0, RR1, RR2, RR3, RR4⟩, r0, r1, r2, r3, r4⟩ := five hR
      have HO2 := Lib.hid hO
      have HW := Lib.hid hW
      have hq1 : w.heap.size < w3.heap.size := hA.lt
      have hq2 : w.heap.size + 1 < w3.heap.size := hR.lt
      clear hA hR hN hO hW
      go_wp2
      refine bodyPost_ret (v := .tuple #[.agg #[.int .i64 k1, .slice D1 n1 c1, .slice D2 n2 c2, .string p1, .string q1], .bool false]) (by simp [results, Tryz.results16, go_sem, r0, r1, r2, r3, r4, RR0, RR1, RR2, RR3, RR4, y0, y1, y2, y3, y4]) rfl ?_
      exact ⟨⟨k1, .slice D1 n1 c1, .slice D2 n2 c2, p1, q1⟩, by rw [HL.out], by rw [HL.out]; exact (HO2.out.set5 (by omega)).mono (by omega), below_set5 HW.out (by omega)⟩
    ·
      obtain ⟨hA, hR, hN, hO, hW⟩ := HH.out _ (below_step hb2 hb3)
      obtain ⟨⟨x0, x1, x2, x3, x4⟩, -⟩ := five hA
      have HF3 := Lib.hid (HH.out _ (below_step hb2 hb3))
      have hq1 : w1.heap.size < w3.heap.size := hN.lt
      clear hA hR hN hO hW
      go_wp2_with fail
      refine (HMT.out (HMA.out (by first | rfl | trivial)) (by first | rfl | trivial) _ HF3.out.2.2.2.2).mono ?_
      rintro e w4 ⟨vm, rfl, hm4, hb4⟩
      obtain ⟨D5, c5, rfl⟩ : ∃ A c, vm = .slice A M.length c := by obtain ⟨A, c, hv, _⟩ := RowR.hasG hm4; exact ⟨A, c, hv⟩
      have hz4 : w1.heap.size < w4.heap.size := Nat.lt_of_lt_of_le hq1 hb4.size
      have HA4 := Lib.hid (HF3.out.1.below hb4)
      have HR4 := Lib.hid (HF3.out.2.1.below hb4)
      have HN4 := Lib.hid (HF3.out.2.2.1.below hb4)
      have HO4 := Lib.hid (HF3.out.2.2.2.1.below hb4)
      have HB4 := Lib.hid (below_step HF3.out.2.2.2.2 hb4)
      have HM4 := Lib.hid hm4
      have hq3 : w1.heap.size < w3.heap.size := hq1
      have HLT := Lib.hid (And.intro (fun j (hj : (Value.slice D5 M.length c5).ownBlock = some j) => RowR.lt hm4 hj) (fun j (hj : TyV.own ⟨k1, .slice D1 n1 c1, .slice D2 n2 c2, p1, q1⟩ j) => HF3.out.2.2.2.1.lt hj))
      clear hm4 hb4 x0 x1 x2 x3 x4
      -- the world behind the store
      have hA5 : TyBox (w4.setCell ⟨w1.heap.size, 1, none⟩ (.slice D5 M.length c5)) w.heap.size k1 (.slice A n c) (.slice A' m c') p1 q1 := HA4.out.set (by omega)
      have hR5 : TyBox (w4.setCell ⟨w1.heap.size, 1, none⟩ (.slice D5 M.length c5)) (w.heap.size + 1) 0 (.slice none 0 0) (.slice none 0 0) ⟨#[]⟩ ⟨#[]⟩ := HR4.out.set (by omega)
      have hN5 : TyBox (w4.setCell ⟨w1.heap.size, 1, none⟩ (.slice D5 M.length c5)) w1.heap.size k1 (.slice D5 M.length c5) (.slice D2 n2 c2) p1 q1 := set5 HN4.out 1 (.slice D5 M.length c5)
      have HB5 : Hid (Below w.heap.size w (w4.setCell ⟨w1.heap.size, 1, none⟩ (.slice D5 M.length c5))) := Lib.hid (below_set' HB4.out (by omega))
      have HNEQ : Hid (∀ j, TyV.own ⟨k1, .slice D1 n1 c1, .slice D2 n2 c2, p1, q1⟩ j → j ≠ w1.heap.size) := Lib.hid fun j hj e => HOLT.out j hj e
      have HT5 : Hid (OwnTy (w.heap.size + 2) (w4.setCell ⟨w1.heap.size, 1, none⟩ (.slice D5 M.length c5)) ⟨k1, .slice D5 M.length c5, .slice D2 n2 c2, p1, q1⟩ t2) := Lib.hid (by
        rw [HT2.out]
        exact ⟨rfl, ownsRow_setCell_other (RowR.mono HM4.out (by omega)) (a := ⟨w1.heap.size, 1, none⟩) (fun e => by have := (HLT.out.1 _ e).1; simp at this; omega) _, ownsRow_setCell_other HO4.out.nm (a := ⟨w1.heap.size, 1, none⟩) (fun e => HNEQ.out _ (.inr e) rfl) _, rfl, rfl, fun j h1 h2 => by
          have a1 := (HLT.out.1 _ h1).1; have a2 := (HLT.out.2 j (.inr h2)).2; omega⟩)
      have HR5 := Lib.hid hR5
      have HN5 := Lib.hid hN5
      have hz5 : w1.heap.size < (w4.setCell ⟨w1.heap.size, 1, none⟩ (.slice D5 M.length c5)).heap.size := by simpa using hz4
      generalize M.length = z at *
      obtain ⟨⟨x0, x1, x2, x3, x4⟩, -⟩ := five HA4.out
      obtain ⟨⟨y0, y1, y2, y3, y4⟩, yf0, yf1, yf2, yf3, yf4⟩ := five HN4.out
      have hw : IntKind.i64.wrap ((n : Int) + (q : Int)) = (n : Int) + (q : Int) := by rw [IntKind.wrap_i64]; omega
      by_cases z0 : z = 0
      ·
        subst z0
        by_cases s0 : 0 < n + q
        ·
          have e1 : decide ((0 : Int) < (n : Int) + (q : Int)) = true := by simp; omega
          have e2 : (0 : Int) < (n : Int) + (q : Int) := by omega
          have HL : Hid (Z = (⟨k1, rg, nm, p1, q1⟩, false)) := Lib.hid (HNC.out (by rw [HNO.out]; simp; omega))
          go_wp2_with fail
          refine (HCP.out _ HB5.out).mono ?_
          rintro e w8 ⟨v8, rfl, hown8, hb8⟩
          obtain ⟨D3, n3, c3, g1⟩ : ∃ A n c, v8.vr = .slice A n c := by obtain ⟨A, c, hv, _⟩ := RowR.hasG hown8.rg; exact ⟨A, _, c, hv⟩
          obtain ⟨D4, n4, c4, g2⟩ : ∃ A n c, v8.vn = .slice A n c := by obtain ⟨A, c, hv, _⟩ := Row.has hown8.nm; exact ⟨A, _, c, hv⟩
          obtain ⟨k8, vr8, vn8, p8, q8⟩ := v8
          dsimp only at g1 g2
          subst g1 g2
          have R8 := HR5.out.below hb8
          have HB8 := Lib.hid (below_step HB5.out hb8)
          have hq8 : w.heap.size + 2 ≤ w8.heap.size := by have := hb8.size; (try simp at this); omega
          have HO8 := Lib.hid (hown8.mono (B' := w.heap.size + 2) (by (try simp); omega))
          obtain ⟨⟨RR0, RR1, RR2, RR3, RR4⟩, r0, r1, r2, r3, r4⟩ := five R8
          clear hown8 hb8 R8
          go_wp2
          refine bodyPost_ret (v := .tuple #[.agg #[.int .i64 k8, .slice D3 n3 c3, .slice D4 n4 c4, .string p8, .string q8], .bool false]) (by simp [results, Tryz.results16, go_sem, r0, r1, r2, r3, r4, RR0, RR1, RR2, RR3, RR4]) rfl ?_
          exact ⟨⟨k8, .slice D3 n3 c3, .slice D4 n4 c4, p8, q8⟩, by rw [HL.out], by rw [HL.out]; exact (HO8.out.set5 (by omega)).mono (by omega), below_set5 HB8.out (by omega)⟩
        ·
          have e1 : decide ((0 : Int) < (n : Int) + (q : Int)) = false := by simp; omega
          have e2 : ¬ (0 : Int) < (n : Int) + (q : Int) := by omega
          have HNF : Hid (no = false) := Lib.hid (by rw [HNO.out]; simp; omega)
          go_wp2_with fail
          refine (HIS.out ⟨k1, .slice D5 0 c5, .slice D2 n2 c2, p1, q1⟩ _ HT5.out.has HCN.out).mono ?_
          rintro e w6 ⟨rfl, hb6⟩
          have HB6 := Lib.hid (below_step HB5.out hb6)
          have A6 := hA5.below hb6
          have HR6 := Lib.hid (HR5.out.below hb6)
          have N6 := HN5.out.below hb6
          have HT6 := Lib.hid (HT5.out.below hb6)
          have hq6 : w1.heap.size < w6.heap.size := N6.lt
          clear hb6 x0 x1 x2 x3 x4 y0 y1 y2 y3 y4 yf0 yf1 yf2 yf3 yf4
          cases f
          ·
            obtain ⟨⟨x0, x1, x2, x3, x4⟩, -⟩ := five A6
            have HL : Hid (Z = (⟨k1, rg, nm, p1, q1⟩, false)) := Lib.hid (HND.out (by first | rfl | trivial))
            go_wp2_with fail
            refine (HCP.out _ HB6.out).mono ?_
            rintro e w8 ⟨v8, rfl, hown8, hb8⟩
            obtain ⟨D3, n3, c3, g1⟩ : ∃ A n c, v8.vr = .slice A n c := by obtain ⟨A, c, hv, _⟩ := RowR.hasG hown8.rg; exact ⟨A, _, c, hv⟩
            obtain ⟨D4, n4, c4, g2⟩ : ∃ A n c, v8.vn = .slice A n c := by obtain ⟨A, c, hv, _⟩ := Row.has hown8.nm; exact ⟨A, _, c, hv⟩
            obtain ⟨k8, vr8, vn8, p8, q8⟩ := v8
            dsimp only at g1 g2
            subst g1 g2
            have R8 := HR6.out.below hb8
            have HB8 := Lib.hid (below_step HB6.out hb8)
            have hq8 : w.heap.size + 2 ≤ w8.heap.size := by have := hb8.size; (try simp at this); omega
            have HO8 := Lib.hid (hown8.mono (B' := w.heap.size + 2) (by (try simp); omega))
            obtain ⟨⟨RR0, RR1, RR2, RR3, RR4⟩, r0, r1, r2, r3, r4⟩ := five R8
            clear hown8 hb8 R8
            go_wp2
            refine bodyPost_ret (v := .tuple #[.agg #[.int .i64 k8, .slice D3 n3 c3, .slice D4 n4 c4, .string p8, .string q8], .bool false]) (by simp [results, Tryz.results16, go_sem, r0, r1, r2, r3, r4, RR0, RR1, RR2, RR3, RR4]) rfl ?_
            exact ⟨⟨k8, .slice D3 n3 c3, .slice D4 n4 c4, p8, q8⟩, by rw [HL.out], by rw [HL.out]; exact (HO8.out.set5 (by omega)).mono (by omega), below_set5 HB8.out (by omega)⟩
          ·
            have HL : Hid (Z = (t2, true)) := Lib.hid (HNE.out (by first | rfl | trivial) (by first | rfl | trivial) (by first | exact HNF.out | trivial) (by first | rfl | trivial))
            obtain ⟨⟨y0, y1, y2, y3, y4⟩, -⟩ := five N6
            obtain ⟨⟨RR0, RR1, RR2, RR3, RR4⟩, r0, r1, r2, r3, r4⟩ := five HR6.out
            go_wp2
            refine bodyPost_ret (v := .tuple #[.agg #[.int .i64 k1, .slice D5 0 c5, .slice D2 n2 c2, .string p1, .string q1], .bool true]) (by simp [results, Tryz.results16, go_sem, r0, r1, r2, r3, r4, RR0, RR1, RR2, RR3, RR4, y0, y1, y2, y3, y4]) rfl ?_
            exact ⟨⟨k1, .slice D5 0 c5, .slice D2 n2 c2, p1, q1⟩, by rw [HL.out], by rw [HL.out]; exact (HT6.out.set5 (by omega)).mono (by omega), below_set5 HB6.out (by omega)⟩
      ·
        have e0 : ((z : Int) == 0) = false := by simp; omega
        have HNF : Hid (no = false) := Lib.hid (by rw [HNO.out]; simp [z0])
        go_wp2_with fail
        refine (HIS.out ⟨k1, .slice D5 z c5, .slice D2 n2 c2, p1, q1⟩ _ HT5.out.has HCN.out).mono ?_
        rintro e w6 ⟨rfl, hb6⟩
        have HB6 := Lib.hid (below_step HB5.out hb6)
        have A6 := hA5.below hb6
        have HR6 := Lib.hid (HR5.out.below hb6)
        have N6 := HN5.out.below hb6
        have HT6 := Lib.hid (HT5.out.below hb6)
        have hq6 : w1.heap.size < w6.heap.size := N6.lt
        clear hb6 x0 x1 x2 x3 x4 y0 y1 y2 y3 y4 yf0 yf1 yf2 yf3 yf4
        cases f
        ·
          obtain ⟨⟨x0, x1, x2, x3, x4⟩, -⟩ := five A6
          have HL : Hid (Z = (⟨k1, rg, nm, p1, q1⟩, false)) := Lib.hid (HND.out (by first | rfl | trivial))
          go_wp2_with fail
          refine (HCP.out _ HB6.out).mono ?_
          rintro e w8 ⟨v8, rfl, hown8, hb8⟩
          obtain ⟨D3, n3, c3, g1⟩ : ∃ A n c, v8.vr = .slice A n c := by obtain ⟨A, c, hv, _⟩ := RowR.hasG hown8.rg; exact ⟨A, _, c, hv⟩
          obtain ⟨D4, n4, c4, g2⟩ : ∃ A n c, v8.vn = .slice A n c := by obtain ⟨A, c, hv, _⟩ := Row.has hown8.nm; exact ⟨A, _, c, hv⟩
          obtain ⟨k8, vr8, vn8, p8, q8⟩ := v8
          dsimp only at g1 g2
          subst g1 g2
          have R8 := HR6.out.below hb8
          have HB8 := Lib.hid (below_step HB6.out hb8)
          have hq8 : w.heap.size + 2 ≤ w8.heap.size := by have := hb8.size; (try simp at this); omega
          have HO8 := Lib.hid (hown8.mono (B' := w.heap.size + 2) (by (try simp); omega))
          obtain ⟨⟨RR0, RR1, RR2, RR3, RR4⟩, r0, r1, r2, r3, r4⟩ := five R8
          clear hown8 hb8 R8
          go_wp2
          refine bodyPost_ret (v := .tuple #[.agg #[.int .i64 k8, .slice D3 n3 c3, .slice D4 n4 c4, .string p8, .string q8], .bool false]) (by simp [results, Tryz.results16, go_sem, r0, r1, r2, r3, r4, RR0, RR1, RR2, RR3, RR4]) rfl ?_
          exact ⟨⟨k8, .slice D3 n3 c3, .slice D4 n4 c4, p8, q8⟩, by rw [HL.out], by rw [HL.out]; exact (HO8.out.set5 (by omega)).mono (by omega), below_set5 HB8.out (by omega)⟩
        ·
          have HL : Hid (Z = (t2, true)) := Lib.hid (HNE.out (by first | rfl | trivial) (by first | rfl | trivial) (by first | exact HNF.out | trivial) (by first | rfl | trivial))
          obtain ⟨⟨y0, y1, y2, y3, y4⟩, -⟩ := five N6
          obtain ⟨⟨RR0, RR1, RR2, RR3, RR4⟩, r0, r1, r2, r3, r4⟩ := five HR6.out
          go_wp2
          refine bodyPost_ret (v := .tuple #[.agg #[.int .i64 k1, .slice D5 z c5, .slice D2 n2 c2, .string p1, .string q1], .bool true]) (by simp [results, Tryz.results16, go_sem, r0, r1, r2, r3, r4, RR0, RR1, RR2, RR3, RR4, y0, y1, y2, y3, y4]) rfl ?_
          exact ⟨⟨k1, .slice D5 z c5, .slice D2 n2 c2, p1, q1⟩, by rw [HL.out], by rw [HL.out]; exact (HT6.out.set5 (by omega)).mono (by omega), below_set5 HB6.out (by omega)⟩
set_option maxRecDepth 100000 in
set_option maxHeartbeats 8000000 in
theorem sNarrow_any (v : TyV) (t : Ty) (u : Value) (r : List Rg) (w : World) (h : HasTy w v t) (hc : CapN v.vn) (hk : NilTy v) (hs : TySz t) (h1 : t.rg.length ≤ 1048576) (h2 : t.nm.length ≤ 1048576) (hr : HasG w u r) (hr1 : r.length ≤ 1048576) :
    Calls Tryz.prog 14 #[v.val, u] w fun e w' => ∃ v' : TyV, e = .returned (.tuple #[v'.val, .bool (narrT t r).2]) ∧ OwnTy w.heap.size w' v' (narrT t r).1 ∧ Below w.heap.size w w' := by
  have HCP := Lib.hid (fun W (hb : Below w.heap.size w W) => sCopy_any v t W (h.below hb) hk h1 h2)
  have HTY := Lib.hid (fun W (hb : Below w.heap.size w W) => sIsTy_any v t W (h.below hb) hs)
  have HAR := Lib.hid (fun W (hb : Below w.heap.size w W) => sAre_any u r W (HasR.below hr hb))
  have HMT := Lib.hid (fun (a1 : areB t.rg = true) (a2 : areB r = true) W (hb : Below w.heap.size w W) => sMeet_any v.vr u t.rg r W (HasR.below h.rg hb) (HasR.below hr hb) (by have := are_len a1; omega) hr1 (mul36 (are_len a1) (are_len a2)))
  have HIS := Lib.hid (fun v2 W (h2 : HasTy W v2 (narT t r)) => sIsTy_any v2 (narT t r) W h2 hs)
  have HMA := Lib.hid (may_are (t := t))
  have HNA := Lib.hid (@narr_a t r)
  have HNB := Lib.hid (@narr_b t r)
  have HNC := Lib.hid (@narr_c t r)
  have HND := Lib.hid (@narr_d t r)
  have HNE := Lib.hid (@narr_e t r)
  have HNO : Hid (nothB t r = (decide ((meetS t.rg r).length = 0) && decide (0 < t.rg.length + r.length))) := Lib.hid rfl
  have HT2 : Hid (narT t r = { t with rg := meetS t.rg r }) := Lib.hid rfl
  have HMB : Hid (mayB t = (isTyB t && (decide (t.k = 1) || decide (t.k = 2)))) := Lib.hid rfl
  obtain ⟨F, d, rfl, -⟩ := id hr
  obtain ⟨A, c, h3, -⟩ := id h.rg
  obtain ⟨A', c', h4, -⟩ := id h.nm
  obtain ⟨Z, hZ⟩ : ∃ Z, Z = narrT t r := ⟨_, rfl⟩
  obtain ⟨a, ha⟩ : ∃ a, a = mayB t := ⟨_, rfl⟩
  obtain ⟨b, hb⟩ : ∃ b, b = areB r := ⟨_, rfl⟩
  obtain ⟨f, hf⟩ : ∃ f, f = isTyB (narT t r) := ⟨_, rfl⟩
  obtain ⟨t2, ht2⟩ : ∃ t2, t2 = narT t r := ⟨_, rfl⟩
  obtain ⟨M, hM⟩ : ∃ M, M = meetS t.rg r := ⟨_, rfl⟩
  obtain ⟨no, hno⟩ : ∃ no, no = nothB t r := ⟨_, rfl⟩
  rw [← hZ] at HNA HNB HNC HND HNE ⊢
  rw [← ha] at HNA HNE HMA HMB
  rw [← hb] at HNB HNE HAR HMT
  rw [← hno] at HNC HNE HNO
  rw [← hM] at HMT HT2 HNO
  rw [← ht2] at HND HNE HIS HT2 hf
  rw [← hf] at HND HNE HIS
  obtain ⟨k, rg, nm, pt, ph⟩ := t
  obtain ⟨k', vr, vn, pt', ph'⟩ := v
  obtain ⟨rfl, hg, hn, rfl, rfl⟩ := h
  clear hZ ha hb hf ht2 hM hno
  dsimp only at *
  subst h3 h4
  generalize r.length = q at *
  generalize hgn : rg.length = n at *
  generalize hnm : nm.length = m at *
  have HB0 := Lib.hid (Below.refl w.heap.size w)
  clear hr hg hn hc hk hs
  go_enter Tryz.func14, Tryz.ntmps14
  go_wp2_with fail
  refine (HCP.out _ (below_al (below_al HB0.out (.cells #[.int .i64 k', .slice A n c, .slice A' m c', .string pt', .string ph'] 31)) (.cells #[.int .i64 0, .slice none 0 0, .slice none 0 0, .string ⟨#[]⟩, .string ⟨#[]⟩] 31))).mono ?_
  rintro e w1 ⟨v1, rfl, hown, hb1⟩
  have HB1 := Lib.hid (below_step (below_al (below_al HB0.out (.cells #[.int .i64 k', .slice A n c, .slice A' m c', .string pt', .string ph'] 31)) (.cells #[.int .i64 0, .slice none 0 0, .slice none 0 0, .string ⟨#[]⟩, .string ⟨#[]⟩] 31)) hb1)
  have R1 : TyBox w1 (w.heap.size + 1) 0 (.slice none 0 0) (.slice none 0 0) ⟨#[]⟩ ⟨#[]⟩ := (hb1.block _ (by simp)).trans (heap_alloc_new' _ _ (by simp))
  have A1 : TyBox w1 w.heap.size k' (.slice A n c) (.slice A' m c') pt' ph' := (hb1.block _ (by simp; omega)).trans (by rw [Below.heap_alloc _ _ _ (by simp)]; exact heap_alloc_new' _ _ rfl)
  have hz1 : w.heap.size + 2 ≤ w1.heap.size := by have := hb1.size; simpa using this
  have hz2 : w.heap.size < w1.heap.size := by omega
  have hz3 : w.heap.size + 1 < w1.heap.size := by omega
  have HO := Lib.hid (hown.mono (B' := w.heap.size + 2) (by simp))
  have HOW' : Hid (∀ j, TyV.own v1 j → j < w1.heap.size) := Lib.hid fun j hj => (hown.lt hj).2
  obtain ⟨D1, n1, c1, g1⟩ : ∃ A n c, v1.vr = .slice A n c := by obtain ⟨A, c, hv, _⟩ := RowR.hasG hown.rg; exact ⟨A, _, c, hv⟩
  obtain ⟨D2, n2, c2, g2⟩ : ∃ A n c, v1.vn = .slice A n c := by obtain ⟨A, c, hv, _⟩ := Row.has hown.nm; exact ⟨A, _, c, hv⟩
  have g3 : v1.k = k' := hown.k
  have g4 : v1.pt = pt' := hown.pt
  have g5 : v1.ph = ph' := hown.ph
  have HCN := Lib.hid hown.nm.capN
  obtain ⟨k1, vr1, vn1, p1, q1⟩ := v1
  dsimp only at g1 g2 g3 g4 g5 HCN
  subst g1 g2 g3 g4 g5
  have HOW := HOW'
  have HH : Hid (∀ W, Below (w1.alloc (.cells #[.int .i64 k1, .slice D1 n1 c1, .slice D2 n2 c2, .string p1, .string q1] 31)).heap.size (w1.alloc (.cells #[.int .i64 k1, .slice D1 n1 c1, .slice D2 n2 c2, .string p1, .string q1] 31)) W →
      TyBox W w.heap.size k1 (.slice A n c) (.slice A' m c') p1 q1 ∧ TyBox W (w.heap.size + 1) 0 (.slice none 0 0) (.slice none 0 0) ⟨#[]⟩ ⟨#[]⟩ ∧ TyBox W w1.heap.size k1 (.slice D1 n1 c1) (.slice D2 n2 c2) p1 q1 ∧ OwnTy (w.heap.size + 2) W ⟨k1, .slice D1 n1 c1, .slice D2 n2 c2, p1, q1⟩ ⟨k1, rg, nm, p1, q1⟩ ∧ Below w.heap.size w W) := Lib.hid fun W hb =>
    ⟨(A1.below (below_al (Below.refl _ _) _)).below hb, (R1.below (below_al (Below.refl _ _) _)).below hb, TyBox.below (heap_alloc_new w1 _) hb, (HO.out.below (below_al (Below.refl _ _) _)).below hb, below_step (below_al HB1.out _) hb⟩
  obtain ⟨⟨x0, x1, x2, x3, x4⟩, -⟩ := five A1
  have HR1 := Lib.hid R1
  have HO1 := Lib.hid HO.out
  clear hown hb1 R1 A1 HO
  have HOLT : Hid (∀ j, TyV.own ⟨k1, .slice D1 n1 c1, .slice D2 n2 c2, p1, q1⟩ j → j ≠ w1.heap.size) := Lib.hid (by
    intro j hj e
    have := HOW.out j hj; omega)
  by_cases k1n : k1 = 1
  ·
    have e1 : (k1 != 1) = false := by simp [k1n]
    have e1' : (k1 == 1) = true := by simp [k1n]
    have HMB2 : Hid (a = isTyB ⟨k1, rg, nm, p1, q1⟩) := Lib.hid (by rw [HMB.out]; simp [k1n])
    have HTY2 := Lib.hid (HTY.out _ (HH.out _ (Below.refl _ _)).2.2.2.2)
    rw [← HMB2.out] at HTY2
    clear k1n HTY HMB HMB2
    go_wp2_with fail
    refine (HTY2.out).mono ?_
    rintro e w2 ⟨rfl, hb2⟩
    clear x0 x1 x2 x3 x4 HTY2
    cases a
    ·
      have HL : Hid (Z = (⟨k1, rg, nm, p1, q1⟩, false)) := Lib.hid (HNA.out (by first | rfl | trivial))
      obtain ⟨hA, hR, hN, hO, hW⟩ := HH.out _ hb2
      obtain ⟨⟨y0, y1, y2, y3, y4⟩, -⟩ := five hN
      obtain ⟨⟨RR0, RR1, RR2, RR3, RR4⟩, r0, r1, r2, r3, r4⟩ := five hR
      have HO2 := Lib.hid hO
      have HW := Lib.hid hW
      have hq1 : w.heap.size < w2.heap.size := hA.lt
      have hq2 : w.heap.size + 1 < w2.heap.size := hR.lt
      clear hA hR hN hO hW
      go_wp2
      refine bodyPost_ret (v := .tuple #[.agg #[.int .i64 k1, .slice D1 n1 c1, .slice D2 n2 c2, .string p1, .string q1], .bool false]) (by simp [results, Tryz.results14, go_sem, r0, r1, r2, r3, r4, RR0, RR1, RR2, RR3, RR4, y0, y1, y2, y3, y4]) rfl ?_
      exact ⟨⟨k1, .slice D1 n1 c1, .slice D2 n2 c2, p1, q1⟩, by rw [HL.out], by rw [HL.out]; exact (HO2.out.set5 (by omega)).mono (by omega), below_set5 HW.out (by omega)⟩
    ·
      go_wp2_with fail
      refine (HAR.out _ (HH.out _ hb2).2.2.2.2).mono ?_
      rintro e w3 ⟨rfl, hb3⟩
      cases b
      ·
        have HL : Hid (Z = (⟨k1, rg, nm, p1, q1⟩, false)) := Lib.hid (HNB.out (by first | rfl | trivial))
        obtain ⟨hA, hR, hN, hO, hW⟩ := HH.out _ (below_step hb2 hb3)
        obtain ⟨⟨y0, y1, y2, y3, y4⟩, -⟩ := five hN
        obtain ⟨⟨RR0, RR1, RR2, RR3, RR4⟩, r0, r1, r2, r3, r4⟩ := five hR
        have HO2 := Lib.hid hO
        have HW := Lib.hid hW
        have hq1 : w.heap.size < w3.heap.size := hA.lt
        have hq2 : w.heap.size + 1 < w3.heap.size := hR.lt
        clear hA hR hN hO hW
        go_wp2
        refine bodyPost_ret (v := .tuple #[.agg #[.int .i64 k1, .slice D1 n1 c1, .slice D2 n2 c2, .string p1, .string q1], .bool false]) (by simp [results, Tryz.results14, go_sem, r0, r1, r2, r3, r4, RR0, RR1, RR2, RR3, RR4, y0, y1, y2, y3, y4]) rfl ?_
        exact ⟨⟨k1, .slice D1 n1 c1, .slice D2 n2 c2, p1, q1⟩, by rw [HL.out], by rw [HL.out]; exact (HO2.out.set5 (by omega)).mono (by omega), below_set5 HW.out (by omega)⟩
      ·
        obtain ⟨hA, hR, hN, hO, hW⟩ := HH.out _ (below_step hb2 hb3)
        obtain ⟨⟨x0, x1, x2, x3, x4⟩, -⟩ := five hA
        have HF3 := Lib.hid (HH.out _ (below_step hb2 hb3))
        have hq1 : w1.heap.size < w3.heap.size := hN.lt
        clear hA hR hN hO hW
        go_wp2_with fail
        refine (HMT.out (HMA.out (by first | rfl | trivial)) (by first | rfl | trivial) _ HF3.out.2.2.2.2).mono ?_
        rintro e w4 ⟨vm, rfl, hm4, hb4⟩
        obtain ⟨D5, c5, rfl⟩ : ∃ A c, vm = .slice A M.length c := by obtain ⟨A, c, hv, _⟩ := RowR.hasG hm4; exact ⟨A, c, hv⟩
        have hz4 : w1.heap.size < w4.heap.size := Nat.lt_of_lt_of_le hq1 hb4.size
        have HA4 := Lib.hid (HF3.out.1.below hb4)
        have HR4 := Lib.hid (HF3.out.2.1.below hb4)
        have HN4 := Lib.hid (HF3.out.2.2.1.below hb4)
        have HO4 := Lib.hid (HF3.out.2.2.2.1.below hb4)
        have HB4 := Lib.hid (below_step HF3.out.2.2.2.2 hb4)
        have HM4 := Lib.hid hm4
        have hq3 : w1.heap.size < w3.heap.size := hq1
        have HLT := Lib.hid (And.intro (fun j (hj : (Value.slice D5 M.length c5).ownBlock = some j) => RowR.lt hm4 hj) (fun j (hj : TyV.own ⟨k1, .slice D1 n1 c1, .slice D2 n2 c2, p1, q1⟩ j) => HF3.out.2.2.2.1.lt hj))
        clear hm4 hb4 x0 x1 x2 x3 x4
        -- the world behind the store
        have hA5 : TyBox (w4.setCell ⟨w1.heap.size, 1, none⟩ (.slice D5 M.length c5)) w.heap.size k1 (.slice A n c) (.slice A' m c') p1 q1 := HA4.out.set (by omega)
        have hR5 : TyBox (w4.setCell ⟨w1.heap.size, 1, none⟩ (.slice D5 M.length c5)) (w.heap.size + 1) 0 (.slice none 0 0) (.slice none 0 0) ⟨#[]⟩ ⟨#[]⟩ := HR4.out.set (by omega)
        have hN5 : TyBox (w4.setCell ⟨w1.heap.size, 1, none⟩ (.slice D5 M.length c5)) w1.heap.size k1 (.slice D5 M.length c5) (.slice D2 n2 c2) p1 q1 := set5 HN4.out 1 (.slice D5 M.length c5)
        have HB5 : Hid (Below w.heap.size w (w4.setCell ⟨w1.heap.size, 1, none⟩ (.slice D5 M.length c5))) := Lib.hid (below_set' HB4.out (by omega))
        have HNEQ : Hid (∀ j, TyV.own ⟨k1, .slice D1 n1 c1, .slice D2 n2 c2, p1, q1⟩ j → j ≠ w1.heap.size) := Lib.hid fun j hj e => HOLT.out j hj e
        have HT5 : Hid (OwnTy (w.heap.size + 2) (w4.setCell ⟨w1.heap.size, 1, none⟩ (.slice D5 M.length c5)) ⟨k1, .slice D5 M.length c5, .slice D2 n2 c2, p1, q1⟩ t2) := Lib.hid (by
          rw [HT2.out]
          exact ⟨rfl, ownsRow_setCell_other (RowR.mono HM4.out (by omega)) (a := ⟨w1.heap.size, 1, none⟩) (fun e => by have := (HLT.out.1 _ e).1; simp at this; omega) _, ownsRow_setCell_other HO4.out.nm (a := ⟨w1.heap.size, 1, none⟩) (fun e => HNEQ.out _ (.inr e) rfl) _, rfl, rfl, fun j h1 h2 => by
            have a1 := (HLT.out.1 _ h1).1; have a2 := (HLT.out.2 j (.inr h2)).2; omega⟩)
        have HR5 := Lib.hid hR5
        have HN5 := Lib.hid hN5
        have hz5 : w1.heap.size < (w4.setCell ⟨w1.heap.size, 1, none⟩ (.slice D5 M.length c5)).heap.size := by simpa using hz4
        generalize M.length = z at *
        obtain ⟨⟨x0, x1, x2, x3, x4⟩, -⟩ := five HA4.out
        obtain ⟨⟨y0, y1, y2, y3, y4⟩, yf0, yf1, yf2, yf3, yf4⟩ := five HN4.out
        have hw : IntKind.i64.wrap ((n : Int) + (q : Int)) = (n : Int) + (q : Int) := by rw [IntKind.wrap_i64]; omega
        by_cases z0 : z = 0
        ·
          subst z0
          by_cases s0 : 0 < n + q
          ·
            have e1 : decide ((0 : Int) < (n : Int) + (q : Int)) = true := by simp; omega
            have e2 : (0 : Int) < (n : Int) + (q : Int) := by omega
            have HL : Hid (Z = (⟨k1, rg, nm, p1, q1⟩, false)) := Lib.hid (HNC.out (by rw [HNO.out]; simp; omega))
            go_wp2_with fail
            refine (HCP.out _ HB5.out).mono ?_
            rintro e w8 ⟨v8, rfl, hown8, hb8⟩
            obtain ⟨D3, n3, c3, g1⟩ : ∃ A n c, v8.vr = .slice A n c := by obtain ⟨A, c, hv, _⟩ := RowR.hasG hown8.rg; exact ⟨A, _, c, hv⟩
            obtain ⟨D4, n4, c4, g2⟩ : ∃ A n c, v8.vn = .slice A n c := by obtain ⟨A, c, hv, _⟩ := Row.has hown8.nm; exact ⟨A, _, c, hv⟩
            obtain ⟨k8, vr8, vn8, p8, q8⟩ := v8
            dsimp only at g1 g2
            subst g1 g2
            have R8 := HR5.out.below hb8
            have HB8 := Lib.hid (below_step HB5.out hb8)
            have hq8 : w.heap.size + 2 ≤ w8.heap.size := by have := hb8.size; (try simp at this); omega
            have HO8 := Lib.hid (hown8.mono (B' := w.heap.size + 2) (by (try simp); omega))
            obtain ⟨⟨RR0, RR1, RR2, RR3, RR4⟩, r0, r1, r2, r3, r4⟩ := five R8
            clear hown8 hb8 R8
            go_wp2
            refine bodyPost_ret (v := .tuple #[.agg #[.int .i64 k8, .slice D3 n3 c3, .slice D4 n4 c4, .string p8, .string q8], .bool false]) (by simp [results, Tryz.results14, go_sem, r0, r1, r2, r3, r4, RR0, RR1, RR2, RR3, RR4]) rfl ?_
            exact ⟨⟨k8, .slice D3 n3 c3, .slice D4 n4 c4, p8, q8⟩, by rw [HL.out], by rw [HL.out]; exact (HO8.out.set5 (by omega)).mono (by omega), below_set5 HB8.out (by omega)⟩
          ·
            have e1 : decide ((0 : Int) < (n : Int) + (q : Int)) = false := by simp; omega
            have e2 : ¬ (0 : Int) < (n : Int) + (q : Int) := by omega
            have HNF : Hid (no = false) := Lib.hid (by rw [HNO.out]; simp; omega)
            go_wp2_with fail
            refine (HIS.out ⟨k1, .slice D5 0 c5, .slice D2 n2 c2, p1, q1⟩ _ HT5.out.has).mono ?_
            rintro e w6 ⟨rfl, hb6⟩
            have HB6 := Lib.hid (below_step HB5.out hb6)
            have A6 := hA5.below hb6
            have HR6 := Lib.hid (HR5.out.below hb6)
            have N6 := HN5.out.below hb6
            have HT6 := Lib.hid (HT5.out.below hb6)
            have hq6 : w1.heap.size < w6.heap.size := N6.lt
            clear hb6 x0 x1 x2 x3 x4 y0 y1 y2 y3 y4 yf0 yf1 yf2 yf3 yf4
            cases f
            ·
              obtain ⟨⟨x0, x1, x2, x3, x4⟩, -⟩ := five A6
              have HL : Hid (Z = (⟨k1, rg, nm, p1, q1⟩, false)) := Lib.hid (HND.out (by first | rfl | trivial))
              go_wp2_with fail
              refine (HCP.out _ HB6.out).mono ?_
              rintro e w8 ⟨v8, rfl, hown8, hb8⟩
              obtain ⟨D3, n3, c3, g1⟩ : ∃ A n c, v8.vr = .slice A n c := by obtain ⟨A, c, hv, _⟩ := RowR.hasG hown8.rg; exact ⟨A, _, c, hv⟩
              obtain ⟨D4, n4, c4, g2⟩ : ∃ A n c, v8.vn = .slice A n c := by obtain ⟨A, c, hv, _⟩ := Row.has hown8.nm; exact ⟨A, _, c, hv⟩
              obtain ⟨k8, vr8, vn8, p8, q8⟩ := v8
              dsimp only at g1 g2
              subst g1 g2
              have R8 := HR6.out.below hb8
              have HB8 := Lib.hid (below_step HB6.out hb8)
              have hq8 : w.heap.size + 2 ≤ w8.heap.size := by have := hb8.size; (try simp at this); omega
              have HO8 := Lib.hid (hown8.mono (B' := w.heap.size + 2) (by (try simp); omega))
              obtain ⟨⟨RR0, RR1, RR2, RR3, RR4⟩, r0, r1, r2, r3, r4⟩ := five R8
              clear hown8 hb8 R8
              go_wp2
              refine bodyPost_ret (v := .tuple #[.agg #[.int .i64 k8, .slice D3 n3 c3, .slice D4 n4 c4, .string p8, .string q8], .bool false]) (by simp [results, Tryz.results14, go_sem, r0, r1, r2, r3, r4, RR0, RR1, RR2, RR3, RR4]) rfl ?_
              exact ⟨⟨k8, .slice D3 n3 c3, .slice D4 n4 c4, p8, q8⟩, by rw [HL.out], by rw [HL.out]; exact (HO8.out.set5 (by omega)).mono (by omega), below_set5 HB8.out (by omega)⟩
            ·
              have HL : Hid (Z = (t2, true)) := Lib.hid (HNE.out (by first | rfl | trivial) (by first | rfl | trivial) (by first | exact HNF.out | trivial) (by first | rfl | trivial))
              obtain ⟨⟨y0, y1, y2, y3, y4⟩, -⟩ := five N6
              obtain ⟨⟨RR0, RR1, RR2, RR3, RR4⟩, r0, r1, r2, r3, r4⟩ := five HR6.out
              go_wp2
              refine bodyPost_ret (v := .tuple #[.agg #[.int .i64 k1, .slice D5 0 c5, .slice D2 n2 c2, .string p1, .string q1], .bool true]) (by simp [results, Tryz.results14, go_sem, r0, r1, r2, r3, r4, RR0, RR1, RR2, RR3, RR4, y0, y1, y2, y3, y4]) rfl ?_
              exact ⟨⟨k1, .slice D5 0 c5, .slice D2 n2 c2, p1, q1⟩, by rw [HL.out], by rw [HL.out]; exact (HT6.out.set5 (by omega)).mono (by omega), below_set5 HB6.out (by omega)⟩
        ·
          have e0 : ((z : Int) == 0) = false := by simp; omega
          have HNF : Hid (no = false) := Lib.hid (by rw [HNO.out]; simp [z0])
          go_wp2_with fail
          refine (HIS.out ⟨k1, .slice D5 z c5, .slice D2 n2 c2, p1, q1⟩ _ HT5.out.has).mono ?_
          rintro e w6 ⟨rfl, hb6⟩
          have HB6 := Lib.hid (below_step HB5.out hb6)
          have A6 := hA5.below hb6
          have HR6 := Lib.hid (HR5.out.below hb6)
          have N6 := HN5.out.below hb6
          have HT6 := Lib.hid (HT5.out.below hb6)
          have hq6 : w1.heap.size < w6.heap.size := N6.lt
          clear hb6 x0 x1 x2 x3 x4 y0 y1 y2 y3 y4 yf0 yf1 yf2 yf3 yf4
          cases f
          ·
            obtain ⟨⟨x0, x1, x2, x3, x4⟩, -⟩ := five A6
            have HL : Hid (Z = (⟨k1, rg, nm, p1, q1⟩, false)) := Lib.hid (HND.out (by first | rfl | trivial))
            go_wp2_with fail
            refine (HCP.out _ HB6.out).mono ?_
            rintro e w8 ⟨v8, rfl, hown8, hb8⟩
            obtain ⟨D3, n3, c3, g1⟩ : ∃ A n c, v8.vr = .slice A n c := by obtain ⟨A, c, hv, _⟩ := RowR.hasG hown8.rg; exact ⟨A, _, c, hv⟩
            obtain ⟨D4, n4, c4, g2⟩ : ∃ A n c, v8.vn = .slice A n c := by obtain ⟨A, c, hv, _⟩ := Row.has hown8.nm; exact ⟨A, _, c, hv⟩
            obtain ⟨k8, vr8, vn8, p8, q8⟩ := v8
            dsimp only at g1 g2
            subst g1 g2
            have R8 := HR6.out.below hb8
            have HB8 := Lib.hid (below_step HB6.out hb8)
            have hq8 : w.heap.size + 2 ≤ w8.heap.size := by have := hb8.size; (try simp at this); omega
            have HO8 := Lib.hid (hown8.mono (B' := w.heap.size + 2) (by (try simp); omega))
            obtain ⟨⟨RR0, RR1, RR2, RR3, RR4⟩, r0, r1, r2, r3, r4⟩ := five R8
            clear hown8 hb8 R8
            go_wp2
            refine bodyPost_ret (v := .tuple #[.agg #[.int .i64 k8, .slice D3 n3 c3, .slice D4 n4 c4, .string p8, .string q8], .bool false]) (by simp [results, Tryz.results14, go_sem, r0, r1, r2, r3, r4, RR0, RR1, RR2, RR3, RR4]) rfl ?_
            exact ⟨⟨k8, .slice D3 n3 c3, .slice D4 n4 c4, p8, q8⟩, by rw [HL.out], by rw [HL.out]; exact (HO8.out.set5 (by omega)).mono (by omega), below_set5 HB8.out (by omega)⟩
          ·
            have HL : Hid (Z = (t2, true)) := Lib.hid (HNE.out (by first | rfl | trivial) (by first | rfl | trivial) (by first | exact HNF.out | trivial) (by first | rfl | trivial))
            obtain ⟨⟨y0, y1, y2, y3, y4⟩, -⟩ := five N6
            obtain ⟨⟨RR0, RR1, RR2, RR3, RR4⟩, r0, r1, r2, r3, r4⟩ := five HR6.out
            go_wp2
            refine bodyPost_ret (v := .tuple #[.agg #[.int .i64 k1, .slice D5 z c5, .slice D2 n2 c2, .string p1, .string q1], .bool true]) (by simp [results, Tryz.results14, go_sem, r0, r1, r2, r3, r4, RR0, RR1, RR2, RR3, RR4, y0, y1, y2, y3, y4]) rfl ?_
            exact ⟨⟨k1, .slice D5 z c5, .slice D2 n2 c2, p1, q1⟩, by rw [HL.out], by rw [HL.out]; exact (HT6.out.set5 (by omega)).mono (by omega), below_set5 HB6.out (by omega)⟩
  by_cases k2n : k1 = 2
  ·
    have e1 : (k1 != 1) = true := by simpa using k1n
    have e1' : (k1 == 1) = false := by simpa using k1n
    have e2 : (k1 != 2) = false := by simp [k2n]
    have e2' : (k1 == 2) = true := by simp [k2n]
    have HMB2 : Hid (a = isTyB ⟨k1, rg, nm, p1, q1⟩) := Lib.hid (by rw [HMB.out]; simp [k2n])
    have HTY2 := Lib.hid (HTY.out _ (HH.out _ (Below.refl _ _)).2.2.2.2)
    rw [← HMB2.out] at HTY2
    clear k1n k2n HTY HMB HMB2
    go_wp2_with fail
    refine (HTY2.out).mono ?_
    rintro e w2 ⟨rfl, hb2⟩
    clear x0 x1 x2 x3 x4 HTY2
    cases a
    ·
      have HL : Hid (Z = (⟨k1, rg, nm, p1, q1⟩, false)) := Lib.hid (HNA.out (by first | rfl | trivial))
      obtain ⟨hA, hR, hN, hO, hW⟩ := HH.out _ hb2
      obtain ⟨⟨y0, y1, y2, y3, y4⟩, -⟩ := five hN
      obtain ⟨⟨RR0, RR1, RR2, RR3, RR4⟩, r0, r1, r2, r3, r4⟩ := five hR
      have HO2 := Lib.hid hO
      have HW := Lib.hid hW
      have hq1 : w.heap.size < w2.heap.size := hA.lt
      have hq2 : w.heap.size + 1 < w2.heap.size := hR.lt
      clear hA hR hN hO hW
      go_wp2
      refine bodyPost_ret (v := .tuple #[.agg #[.int .i64 k1, .slice D1 n1 c1, .slice D2 n2 c2, .string p1, .string q1], .bool false]) (by simp [results, Tryz.results14, go_sem, r0, r1, r2, r3, r4, RR0, RR1, RR2, RR3, RR4, y0, y1, y2, y3, y4]) rfl ?_
      exact ⟨⟨k1, .slice D1 n1 c1, .slice D2 n2 c2, p1, q1⟩, by rw [HL.out], by rw [HL.out]; exact (HO2.out.set5 (by omega)).mono (by omega), below_set5 HW.out (by omega)⟩
    ·
      go_wp2_with fail
      refine (HAR.out _ (HH.out _ hb2).2.2.2.2).mono ?_
      rintro e w3 ⟨rfl, hb3⟩
      cases b
      ·
        have HL : Hid (Z = (⟨k1, rg, nm, p1, q1⟩, false)) := Lib.hid (HNB.out (by first | rfl | trivial))
        obtain ⟨hA, hR, hN, hO, hW⟩ := HH.out _ (below_step hb2 hb3)
        obtain ⟨⟨y0, y1, y2, y3, y4⟩, -⟩ := five hN
        obtain ⟨⟨RR0, RR1, RR2, RR3, RR4⟩, r0, r1, r2, r3, r4⟩ := five hR
        have HO2 := Lib.hid hO
        have HW := Lib.hid hW
        have hq1 : w.heap.size < w3.heap.size := hA.lt
        have hq2 : w.heap.size + 1 < w3.heap.size := hR.lt
        clear hA hR hN hO hW
        go_wp2
        refine bodyPost_ret (v := .tuple #[.agg #[.int .i64 k1, .slice D1 n1 c1, .slice D2 n2 c2, .string p1, .string q1], .bool false]) (by simp [results, Tryz.results14, go_sem, r0, r1, r2, r3, r4, RR0, RR1, RR2, RR3, RR4, y0, y1, y2, y3, y4]) rfl ?_
        exact ⟨⟨k1, .slice D1 n1 c1, .slice D2 n2 c2, p1, q1⟩, by rw [HL.out], by rw [HL.out]; exact (HO2.out.set5 (by omega)).mono (by omega), below_set5 HW.out (by omega)⟩
      ·
        obtain ⟨hA, hR, hN, hO, hW⟩ := HH.out _ (below_step hb2 hb3)
        obtain ⟨⟨x0, x1, x2, x3, x4⟩, -⟩ := five hA
        have HF3 := Lib.hid (HH.out _ (below_step hb2 hb3))
        have hq1 : w1.heap.size < w3.heap.size := hN.lt
        clear hA hR hN hO hW
        go_wp2_with fail
        refine (HMT.out (HMA.out (by first | rfl | trivial)) (by first | rfl | trivial) _ HF3.out.2.2.2.2).mono ?_
        rintro e w4 ⟨vm, rfl, hm4, hb4⟩
        obtain ⟨D5, c5, rfl⟩ : ∃ A c, vm = .slice A M.length c := by obtain ⟨A, c, hv, _⟩ := RowR.hasG hm4; exact ⟨A, c, hv⟩
        have hz4 : w1.heap.size < w4.heap.size := Nat.lt_of_lt_of_le hq1 hb4.size
        have HA4 := Lib.hid (HF3.out.1.below hb4)
        have HR4 := Lib.hid (HF3.out.2.1.below hb4)
        have HN4 := Lib.hid (HF3.out.2.2.1.below hb4)
        have HO4 := Lib.hid (HF3.out.2.2.2.1.below hb4)
        have HB4 := Lib.hid (below_step HF3.out.2.2.2.2 hb4)
        have HM4 := Lib.hid hm4
        have hq3 : w1.heap.size < w3.heap.size := hq1
        have HLT := Lib.hid (And.intro (fun j (hj : (Value.slice D5 M.length c5).ownBlock = some j) => RowR.lt hm4 hj) (fun j (hj : TyV.own ⟨k1, .slice D1 n1 c1, .slice D2 n2 c2, p1, q1⟩ j) => HF3.out.2.2.2.1.lt hj))
        clear hm4 hb4 x0 x1 x2 x3 x4
        -- the world behind the store
        have hA5 : TyBox (w4.setCell ⟨w1.heap.size, 1, none⟩ (.slice D5 M.length c5)) w.heap.size k1 (.slice A n c) (.slice A' m c') p1 q1 := HA4.out.set (by omega)
        have hR5 : TyBox (w4.setCell ⟨w1.heap.size, 1, none⟩ (.slice D5 M.length c5)) (w.heap.size + 1) 0 (.slice none 0 0) (.slice none 0 0) ⟨#[]⟩ ⟨#[]⟩ := HR4.out.set (by omega)
        have hN5 : TyBox (w4.setCell ⟨w1.heap.size, 1, none⟩ (.slice D5 M.length c5)) w1.heap.size k1 (.slice D5 M.length c5) (.slice D2 n2 c2) p1 q1 := set5 HN4.out 1 (.slice D5 M.length c5)
        have HB5 : Hid (Below w.heap.size w (w4.setCell ⟨w1.heap.size, 1, none⟩ (.slice D5 M.length c5))) := Lib.hid (below_set' HB4.out (by omega))
        have HNEQ : Hid (∀ j, TyV.own ⟨k1, .slice D1 n1 c1, .slice D2 n2 c2, p1, q1⟩ j → j ≠ w1.heap.size) := Lib.hid fun j hj e => HOLT.out j hj e
        have HT5 : Hid (OwnTy (w.heap.size + 2) (w4.setCell ⟨w1.heap.size, 1, none⟩ (.slice D5 M.length c5)) ⟨k1, .slice D5 M.length c5, .slice D2 n2 c2, p1, q1⟩ t2) := Lib.hid (by
          rw [HT2.out]
          exact ⟨rfl, ownsRow_setCell_other (RowR.mono HM4.out (by omega)) (a := ⟨w1.heap.size, 1, none⟩) (fun e => by have := (HLT.out.1 _ e).1; simp at this; omega) _, ownsRow_setCell_other HO4.out.nm (a := ⟨w1.heap.size, 1, none⟩) (fun e => HNEQ.out _ (.inr e) rfl) _, rfl, rfl, fun j h1 h2 => by
            have a1 := (HLT.out.1 _ h1).1; have a2 := (HLT.out.2 j (.inr h2)).2; omega⟩)
        have HR5 := Lib.hid hR5
        have HN5 := Lib.hid hN5
        have hz5 : w1.heap.size < (w4.setCell ⟨w1.heap.size, 1, none⟩ (.slice D5 M.length c5)).heap.size := by simpa using hz4
        generalize M.length = z at *
        obtain ⟨⟨x0, x1, x2, x3, x4⟩, -⟩ := five HA4.out
        obtain ⟨⟨y0, y1, y2, y3, y4⟩, yf0, yf1, yf2, yf3, yf4⟩ := five HN4.out
        have hw : IntKind.i64.wrap ((n : Int) + (q : Int)) = (n : Int) + (q : Int) := by rw [IntKind.wrap_i64]; omega
        by_cases z0 : z = 0
        ·
          subst z0
          by_cases s0 : 0 < n + q
          ·
            have e1 : decide ((0 : Int) < (n : Int) + (q : Int)) = true := by simp; omega
            have e2 : (0 : Int) < (n : Int) + (q : Int) := by omega
            have HL : Hid (Z = (⟨k1, rg, nm, p1, q1⟩, false)) := Lib.hid (HNC.out (by rw [HNO.out]; simp; omega))
            go_wp2_with fail
            refine (HCP.out _ HB5.out).mono ?_
            rintro e w8 ⟨v8, rfl, hown8, hb8⟩
            obtain ⟨D3, n3, c3, g1⟩ : ∃ A n c, v8.vr = .slice A n c := by obtain ⟨A, c, hv, _⟩ := RowR.hasG hown8.rg; exact ⟨A, _, c, hv⟩
            obtain ⟨D4, n4, c4, g2⟩ : ∃ A n c, v8.vn = .slice A n c := by obtain ⟨A, c, hv, _⟩ := Row.has hown8.nm; exact ⟨A, _, c, hv⟩
            obtain ⟨k8, vr8, vn8, p8, q8⟩ := v8
            dsimp only at g1 g2
            subst g1 g2
            have R8 := HR5.out.below hb8
            have HB8 := Lib.hid (below_step HB5.out hb8)
            have hq8 : w.heap.size + 2 ≤ w8.heap.size := by have := hb8.size; (try simp at this); omega
            have HO8 := Lib.hid (hown8.mono (B' := w.heap.size + 2) (by (try simp); omega))
            obtain ⟨⟨RR0, RR1, RR2, RR3, RR4⟩, r0, r1, r2, r3, r4⟩ := five R8
            clear hown8 hb8 R8
            go_wp2
            refine bodyPost_ret (v := .tuple #[.agg #[.int .i64 k8, .slice D3 n3 c3, .slice D4 n4 c4, .string p8, .string q8], .bool false]) (by simp [results, Tryz.results14, go_sem, r0, r1, r2, r3, r4, RR0, RR1, RR2, RR3, RR4]) rfl ?_
            exact ⟨⟨k8, .slice D3 n3 c3, .slice D4 n4 c4, p8, q8⟩, by rw [HL.out], by rw [HL.out]; exact (HO8.out.set5 (by omega)).mono (by omega), below_set5 HB8.out (by omega)⟩
          ·
            have e1 : decide ((0 : Int) < (n : Int) + (q : Int)) = false := by simp; omega
            have e2 : ¬ (0 : Int) < (n : Int) + (q : Int) := by omega
            have HNF : Hid (no = false) := Lib.hid (by rw [HNO.out]; simp; omega)
            go_wp2_with fail
            refine (HIS.out ⟨k1, .slice D5 0 c5, .slice D2 n2 c2, p1, q1⟩ _ HT5.out.has).mono ?_
            rintro e w6 ⟨rfl, hb6⟩
            have HB6 := Lib.hid (below_step HB5.out hb6)
            have A6 := hA5.below hb6
            have HR6 := Lib.hid (HR5.out.below hb6)
            have N6 := HN5.out.below hb6
            have HT6 := Lib.hid (HT5.out.below hb6)
            have hq6 : w1.heap.size < w6.heap.size := N6.lt
            clear hb6 x0 x1 x2 x3 x4 y0 y1 y2 y3 y4 yf0 yf1 yf2 yf3 yf4
            cases f
            ·
              obtain ⟨⟨x0, x1, x2, x3, x4⟩, -⟩ := five A6
              have HL : Hid (Z = (⟨k1, rg, nm, p1, q1⟩, false)) := Lib.hid (HND.out (by first | rfl | trivial))
              go_wp2_with fail
              refine (HCP.out _ HB6.out).mono ?_
              rintro e w8 ⟨v8, rfl, hown8, hb8⟩
              obtain ⟨D3, n3, c3, g1⟩ : ∃ A n c, v8.vr = .slice A n c := by obtain ⟨A, c, hv, _⟩ := RowR.hasG hown8.rg; exact ⟨A, _, c, hv⟩
              obtain ⟨D4, n4, c4, g2⟩ : ∃ A n c, v8.vn = .slice A n c := by obtain ⟨A, c, hv, _⟩ := Row.has hown8.nm; exact ⟨A, _, c, hv⟩
              obtain ⟨k8, vr8, vn8, p8, q8⟩ := v8
              dsimp only at g1 g2
              subst g1 g2
              have R8 := HR6.out.below hb8
              have HB8 := Lib.hid (below_step HB6.out hb8)
              have hq8 : w.heap.size + 2 ≤ w8.heap.size := by have := hb8.size; (try simp at this); omega
              have HO8 := Lib.hid (hown8.mono (B' := w.heap.size + 2) (by (try simp); omega))
              obtain ⟨⟨RR0, RR1, RR2, RR3, RR4⟩, r0, r1, r2, r3, r4⟩ := five R8
              clear hown8 hb8 R8
              go_wp2
              refine bodyPost_ret (v := .tuple #[.agg #[.int .i64 k8, .slice D3 n3 c3, .slice D4 n4 c4, .string p8, .string q8], .bool false]) (by simp [results, Tryz.results14, go_sem, r0, r1, r2, r3, r4, RR0, RR1, RR2, RR3, RR4]) rfl ?_
              exact ⟨⟨k8, .slice D3 n3 c3, .slice D4 n4 c4, p8, q8⟩, by rw [HL.out], by rw [HL.out]; exact (HO8.out.set5 (by omega)).mono (by omega), below_set5 HB8.out (by omega)⟩
            ·
              have HL : Hid (Z = (t2, true)) := Lib.hid (HNE.out (by first | rfl | trivial) (by first | rfl | trivial) (by first | exact HNF.out | trivial) (by first | rfl | trivial))
              obtain ⟨⟨y0, y1, y2, y3, y4⟩, -⟩ := five N6
              obtain ⟨⟨RR0, RR1, RR2, RR3, RR4⟩, r0, r1, r2, r3, r4⟩ := five HR6.out
              go_wp2
              refine bodyPost_ret (v := .tuple #[.agg #[.int .i64 k1, .slice D5 0 c5, .slice D2 n2 c2, .string p1, .string q1], .bool true]) (by simp [results, Tryz.results14, go_sem, r0, r1, r2, r3, r4, RR0, RR1, RR2, RR3, RR4, y0, y1, y2, y3, y4]) rfl ?_
              exact ⟨⟨k1, .slice D5 0 c5, .slice D2 n2 c2, p1, q1⟩, by rw [HL.out], by rw [HL.out]; exact (HT6.out.set5 (by omega)).mono (by omega), below_set5 HB6.out (by omega)⟩
        ·
          have e0 : ((z : Int) == 0) = false := by simp; omega
          have HNF : Hid (no = false) := Lib.hid (by rw [HNO.out]; simp [z0])
          go_wp2_with fail
          refine (HIS.out ⟨k1, .slice D5 z c5, .slice D2 n2 c2, p1, q1⟩ _ HT5.out.has).mono ?_
          rintro e w6 ⟨rfl, hb6⟩
          have HB6 := Lib.hid (below_step HB5.out hb6)
          have A6 := hA5.below hb6
          have HR6 := Lib.hid (HR5.out.below hb6)
          have N6 := HN5.out.below hb6
          have HT6 := Lib.hid (HT5.out.below hb6)
          have hq6 : w1.heap.size < w6.heap.size := N6.lt
          clear hb6 x0 x1 x2 x3 x4 y0 y1 y2 y3 y4 yf0 yf1 yf2 yf3 yf4
          cases f
          ·
            obtain ⟨⟨x0, x1, x2, x3, x4⟩, -⟩ := five A6
            have HL : Hid (Z = (⟨k1, rg, nm, p1, q1⟩, false)) := Lib.hid (HND.out (by first | rfl | trivial))
            go_wp2_with fail
            refine (HCP.out _ HB6.out).mono ?_
            rintro e w8 ⟨v8, rfl, hown8, hb8⟩
            obtain ⟨D3, n3, c3, g1⟩ : ∃ A n c, v8.vr = .slice A n c := by obtain ⟨A, c, hv, _⟩ := RowR.hasG hown8.rg; exact ⟨A, _, c, hv⟩
            obtain ⟨D4, n4, c4, g2⟩ : ∃ A n c, v8.vn = .slice A n c := by obtain ⟨A, c, hv, _⟩ := Row.has hown8.nm; exact ⟨A, _, c, hv⟩
            obtain ⟨k8, vr8, vn8, p8, q8⟩ := v8
            dsimp only at g1 g2
            subst g1 g2
            have R8 := HR6.out.below hb8
            have HB8 := Lib.hid (below_step HB6.out hb8)
            have hq8 : w.heap.size + 2 ≤ w8.heap.size := by have := hb8.size; (try simp at this); omega
            have HO8 := Lib.hid (hown8.mono (B' := w.heap.size + 2) (by (try simp); omega))
            obtain ⟨⟨RR0, RR1, RR2, RR3, RR4⟩, r0, r1, r2, r3, r4⟩ := five R8
            clear hown8 hb8 R8
            go_wp2
            refine bodyPost_ret (v := .tuple #[.agg #[.int .i64 k8, .slice D3 n3 c3, .slice D4 n4 c4, .string p8, .string q8], .bool false]) (by simp [results, Tryz.results14, go_sem, r0, r1, r2, r3, r4, RR0, RR1, RR2, RR3, RR4]) rfl ?_
            exact ⟨⟨k8, .slice D3 n3 c3, .slice D4 n4 c4, p8, q8⟩, by rw [HL.out], by rw [HL.out]; exact (HO8.out.set5 (by omega)).mono (by omega), below_set5 HB8.out (by omega)⟩
          ·
            have HL : Hid (Z = (t2, true)) := Lib.hid (HNE.out (by first | rfl | trivial) (by first | rfl | trivial) (by first | exact HNF.out | trivial) (by first | rfl | trivial))
            obtain ⟨⟨y0, y1, y2, y3, y4⟩, -⟩ := five N6
            obtain ⟨⟨RR0, RR1, RR2, RR3, RR4⟩, r0, r1, r2, r3, r4⟩ := five HR6.out
            go_wp2
            refine bodyPost_ret (v := .tuple #[.agg #[.int .i64 k1, .slice D5 z c5, .slice D2 n2 c2, .string p1, .string q1], .bool true]) (by simp [results, Tryz.results14, go_sem, r0, r1, r2, r3, r4, RR0, RR1, RR2, RR3, RR4, y0, y1, y2, y3, y4]) rfl ?_
            exact ⟨⟨k1, .slice D5 z c5, .slice D2 n2 c2, p1, q1⟩, by rw [HL.out], by rw [HL.out]; exact (HT6.out.set5 (by omega)).mono (by omega), below_set5 HB6.out (by omega)⟩
  have e1 : (k1 != 1) = true := by simpa using k1n
  have e2 : (k1 != 2) = true := by simpa using k2n
  have e1' : (k1 == 1) = false := by simpa using k1n
  have e2' : (k1 == 2) = false := by simpa using k2n
  have hb2 := Below.refl (w1.alloc (.cells #[.int .i64 k1, .slice D1 n1 c1, .slice D2 n2 c2, .string p1, .string q1] 31)).heap.size (w1.alloc (.cells #[.int .i64 k1, .slice D1 n1 c1, .slice D2 n2 c2, .string p1, .string q1] 31))
  have HL : Hid (Z = (⟨k1, rg, nm, p1, q1⟩, false)) := Lib.hid (HNA.out (by rw [HMB.out]; simp [k1n, k2n]))
  obtain ⟨hA, hR, hN, hO, hW⟩ := HH.out _ hb2
  obtain ⟨⟨RR0, RR1, RR2, RR3, RR4⟩, r0, r1, r2, r3, r4⟩ := five HR1.out
  have HO2 := Lib.hid hO
  have HW := Lib.hid hW
  have hq1 : w.heap.size < (w1.alloc (.cells #[.int .i64 k1, .slice D1 n1 c1, .slice D2 n2 c2, .string p1, .string q1] 31)).heap.size := hA.lt
  have hq2 : w.heap.size + 1 < (w1.alloc (.cells #[.int .i64 k1, .slice D1 n1 c1, .slice D2 n2 c2, .string p1, .string q1] 31)).heap.size := hR.lt
  clear hA hR hN hO hW
  go_wp2
  refine bodyPost_ret (v := .tuple #[.agg #[.int .i64 k1, .slice D1 n1 c1, .slice D2 n2 c2, .string p1, .string q1], .bool false]) (by simp [results, Tryz.results14, go_sem, alloc_cell', hz3, r0, r1, r2, r3, r4, RR0, RR1, RR2, RR3, RR4]) rfl ?_
  exact ⟨⟨k1, .slice D1 n1 c1, .slice D2 n2 c2, p1, q1⟩, by rw [HL.out], by rw [HL.out]; exact ((HO1.out.set5 (by omega)).below (below_al (Below.refl _ _) _)).mono (by omega), below_al (below_set5 HB1.out (by omega)) _⟩
end Go.Proofs.YtdmccopggmienaaGreat
