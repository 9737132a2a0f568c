/- MERGED for a claim: PpA PpB. -/
import Derived.Test.YtdfapkceanicoaaDoorParX
import Derived.Test.YtdfapkceanicoaaDoorPth
import Derived.RegionTactic
import Derived.ChangeAlike
set_option linter.unusedVariables false
set_option linter.unusedSimpArgs false
/- CHAPTER 7: PATHS READ FROM TOKENS: plain mathematics; impl's beginsWithName, readTest. -/
namespace Go.Proofs.YtdfapkceanicoaaDoor
open Go.RowKit NumP
set_option maxRecDepth 100000

def textAt : List Tok → ByteArray
  | [] => ⟨#[]⟩
  | x :: _ => x.t
/-- the test at the head: five tokens -/
def testT (l : List Tok) : Option Tst := if 5 ≤ l.length ∧ mkB l ⟨#[91]⟩ = true ∧ kB 1 (l.drop 1) = true ∧ mkB (l.drop 2) ⟨#[61]⟩ = true ∧ kB 3 (l.drop 3) = true ∧ mkB (l.drop 4) ⟨#[93]⟩ = true then some ⟨textAt (l.drop 1), textAt (l.drop 3)⟩ else none
def tsO (o : Option Tst) : Tst := o.getD ⟨⟨#[]⟩, ⟨#[]⟩⟩
def tsN (o : Option Tst) : Nat := if o.isSome = true then 5 else 0
theorem testT_none {l : List Tok} (h : ¬ (5 ≤ l.length ∧ mkB l ⟨#[91]⟩ = true ∧ kB 1 (l.drop 1) = true ∧ mkB (l.drop 2) ⟨#[61]⟩ = true ∧ kB 3 (l.drop 3) = true ∧ mkB (l.drop 4) ⟨#[93]⟩ = true)) : testT l = none := if_neg h
theorem iBn_any (A : Option Addr) (n cap : Nat) (l : List Tok) (w : World) (hv : HasT w (.slice A n cap) l) :
    Calls Tryd.prog 42 #[.slice A n cap] w fun e w' => e = .returned (.bool (kB 1 l)) ∧ w = w' := by
  obtain ⟨hn, hn'⟩ := hv.size
  match l with
  | [] =>
    obtain rfl : n = 0 := by simpa using hn
    clear hv hn
    go_enter Tryd.func42, Tryd.ntmps42
    go_wp2
    go_ret
    exact ⟨rfl, rfl⟩
  | x :: r =>
    obtain ⟨a, rfl, hn2, hb, c0, c1⟩ := hv.head
    have h0 : (0 : Int) < (n : Int) := by omega
    have hne : ((n : Int) == 0) = false := by simp; omega
    have hnn : ¬ n = 0 := by omega
    clear hn hn2 hv
    by_cases hk : x.k = 1
    · have hk' : (x.k == 1) = true := by simpa using hk
      rw [show kB 1 (x :: r) = true by simp [kB, hk]]
      clear hk
      go_enter Tryd.func42, Tryd.ntmps42
      go_wp2
      go_ret
      exact ⟨rfl, rfl⟩
    · have hk' : (x.k == 1) = false := by simpa using hk
      rw [show kB 1 (x :: r) = false by simp [kB, hk]]
      clear hk
      go_enter Tryd.func42, Tryd.ntmps42
      go_wp2
      go_ret
      exact ⟨rfl, rfl⟩
theorem HasT.cut5 {w : World} {a : Addr} {n cap : Nat} {l : List Tok} (h : HasT w (.slice (some a) (n + 5) (cap + 5)) l) (hc : n ≤ cap) :
    HasT w (.slice (some ⟨a.block, a.off + 3, none⟩) (n + 4) (cap + 4)) (l.drop 1) ∧ HasT w (.slice (some ⟨a.block, a.off + 6, none⟩) (n + 3) (cap + 3)) (l.drop 2) ∧ HasT w (.slice (some ⟨a.block, a.off + 12, none⟩) (n + 1) (cap + 1)) (l.drop 4) :=
  ⟨HasT.cutN h (k := 1) (by omega) (by omega) (by omega), HasT.cutN h (k := 2) (by omega) (by omega) (by omega), HasT.cutN h (k := 4) (by omega) (by omega) (by omega)⟩
theorem results_ct {P : Program} {fn : Func} {p u : Tmp} {ty : TypeId} (h : fn.results = #[.cell p ty, .tmp u]) (tmps : Array Value) (w : World) (a : Addr) (v : Value) (hp : tmps.getD p undef = .pointer (some a)) (hl : (loadVar ty a).run P w = .ok v w) :
    (results fn tmps).run P w = .ok (.tuple #[v, tmps.getD u undef]) w := by
  have hp' : tmps[p]?.getD undef = .pointer (some a) := by simpa using hp
  simp only [results, h]
  simp [Sem.run_bind, Result.andThen, hp', asAddr, hl]
theorem run_loadTst {W : World} {b : Nat} {x y : ByteArray} (h : W.heap[b]? = some (.cells #[.string x, .string y] 52 (0, 0))) : (loadVar 52 ⟨b, 0, none⟩).run Tryd.prog W = .ok (.agg #[.string x, .string y]) W :=
  run_loadVar_row W b _ 52 _ (0, 0) _ h Tryd.underlying52 rfl (by kernel_rfl)
theorem two_fro {w : World} {b : Nat} {a0 a1 : Value} {t : TypeId} (h : w.heap[b]? = some (.cells #[a0, a1] t (0, 0))) :
    (w.cell? ⟨b, 0, none⟩ = some a0 ∧ w.cell? ⟨b, 1, none⟩ = some a1) ∧ w.frozen? ⟨b, 0, none⟩ = false ∧ w.frozen? ⟨b, 1, none⟩ = false := by
  refine ⟨⟨?_, ?_⟩, frozen_of_row _ _ 0 _ _ h, frozen_of_row _ _ 1 _ _ h⟩
  · rw [cell_of_row _ b 0 _ _ _ h]; rfl
  · rw [cell_of_row _ b 1 _ _ _ h]; rfl
theorem tst_full {w : World} {b : Nat} {a0 a1 : Value} {t : TypeId} (h : w.heap[b]? = some (.cells #[a0, a1] t (0, 0))) (x y : Value) : ((w.setCell ⟨b, 0, none⟩ x).setCell ⟨b, 1, none⟩ y).heap[b]? = some (.cells #[x, y] t (0, 0)) :=
  heap_setCell_same _ b 1 _ t y (heap_setCell_same w b 0 _ t x h)
theorem below_set2 {W W' : World} {b : Nat} {u0 u1 : Value} (h : Below W.heap.size W W') (hb : W.heap.size ≤ b) : Below W.heap.size W ((W'.setCell ⟨b, 0, none⟩ u0).setCell ⟨b, 1, none⟩ u1) := (h.setCell (p := ⟨b, 0, none⟩) hb u0).setCell (p := ⟨b, 1, none⟩) hb u1
/-- what readTest hands back -/
def TsV (o : Option Tst) (e : Ending) : Prop := e = .returned (.tuple #[.agg #[.string (tsO o).n, .string (tsO o).v], .int .i64 (tsN o : Nat)])
theorem tsV_none : TsV none (.returned (.tuple #[.agg #[.string ⟨#[]⟩, .string ⟨#[]⟩], .int .i64 0])) := rfl
set_option maxHeartbeats 4000000 in
theorem iRdTest_any (A : Option Addr) (n cap : Nat) (l : List Tok) (w : World) (hv : HasT w (.slice A n cap) l) (hc : n ≤ cap) (hcm : cap ≤ 9223372036854775807) :
    Calls Tryd.prog 93 #[.slice A n cap] w fun e w' => TsV (testT l) e ∧ Below w.heap.size w w' := by
  obtain ⟨hn, hn'⟩ := hv.size
  have HB0 := Lib.hid (below_al (Below.refl w.heap.size w) (.cells #[.string ⟨#[]⟩, .string ⟨#[]⟩] 52))
  have HX0 : Hid ((w.alloc (.cells #[.string ⟨#[]⟩, .string ⟨#[]⟩] 52)).heap[w.heap.size]? = some (.cells #[.string ⟨#[]⟩, .string ⟨#[]⟩] 52 (0, 0))) := Lib.hid (heap_alloc_new w _)
  rcases Nat.lt_or_ge n 5 with h5 | h5
  · rw [testT_none (l := l) (by rw [← hn]; omega)]
    have h5i : (n : Int) < 5 := by omega
    clear hv hn
    go_enter Tryd.func93, Tryd.ntmps93
    go_wp2
    refine bodyPost_ret (results_ct rfl _ _ ⟨w.heap.size, 0, none⟩ _ rfl (run_loadTst HX0.out)) rfl ?_
    exact ⟨tsV_none, HB0.out⟩
  · obtain ⟨n, hnm⟩ : ∃ m, n = m + 5 := ⟨n - 5, by omega⟩
    obtain ⟨cap, hcm2⟩ : ∃ m, cap = m + 5 := ⟨cap - 5, by omega⟩
    rw [hnm, hcm2] at hv ⊢
    rw [hnm] at hn
    rw [hnm, hcm2] at hc
    obtain ⟨A', cap', hv', _, hcl⟩ := id hv
    injection hv' with e1 e2 e3
    subst e1
    clear e2 e3
    obtain ⟨a, rfl, hl1, hx1⟩ := HasT.tk hcl 1 (by omega)
    obtain ⟨a3, ha3, hl3, hx3⟩ := HasT.tk hcl 3 (by omega)
    cases ha3
    have h1t : textAt (l.drop 1) = (l[1]'(by omega)).t := by rw [List.drop_eq_getElem_cons (by omega)]; rfl
    have h3t : textAt (l.drop 3) = (l[3]'(by omega)).t := by rw [List.drop_eq_getElem_cons (by omega)]; rfl
    have h3k : kB 3 (l.drop 3) = decide ((l[3]'(by omega)).k = 3) := by rw [List.drop_eq_getElem_cons (by omega)]; rfl
    have HB1 := Lib.hid (fun W (hb : Below w.heap.size w W) => (iMk_any _ _ _ _ ⟨#[91]⟩ W (HasR.below hv hb)).mono fun e w' h => (⟨h.1, by rw [← h.2]; exact Below.refl _ _⟩ : _ ∧ Below W.heap.size W w'))
    have hcut := hv.cut5 (by omega)
    have HB2 := Lib.hid (fun W (hb : Below w.heap.size w W) => (iBn_any _ _ _ _ W (HasR.below hcut.1 hb)).mono fun e w' h => (⟨h.1, by rw [← h.2]; exact Below.refl _ _⟩ : _ ∧ Below W.heap.size W w'))
    have HB3 := Lib.hid (fun W (hb : Below w.heap.size w W) => (iMk_any _ _ _ _ ⟨#[61]⟩ W (HasR.below hcut.2.1 hb)).mono fun e w' h => (⟨h.1, by rw [← h.2]; exact Below.refl _ _⟩ : _ ∧ Below W.heap.size W w'))
    have HB5 := Lib.hid (fun W (hb : Below w.heap.size w W) => (iMk_any _ _ _ _ ⟨#[93]⟩ W (HasR.below hcut.2.2 hb)).mono fun e w' h => (⟨h.1, by rw [← h.2]; exact Below.refl _ _⟩ : _ ∧ Below W.heap.size W w'))
    obtain ⟨x1, hx1'⟩ : ∃ x, x = l[1]'(by omega) := ⟨_, rfl⟩
    obtain ⟨x3, hx3'⟩ : ∃ x, x = l[3]'(by omega) := ⟨_, rfl⟩
    rw [← hx1'] at h1t hx1
    rw [← hx3'] at h3t h3k hx3
    have HC : Hid (∀ W, Below w.heap.size w W → W.cell? ⟨a.block, a.off + 9, none⟩ = some (.int .i64 x3.k) ∧ W.cell? ⟨a.block, a.off + 9 + 1, none⟩ = some (.string x3.t) ∧ W.cell? ⟨a.block, a.off + 3 + 1, none⟩ = some (.string x1.t)) := Lib.hid fun W hb => by
      have h1 := hx1.below hb hl1
      have h3 := hx3.below hb hl3
      exact ⟨h3.1, h3.2.1, h1.2.1⟩
    have hcap : n ≤ cap := by omega
    have hn5 : ¬ ((n : Int) + 5 < 5) := by omega
    have hn9 : (3 : Int) < (n : Int) + 5 := by omega
    have HBW : Hid (a.block < w.heap.size) := Lib.hid hl1
    have hlen : 5 ≤ l.length := by omega
    obtain ⟨Z, hZ⟩ : ∃ Z, Z = testT l := ⟨_, rfl⟩
    obtain ⟨b1, hb1⟩ : ∃ b, b = mkB l ⟨#[91]⟩ := ⟨_, rfl⟩
    obtain ⟨b2, hb2⟩ : ∃ b, b = kB 1 (l.drop 1) := ⟨_, rfl⟩
    obtain ⟨b3, hb3⟩ : ∃ b, b = mkB (l.drop 2) ⟨#[61]⟩ := ⟨_, rfl⟩
    obtain ⟨b5, hb5⟩ : ∃ b, b = mkB (l.drop 4) ⟨#[93]⟩ := ⟨_, rfl⟩
    rw [← hb1] at HB1
    rw [← hb2] at HB2
    rw [← hb3] at HB3
    rw [← hb5] at HB5
    have HNO : Hid (¬ (b1 = true ∧ b2 = true ∧ b3 = true ∧ x3.k = 3 ∧ b5 = true) → Z = none) := Lib.hid fun h => by
      rw [hZ]
      exact testT_none fun hh => h ⟨hb1.trans hh.2.1, hb2.trans hh.2.2.1, hb3.trans hh.2.2.2.1, by have := hh.2.2.2.2.1; rw [h3k] at this; simpa using this, hb5.trans hh.2.2.2.2.2⟩
    have HYES : Hid (b1 = true ∧ b2 = true ∧ b3 = true ∧ x3.k = 3 ∧ b5 = true → Z = some ⟨x1.t, x3.t⟩) := Lib.hid fun h => by
      rw [hZ]
      refine (if_pos ⟨hlen, hb1.symm.trans h.1, hb2.symm.trans h.2.1, hb3.symm.trans h.2.2.1, by rw [h3k]; simpa using h.2.2.2.1, hb5.symm.trans h.2.2.2.2⟩).trans ?_
      rw [h1t, h3t]
    rw [← hZ]
    clear hv hn hcut hZ hb1 hb2 hb3 hb5 hcm hc h5 hn' hcl hl1 hl3 hx1 hx3 h1t h3t h3k hx1' hx3' hlen hnm hcm2
    rcases (show b1 = false ∨ (b1 = true ∧ b2 = false) ∨ (b1 = true ∧ b2 = true ∧ b3 = false) ∨ (b1 = true ∧ b2 = true ∧ b3 = true) from by cases b1 <;> cases b2 <;> cases b3 <;> simp) with rfl | ⟨rfl, rfl⟩ | ⟨rfl, rfl, rfl⟩ | ⟨rfl, rfl, rfl⟩
    · have HZ := Lib.hid (HNO.out (by simp))
      rw [HZ.out]
      clear HNO HYES HC
      go_enter Tryd.func93, Tryd.ntmps93
      go_wp2_with (first
        | (go_at_call 41; ((with_reducible refine (HB1.out _ HB0.out).mono ?_)); rintro e w1 ⟨rfl, hb⟩; have HW1 := Lib.hid (below_step HB0.out hb); have HX1 := Lib.hid ((hb.block _ (by simp)).trans HX0.out); clear hb; obtain ⟨⟨z0, z1⟩, u0, u1⟩ := two_fro HX1.out)
        | (go_at_call 42; ((with_reducible refine (HB2.out _ HW1.out).mono ?_)); rintro e w2 ⟨rfl, hb⟩; have HW2 := Lib.hid (below_step HW1.out hb); have HX2 := Lib.hid ((hb.block _ (Array.getElem?_eq_some_iff.1 HX1.out).1).trans HX1.out); clear hb z0 z1 u0 u1; obtain ⟨⟨z0, z1⟩, u0, u1⟩ := two_fro HX2.out)
        | (go_at_call 41; ((with_reducible refine (HB3.out _ HW2.out).mono ?_)); rintro e w3 ⟨rfl, hb⟩; have HW3 := Lib.hid (below_step HW2.out hb); have HX3 := Lib.hid ((hb.block _ (Array.getElem?_eq_some_iff.1 HX2.out).1).trans HX2.out); clear hb z0 z1 u0 u1; obtain ⟨⟨z0, z1⟩, u0, u1⟩ := two_fro HX3.out))
      refine bodyPost_ret (results_ct rfl _ _ ⟨w.heap.size, 0, none⟩ _ rfl (run_loadTst (tst_full HX1.out _ _))) rfl ?_
      exact ⟨tsV_none, below_set2 HW1.out (Nat.le_refl _)⟩
    · have HZ := Lib.hid (HNO.out (by simp))
      rw [HZ.out]
      clear HNO HYES HC
      go_enter Tryd.func93, Tryd.ntmps93
      go_wp2_with (first
        | (go_at_call 41; ((with_reducible refine (HB1.out _ HB0.out).mono ?_)); rintro e w1 ⟨rfl, hb⟩; have HW1 := Lib.hid (below_step HB0.out hb); have HX1 := Lib.hid ((hb.block _ (by simp)).trans HX0.out); clear hb; obtain ⟨⟨z0, z1⟩, u0, u1⟩ := two_fro HX1.out)
        | (go_at_call 42; ((with_reducible refine (HB2.out _ HW1.out).mono ?_)); rintro e w2 ⟨rfl, hb⟩; have HW2 := Lib.hid (below_step HW1.out hb); have HX2 := Lib.hid ((hb.block _ (Array.getElem?_eq_some_iff.1 HX1.out).1).trans HX1.out); clear hb z0 z1 u0 u1; obtain ⟨⟨z0, z1⟩, u0, u1⟩ := two_fro HX2.out)
        | (go_at_call 41; ((with_reducible refine (HB3.out _ HW2.out).mono ?_)); rintro e w3 ⟨rfl, hb⟩; have HW3 := Lib.hid (below_step HW2.out hb); have HX3 := Lib.hid ((hb.block _ (Array.getElem?_eq_some_iff.1 HX2.out).1).trans HX2.out); clear hb z0 z1 u0 u1; obtain ⟨⟨z0, z1⟩, u0, u1⟩ := two_fro HX3.out))
      refine bodyPost_ret (results_ct rfl _ _ ⟨w.heap.size, 0, none⟩ _ rfl (run_loadTst (tst_full HX2.out _ _))) rfl ?_
      exact ⟨tsV_none, below_set2 HW2.out (Nat.le_refl _)⟩
    · have HZ := Lib.hid (HNO.out (by simp))
      rw [HZ.out]
      clear HNO HYES HC
      go_enter Tryd.func93, Tryd.ntmps93
      go_wp2_with (first
        | (go_at_call 41; ((with_reducible refine (HB1.out _ HB0.out).mono ?_)); rintro e w1 ⟨rfl, hb⟩; have HW1 := Lib.hid (below_step HB0.out hb); have HX1 := Lib.hid ((hb.block _ (by simp)).trans HX0.out); clear hb; obtain ⟨⟨z0, z1⟩, u0, u1⟩ := two_fro HX1.out)
        | (go_at_call 42; ((with_reducible refine (HB2.out _ HW1.out).mono ?_)); rintro e w2 ⟨rfl, hb⟩; have HW2 := Lib.hid (below_step HW1.out hb); have HX2 := Lib.hid ((hb.block _ (Array.getElem?_eq_some_iff.1 HX1.out).1).trans HX1.out); clear hb z0 z1 u0 u1; obtain ⟨⟨z0, z1⟩, u0, u1⟩ := two_fro HX2.out)
        | (go_at_call 41; ((with_reducible refine (HB3.out _ HW2.out).mono ?_)); rintro e w3 ⟨rfl, hb⟩; have HW3 := Lib.hid (below_step HW2.out hb); have HX3 := Lib.hid ((hb.block _ (Array.getElem?_eq_some_iff.1 HX2.out).1).trans HX2.out); clear hb z0 z1 u0 u1; obtain ⟨⟨z0, z1⟩, u0, u1⟩ := two_fro HX3.out))
      refine bodyPost_ret (results_ct rfl _ _ ⟨w.heap.size, 0, none⟩ _ rfl (run_loadTst (tst_full HX3.out _ _))) rfl ?_
      exact ⟨tsV_none, below_set2 HW3.out (Nat.le_refl _)⟩
    · by_cases hk : x3.k = 3
      · have hk' : (x3.k != 3) = false := by simpa using hk
        cases b5
        · have HZ := Lib.hid (HNO.out (by simp))
          rw [HZ.out]
          clear HNO HYES hk
          go_enter Tryd.func93, Tryd.ntmps93
          go_wp2_with (first
            | (go_at_call 41; ((with_reducible refine (HB1.out _ HB0.out).mono ?_)); rintro e w1 ⟨rfl, hb⟩; have HW1 := Lib.hid (below_step HB0.out hb); have HX1 := Lib.hid ((hb.block _ (by simp)).trans HX0.out); clear hb; obtain ⟨⟨z0, z1⟩, u0, u1⟩ := two_fro HX1.out)
            | (go_at_call 42; ((with_reducible refine (HB2.out _ HW1.out).mono ?_)); rintro e w2 ⟨rfl, hb⟩; have HW2 := Lib.hid (below_step HW1.out hb); have HX2 := Lib.hid ((hb.block _ (Array.getElem?_eq_some_iff.1 HX1.out).1).trans HX1.out); clear hb z0 z1 u0 u1; obtain ⟨⟨z0, z1⟩, u0, u1⟩ := two_fro HX2.out)
            | (go_at_call 41; ((with_reducible refine (HB3.out _ HW2.out).mono ?_)); rintro e w3 ⟨rfl, hb⟩; have HW3 := Lib.hid (below_step HW2.out hb); have HX3 := Lib.hid ((hb.block _ (Array.getElem?_eq_some_iff.1 HX2.out).1).trans HX2.out); clear hb z0 z1 u0 u1; obtain ⟨⟨z0, z1⟩, u0, u1⟩ := two_fro HX3.out; obtain ⟨c0, c1, c2⟩ := HC.out _ HW3.out)
            | (go_at_call 41; ((with_reducible refine (HB5.out _ HW3.out).mono ?_)); rintro e w4 ⟨rfl, hb⟩; have HW4 := Lib.hid (below_step HW3.out hb); have HX4 := Lib.hid ((hb.block _ (Array.getElem?_eq_some_iff.1 HX3.out).1).trans HX3.out); clear hb z0 z1 u0 u1 c0 c1 c2; obtain ⟨⟨z0, z1⟩, u0, u1⟩ := two_fro HX4.out; obtain ⟨c0, c1, c2⟩ := HC.out _ HW4.out))
          refine bodyPost_ret (results_ct rfl _ _ ⟨w.heap.size, 0, none⟩ _ rfl (run_loadTst (tst_full HX4.out _ _))) rfl ?_
          exact ⟨tsV_none, below_set2 HW4.out (Nat.le_refl _)⟩
        · have HZ := Lib.hid (HYES.out ⟨rfl, rfl, rfl, hk, rfl⟩)
          rw [HZ.out]
          clear HNO HYES hk
          go_enter Tryd.func93, Tryd.ntmps93
          go_wp2_with (first
            | (go_at_call 41; ((with_reducible refine (HB1.out _ HB0.out).mono ?_)); rintro e w1 ⟨rfl, hb⟩; have HW1 := Lib.hid (below_step HB0.out hb); have HX1 := Lib.hid ((hb.block _ (by simp)).trans HX0.out); clear hb; obtain ⟨⟨z0, z1⟩, u0, u1⟩ := two_fro HX1.out)
            | (go_at_call 42; ((with_reducible refine (HB2.out _ HW1.out).mono ?_)); rintro e w2 ⟨rfl, hb⟩; have HW2 := Lib.hid (below_step HW1.out hb); have HX2 := Lib.hid ((hb.block _ (Array.getElem?_eq_some_iff.1 HX1.out).1).trans HX1.out); clear hb z0 z1 u0 u1; obtain ⟨⟨z0, z1⟩, u0, u1⟩ := two_fro HX2.out)
            | (go_at_call 41; ((with_reducible refine (HB3.out _ HW2.out).mono ?_)); rintro e w3 ⟨rfl, hb⟩; have HW3 := Lib.hid (below_step HW2.out hb); have HX3 := Lib.hid ((hb.block _ (Array.getElem?_eq_some_iff.1 HX2.out).1).trans HX2.out); clear hb z0 z1 u0 u1; obtain ⟨⟨z0, z1⟩, u0, u1⟩ := two_fro HX3.out; obtain ⟨c0, c1, c2⟩ := HC.out _ HW3.out)
            | (go_at_call 41; ((with_reducible refine (HB5.out _ HW3.out).mono ?_)); rintro e w4 ⟨rfl, hb⟩; have HW4 := Lib.hid (below_step HW3.out hb); have HX4 := Lib.hid ((hb.block _ (Array.getElem?_eq_some_iff.1 HX3.out).1).trans HX3.out); clear hb z0 z1 u0 u1 c0 c1 c2; obtain ⟨⟨z0, z1⟩, u0, u1⟩ := two_fro HX4.out; obtain ⟨c0, c1, c2⟩ := HC.out _ HW4.out))
          go_region
          go_wp2
          refine bodyPost_ret (results_ct rfl _ _ ⟨w.heap.size, 0, none⟩ _ rfl (run_loadTst (tst_full (by first | exact HX4.out | exact HX4.out) _ _))) rfl ?_
          exact ⟨rfl, (below_set2 HW4.out (Nat.le_refl _)).drew⟩
      · have hk' : (x3.k != 3) = true := by simpa using hk
        have HZ := Lib.hid (HNO.out (by simp [hk]))
        rw [HZ.out]
        clear HNO HYES hk
        go_enter Tryd.func93, Tryd.ntmps93
        go_wp2_with (first
          | (go_at_call 41; ((with_reducible refine (HB1.out _ HB0.out).mono ?_)); rintro e w1 ⟨rfl, hb⟩; have HW1 := Lib.hid (below_step HB0.out hb); have HX1 := Lib.hid ((hb.block _ (by simp)).trans HX0.out); clear hb; obtain ⟨⟨z0, z1⟩, u0, u1⟩ := two_fro HX1.out)
          | (go_at_call 42; ((with_reducible refine (HB2.out _ HW1.out).mono ?_)); rintro e w2 ⟨rfl, hb⟩; have HW2 := Lib.hid (below_step HW1.out hb); have HX2 := Lib.hid ((hb.block _ (Array.getElem?_eq_some_iff.1 HX1.out).1).trans HX1.out); clear hb z0 z1 u0 u1; obtain ⟨⟨z0, z1⟩, u0, u1⟩ := two_fro HX2.out)
          | (go_at_call 41; ((with_reducible refine (HB3.out _ HW2.out).mono ?_)); rintro e w3 ⟨rfl, hb⟩; have HW3 := Lib.hid (below_step HW2.out hb); have HX3 := Lib.hid ((hb.block _ (Array.getElem?_eq_some_iff.1 HX2.out).1).trans HX2.out); clear hb z0 z1 u0 u1; obtain ⟨⟨z0, z1⟩, u0, u1⟩ := two_fro HX3.out; obtain ⟨c0, c1, c2⟩ := HC.out _ HW3.out))
        refine bodyPost_ret (results_ct rfl _ _ ⟨w.heap.size, 0, none⟩ _ rfl (run_loadTst (tst_full HX3.out _ _))) rfl ?_
        exact ⟨tsV_none, below_set2 HW3.out (Nat.le_refl _)⟩
end Go.Proofs.YtdfapkceanicoaaDoor

/- CHAPTER 7: PATHS READ FROM TOKENS: plain mathematics: tests, a step, the parts, from a place on. No function is spoken of. -/
namespace Go.Proofs.YtdfapkceanicoaaDoor
open NumP

def lbrT : ByteArray := ⟨#[91]⟩
def slashT : ByteArray := ⟨#[47]⟩
/-- tests from a place on: none, or the tests and where they end -/
inductive Tsr (T : List Tok) : Nat → List Tst → Option (List Tst × Nat) → Prop
  | bad {p : Nat} {L : List Tst} : mkB (T.drop p) lbrT = true → testT (T.drop p) = none → Tsr T p L none
  | stop {p : Nat} {L : List Tst} : mkB (T.drop p) lbrT = false → Tsr T p L (some (L, p))
  | more {p : Nat} {L : List Tst} {t : Tst} {res : Option (List Tst × Nat)} : testT (T.drop p) = some t → Tsr T (p + 5) (L ++ [t]) res → Tsr T p L res
theorem testT_inv {l : List Tok} {t : Tst} (h : testT l = some t) : 5 ≤ l.length ∧ mkB l lbrT = true ∧ kB 1 (l.drop 1) = true ∧ mkB (l.drop 2) ⟨#[61]⟩ = true ∧ kB 3 (l.drop 3) = true ∧ mkB (l.drop 4) ⟨#[93]⟩ = true ∧ t = ⟨textAt (l.drop 1), textAt (l.drop 3)⟩ := by
  unfold testT at h
  split at h
  · rename_i hh
    cases h
    exact ⟨hh.1, hh.2.1, hh.2.2.1, hh.2.2.2.1, hh.2.2.2.2.1, hh.2.2.2.2.2, rfl⟩
  · cases h
theorem Tsr.exists (T : List Tok) : ∀ (n p : Nat) (L : List Tst), T.length - p ≤ n → ∃ res, Tsr T p L res
  | n, p, L, hn => by
    cases hm : mkB (T.drop p) lbrT with
    | false => exact ⟨_, .stop hm⟩
    | true =>
      cases h : testT (T.drop p) with
      | none => exact ⟨none, .bad hm h⟩
      | some t =>
        have hk := (testT_inv h).1
        rw [List.length_drop] at hk
        match n, hn with
        | 0, hn => omega
        | n + 1, hn =>
          obtain ⟨res, hr⟩ := Tsr.exists T n (p + 5) (L ++ [t]) (by omega)
          exact ⟨res, .more h hr⟩
theorem Tsr.inv {T : List Tok} {p : Nat} {L : List Tst} {res : Option (List Tst × Nat)} (h : Tsr T p L res) :
    (mkB (T.drop p) lbrT = false ∧ res = some (L, p)) ∨ (mkB (T.drop p) lbrT = true ∧ testT (T.drop p) = none ∧ res = none) ∨ ∃ t, mkB (T.drop p) lbrT = true ∧ testT (T.drop p) = some t ∧ Tsr T (p + 5) (L ++ [t]) res := by
  cases h with
  | bad h1 h2 => exact .inr (.inl ⟨h1, h2, rfl⟩)
  | stop h1 => exact .inl ⟨h1, rfl⟩
  | more h1 h2 => exact .inr (.inr ⟨_, (testT_inv h1).2.1, h1, h2⟩)
theorem Tsr.bd {T : List Tok} {p : Nat} {L : List Tst} {res : Option (List Tst × Nat)} (h : Tsr T p L res) (hp : p ≤ T.length) (hL : L.length ≤ p) : ∀ Q n, res = some (Q, n) → p ≤ n ∧ n ≤ T.length ∧ Q.length ≤ n := by
  induction h with
  | bad h1 h2 => intro Q n e; cases e
  | stop h1 => intro Q n e; cases e; exact ⟨Nat.le_refl _, hp, hL⟩
  | @more p L t res h1 h2 ih =>
    intro Q n e
    have hk := (testT_inv h1).1
    rw [List.length_drop] at hk
    have := ih (by omega) (by rw [List.length_append]; simp; omega) Q n e
    exact ⟨by omega, this.2.1, this.2.2⟩
/-- a step from a place on: none, or the step and where it ends -/
inductive Spr (T : List Tok) (p : Nat) : Option (Stp × Nat) → Prop
  | no : kB 1 (T.drop p) = false → Spr T p none
  | bad : kB 1 (T.drop p) = true → Tsr T (p + 1) [] none → Spr T p none
  | yes {L : List Tst} {q : Nat} : kB 1 (T.drop p) = true → Tsr T (p + 1) [] (some (L, q)) → Spr T p (some (⟨textAt (T.drop p), L⟩, q))
theorem kB_len {T : List Tok} {p : Nat} {k : Int} (h : kB k (T.drop p) = true) : p < T.length := by
  rcases Nat.lt_or_ge p T.length with h1 | h1
  · exact h1
  · rw [List.drop_eq_nil_of_le h1] at h; cases h
theorem Spr.exists (T : List Tok) (p : Nat) : ∃ res, Spr T p res := by
  cases h : kB 1 (T.drop p) with
  | false => exact ⟨none, .no h⟩
  | true =>
    obtain ⟨res, hr⟩ := Tsr.exists T T.length (p + 1) [] (by omega)
    match res, hr with
    | none, hr => exact ⟨none, .bad h hr⟩
    | some (L, q), hr => exact ⟨_, .yes h hr⟩
theorem Spr.bd {T : List Tok} {p q : Nat} {s : Stp} (h : Spr T p (some (s, q))) : p < q ∧ q ≤ T.length := by
  cases h with
  | yes h1 h2 =>
    have hp := kB_len h1
    have := h2.bd (by omega) (Nat.zero_le _) _ _ rfl
    exact ⟨by omega, this.2.1⟩
theorem drop_at {T : List Tok} (d p : Nat) : (T.drop d).drop p = T.drop (p + d) := by rw [List.drop_drop, Nat.add_comm]
theorem Tsr.shift {T : List Tok} (d : Nat) {p : Nat} {L : List Tst} {res : Option (List Tst × Nat)} (h : Tsr (T.drop d) p L res) : Tsr T (p + d) L (res.map fun q => (q.1, q.2 + d)) := by
  induction h with
  | bad h1 h2 => rw [drop_at] at h1 h2; exact .bad h1 h2
  | stop h1 => rw [drop_at] at h1; exact .stop h1
  | more h1 h2 ih =>
    rw [drop_at] at h1
    refine .more h1 ?_
    rw [Nat.add_right_comm]; exact ih
theorem Spr.shift {T : List Tok} (d : Nat) {p : Nat} {res : Option (Stp × Nat)} (h : Spr (T.drop d) p res) : Spr T (p + d) (res.map fun q => (q.1, q.2 + d)) := by
  cases h with
  | no h1 => rw [drop_at] at h1; exact .no h1
  | bad h1 h2 =>
    rw [drop_at] at h1
    have := h2.shift d
    rw [Nat.add_right_comm] at this
    exact .bad h1 this
  | yes h1 h2 =>
    have := h2.shift d
    rw [Nat.add_right_comm] at this
    rw [drop_at] at h1 ⊢
    exact .yes h1 this
/-- '..' may stand here -/
def upB (T : List Tok) (root : Bool) (st : List Stp) (p : Nat) : Bool := mkB (T.drop p) dotsT && !root && st.isEmpty
/-- the parts of a path from a place on: none, or how many '..', the steps, where they end -/
inductive Ptr (T : List Tok) (root : Bool) : Nat → Nat → List Stp → Option (Nat × List Stp × Nat) → Prop
  | upStop {p u : Nat} {st : List Stp} : upB T root st p = true → mkB (T.drop (p + 1)) slashT = false → Ptr T root p u st (some (u + 1, st, p + 1))
  | upMore {p u : Nat} {st : List Stp} {res : Option (Nat × List Stp × Nat)} : upB T root st p = true → mkB (T.drop (p + 1)) slashT = true → Ptr T root (p + 2) (u + 1) st res → Ptr T root p u st res
  | bad {p u : Nat} {st : List Stp} : upB T root st p = false → Spr T p none → Ptr T root p u st none
  | stStop {p u q : Nat} {st : List Stp} {s : Stp} : upB T root st p = false → Spr T p (some (s, q)) → mkB (T.drop q) slashT = false → Ptr T root p u st (some (u, st ++ [s], q))
  | stMore {p u q : Nat} {st : List Stp} {s : Stp} {res : Option (Nat × List Stp × Nat)} : upB T root st p = false → Spr T p (some (s, q)) → mkB (T.drop q) slashT = true → Ptr T root (q + 1) u (st ++ [s]) res → Ptr T root p u st res
theorem Ptr.exists (T : List Tok) (root : Bool) : ∀ (n p u : Nat) (st : List Stp), T.length - p ≤ n → ∃ res, Ptr T root p u st res
  | n, p, u, st, hn => by
    cases hu : upB T root st p with
    | true =>
      cases hm : mkB (T.drop (p + 1)) slashT with
      | false => exact ⟨_, .upStop hu hm⟩
      | true =>
        have := mkB_len hm
        match n, hn with
        | 0, hn => omega
        | n + 1, hn =>
          obtain ⟨res, hr⟩ := Ptr.exists T root n (p + 2) (u + 1) st (by omega)
          exact ⟨res, .upMore hu hm hr⟩
    | false =>
      obtain ⟨res, hr⟩ := Spr.exists T p
      match res, hr with
      | none, hr => exact ⟨none, .bad hu hr⟩
      | some (s, q), hr =>
        have hq := hr.bd
        cases hm : mkB (T.drop q) slashT with
        | false => exact ⟨_, .stStop hu hr hm⟩
        | true =>
          match n, hn with
          | 0, hn => omega
          | n + 1, hn =>
            obtain ⟨res, hr2⟩ := Ptr.exists T root n (q + 1) u (st ++ [s]) (by omega)
            exact ⟨res, .stMore hu hr hm hr2⟩
/-- a path at the head of tokens: none, or the path and how many tokens it takes -/
inductive Pthr (T : List Tok) : Option (Pth × Nat) → Prop
  | root : mkB T slashT = true → kB 1 (T.drop 1) = false → Pthr T (some (⟨true, 0, []⟩, 1))
  | rootMore {u q : Nat} {st : List Stp} : mkB T slashT = true → kB 1 (T.drop 1) = true → Ptr T true 1 0 [] (some (u, st, q)) → Pthr T (some (⟨true, (u : Int), st⟩, q))
  | rootBad : mkB T slashT = true → kB 1 (T.drop 1) = true → Ptr T true 1 0 [] none → Pthr T none
  | some {u q : Nat} {st : List Stp} : mkB T slashT = false → Ptr T false 0 0 [] (some (u, st, q)) → Pthr T (some (⟨false, (u : Int), st⟩, q))
  | none : mkB T slashT = false → Ptr T false 0 0 [] none → Pthr T none
theorem Pthr.exists (T : List Tok) : ∃ res, Pthr T res := by
  cases h : mkB T slashT with
  | true =>
    cases h2 : kB 1 (T.drop 1) with
    | false => exact ⟨_, .root h h2⟩
    | true =>
      obtain ⟨res, hr⟩ := Ptr.exists T true T.length 1 0 [] (by omega)
      match res, hr with
      | Option.none, hr => exact ⟨_, .rootBad h h2 hr⟩
      | Option.some (u, st, q), hr => exact ⟨_, .rootMore h h2 hr⟩
  | false =>
    obtain ⟨res, hr⟩ := Ptr.exists T false T.length 0 0 [] (by omega)
    match res, hr with
    | Option.none, hr => exact ⟨_, .none h hr⟩
    | Option.some (u, st, q), hr => exact ⟨_, .some h hr⟩
end Go.Proofs.YtdfapkceanicoaaDoor
