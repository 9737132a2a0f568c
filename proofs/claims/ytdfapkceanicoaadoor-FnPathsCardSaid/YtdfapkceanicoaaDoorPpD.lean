/- MERGED for a claim: PpC PpD. -/
import Derived.Test.YtdfapkceanicoaaDoorPpB
import Derived.Test.YtdfapkceanicoaaDoorPthB
import Derived.Deep.RegionLaw
set_option linter.unusedVariables false
set_option linter.unusedSimpArgs false
/- CHAPTER 7: PATHS READ FROM TOKENS: tests appended to a list of tests. -/
namespace Go.Proofs.YtdfapkceanicoaaDoor
open Go.RowKit NumP

/-- 'own = append(own, x)' of a test; own may be nil -/
theorem wpList_tst_append {ops : Array Oper} {rest : List Oper} {o : Oper} {a : Act} {Q : Exit → Act → World → Prop} {w : World} (hgd : o.guard = none) (s x : Operand)
    (ho : o.op = .call { callee := .builtin .append, args := #[s, x], argTypes := #[48, 48] })
    (B n : Nat) (v : Value) (L : List Tst) (hs : a.eval s = v) (hrow : RowX B w v L) (hn : n = L.length)
    (y : Tst) (b : Nat) (hx : a.eval x = .slice (some ⟨b, 0, none⟩) 1 1) (hb : b = w.heap.size) (hlen : n + 1 ≤ 549755813888) (hbase : B ≤ w.heap.size) (q : Nat) (hq : q = n + 1)
    (h : ∀ g' c'' w', RowX B w' (.slice (some ⟨g', 0, none⟩) q c'') (L ++ [y]) → (w.alloc (.cells #[.string y.n, .string y.v] 52)).grownBy w' v.ownBlock → wpList Tryd.prog ops Q rest (a.put o.dst (.slice (some ⟨g', 0, none⟩) q c'')) w') :
    wpList Tryd.prog ops Q (o :: rest) a (w.alloc (.cells #[.string y.n, .string y.v] 52)) := by
  obtain ⟨i0, hi, hz0, hz1, hz2⟩ := info_parts infoTst
  subst hq hn hb
  refine wpList_append_own _ hgd s x 48 ho B 52 i0 (.agg #[.string ⟨#[]⟩, .string ⟨#[]⟩]) 2 32 Tryd.underlying48 hi hz0 hz1 hz2 rfl (by decide) _ L.length (L.flatMap Tst.enc) hs (RowR.alloc hrow _) ⟨w.heap.size, 0, none⟩ 1 1 (Tst.enc y) hx rfl (World.news_of_block (heap_alloc_new w _)) (by simp [Tst.enc, Value.oneCell']) (by unfold maxLen; omega) (by omega) (Nat.le_trans hbase ((Below.refl 0 w).alloc (Nat.zero_le _) _).size) ?_
  intro v' w' h2 h3 h4
  rcases h2.2 with ⟨h5, _⟩ | ⟨g', cap', cur, h5, _⟩
  · exact absurd (h4.1 h5).2 (by simp)
  · subst h5
    refine h g' cap' w' ?_ h3
    unfold RowX RowR
    rw [List.length_append, List.flatMap_append, List.flatMap_singleton]
    exact h2
def stS (o : Option (Stp × Nat)) : Stp := match o with | some (s, _) => s | none => ⟨⟨#[]⟩, []⟩
def stN (o : Option (Stp × Nat)) : Nat := match o with | some (_, q) => q | none => 0
/-- what readStep hands back -/
def SpV (B : Nat) (o : Option (Stp × Nat)) (e : Ending) (w' : World) : Prop := ∃ tv : Value, e = .returned (.tuple #[.agg #[.string (stS o).n, tv], .int .i64 (stN o : Nat)]) ∧ RowX B w' tv (stS o).ts
theorem rowX_nil (B : Nat) (w : World) : RowX B w (.slice none 0 0) [] := ⟨by simp, .inl ⟨rfl, rfl⟩⟩
theorem run_loadStp {W : World} {b : Nat} {x y : Value} (hx : x.oneCell' = true) (hy : y.oneCell' = true) (h : W.heap[b]? = some (.cells #[x, y] 50 (0, 0))) : (loadVar 50 ⟨b, 0, none⟩).run Tryd.prog W = .ok (.agg #[x, y]) W :=
  run_loadVar_row W b _ 50 _ (0, 0) _ h Tryd.underlying50 rfl (by kernel_rfl)
theorem set2_other {w : World} {b c : Nat} {u0 u1 : Value} (h : b ≠ c) : ((w.setCell ⟨c, 0, none⟩ u0).setCell ⟨c, 1, none⟩ u1).heap[b]? = w.heap[b]? := (Below.heap_setCell _ ⟨c, 1, none⟩ u1 b h).trans (Below.heap_setCell _ ⟨c, 0, none⟩ u0 b h)
set_option maxRecDepth 100000 in
set_option maxHeartbeats 4000000 in
theorem iRdStep_any (A : Option Addr) (n cap : Nat) (T : List Tok) (w : World) (hv : HasT w (.slice A n cap) T) (hc : n ≤ cap) (hcm : cap ≤ 9223372036854775807) (hnb : n ≤ 1048576) (res : Option (Stp × Nat)) (hr : Spr T 0 res) :
    Calls Tryd.prog 72 #[.slice A n cap] w fun e w' => SpV w.heap.size res e w' ∧ Below w.heap.size w w' := by
  obtain ⟨hn, hn'⟩ := hv.size
  have HB0 := Lib.hid (below_al (Below.refl w.heap.size w) (.cells #[.string ⟨#[]⟩, .slice none 0 0] 50))
  have HX0 : Hid ((w.alloc (.cells #[.string ⟨#[]⟩, .slice none 0 0] 50)).heap[w.heap.size]? = some (.cells #[.string ⟨#[]⟩, .slice none 0 0] 50 (0, 0))) := Lib.hid (heap_alloc_new w _)
  have HBN := Lib.hid (fun W (hb : Below w.heap.size w W) => (iBn_any _ _ _ _ W (HasR.below hv hb)).mono fun e w' h => (⟨h.1, by rw [← h.2]; exact Below.refl _ _⟩ : _ ∧ Below W.heap.size W w'))
  have hcase : (kB 1 T = false ∧ res = none) ∨ (kB 1 T = true ∧ ∃ r2, Tsr T 1 [] r2 ∧ ((r2 = none ∧ res = none) ∨ ∃ L q, r2 = some (L, q) ∧ res = some (⟨textAt T, L⟩, q))) := by
    cases hr with
    | no h => exact .inl ⟨h, rfl⟩
    | bad h1 h2 => exact .inr ⟨h1, none, h2, .inl ⟨rfl, rfl⟩⟩
    | yes h1 h2 => exact .inr ⟨h1, _, h2, .inr ⟨_, _, rfl, rfl⟩⟩
  clear hr
  rcases hcase with ⟨h1, rfl⟩ | ⟨h1, r2, hts, hres⟩
  · rw [h1] at HBN
    clear hv hn h1 hc
    go_enter Tryd.func72, Tryd.ntmps72
    go_wp2_with fail
    refine (HBN.out _ HB0.out).mono ?_
    rintro e w1 ⟨rfl, hb⟩
    have HW1 := Lib.hid (below_step HB0.out hb)
    have HX1 := Lib.hid ((hb.block _ (by simp)).trans HX0.out)
    clear hb
    obtain ⟨⟨z0, z1⟩, u0, u1⟩ := two_fro HX1.out
    go_wp2
    refine bodyPost_ret (results_ct rfl _ _ ⟨w.heap.size, 0, none⟩ _ rfl (run_loadStp rfl rfl (tst_full HX1.out _ _))) rfl ?_
    exact ⟨⟨.slice none 0 0, rfl, rowX_nil _ _⟩, below_set2 HW1.out (Nat.le_refl _)⟩
  · obtain ⟨x, r, hT, hxk⟩ := kB_inv h1
    have hlen : 1 ≤ n := by rw [hn, hT]; simp
    have htx : textAt T = x.t := by rw [hT]; rfl
    obtain ⟨A', cap', hv', _, hcl⟩ := id hv
    injection hv' with e1 e2 e3
    subst e1
    obtain ⟨a, rfl, hab, hx0⟩ := HasT.tk hcl 0 (by omega)
    clear e2 e3 hcl
    have HC1 : Hid (∀ W, Below w.heap.size w W → W.cell? ⟨a.block, a.off + 1, none⟩ = some (.string x.t)) := Lib.hid fun W hb => by
      have := (hx0.below hb hab).2.1
      have e : T[0]'(by omega) = x := by subst hT; rfl
      simpa [e, Addr.add] using this
    have HTS := Lib.hid hts
    have HCUT := Lib.hid (fun q (hq : q ≤ n) (e : ¬ cap = q) W (hb : Below w.heap.size w W) => (show HasT W (.slice (some (a.add (q * 3))) (n - q) (cap - q)) (T.drop q) from HasT.cutN (HasR.below hv hb) hc hq e))
    have HCE := Lib.hid (fun q (hq : q ≤ n) (e : cap = q) W (hb : Below w.heap.size w W) => (show HasT W (.slice (some a) (n - q) (cap - q)) (T.drop q) from HasT.cutE (HasR.below hv hb) hc hq e))
    have HN := Lib.hid hn
    have HRES := Lib.hid hres
    have HNB := Lib.hid hnb
    have HABW := Lib.hid hab
    have hn0 : (0 : Int) < (n : Int) := by omega
    rw [h1] at HBN
    clear hv hn hts hres hnb h1 hT hx0 hxk hab hlen
    go_enter Tryd.func72, Tryd.ntmps72
    go_wp2_with fail
    refine (HBN.out _ HB0.out).mono ?_
    rintro e w1 ⟨rfl, hb⟩
    have HW1 := Lib.hid (below_step HB0.out hb)
    have HX1 := Lib.hid ((hb.block _ (by simp)).trans HX0.out)
    have hz1 : w.heap.size < w1.heap.size := (Array.getElem?_eq_some_iff.1 HX1.out).1
    clear hb
    have c1 := HC1.out _ HW1.out
    go_wp2
    go_loopw [5] (fun v wr => ∃ (q : Nat) (tv : Value) (L : List Tst), Hid (1 ≤ q ∧ q ≤ n ∧ L.length ≤ q) ∧ v = .int .i64 q ∧ Hid (Tsr T q L r2) ∧ Hid (wr.heap[w1.heap.size]? = some (.cells #[.string x.t, tv] 50 (0, 0))) ∧ Hid (wr.heap[w.heap.size]? = some (.cells #[.string ⟨#[]⟩, .slice none 0 0] 50 (0, 0))) ∧ Hid (RowX (w1.heap.size + 1) wr tv L) ∧ Hid (Below w.heap.size w wr)) (fun v _ => n - (intOf v).toNat)
    case atStart => exact ⟨1, .slice none 0 0, [], Lib.hid ⟨by omega, by omega, by simp⟩, rfl, HTS, Lib.hid (heap_alloc_new w1 _), Lib.hid (((below_al (Below.refl _ _) _).block _ hz1).trans HX1.out), Lib.hid (rowX_nil _ _), Lib.hid (below_al HW1.out _)⟩
    case round =>
      clear c1
      obtain ⟨q, tv, L, HQ, rfl, HT, HS, HZ, HR, HB⟩ := hrel
      obtain ⟨At, nt, ct, rfl⟩ : ∃ A n c, tv = .slice A n c := by obtain ⟨A, c, hv, _⟩ := RowR.hasX HR.out; exact ⟨A, _, c, hv⟩
      have hq1 : (0 : Int) ≤ (q : Int) := by omega
      have hqn : q ≤ n := HQ.out.2.1
      have hzr : w1.heap.size < wr.heap.size := (Array.getElem?_eq_some_iff.1 HS.out).1
      obtain ⟨⟨z0, z1⟩, u0, u1⟩ := two_fro HZ.out
      obtain ⟨⟨s0, s1⟩, v0, v1⟩ := two_fro HS.out
      by_cases hqc : cap = q
      · have hnq : n = q := by omega
        have HE := Lib.hid (HCE.out q hqn hqc)
        obtain rfl := hnq
        obtain rfl := hqc
        have hd : T.drop cap = [] := List.drop_eq_nil_of_le (by rw [← HN.out]; exact Nat.le_refl _)
        rw [hd] at HE
        rcases HT.out.inv with ⟨hm, hr2⟩ | ⟨hm, _, _⟩ | ⟨t, hm, _, _⟩
        rotate_left
        · rw [hd] at hm; cases hm
        · rw [hd] at hm; cases hm
        have HMK := Lib.hid (fun W (hb : Below w.heap.size w W) => (iMk_any _ _ _ _ lbrT W (HE.out W hb)).mono fun e w' h => (⟨h.1, by rw [← h.2]; exact Below.refl _ _⟩ : _ ∧ Below W.heap.size W w'))
        rw [Nat.sub_self] at HMK
        have HFIN : Hid (res = some (⟨x.t, L⟩, cap)) := Lib.hid (by
          rcases HRES.out with ⟨h, _⟩ | ⟨L', q', h, h'⟩
          · rw [hr2] at h; cases h
          · rw [hr2] at h; cases h; rw [h', htx])
        clear hm hr2 hd
        go_wp2_with fail
        refine (HMK.out _ HB.out).mono ?_
        rintro e w2 ⟨rfl, hb⟩
        have HB2 := Lib.hid (below_step HB.out hb)
        have HS2 := Lib.hid ((hb.block _ hzr).trans HS.out)
        have HZ2 := Lib.hid ((hb.block _ (by omega)).trans HZ.out)
        have HR2 := Lib.hid (RowR.below HR.out hb)
        have hzr2 : w1.heap.size < w2.heap.size := (Array.getElem?_eq_some_iff.1 HS2.out).1
        clear hb z0 z1 u0 u1 s0 s1 v0 v1
        obtain ⟨⟨z0, z1⟩, u0, u1⟩ := two_fro HZ2.out
        obtain ⟨⟨s0, s1⟩, v0, v1⟩ := two_fro HS2.out
        go_wp2
        refine bodyPost_ret (results_ct rfl _ _ ⟨w.heap.size, 0, none⟩ _ rfl (run_loadStp rfl rfl (tst_full HZ2.out _ _))) rfl ?_
        rw [HFIN.out]
        exact ⟨⟨.slice At nt ct, rfl, rowR_frame (RowR.mono HR2.out (by omega)) fun b hb => set2_other (by have := RowR.lt HR2.out hb; omega)⟩, below_set2 HB2.out (Nat.le_refl _)⟩
      · have HMK := Lib.hid (fun W (hb : Below w.heap.size w W) => (iMk_any _ _ _ _ lbrT W (HCUT.out q hqn hqc W hb)).mono fun e w' h => (⟨h.1, by rw [← h.2]; exact Below.refl _ _⟩ : _ ∧ Below W.heap.size W w'))
        have HRT := Lib.hid (fun W (hb : Below w.heap.size w W) => iRdTest_any _ _ _ _ W (HCUT.out q hqn hqc W hb) (by omega) (by omega))
        rcases HT.out.inv with ⟨hm, hr2⟩ | ⟨hm, ht, hr2⟩ | ⟨t, hm, ht, hr2⟩
        · rw [hm] at HMK
          have HFIN : Hid (res = some (⟨x.t, L⟩, q)) := Lib.hid (by
            rcases HRES.out with ⟨h, _⟩ | ⟨L', q', h, h'⟩
            · rw [hr2] at h; cases h
            · rw [hr2] at h; cases h; rw [h', htx])
          clear hm hr2
          go_wp2_with fail
          refine (HMK.out _ HB.out).mono ?_
          rintro e w2 ⟨rfl, hb⟩
          have HB2 := Lib.hid (below_step HB.out hb)
          have HS2 := Lib.hid ((hb.block _ hzr).trans HS.out)
          have HZ2 := Lib.hid ((hb.block _ (by omega)).trans HZ.out)
          have HR2 := Lib.hid (RowR.below HR.out hb)
          have hzr2 : w1.heap.size < w2.heap.size := (Array.getElem?_eq_some_iff.1 HS2.out).1
          clear hb z0 z1 u0 u1 s0 s1 v0 v1
          obtain ⟨⟨z0, z1⟩, u0, u1⟩ := two_fro HZ2.out
          obtain ⟨⟨s0, s1⟩, v0, v1⟩ := two_fro HS2.out
          go_wp2
          refine bodyPost_ret (results_ct rfl _ _ ⟨w.heap.size, 0, none⟩ _ rfl (run_loadStp rfl rfl (tst_full HZ2.out _ _))) rfl ?_
          rw [HFIN.out]
          exact ⟨⟨.slice At nt ct, rfl, rowR_frame (RowR.mono HR2.out (by omega)) fun b hb => set2_other (by have := RowR.lt HR2.out hb; omega)⟩, below_set2 HB2.out (Nat.le_refl _)⟩
        · rw [hm] at HMK
          rw [ht] at HRT
          have HFIN : Hid (res = none) := Lib.hid (by
            rcases HRES.out with ⟨_, h⟩ | ⟨L', q', h, h'⟩
            · exact h
            · rw [hr2] at h; cases h)
          clear hm hr2 ht
          go_wp2_with fail
          refine (HMK.out _ HB.out).mono ?_
          rintro e w2 ⟨rfl, hb⟩
          have HB2 := Lib.hid (below_step HB.out hb)
          have HS2 := Lib.hid ((hb.block _ hzr).trans HS.out)
          have HZ2 := Lib.hid ((hb.block _ (by omega)).trans HZ.out)
          have HR2 := Lib.hid (RowR.below HR.out hb)
          have hzr2 : w1.heap.size < w2.heap.size := (Array.getElem?_eq_some_iff.1 HS2.out).1
          clear hb z0 z1 u0 u1 s0 s1 v0 v1
          obtain ⟨⟨z0, z1⟩, u0, u1⟩ := two_fro HZ2.out
          obtain ⟨⟨s0, s1⟩, v0, v1⟩ := two_fro HS2.out
          go_wp2_with fail
          refine (HRT.out _ HB2.out).mono ?_
          rintro e w3 ⟨he, hb⟩
          obtain rfl : e = .returned (.tuple #[.agg #[.string ⟨#[]⟩, .string ⟨#[]⟩], .int .i64 0]) := he
          have HB3 := Lib.hid (below_step HB2.out hb)
          have HS3 := Lib.hid ((hb.block _ hzr2).trans HS2.out)
          have HZ3 := Lib.hid ((hb.block _ (by omega)).trans HZ2.out)
          have HR3 := Lib.hid (RowR.below HR2.out hb)
          have hzr3 : w1.heap.size < w3.heap.size := (Array.getElem?_eq_some_iff.1 HS3.out).1
          clear hb z0 z1 u0 u1 s0 s1 v0 v1
          obtain ⟨⟨z0, z1⟩, u0, u1⟩ := two_fro HZ3.out
          obtain ⟨⟨s0, s1⟩, v0, v1⟩ := two_fro HS3.out
          have HZ4 := Lib.hid (((below_al (Below.refl w3.heap.size w3) (.cells #[.string ⟨#[]⟩, .string ⟨#[]⟩] 52)).block _ (by omega)).trans HZ3.out)
          clear z0 z1 u0 u1
          obtain ⟨⟨z0, z1⟩, u0, u1⟩ := two_fro HZ4.out
          go_wp2
          refine bodyPost_ret (results_ct rfl _ _ ⟨w.heap.size, 0, none⟩ _ rfl (run_loadStp rfl rfl (tst_full HZ4.out _ _))) rfl ?_
          rw [HFIN.out]
          exact ⟨⟨.slice none 0 0, rfl, rowX_nil _ _⟩, below_set2 (below_al HB3.out _) (Nat.le_refl _)⟩
        · have hk5 := (testT_inv ht).1
          rw [List.length_drop, ← HN.out] at hk5
          have HNL : Hid (nt = L.length) := Lib.hid (by obtain ⟨A9, c9, hv9, _⟩ := RowR.hasX HR.out; injection hv9)
          have HTR := Lib.hid hr2
          rw [hm] at HMK
          rw [ht] at HRT
          clear hm hr2 ht
          go_wp2_with fail
          refine (HMK.out _ HB.out).mono ?_
          rintro e w2 ⟨rfl, hb⟩
          have HB2 := Lib.hid (below_step HB.out hb)
          have HS2 := Lib.hid ((hb.block _ hzr).trans HS.out)
          have HZ2 := Lib.hid ((hb.block _ (by omega)).trans HZ.out)
          have HR2 := Lib.hid (RowR.below HR.out hb)
          have hzr2 : w1.heap.size < w2.heap.size := (Array.getElem?_eq_some_iff.1 HS2.out).1
          clear hb z0 z1 u0 u1 s0 s1 v0 v1
          obtain ⟨⟨z0, z1⟩, u0, u1⟩ := two_fro HZ2.out
          obtain ⟨⟨s0, s1⟩, v0, v1⟩ := two_fro HS2.out
          go_wp2_with fail
          refine (HRT.out _ HB2.out).mono ?_
          rintro e w3 ⟨he, hb⟩
          obtain rfl : e = .returned (.tuple #[.agg #[.string t.n, .string t.v], .int .i64 5]) := he
          have HB3 := Lib.hid (below_step HB2.out hb)
          have HS3 := Lib.hid ((hb.block _ hzr2).trans HS2.out)
          have HZ3 := Lib.hid ((hb.block _ (by omega)).trans HZ2.out)
          have HR3 := Lib.hid (RowR.below HR2.out hb)
          have hzr3 : w1.heap.size < w3.heap.size := (Array.getElem?_eq_some_iff.1 HS3.out).1
          clear hb z0 z1 u0 u1 s0 s1 v0 v1
          obtain ⟨⟨z0, z1⟩, u0, u1⟩ := two_fro HZ3.out
          obtain ⟨⟨s0, s1⟩, v0, v1⟩ := two_fro HS3.out
          have HR4 := Lib.hid (RowR.alloc HR3.out (.cells #[.string t.n, .string t.v] 52))
          have hb4 := below_al (Below.refl w3.heap.size w3) (.cells #[.string t.n, .string t.v] 52)
          have HB4 := Lib.hid (below_al HB3.out (.cells #[.string t.n, .string t.v] 52))
          have HS4 := Lib.hid ((hb4.block _ hzr3).trans HS3.out)
          have HZ4 := Lib.hid ((hb4.block _ (by omega)).trans HZ3.out)
          have hlt : L.length + 1 ≤ 549755813888 := by have := HQ.out.2.2; have := HNB.out; omega
          have HLT : Hid (nt + 1 ≤ 549755813888) := Lib.hid (by rw [HNL.out]; exact hlt)
          clear hlt hb4
          go_wp2_with (at_builtin; refine wpList_tst_append rfl _ _ rfl (w1.heap.size + 1) nt (.slice At nt ct) L (by rfl) HR4.out HNL.out t (w3.heap.size + 1) (by rfl) (by simp) HLT.out (by simp; omega) (nt + 1) rfl ?_; intro g' c' w5 hrow5 hg5; have HR5 := Lib.hid hrow5; have hj : ∀ q, (Value.slice At nt ct).ownBlock = some q → w1.heap.size + 1 ≤ q := (fun q e => (RowR.lt HR4.out e).1); have HS5 := Lib.hid ((hg5.block _ (by simp; omega) (fun e => by have := hj _ e.symm; omega)).trans (((below_al (Below.refl _ _) _).block _ (by simp; omega)).trans HS4.out)); have HZ5 := Lib.hid ((hg5.block _ (by simp; omega) (fun e => by have := hj _ e.symm; omega)).trans (((below_al (Below.refl _ _) _).block _ (by simp; omega)).trans HZ4.out)); have HB5 := Lib.hid ((below_al HB4.out _).grown hg5 (below_al HB4.out _).size (fun q e => by have := hj _ e; omega)); clear hrow5 hg5 hj s0 s1 v0 v1; obtain ⟨⟨s0, s1⟩, v0, v1⟩ := two_fro HS5.out)
          go_roundw
          case rel => exact ⟨q + 5, .slice (some ⟨g', 0, none⟩) (nt + 1) c', L ++ [t], Lib.hid ⟨by omega, by omega, by rw [List.length_append]; have := HQ.out.2.2; simp; omega⟩, by go_num, HTR, Lib.hid (by rw [heap_setCell_same w5 w1.heap.size 1 _ _ _ HS5.out]; rfl), Lib.hid ((Below.heap_setCell w5 _ _ _ (by show w.heap.size ≠ w1.heap.size; omega)).trans HZ5.out), Lib.hid (rowR_frame HR5.out fun b hb => Below.heap_setCell w5 _ _ b (by have := RowR.lt HR5.out hb; show b ≠ w1.heap.size; omega)), Lib.hid (HB5.out.setCell (p := ⟨w1.heap.size, 1, none⟩) (by show w.heap.size ≤ w1.heap.size; omega) _)⟩
          case measure => simp [intOf]; omega
end Go.Proofs.YtdfapkceanicoaaDoor

/- CHAPTER 7: PATHS READ FROM TOKENS: a step, with its tests, appended to a list of steps in a region that draws its order. -/
namespace Go.Proofs.YtdfapkceanicoaaDoor
open Go.RowKit NumP

/-- 'own = append(own, x)' of a step at a step of a region that draws its order; own may be nil; where the new list lies -/
theorem step_stR_append {w : World} {ops : Array Oper} {o : Oper} {a : Act} {K : Act → World → Prop} {Q : Exit → Act → World → Prop} {E : Prop} (hgd : o.guard = none) (s x : Operand)
    (ho : o.op = .call { callee := .builtin .append, args := #[s, x], argTypes := #[24, 24] })
    (B n : Nat) (v : Value) (L : List StR) (hs : a.eval s = v) (hrow : RowT7 B w v L) (hn : n = L.length)
    (y : StR) (hy : y.tv.oneCell' = true) (ad : Addr) (c' : Nat) (hx : a.eval x = .slice (some ad) 1 c') (hnews : ∀ j u, (StR.enc y)[j]? = some u → w.cell? (ad.add j) = some u)
    (hlen : n + 1 ≤ 549755813888) (hbase : B ≤ w.heap.size) (q : Nat) (hq : q = n + 1)
    (h : ∀ g' c'' w', RowT7 B w' (.slice (some ⟨g', 0, none⟩) q c'') (L ++ [y]) → w.grownBy w' v.ownBlock → (some g' = v.ownBlock ∨ g' = w.heap.size) → K (a.put o.dst (.slice (some ⟨g', 0, none⟩) q c'')) w') :
    if Region.wanted o (yielded ops a.tmps) = true then Oper.wp Tryd.prog o a w K Q else E := by
  have hw : Region.wanted o (yielded ops a.tmps) = true := by simp [Region.wanted, hgd]
  rw [if_pos hw]
  obtain ⟨i0, hi, hz0, hz1, hz2⟩ := info_parts infoStp
  subst hq hn
  obtain ⟨v', w', hr, h2, h3, h4, h5⟩ := run_append_own_at (P := Tryd.prog) w B 24 o.type 50 i0 (.agg #[.string ⟨#[]⟩, .slice none 0 0]) 2 40 Tryd.underlying24 hi hz0 hz1 hz2 rfl (by decide) v L.length (L.flatMap StR.enc) hrow ad 1 c' (StR.enc y) rfl hnews (fun u hu => by
    rcases List.mem_cons.1 hu with rfl | hu
    · rfl
    · rw [List.mem_singleton.1 hu]; exact hy) (by unfold maxLen; omega) (by omega) hbase
  unfold Oper.wp execOp
  simp only [ho, resolve, invoke, builtin, Sem.run_bind, Sem.run_pure, Result.andThen_ok, List.map_toArray, List.map_cons, List.map_nil, hs, hx, hr]
  rcases h2.2 with ⟨_, h6⟩ | ⟨g', cap', cur, h6, _⟩
  · omega
  · subst h6
    refine h g' cap' w' ?_ h3 ?_
    · unfold RowT7 RowR
      rw [List.length_append, List.flatMap_append, List.flatMap_singleton]
      exact h2
    · rcases h5 with h6 | h6
      · exact .inl h6
      · exact .inr (Option.some.inj h6)
theorem news_stR (w : World) (y : StR) (t : TypeId) : ∀ j u, (StR.enc y)[j]? = some u → (w.alloc (.cells #[.string y.n, y.tv] t)).cell? ((⟨w.heap.size, 0, none⟩ : Addr).add j) = some u := World.news_of_block (heap_alloc_new w _)
end Go.Proofs.YtdfapkceanicoaaDoor
