/- CHAPTER 6: impl.copyType, spec.l6Copy. -/
import Derived.Test.YtdmccopggmienaaGreatTyN
set_option linter.unusedVariables false
set_option linter.unusedSimpArgs false
namespace Go.Proofs.YtdmccopggmienaaGreat
open Go.RowKit

theorem OwnTy.set5 {B b : Nat} {w : World} {v : TyV} {t : Ty} {u0 u1 u2 u3 u4 : Value} (h : OwnTy B w v t) (hb : b < B) :
    OwnTy B (((((w.setCell ⟨b, 0, none⟩ u0).setCell ⟨b, 1, none⟩ u1).setCell ⟨b, 2, none⟩ u2).setCell ⟨b, 3, none⟩ u3).setCell ⟨b, 4, none⟩ u4) v t := ((((h.setLow hb).setLow hb).setLow hb).setLow hb).setLow hb
theorem below_set5 {W W' : World} {b : Nat} {u0 u1 u2 u3 u4 : Value} (h : Below W.heap.size W W') (hb : W.heap.size ≤ b) :
    Below W.heap.size W (((((W'.setCell ⟨b, 0, none⟩ u0).setCell ⟨b, 1, none⟩ u1).setCell ⟨b, 2, none⟩ u2).setCell ⟨b, 3, none⟩ u3).setCell ⟨b, 4, none⟩ u4) := below_set' (below_set' (below_set' (below_set' (below_set' h hb) hb) hb) hb) hb
/-- a block of a type's five cells -/
def TyBox (w : World) (b : Nat) (k : Int) (vr vn : Value) (pt ph : ByteArray) : Prop := w.heap[b]? = some (.cells #[.int .i64 k, vr, vn, .string pt, .string ph] 31 (0, 0))
theorem TyBox.below {w w' : World} {b : Nat} {k : Int} {vr vn : Value} {pt ph : ByteArray} (h : TyBox w b k vr vn pt ph) (hb : Below w.heap.size w w') : TyBox w' b k vr vn pt ph := (hb.block b (Array.getElem?_eq_some_iff.1 h).1).trans h
theorem TyBox.set {w : World} {b c j : Nat} {u : Value} {k : Int} {vr vn : Value} {pt ph : ByteArray} (h : TyBox w b k vr vn pt ph) (hne : b ≠ c) : TyBox (w.setCell ⟨c, j, none⟩ u) b k vr vn pt ph := (Below.heap_setCell w ⟨c, j, none⟩ u b hne).trans h
theorem TyBox.lt {w : World} {b : Nat} {k : Int} {vr vn : Value} {pt ph : ByteArray} (h : TyBox w b k vr vn pt ph) : b < w.heap.size := (Array.getElem?_eq_some_iff.1 h).1
set_option maxRecDepth 100000 in
set_option maxHeartbeats 2000000 in
theorem iCopy_any (v : TyV) (t : Ty) (w : World) (h : HasTy w v t) (hk : NilTy v) (h1 : t.rg.length ≤ 1048576) (h2 : t.nm.length ≤ 1048576) :
    Calls Tryz.prog 40 #[v.val] w fun e w' => ∃ v' : TyV, e = .returned v'.val ∧ OwnTy w.heap.size w' v' t ∧ Below w.heap.size w w' := by
  obtain ⟨k, rg, nm, pt, ph⟩ := t
  obtain ⟨k', vr, vn, pt', ph'⟩ := v
  obtain ⟨rfl, hr, hn, rfl, rfl⟩ := h
  obtain ⟨hk1, hk2⟩ := hk
  dsimp only at hr hn hk1 hk2 h1 h2 ⊢
  have HR := Lib.hid (fun W (hb : Below w.heap.size w W) => cloneG_any vr rg W (HasR.below hr hb) hk1 h1)
  have HN := Lib.hid (fun W (hb : Below w.heap.size w W) => cloneS_any vn nm W (hn.below hb) hk2 h2)
  have HB0 := Lib.hid (Below.refl w.heap.size w)
  clear hr hn h1 h2 hk1 hk2
  go_enter Tryz.func40, Tryz.ntmps40
  go_wp2_with fail
  refine (HR.out _ (below_al (below_al HB0.out _) _)).mono ?_
  rintro e w1 ⟨vr', rfl, hown, hb1⟩
  obtain ⟨D1, n1, c1, rfl⟩ : ∃ A n c, vr' = .slice A n c := by obtain ⟨A, c, hv, _⟩ := RowR.hasG hown; exact ⟨A, _, c, hv⟩
  have HB1 := Lib.hid (below_step (below_al (below_al HB0.out _) _) hb1)
  have HO := Lib.hid hown
  have R1 : TyBox w1 (w.heap.size + 1) 0 (.slice none 0 0) (.slice none 0 0) ⟨#[]⟩ ⟨#[]⟩ := (hb1.block _ (by simp)).trans (heap_alloc_new' _ _ (by simp))
  have A1 : TyBox w1 w.heap.size k' vr vn pt' ph' := (hb1.block _ (by simp; omega)).trans (by rw [Below.heap_alloc _ _ _ (by simp)]; exact heap_alloc_new' _ _ rfl)
  have hz1 : w.heap.size + 2 ≤ w1.heap.size := by have := hb1.size; simpa using this
  obtain ⟨⟨x0, x1, x2, x3, x4⟩, f0, f1, f2, f3, f4⟩ := five A1
  clear hown hb1
  go_wp2_with fail
  have X2 := set5 A1 1 (.slice D1 n1 c1)
  have hB2 : Below w.heap.size w (w1.setCell ⟨w.heap.size, 1, none⟩ (.slice D1 n1 c1)) := below_set' HB1.out (by omega)
  refine (HN.out _ hB2).mono ?_
  rintro e w2 ⟨vn', rfl, hown2, hb2⟩
  obtain ⟨D2, n2, c2, rfl⟩ : ∃ A n c, vn' = .slice A n c := by obtain ⟨A, c, hv, _⟩ := Row.has hown2; exact ⟨A, _, c, hv⟩
  have HB2 := Lib.hid (below_step hB2 hb2)
  have hz2 : w1.heap.size ≤ w2.heap.size := by have := hb2.size; simpa using this
  have A3 : TyBox w2 w.heap.size k' (.slice D1 n1 c1) vn pt' ph' := (hb2.block _ (by simp; omega)).trans X2
  have R3 : TyBox w2 (w.heap.size + 1) 0 (.slice none 0 0) (.slice none 0 0) ⟨#[]⟩ ⟨#[]⟩ := (hb2.block _ (by simp; omega)).trans ((Below.heap_setCell w1 _ _ _ (by simp)).trans R1)
  have HO2 : Hid (OwnTy (w.heap.size + 2) w2 ⟨k', .slice D1 n1 c1, .slice D2 n2 c2, pt', ph'⟩ ⟨k', rg, nm, pt', ph'⟩) := Lib.hid ⟨rfl,
    RowR.below (ownsRow_setCell_other (RowR.mono HO.out (by simp)) (a := ⟨w.heap.size, 1, none⟩) (fun e => by have := (RowR.lt HO.out e).1; simp at this; omega) _) hb2, hown2.mono (by simpa using hz1), rfl, rfl, fun j h1 h2 => by
      have a1 := (RowR.lt HO.out h1).2; have a2 := (hown2.lt h2).1; simp at a2; omega⟩
  clear R1 A1 X2 hown2 hb2 x0 x1 x2 x3 x4 f0 f1 f2 f3 f4 HO
  obtain ⟨⟨y0, y1, y2, y3, y4⟩, g0, g1, g2, g3, g4⟩ := five A3
  obtain ⟨⟨RR0, RR1, RR2, RR3, RR4⟩, r0, r1, r2, r3, r4⟩ := five R3
  have HB3 := HB2.out
  go_wp2
  refine bodyPost_ret (v := .agg #[.int .i64 k', .slice D1 n1 c1, .slice D2 n2 c2, .string pt', .string ph']) (by simp [results, Tryz.results40, go_sem, r0, r1, r2, r3, r4, y0, y1, y2, y3, y4, RR0, RR1, RR2, RR3, RR4]) rfl ?_
  refine ⟨⟨k', .slice D1 n1 c1, .slice D2 n2 c2, pt', ph'⟩, rfl, ?_, ?_⟩
  · exact ((HO2.out.setLow (by omega)).set5 (by omega)).mono (by omega)
  · exact below_set5 (below_set' HB3 (by omega)) (by omega)
set_option maxRecDepth 100000 in
set_option maxHeartbeats 2000000 in
theorem sCopy_any (v : TyV) (t : Ty) (w : World) (h : HasTy w v t) (hk : NilTy v) (h1 : t.rg.length ≤ 1048576) (h2 : t.nm.length ≤ 1048576) :
    Calls Tryz.prog 36 #[v.val] w fun e w' => ∃ v' : TyV, e = .returned v'.val ∧ OwnTy w.heap.size w' v' t ∧ Below w.heap.size w w' := by
  obtain ⟨k, rg, nm, pt, ph⟩ := t
  obtain ⟨k', vr, vn, pt', ph'⟩ := v
  obtain ⟨rfl, hr, hn, rfl, rfl⟩ := h
  obtain ⟨hk1, hk2⟩ := hk
  dsimp only at hr hn hk1 hk2 h1 h2 ⊢
  have HR := Lib.hid (fun W (hb : Below w.heap.size w W) => And.intro (HasR.below hr hb) (And.intro hk1 h1))
  have HN := Lib.hid (fun W (hb : Below w.heap.size w W) => And.intro (hn.below hb) (And.intro hk2 h2))
  obtain ⟨A1, cc1, hv1, -⟩ := id hr
  obtain ⟨A2, cc2, hv2, -⟩ := id hn
  generalize rg.length = m1 at hv1
  generalize nm.length = m2 at hv2
  subst hv1 hv2
  have HB0 := Lib.hid (Below.refl w.heap.size w)
  obtain ⟨W0, hW0⟩ : ∃ W0, W0 = (w.alloc (.cells #[.int .i64 k', .slice A1 m1 cc1, .slice A2 m2 cc2, .string pt', .string ph'] 31)).alloc (.cells #[.int .i64 0, .slice none 0 0, .slice none 0 0, .string ⟨#[]⟩, .string ⟨#[]⟩] 31) := ⟨_, rfl⟩
  have HBW : Hid (Below w.heap.size w W0) := Lib.hid (by rw [hW0]; exact below_al (below_al HB0.out _) _)
  have R0 : TyBox W0 (w.heap.size + 1) 0 (.slice none 0 0) (.slice none 0 0) ⟨#[]⟩ ⟨#[]⟩ := by rw [hW0]; exact heap_alloc_new' _ _ (by simp)
  have A0 : TyBox W0 w.heap.size k' (.slice A1 m1 cc1) (.slice A2 m2 cc2) pt' ph' := by rw [hW0]; unfold TyBox; rw [Below.heap_alloc _ _ _ (by simp)]; exact heap_alloc_new' _ _ rfl
  have hz0 : W0.heap.size = w.heap.size + 2 := by rw [hW0]; simp
  obtain ⟨⟨x0, x1, x2, x3, x4⟩, f0, f1, f2, f3, f4⟩ := five (A0.below (below_al (Below.refl _ _) (.cells #[] 74)))
  have HA0 := Lib.hid A0
  have HR0 := Lib.hid R0
  clear hr hn h1 h2 hk1 hk2 A0 R0
  go_enter Tryz.func36, Tryz.ntmps36
  go_wp2_with (first
    | (at_builtin; (rw [← hW0]; refine wpList_copy_rngs rfl _ _ rfl (w.heap.size + 1 + 1) rfl (by omega) (.slice A1 m1 cc1) rg rfl (HR.out _ HBW.out).1 (HR.out _ HBW.out).2.1 (HR.out _ HBW.out).2.2 ?_; intro vr' w1 hown hb1; (obtain ⟨D1, n1, c1, rfl⟩ : ∃ A n c, vr' = .slice A n c := by (obtain ⟨A, c, hv, _⟩ := RowR.hasG hown; exact ⟨A, _, c, hv⟩)); have HB1 := Lib.hid (below_step HBW.out hb1); have HO := Lib.hid hown; have HNX := Lib.hid (HN.out (w1.setCell ⟨w.heap.size, 1, none⟩ (.slice D1 n1 c1)) (below_set' HB1.out (Nat.le_refl _))); have A1' := HA0.out.below hb1; have R1' := HR0.out.below hb1; have HA1 := Lib.hid A1'; have HR1 := Lib.hid R1'; (have hz1 : w.heap.size + 2 ≤ w1.heap.size := by (have := hb1.size; omega)); (have hz2 : w.heap.size < w1.heap.size := by omega); (have hz3 : w.heap.size + 1 < w1.heap.size := by omega); clear hown hb1 x0 x1 x2 x3 x4 f0 f1 f2 f3 f4 R1'; obtain ⟨⟨x0, x1, x2, x3, x4⟩, f0, f1, f2, f3, f4⟩ := five A1'; clear A1'))
    | (at_builtin; (go_loud (refine wpList_copy_strs (w := w1.setCell ⟨w.heap.size, 1, none⟩ (.slice D1 n1 c1)) rfl _ _ rfl w1.heap.size rfl (by simp) (.slice A2 m2 cc2) nm rfl HNX.out.1 HNX.out.2.1 HNX.out.2.2 ?_); intro vn' w2 hown2 hb2; (obtain ⟨D2, n2, c2, rfl⟩ : ∃ A n c, vn' = .slice A n c := by (obtain ⟨A, c, hv, _⟩ := Row.has hown2; exact ⟨A, _, c, hv⟩)); have HW2 := Lib.hid hown2; (have hz4 : w.heap.size < w2.heap.size := by (have := hb2.size; simp at this; omega)); (have hz5 : w.heap.size + 1 < w2.heap.size := by (have := hb2.size; simp at this; omega)); (have A3 : TyBox w2 w.heap.size k' (.slice D1 n1 c1) (.slice A2 m2 cc2) pt' ph' := (hb2.block _ (by simp; omega)).trans (set5 HA1.out 1 (.slice D1 n1 c1))); (have R3 : TyBox w2 (w.heap.size + 1) 0 (.slice none 0 0) (.slice none 0 0) ⟨#[]⟩ ⟨#[]⟩ := (hb2.block _ (by simp; omega)).trans ((Below.heap_setCell w1 _ _ _ (by simp)).trans HR1.out)); have HB2' := Lib.hid hb2; clear x0 x1 x2 x3 x4 f0 f1 f2 f3 f4; obtain ⟨⟨y0, y1, y2, y3, y4⟩, g0, g1, g2, g3, g4⟩ := five A3; obtain ⟨⟨RR0, RR1, RR2, RR3, RR4⟩, r0, r1, r2, r3, r4⟩ := five R3; clear hown2 hb2 A3 R3)))
  have hown2 := HW2.out
  have HB2 := Lib.hid (below_step (below_set' HB1.out (Nat.le_refl _) : Below w.heap.size w (w1.setCell ⟨w.heap.size, 1, none⟩ (.slice D1 n1 c1))) HB2'.out)
  have HO2 : Hid (OwnTy (w.heap.size + 2) w2 ⟨k', .slice D1 n1 c1, .slice D2 n2 c2, pt', ph'⟩ ⟨k', rg, nm, pt', ph'⟩) := Lib.hid ⟨rfl,
    RowR.below (ownsRow_setCell_other (RowR.mono HO.out (by omega)) (a := ⟨w.heap.size, 1, none⟩) (fun e => by have := (RowR.lt HO.out e).1; simp at this; omega) _) HB2'.out, hown2.mono (by simp; omega), rfl, rfl, fun j h1 h2 => by
      have a1 := (RowR.lt HO.out h1).2; have a2 := (hown2.lt h2).1; simp at a2; omega⟩
  have HB3 := HB2.out
  refine bodyPost_ret (v := .agg #[.int .i64 k', .slice D1 n1 c1, .slice D2 n2 c2, .string pt', .string ph']) (by simp [results, Tryz.results36, go_sem, r0, r1, r2, r3, r4, y0, y1, y2, y3, y4, RR0, RR1, RR2, RR3, RR4]) rfl ?_
  refine ⟨⟨k', .slice D1 n1 c1, .slice D2 n2 c2, pt', ph'⟩, rfl, ?_, ?_⟩
  · exact ((HO2.out.setLow (by omega)).set5 (by omega)).mono (by omega)
  · exact below_set5 (below_set' HB3 (by omega)) (by omega)
end Go.Proofs.YtdmccopggmienaaGreat
