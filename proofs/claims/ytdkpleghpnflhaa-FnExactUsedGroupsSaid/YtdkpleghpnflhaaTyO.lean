/- MERGED for a claim: Ty TyO. -/
import Derived.Test.YtdkpleghpnflhaaNumPlain
import Derived.Deep.RegionHeld3
import Derived.SliceStrings
import Derived.OpenShut
import Derived.ShutString
import Derived.Deep.RegionWith
set_option linter.unusedVariables false
set_option linter.unusedSimpArgs false
/- CHAPTER 6: TYPES IN MEMORY, as they are read and as they are owned: laws.szType, toType, eqType; arguments opened. -/
namespace Go.Proofs.Ytdkpleghpnflhaa
open Go.RowKit Go.ChangeShapes Go.WideShapes Go.Deep Go.Joins

/-- what a type says -/
structure Ty where
  k : Int
  rg : List Rg
  nm : List ByteArray
  pt : ByteArray
  ph : ByteArray
/-- how it lies -/
structure TyV where
  k : Int
  vr : Value
  vn : Value
  pt : ByteArray
  ph : ByteArray
abbrev TyV.val (v : TyV) : Value := .agg #[.int .i64 v.k, v.vr, v.vn, .string v.pt, .string v.ph]
structure HasTy (w : World) (v : TyV) (t : Ty) : Prop where
  k : v.k = t.k
  rg : HasG w v.vr t.rg
  nm : Has w v.vn t.nm
  pt : v.pt = t.pt
  ph : v.ph = t.ph
structure OwnTy (B : Nat) (w : World) (v : TyV) (t : Ty) : Prop where
  k : v.k = t.k
  rg : RowG B w v.vr t.rg
  nm : Row B w v.vn t.nm
  pt : v.pt = t.pt
  ph : v.ph = t.ph
  ne : ∀ j, v.vr.ownBlock = some j → v.vn.ownBlock ≠ some j
theorem HasTy.below {w w' : World} {v : TyV} {t : Ty} (h : HasTy w v t) (hb : Below w.heap.size w w') : HasTy w' v t := ⟨h.k, h.rg.below hb, h.nm.below hb, h.pt, h.ph⟩
theorem OwnTy.below {B : Nat} {w w' : World} {v : TyV} {t : Ty} (h : OwnTy B w v t) (hb : Below w.heap.size w w') : OwnTy B w' v t := ⟨h.k, RowR.below h.rg hb, h.nm.below hb, h.pt, h.ph, h.ne⟩
theorem OwnTy.has {B : Nat} {w : World} {v : TyV} {t : Ty} (h : OwnTy B w v t) : HasTy w v t := ⟨h.k, RowR.hasG h.rg, h.nm.has, h.pt, h.ph⟩
theorem OwnTy.mono {B B' : Nat} {w : World} {v : TyV} {t : Ty} (h : OwnTy B w v t) (hb : B' ≤ B) : OwnTy B' w v t := ⟨h.k, RowR.mono h.rg hb, h.nm.mono hb, h.pt, h.ph, h.ne⟩
theorem OwnTy.setLow {B b j : Nat} {w : World} {v : TyV} {t : Ty} {u : Value} (h : OwnTy B w v t) (hb : b < B) : OwnTy B (w.setCell ⟨b, j, none⟩ u) v t :=
  ⟨h.k, ownsRow_setCell_other h.rg (a := ⟨b, j, none⟩) (fun e => by have := (RowR.lt h.rg e).1; simp at this; omega) _, ownsRow_setCell_other h.nm (a := ⟨b, j, none⟩) (fun e => by have := (h.nm.lt e).1; simp at this; omega) _, h.pt, h.ph, h.ne⟩
/-- what a frame tells of a type's argument -/
def TyWf (t : Ty) : Prop := (-9223372036854775808 ≤ t.k ∧ t.k ≤ 9223372036854775807) ∧ (∀ x ∈ t.rg, RgWf x) ∧ (∀ s ∈ t.nm, s.size ≤ 9223372036854775807) ∧ t.pt.size ≤ 9223372036854775807 ∧ t.ph.size ≤ 9223372036854775807
theorem bcell {W w1 : World} (hb : Below W.heap.size W w1) : (∀ b o, b < W.heap.size → w1.cell? ⟨b, o, none⟩ = W.cell? ⟨b, o, none⟩) ∧ (∀ b o, b < W.heap.size → w1.frozen? ⟨b, o, none⟩ = W.frozen? ⟨b, o, none⟩) :=
  ⟨fun b o h => hb.cell (p := ⟨b, o, none⟩) h, fun b o h => hb.frozen (p := ⟨b, o, none⟩) h⟩
/-- a block of five cells -/
theorem five {w : World} {b : Nat} {a0 a1 a2 a3 a4 : Value} {t : TypeId} (h : w.heap[b]? = some (.cells #[a0, a1, a2, a3, a4] t (0, 0))) :
    (w.cell? ⟨b, 0, none⟩ = some a0 ∧ w.cell? ⟨b, 1, none⟩ = some a1 ∧ w.cell? ⟨b, 2, none⟩ = some a2 ∧ w.cell? ⟨b, 3, none⟩ = some a3 ∧ w.cell? ⟨b, 4, none⟩ = some a4) ∧
    (w.frozen? ⟨b, 0, none⟩ = false ∧ w.frozen? ⟨b, 1, none⟩ = false ∧ w.frozen? ⟨b, 2, none⟩ = false ∧ w.frozen? ⟨b, 3, none⟩ = false ∧ w.frozen? ⟨b, 4, none⟩ = false) := by
  refine ⟨⟨?_, ?_, ?_, ?_, ?_⟩, frozen_of_row _ b 0 _ _ h, frozen_of_row _ b 1 _ _ h, frozen_of_row _ b 2 _ _ h, frozen_of_row _ b 3 _ _ h, frozen_of_row _ b 4 _ _ h⟩
  · rw [cell_of_row _ b 0 _ _ _ h]; rfl
  · rw [cell_of_row _ b 1 _ _ _ h]; rfl
  · rw [cell_of_row _ b 2 _ _ _ h]; rfl
  · rw [cell_of_row _ b 3 _ _ _ h]; rfl
  · rw [cell_of_row _ b 4 _ _ _ h]; rfl
theorem set5 {w : World} {b : Nat} {a0 a1 a2 a3 a4 : Value} {t : TypeId} (h : w.heap[b]? = some (.cells #[a0, a1, a2, a3, a4] t (0, 0))) (j : Nat) (u : Value) : (w.setCell ⟨b, j, none⟩ u).heap[b]? = some (.cells (#[a0, a1, a2, a3, a4].setIfInBounds j u) t (0, 0)) := heap_setCell_same w b j _ t u h
theorem take_sz {l : List ByteArray} {k : Nat} (hk : k < l.length) (h : ∀ s ∈ l.take k, s.size ≤ 1048576) (h1 : l[k].size ≤ 1048576) : ∀ s ∈ l.take (k + 1), s.size ≤ 1048576 := by
  intro s hs
  rw [List.take_add_one, List.getElem?_eq_getElem hk] at hs
  rcases List.mem_append.1 hs with h2 | h2
  · exact h s h2
  · simp at h2; rw [h2]; exact h1
set_option maxRecDepth 100000 in
set_option maxHeartbeats 1000000 in
theorem szStrsB (v : Value) (l : List ByteArray) (left : Int) (w : World) (hv : Has w v l) (hs : ∀ s ∈ l, s.size ≤ 9223372036854775807) (h0 : 0 ≤ left) (h1 : left ≤ 1048576) :
    Calls Try.prog 36 #[v, .int .i64 left] w fun e w' => (∃ x : Int, e = .returned (.int .i64 x) ∧ (0 ≤ x → l.length ≤ 1048576 ∧ ∀ s ∈ l, s.size ≤ 1048576) ∧ -1 ≤ x ∧ x ≤ left) ∧ w = w' := by
  obtain ⟨A, cap, rfl, hn', hc⟩ := hv
  obtain ⟨n, hnn⟩ : ∃ n, n = l.length := ⟨_, rfl⟩
  have HN : Hid (n = l.length) := Lib.hid hnn
  rw [← hnn] at hn' ⊢
  clear hnn
  by_cases hbig : left < n
  · go_enter Try.func36, Try.ntmps36
    go_wp2
    go_ret
    exact ⟨⟨_, rfl, fun h => absurd h (by omega), by omega, by omega⟩, rfl⟩
  · go_enter Try.func36, Try.ntmps36
    go_wp2
    go_loop [1, 5] (fun x i => ∃ (k : Nat) (y : Int), k ≤ n ∧ i = .int .i64 k ∧ x = .int .i64 y ∧ 0 ≤ y ∧ y ≤ left ∧ Hid (∀ s ∈ l.take k, s.size ≤ 1048576)) (fun _ i => n - (intOf i).toNat)
    case atStart => exact ⟨0, _, Nat.zero_le _, rfl, rfl, by omega, by omega, Lib.hid (by simp)⟩
    case round =>
      obtain ⟨k, y, hk, rfl, rfl, hy0, hy1, HS⟩ := hrel
      by_cases hlt : k < n
      · obtain ⟨a, rfl, hab, hcell⟩ := hc k (by rw [← HN.out]; exact hlt)
        have hsz := hs _ (List.getElem_mem (by rw [← HN.out]; exact hlt : k < l.length))
        by_cases hy : y < (l[k]'(by rw [← HN.out]; exact hlt)).size
        · go_wp2
          go_ret
          exact ⟨⟨_, rfl, fun h => absurd h (by omega), by omega, by omega⟩, rfl⟩
        · go_wp2
          go_round
          case rel => exact ⟨k + 1, _, by omega, by go_num, rfl, by omega, by omega, Lib.hid (take_sz (by rw [← HN.out]; exact hlt) HS.out (by omega))⟩
          case measure => simp [intOf]; omega
      · go_wp2
        go_ret
        exact ⟨⟨_, rfl, fun h => ⟨by have := HN.out; omega, by have h2 := HS.out; rwa [List.take_of_length_le (by have := HN.out; omega)] at h2⟩, by omega, by omega⟩, rfl⟩
theorem heap_alloc_new' (w : World) (o : Obj) {b : Nat} (h : b = w.heap.size) : (w.alloc o).heap[b]? = some o := by rw [h]; exact heap_alloc_new w o
theorem below_set' {W W' : World} {b j : Nat} {u : Value} (h : Below W.heap.size W W') (hb : W.heap.size ≤ b) : Below W.heap.size W (W'.setCell ⟨b, j, none⟩ u) := h.setCell (p := ⟨b, j, none⟩) hb u
set_option maxRecDepth 100000 in
set_option maxHeartbeats 1000000 in
theorem szTy_any (v : TyV) (t : Ty) (w : World) (h : HasTy w v t) (ht : TyWf t) (left : Int) (h0 : 0 ≤ left) (h9 : left ≤ 1048576) :
    Calls Try.prog 35 #[v.val, .int .i64 left] w fun e w' => (∃ x : Int, e = .returned (.int .i64 x) ∧ (0 ≤ x → t.rg.length ≤ 1048576 ∧ t.nm.length ≤ 1048576 ∧ (∀ s ∈ t.nm, s.size ≤ 1048576) ∧ t.pt.size ≤ 1048576 ∧ t.ph.size ≤ 1048576) ∧ -1 ≤ x ∧ x ≤ left) ∧ Below w.heap.size w w' := by
  obtain ⟨k, rg, nm, pt, ph⟩ := t
  obtain ⟨k', vr, vn, pt', ph'⟩ := v
  obtain ⟨rfl, hr, hn, rfl, rfl⟩ := h
  obtain ⟨_, _, hs, hp, hq⟩ := ht
  dsimp only at hr hn hs hp hq ⊢
  have hb0 : Below w.heap.size w (w.alloc (.cells #[.int .i64 k', vr, vn, .string pt', .string ph'] 50)) := below_al (Below.refl _ _) _
  have HR := Lib.hid (szRngsX vr rg left _ (hr.below hb0) h0 h9)
  have HN := Lib.hid (fun y (a : 0 ≤ y) (b : y ≤ 1048576) => szStrsB vn nm y _ (hn.below hb0) hs a b)
  have HB := Lib.hid hb0
  clear hr hn hs hb0
  go_enter Try.func35, Try.ntmps35
  go_wp2_with fail
  refine (HR.out).mono ?_
  rintro e w1 ⟨⟨x, rfl, hx⟩, rfl⟩
  have HB' := HB.out
  by_cases hx0 : x < 0
  · clear hx
    go_wp2
    go_ret
    exact ⟨⟨-1, rfl, fun h => absurd h (by omega), by omega, by omega⟩, HB'⟩
  · have hx1 : 0 ≤ x := by omega
    have hx2 : x ≤ left := by have := hx hx1; omega
    have HRL : Hid (rg.length ≤ 1048576) := Lib.hid (by have := hx hx1; omega)
    clear hx
    go_wp2_with fail
    refine (HN.out x hx1 (by omega)).mono ?_
    rintro e w2 ⟨⟨y, rfl, hy, hy1, hy2⟩, rfl⟩
    by_cases hy0 : y < 0
    · clear hy
      go_wp2
      go_ret
      exact ⟨⟨-1, rfl, fun h => absurd h (by omega), by omega, by omega⟩, HB'⟩
    · have HNL := Lib.hid (hy (by omega))
      clear hy
      have hw : IntKind.i64.wrap (y - pt'.size) = y - pt'.size := by rw [IntKind.wrap_i64]; omega
      by_cases hz : y - pt'.size < 0
      · go_wp2
        go_ret
        exact ⟨⟨-1, rfl, fun h => absurd h (by omega), by omega, by omega⟩, HB'⟩
      · have hw2 : IntKind.i64.wrap (y - pt'.size - ph'.size) = y - pt'.size - ph'.size := by rw [IntKind.wrap_i64]; omega
        by_cases hz2 : y - pt'.size - ph'.size < 0
        · go_wp2
          go_ret
          exact ⟨⟨-1, rfl, fun h => absurd h (by omega), by omega, by omega⟩, HB'⟩
        · go_wp2
          go_ret
          exact ⟨⟨_, rfl, fun h => ⟨HRL.out, HNL.out.1, HNL.out.2, by omega, by omega⟩, by omega, by omega⟩, HB'⟩
set_option maxRecDepth 100000 in
set_option maxHeartbeats 1000000 in
theorem toTy_any (v : TyV) (t : Ty) (w : World) (h : HasTy w v t) (h1 : t.rg.length ≤ 1048576) (h2 : t.nm.length ≤ 1048576) :
    Calls Try.prog 40 #[v.val] w fun e w' => ∃ v' : TyV, e = .returned v'.val ∧ OwnTy w.heap.size w' v' t ∧ Below w.heap.size w w' := by
  obtain ⟨k, rg, nm, pt, ph⟩ := t
  obtain ⟨k', vr, vn, pt', ph'⟩ := v
  obtain ⟨rfl, hr, hn, rfl, rfl⟩ := h
  dsimp only at hr hn h1 h2 ⊢
  have HR := Lib.hid (fun W (hb : Below w.heap.size w W) => toRngs_any vr rg W (hr.below hb) h1)
  have HN := Lib.hid (fun W (hb : Below w.heap.size w W) => toStrs_any vn nm W (hn.below hb) h2)
  have HB0 := Lib.hid (Below.refl w.heap.size w)
  clear hr hn h1 h2
  go_enter Try.func40, Try.ntmps40
  go_wp2_with fail
  refine (HR.out _ (below_al (below_al (below_al HB0.out _) _) _)).mono ?_
  rintro e w1 ⟨vr', rfl, hown, hb1⟩
  obtain ⟨D1, c1, rfl⟩ : ∃ A c, vr' = .slice A rg.length c := by obtain ⟨A, c, hv, _⟩ := RowR.hasG hown; exact ⟨A, c, hv⟩
  have HB1 := Lib.hid (below_step (below_al (below_al (below_al HB0.out _) _) _) hb1)
  have HO := Lib.hid hown
  have X1 : w1.heap[w.heap.size + 1 + 1]? = some (.cells #[.int .i64 k', .slice none 0 0, .slice none 0 0, .string ⟨#[]⟩, .string ⟨#[]⟩] 56 (0, 0)) := (hb1.block _ (by simp)).trans (heap_alloc_new' _ _ (by simp))
  have R1 : w1.heap[w.heap.size + 1]? = some (.cells #[.int .i64 0, .slice none 0 0, .slice none 0 0, .string ⟨#[]⟩, .string ⟨#[]⟩] 56 (0, 0)) := (hb1.block _ (by simp)).trans (by rw [Below.heap_alloc _ _ _ (by simp)]; exact heap_alloc_new' _ _ (by simp))
  have A1 : w1.heap[w.heap.size]? = some (.cells #[.int .i64 k', vr, vn, .string pt', .string ph'] 50 (0, 0)) := (hb1.block _ (by simp; omega)).trans (by rw [Below.heap_alloc _ _ _ (by simp; omega), Below.heap_alloc _ _ _ (by simp)]; exact heap_alloc_new' _ _ rfl)
  have hz1 : w.heap.size + 3 ≤ w1.heap.size := by have := hb1.size; simpa using this
  obtain ⟨⟨x0, x1, x2, x3, x4⟩, f0, f1, f2, f3, f4⟩ := five X1
  obtain ⟨⟨_, _, p2, _, _⟩, _⟩ := five A1
  clear hown hb1
  go_wp2_with fail
  have X2 := set5 X1 1 (.slice D1 rg.length c1)
  have hB2 : Below w.heap.size w (w1.setCell ⟨w.heap.size + 1 + 1, 1, none⟩ (.slice D1 rg.length c1)) := below_set' HB1.out (by omega)
  refine (HN.out _ hB2).mono ?_
  rintro e w2 ⟨vn', rfl, hown2, hb2⟩
  obtain ⟨D2, c2, rfl⟩ : ∃ A c, vn' = .slice A nm.length c := by obtain ⟨A, c, hv, _⟩ := Row.has hown2; exact ⟨A, c, hv⟩
  have HB2 := Lib.hid (below_step hB2 hb2)
  have hz2 : w1.heap.size ≤ w2.heap.size := by have := hb2.size; simpa using this
  have X3 : w2.heap[w.heap.size + 1 + 1]? = _ := (hb2.block _ (by simp; omega)).trans X2
  have R3 : w2.heap[w.heap.size + 1]? = _ := (hb2.block _ (by simp; omega)).trans ((Below.heap_setCell w1 _ _ _ (by simp)).trans R1)
  have A3 : w2.heap[w.heap.size]? = _ := (hb2.block _ (by simp; omega)).trans ((Below.heap_setCell w1 _ _ _ (by simp; omega)).trans A1)
  have HO2 : Hid (OwnTy (w.heap.size + 3) w2 ⟨k', .slice D1 rg.length c1, .slice D2 nm.length c2, pt', ph'⟩ ⟨k', rg, nm, pt', ph'⟩) := Lib.hid ⟨rfl,
    RowR.below (ownsRow_setCell_other (RowR.mono HO.out (by simp)) (a := ⟨w.heap.size + 1 + 1, 1, none⟩) (fun e => by have := (RowR.lt HO.out e).1; simp at this; omega) _) hb2, hown2.mono (by simpa using hz1), rfl, rfl, fun j h1 h2 => by
      have a1 := (RowR.lt HO.out h1).2; have a2 := (hown2.lt h2).1; simp at a2; omega⟩
  clear X1 R1 A1 X2 hown2 hb2 x0 x1 x2 x3 x4 f0 f1 f2 f3 f4 p2
  obtain ⟨⟨y0, y1, y2, y3, y4⟩, g0, g1, g2, g3, g4⟩ := five X3
  obtain ⟨⟨_, _, _, p3, p4⟩, _⟩ := five A3
  obtain ⟨⟨RR0, RR1, RR2, RR3, RR4⟩, r0, r1, r2, r3, r4⟩ := five R3
  have HB3 := HB2.out
  go_wp2
  refine bodyPost_ret (v := .agg #[.int .i64 k', .slice D1 rg.length c1, .slice D2 nm.length c2, .string pt', .string ph']) (by simp [results, Try.results40, go_sem, r0, r1, r2, r3, r4, y0, y1, y2, y3, y4, RR0, RR1, RR2, RR3, RR4]) rfl ?_
  refine ⟨⟨k', .slice D1 rg.length c1, .slice D2 nm.length c2, pt', ph'⟩, rfl, ?_, ?_⟩
  · exact (((((((((HO2.out.setLow (by omega)).setLow (by omega)).setLow (by omega)).setLow (by omega)).setLow (by omega)).setLow (by omega)).setLow (by omega)).setLow (by omega))).mono (by omega)
  · exact below_set' (below_set' (below_set' (below_set' (below_set' (below_set' (below_set' (below_set' HB3 (by omega)) (by omega)) (by omega)) (by omega)) (by omega)) (by omega)) (by omega)) (by omega)
set_option maxRecDepth 100000 in
set_option maxHeartbeats 1000000 in
theorem eqTy_any (u v : TyV) (t : Ty) (w : World) (hu : HasTy w u t) (hv : HasTy w v t) :
    Calls Try.prog 48 #[u.val, v.val] w fun e w' => e = .returned (.bool true) ∧ Below w.heap.size w w' := by
  obtain ⟨k, rg, nm, pt, ph⟩ := t
  obtain ⟨k', vr, vn, pt', ph'⟩ := u
  obtain ⟨k2, vr2, vn2, pt2, ph2⟩ := v
  obtain ⟨rfl, hr, hn, rfl, rfl⟩ := hu
  obtain ⟨e1, hr2, hn2, e2, e3⟩ := hv
  dsimp only at hr hn hr2 hn2 e1 e2 e3 ⊢
  subst e1 e2 e3
  have HR := Lib.hid (fun W (hb : Below w.heap.size w W) => eqRngs_any vr vr2 rg W (hr.below hb) (hr2.below hb))
  have HN := Lib.hid (fun W (hb : Below w.heap.size w W) => eqStrs_any vn vn2 nm W (hn.below hb) (hn2.below hb))
  have HB0 := Lib.hid (Below.refl w.heap.size w)
  have q1 : (k2 != k2) = false := by simp
  clear hr hn hr2 hn2
  go_enter Try.func48, Try.ntmps48
  go_wp2_with fail
  refine (HR.out _ (below_al (below_al HB0.out _) _)).mono ?_
  rintro e w1 ⟨rfl, hb1⟩
  have HB1 := Lib.hid (below_step (below_al (below_al HB0.out _) _) hb1)
  have B1 : w1.heap[w.heap.size + 1]? = some (.cells #[.int .i64 k2, vr2, vn2, .string pt2, .string ph2] 56 (0, 0)) := (hb1.block _ (by simp)).trans (heap_alloc_new' _ _ (by simp))
  have A1 : w1.heap[w.heap.size]? = some (.cells #[.int .i64 k2, vr, vn, .string pt2, .string ph2] 56 (0, 0)) := (hb1.block _ (by simp; omega)).trans (by rw [Below.heap_alloc _ _ _ (by simp)]; exact heap_alloc_new' _ _ rfl)
  have hz1 : w.heap.size + 2 ≤ w1.heap.size := by have := hb1.size; simpa using this
  obtain ⟨⟨x0, x1, x2, x3, x4⟩, _⟩ := five A1
  obtain ⟨⟨y0, y1, y2, y3, y4⟩, _⟩ := five B1
  clear hb1
  go_wp2_with fail
  refine (HN.out _ HB1.out).mono ?_
  rintro e w2 ⟨rfl, hb2⟩
  have A2 := (hb2.block _ (by omega)).trans A1
  have B2 := (hb2.block _ (by omega)).trans B1
  have HB2 := below_step HB1.out hb2
  clear x0 x1 x2 x3 x4 y0 y1 y2 y3 y4 hb2
  obtain ⟨⟨x0, x1, x2, x3, x4⟩, _⟩ := five A2
  obtain ⟨⟨y0, y1, y2, y3, y4⟩, _⟩ := five B2
  go_wp2
  go_ret
  exact ⟨rfl, HB2⟩
end Go.Proofs.Ytdkpleghpnflhaa

/- ARGUMENTS OPENED: a type. -/
namespace Go.Proofs.Ytdkpleghpnflhaa
open Go.RowKit Go.ChangeShapes Go.WideShapes Go.Deep Go.Joins

section
variable {H : Type} {en : TypeId × Value → H} {w : World} {base : Nat} {spare : Nat → Bool} {held : Bool}
theorem trod_struct5' {P : Program} {t : TypeId} {f0 f1 f2 f3 f4 : Field} {fuel : Nat} {cs : List Value} {x : DataW H × List MemPlace} (ht : P.underlying t = some (.struct #[f0, f1, f2, f3, f4])) (h : DataW.trod en P w base spare held fuel t cs = some x) :
    ∃ y0 y1 y2 y3 y4 n, cs.length = P.cellsOf t ∧ DataW.trod en P w base spare held n f0.type ((cs.drop f0.offset).take (P.cellsOf f0.type)) = some y0 ∧
      DataW.trod en P w base spare held n f1.type ((cs.drop f1.offset).take (P.cellsOf f1.type)) = some y1 ∧ DataW.trod en P w base spare held n f2.type ((cs.drop f2.offset).take (P.cellsOf f2.type)) = some y2 ∧
      DataW.trod en P w base spare held n f3.type ((cs.drop f3.offset).take (P.cellsOf f3.type)) = some y3 ∧ DataW.trod en P w base spare held n f4.type ((cs.drop f4.offset).take (P.cellsOf f4.type)) = some y4 := by
  obtain ⟨xs, n, _, rfl, hl, hlen, hf⟩ := DataW.trod_struct ht h
  match xs, hlen with
  | [y0, y1, y2, y3, y4], _ => exact ⟨y0, y1, y2, y3, y4, n, hl, by simpa using hf 0 f0 rfl, by simpa using hf 1 f1 rfl, by simpa using hf 2 f2 rfl, by simpa using hf 3 f3 rfl, by simpa using hf 4 f4 rfl⟩
theorem strs_open {fuel : Nat} {cs : List Value} {x : DataW H × List MemPlace} (h : DataW.trod en Try.prog w base spare held fuel 29 cs = some x) :
    ∃ (a : Option Addr) (len cap : Nat) (l : List ByteArray), cs = [.slice a len cap] ∧ Has w (.slice a len cap) l ∧ ∀ s ∈ l, s.size ≤ 9223372036854775807 := by
  rcases open_strings Try.underlying29 Try.underlying9 (by kernel_rfl) h with ⟨hcs, _⟩ | ⟨x, l, c, ss, hcs, _, hl, hm, hz, _, hcell, hwz⟩
  · exact ⟨none, 0, 0, [], hcs, has_nil w, by simp⟩
  · have hz' : l ≤ ss.length := by
      rw [hz]; split <;> omega
    exact ⟨some x, l, c, ss.take l, hcs, has_of hz' (by omega) hcell, fun s hs => hwz s (List.mem_of_mem_take hs)⟩
set_option maxRecDepth 100000 in
theorem ty_of_cells {n : Nat} {cs : List Value} {y : DataW H × List MemPlace} (h : DataW.trod en Try.prog w base spare held n 50 cs = some y) :
    ∃ (v : TyV) (t : Ty), cs = [.int .i64 v.k, v.vr, v.vn, .string v.pt, .string v.ph] ∧ HasTy w v t ∧ TyWf t := by
  obtain ⟨y0, y1, y2, y3, y4, m, hl, h0, h1, h2, h3, h4⟩ := trod_struct5' Try.underlying50 h
  rw [show Try.prog.cellsOf 50 = 5 by kernel_rfl] at hl
  match cs, hl with
  | [c0, c1, c2, c3, c4], _ =>
    rw [show Try.prog.cellsOf 3 = 1 by kernel_rfl] at h0
    rw [show Try.prog.cellsOf 48 = 1 by kernel_rfl] at h1
    rw [show Try.prog.cellsOf 29 = 1 by kernel_rfl] at h2
    rw [show Try.prog.cellsOf 9 = 1 by kernel_rfl] at h3 h4
    obtain ⟨k, hk, _, kw⟩ := DataW.trod_int Try.underlying3 h0
    obtain ⟨a1, n1, p1, l1, e1, g1, b1⟩ := rngs_open h1
    obtain ⟨a2, n2, p2, l2, e2, g2, b2⟩ := strs_open h2
    obtain ⟨t, ht, _, hs⟩ := DataW.trod_string Try.underlying9 h3
    obtain ⟨u, hu, _, hs'⟩ := DataW.trod_string Try.underlying9 h4
    simp at hk e1 e2 ht hu
    subst hk e1 e2 ht hu
    exact ⟨⟨k, .slice a1 n1 p1, .slice a2 n2 p2, t, u⟩, ⟨k, l1, l2, t, u⟩, rfl, ⟨rfl, g1, g2, rfl, rfl⟩, wf_i64 kw, b1, b2, by unfold maxLen at hs; omega, by unfold maxLen at hs'; omega⟩
set_option maxRecDepth 100000 in
theorem ty_open {r : Reach} {b0 : Nat} {v : Value} {d : DataW H} {p : List MemPlace} (hv : Value.okWide Try.prog w r b0 50 v) (h : DataW.Trod en Try.prog w base spare held 50 v d p) :
    ∃ (y : TyV) (t : Ty), v = y.val ∧ HasTy w y t ∧ TyWf t := by
  obtain ⟨cs, rfl, hsz⟩ := okWide_struct Try.underlying50 hv
  obtain ⟨fuel, hf⟩ := h
  obtain ⟨y, t, hy, h1, h2⟩ := ty_of_cells hf
  refine ⟨y, t, ?_, h1, h2⟩
  have : cs.toList = [.int .i64 y.k, y.vr, y.vn, .string y.pt, .string y.ph] := hy
  rw [← Array.toArray_toList (xs := cs), this]
end
end Go.Proofs.Ytdkpleghpnflhaa
