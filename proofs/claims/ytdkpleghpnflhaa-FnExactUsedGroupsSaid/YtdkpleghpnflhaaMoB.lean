/- CHAPTER 10: laws.eqGroup, eqGroupS, eqAugment, eqAugmentS, eqModule. PRINTED by tools/gen_mo.py. -/
import Derived.Test.YtdkpleghpnflhaaMo
import Derived.Test.YtdkpleghpnflhaaScEb
set_option linter.unusedVariables false
set_option linter.unusedSimpArgs false
namespace Go.Proofs.Ytdkpleghpnflhaa
open Go.RowKit Go.ChangeShapes Go.WideShapes Go.Deep Go.Joins
set_option maxRecDepth 100000

theorem eqSs_any (u v : Value) (l : List Sc) (w : World) (hu : HasSs w u l) (hv : HasSs w v l) : Calls Try.prog 12 #[u, v] w fun e w' => e = .returned (.bool true) ∧ Below w.heap.size w w' := by
  obtain ⟨d, hd⟩ := hu
  obtain ⟨e, he⟩ := hv
  exact eqSS_any (d + e) u v l w (hd.to (Nat.le_add_right _ _)) (he.to (Nat.le_add_left _ _))
theorem eqGrp_any (x y : GpR) (s : Grp) (w : World) (hx : gpK.rd w x s) (hy : gpK.rd w y s) :
    Calls Try.prog 46 #[.agg #[.string x.n, x.kv], .agg #[.string y.n, y.kv]] w fun e w' => e = .returned (.bool true) ∧ Below w.heap.size w w' := by
  obtain ⟨n, tv⟩ := x
  obtain ⟨n', tv'⟩ := y
  obtain ⟨hx, hu⟩ := hx
  obtain ⟨hy, hv⟩ := hy
  dsimp only at hx hy hu hv ⊢
  rw [← hx] at hy
  subst hy
  have hb := below_al (below_al (Below.refl w.heap.size w) (.cells #[.string n', tv] 85)) (.cells #[.string n', tv'] 85)
  have HC := Lib.hid (eqSs_any tv tv' s.l _ (hu.imp fun _ h => h.below hb) (hv.imp fun _ h => h.below hb))
  have HB := Lib.hid hb
  clear hu hv hb hx
  go_enter Try.func46, Try.ntmps46
  go_wp2_with (go_at_call 12; refine (HC.out).mono ?_; rintro e w' ⟨rfl, hb1⟩)
  go_ret
  exact ⟨rfl, below_step HB.out hb1⟩
set_option maxHeartbeats 1000000 in
theorem eqAug_any (x y : AuR) (s : Aug) (w : World) (hx : auK.rd w x s) (hy : auK.rd w y s) :
    Calls Try.prog 47 #[.agg #[x.nv, x.kv], .agg #[y.nv, y.kv]] w fun e w' => e = .returned (.bool true) ∧ Below w.heap.size w w' := by
  obtain ⟨nv, tv⟩ := x
  obtain ⟨nv', tv'⟩ := y
  obtain ⟨hx, hu⟩ := hx
  obtain ⟨hy, hv⟩ := hy
  dsimp only at hx hy hu hv ⊢
  obtain ⟨A1, n1, c1, rfl⟩ : ∃ A n c, nv = .slice A n c := by obtain ⟨A, c, h, _⟩ := hx; exact ⟨A, _, c, h⟩
  obtain ⟨A2, n2, c2, rfl⟩ : ∃ A n c, tv = .slice A n c := by obtain ⟨d, h⟩ := hu; obtain ⟨A, c, h⟩ := h.form; exact ⟨A, _, c, h⟩
  obtain ⟨A3, n3, c3, rfl⟩ : ∃ A n c, nv' = .slice A n c := by obtain ⟨A, c, h, _⟩ := hy; exact ⟨A, _, c, h⟩
  obtain ⟨A4, n4, c4, rfl⟩ : ∃ A n c, tv' = .slice A n c := by obtain ⟨d, h⟩ := hv; obtain ⟨A, c, h⟩ := h.form; exact ⟨A, _, c, h⟩
  obtain ⟨W0, hW0⟩ : ∃ X, X = (w.alloc (.cells #[.slice A1 n1 c1, .slice A2 n2 c2] 88)).alloc (.cells #[.slice A3 n3 c3, .slice A4 n4 c4] 88) := ⟨_, rfl⟩
  have hb : Below w.heap.size w W0 := by rw [hW0]; exact below_al (below_al (Below.refl _ _) _) _
  have h0 : W0.heap[w.heap.size]? = some (.cells #[.slice A1 n1 c1, .slice A2 n2 c2] 88 (0, 0)) := by rw [hW0]; exact (Below.heap_alloc _ _ _ (by simp)).trans (heap_alloc_new _ _)
  have h1 : W0.heap[w.heap.size + 1]? = some (.cells #[.slice A3 n3 c3, .slice A4 n4 c4] 88 (0, 0)) := by rw [hW0]; exact alloc_new_at' _ _ (by simp)
  have HCE := Lib.hid (fun W (hb2 : Below W0.heap.size W0 W) => (show (W.cell? ⟨w.heap.size, 1, none⟩ = some (.slice A2 n2 c2) ∧ W.cell? ⟨w.heap.size + 1, 1, none⟩ = some (.slice A4 n4 c4)) from by
    have g0 := (hb2.block w.heap.size (Array.getElem?_eq_some_iff.1 h0).1).trans h0
    have g1 := (hb2.block (w.heap.size + 1) (Array.getElem?_eq_some_iff.1 h1).1).trans h1
    exact ⟨by rw [cell_of_row _ _ 1 _ _ _ g0]; rfl, by rw [cell_of_row _ _ 1 _ _ _ g1]; rfl⟩))
  have HC := Lib.hid (eqStrs_any (.slice A1 n1 c1) (.slice A3 n3 c3) s.ns W0 (hx.below hb) (hy.below hb))
  have HD := Lib.hid (fun W (hb2 : Below w.heap.size w W) => eqSs_any (.slice A2 n2 c2) (.slice A4 n4 c4) s.l W (hu.imp fun _ h => h.below hb2) (hv.imp fun _ h => h.below hb2))
  have HB := Lib.hid hb
  clear hx hy hu hv hb h0 h1
  go_enter Try.func47, Try.ntmps47
  go_wp2_with fail
  rw [← hW0]
  refine (HC.out).mono ?_
  rintro e w1 ⟨rfl, hb1⟩
  have HB1 := Lib.hid (below_step HB.out hb1)
  obtain ⟨b0, b1⟩ := HCE.out w1 hb1
  clear hb1 hW0
  go_wp2_with fail
  refine (HD.out _ HB1.out).mono ?_
  rintro e w2 ⟨rfl, hb1⟩
  have HB2 := Lib.hid (below_step HB1.out hb1)
  clear hb1 b0 b1
  go_wp2
  go_ret
  exact ⟨rfl, HB2.out⟩
set_option maxHeartbeats 2000000 in
theorem eqGrps_any (u v : Value) (l : List Grp) (w : World) (hu : HasGroup w u l) (hv : HasGroup w v l) :
    Calls Try.prog 25 #[u, v] w fun e w' => e = .returned (.bool true) ∧ Below w.heap.size w w' := by
  obtain ⟨A, cap, rfl, hn', hc⟩ := hu.at
  obtain ⟨A', cap', rfl, _, hc'⟩ := hv.at
  obtain ⟨n, hnn⟩ : ∃ n, n = l.length := ⟨_, rfl⟩
  have HN : Hid (n = l.length) := Lib.hid hnn
  rw [← hnn] at hn' ⊢
  clear hnn hu hv
  go_enter Try.func25, Try.ntmps25
  go_wp2
  go_loopw [5] (fun i wr => ∃ k : Nat, k ≤ n ∧ i = .int .i64 k ∧ Below w.heap.size w wr) (fun i _ => n - (intOf i).toNat)
  case atStart => exact ⟨0, Nat.zero_le _, rfl, Below.refl _ _⟩
  case round =>
    obtain ⟨k, hk, rfl, hbel⟩ := hrel
    by_cases hlt : k < n
    · have hlk : k < l.length := by rw [← HN.out]; exact hlt
      obtain ⟨a, x, rfl, hab, hx, hxr⟩ := hc k hlk
      obtain ⟨a', y, rfl, hab', hy, hyr⟩ := hc' k hlk
      obtain ⟨c0, c1⟩ := hx.below hbel hab
      obtain ⟨d0, d1⟩ := hy.below hbel hab'
      have HCALL := Lib.hid (fun W (hb : Below w.heap.size w W) => eqGrp_any x y l[k] W (gpK.rd_below hxr hb) (gpK.rd_below hyr hb))
      clear hx hy hc hc' hxr hyr
      go_wp2
      go_region_held3 (fun w' => (w'.cell? (a.add (k * 2)) = some (.string x.n) ∧ w'.cell? ⟨(a.add (k * 2)).block, (a.add (k * 2)).off + 1, none⟩ = some x.kv) ∧ (w'.cell? (a'.add (k * 2)) = some (.string y.n) ∧ w'.cell? ⟨(a'.add (k * 2)).block, (a'.add (k * 2)).off + 1, none⟩ = some y.kv) ∧ Below w.heap.size w w') (first | exact ⟨⟨c0, c1⟩, ⟨d0, d1⟩, hbel.drew⟩ | exact held_two hbm (by assumption) hab hab' | go_keep) (first | (go_at_call 46; refine (HCALL.out _ (by assumption : _ ∧ _ ∧ Below _ _ _).2.2).mono ?_; rintro e w1 ⟨rfl, hbm⟩))
      go_wp2
      go_roundw
      case rel => exact ⟨k + 1, by omega, by go_num, (by assumption : _ ∧ _ ∧ Below _ _ _).2.2⟩
      case measure => simp [intOf]; omega
    · go_wp2
      go_ret
      exact ⟨rfl, hbel⟩
set_option maxHeartbeats 2000000 in
theorem eqAugs_any (u v : Value) (l : List Aug) (w : World) (hu : HasAugment w u l) (hv : HasAugment w v l) :
    Calls Try.prog 26 #[u, v] w fun e w' => e = .returned (.bool true) ∧ Below w.heap.size w w' := by
  obtain ⟨A, cap, rfl, hn', hc⟩ := hu.at
  obtain ⟨A', cap', rfl, _, hc'⟩ := hv.at
  obtain ⟨n, hnn⟩ : ∃ n, n = l.length := ⟨_, rfl⟩
  have HN : Hid (n = l.length) := Lib.hid hnn
  rw [← hnn] at hn' ⊢
  clear hnn hu hv
  go_enter Try.func26, Try.ntmps26
  go_wp2
  go_loopw [5] (fun i wr => ∃ k : Nat, k ≤ n ∧ i = .int .i64 k ∧ Below w.heap.size w wr) (fun i _ => n - (intOf i).toNat)
  case atStart => exact ⟨0, Nat.zero_le _, rfl, Below.refl _ _⟩
  case round =>
    obtain ⟨k, hk, rfl, hbel⟩ := hrel
    by_cases hlt : k < n
    · have hlk : k < l.length := by rw [← HN.out]; exact hlt
      obtain ⟨a, x, rfl, hab, hx, hxr⟩ := hc k hlk
      obtain ⟨a', y, rfl, hab', hy, hyr⟩ := hc' k hlk
      obtain ⟨c0, c1⟩ := hx.below hbel hab
      obtain ⟨d0, d1⟩ := hy.below hbel hab'
      have HCALL := Lib.hid (fun W (hb : Below w.heap.size w W) => eqAug_any x y l[k] W (auK.rd_below hxr hb) (auK.rd_below hyr hb))
      clear hx hy hc hc' hxr hyr
      go_wp2
      go_region_held3 (fun w' => (w'.cell? (a.add (k * 2)) = some (x.nv) ∧ w'.cell? ⟨(a.add (k * 2)).block, (a.add (k * 2)).off + 1, none⟩ = some x.kv) ∧ (w'.cell? (a'.add (k * 2)) = some (y.nv) ∧ w'.cell? ⟨(a'.add (k * 2)).block, (a'.add (k * 2)).off + 1, none⟩ = some y.kv) ∧ Below w.heap.size w w') (first | exact ⟨⟨c0, c1⟩, ⟨d0, d1⟩, hbel.drew⟩ | exact held_two hbm (by assumption) hab hab' | go_keep) (first | (go_at_call 47; refine (HCALL.out _ (by assumption : _ ∧ _ ∧ Below _ _ _).2.2).mono ?_; rintro e w1 ⟨rfl, hbm⟩))
      go_wp2
      go_roundw
      case rel => exact ⟨k + 1, by omega, by go_num, (by assumption : _ ∧ _ ∧ Below _ _ _).2.2⟩
      case measure => simp [intOf]; omega
    · go_wp2
      go_ret
      exact ⟨rfl, hbel⟩
set_option maxHeartbeats 2000000 in
theorem eqMo_any (u v : MoV) (m : Mod) (w : World) (hu : HasMo w u m) (hv : HasMo w v m) :
    Calls Try.prog 11 #[u.val, v.val] w fun e w' => e = .returned (.bool true) ∧ Below w.heap.size w w' := by
  obtain ⟨na, gv, bv, av⟩ := u
  obtain ⟨nb, gv2, bv2, av2⟩ := v
  obtain ⟨h2, h3, h4, h5⟩ := hu
  obtain ⟨k2, k3, k4, k5⟩ := hv
  dsimp only at h2 h3 h4 h5 k2 k3 k4 k5 ⊢
  rw [← h2] at k2
  subst k2
  obtain ⟨A1, n1, c1, rfl⟩ : ∃ A n c, gv = .slice A n c := by obtain ⟨A, c, h, _⟩ := h3.at; exact ⟨A, _, c, h⟩
  obtain ⟨A2, n2, c2, rfl⟩ : ∃ A n c, bv = .slice A n c := by obtain ⟨d, h⟩ := h4; obtain ⟨A, c, h⟩ := h.form; exact ⟨A, _, c, h⟩
  obtain ⟨A3, n3, c3, rfl⟩ : ∃ A n c, av = .slice A n c := by obtain ⟨A, c, h, _⟩ := h5.at; exact ⟨A, _, c, h⟩
  obtain ⟨A4, n4, c4, rfl⟩ : ∃ A n c, gv2 = .slice A n c := by obtain ⟨A, c, h, _⟩ := k3.at; exact ⟨A, _, c, h⟩
  obtain ⟨A5, n5, c5, rfl⟩ : ∃ A n c, bv2 = .slice A n c := by obtain ⟨d, h⟩ := k4; obtain ⟨A, c, h⟩ := h.form; exact ⟨A, _, c, h⟩
  obtain ⟨A6, n6, c6, rfl⟩ : ∃ A n c, av2 = .slice A n c := by obtain ⟨A, c, h, _⟩ := k5.at; exact ⟨A, _, c, h⟩
  obtain ⟨W0, hW0⟩ : ∃ X, X = (w.alloc (.cells #[.string nb, .slice A1 n1 c1, .slice A2 n2 c2, .slice A3 n3 c3] 35)).alloc (.cells #[.string nb, .slice A4 n4 c4, .slice A5 n5 c5, .slice A6 n6 c6] 35) := ⟨_, rfl⟩
  have hb : Below w.heap.size w W0 := by rw [hW0]; exact below_al (below_al (Below.refl _ _) _) _
  have e0 : W0.heap[w.heap.size]? = some (.cells #[.string nb, .slice A1 n1 c1, .slice A2 n2 c2, .slice A3 n3 c3] 35 (0, 0)) := by rw [hW0]; exact (Below.heap_alloc _ _ _ (by simp)).trans (heap_alloc_new _ _)
  have e1 : W0.heap[w.heap.size + 1]? = some (.cells #[.string nb, .slice A4 n4 c4, .slice A5 n5 c5, .slice A6 n6 c6] 35 (0, 0)) := by rw [hW0]; exact alloc_new_at' _ _ (by simp)
  have HCE := Lib.hid (fun W (hb2 : Below W0.heap.size W0 W) => (show (W.cell? ⟨w.heap.size, 2, none⟩ = some (.slice A2 n2 c2) ∧ W.cell? ⟨w.heap.size + 1, 2, none⟩ = some (.slice A5 n5 c5) ∧ W.cell? ⟨w.heap.size, 3, none⟩ = some (.slice A3 n3 c3) ∧ W.cell? ⟨w.heap.size + 1, 3, none⟩ = some (.slice A6 n6 c6)) from by
    have g0 := (hb2.block w.heap.size (Array.getElem?_eq_some_iff.1 e0).1).trans e0
    have g1 := (hb2.block (w.heap.size + 1) (Array.getElem?_eq_some_iff.1 e1).1).trans e1
    exact ⟨by rw [cell_of_row _ _ 2 _ _ _ g0]; rfl, by rw [cell_of_row _ _ 2 _ _ _ g1]; rfl, by rw [cell_of_row _ _ 3 _ _ _ g0]; rfl, by rw [cell_of_row _ _ 3 _ _ _ g1]; rfl⟩))
  have HC1 := Lib.hid (eqGrps_any (.slice A1 n1 c1) (.slice A4 n4 c4) m.gs W0 (RdL.below h3 hb) (RdL.below k3 hb))
  have HC2 := Lib.hid (fun W (hb2 : Below w.heap.size w W) => eqSs_any (.slice A2 n2 c2) (.slice A5 n5 c5) m.b W (h4.imp fun _ h => h.below hb2) (k4.imp fun _ h => h.below hb2))
  have HC3 := Lib.hid (fun W (hb2 : Below w.heap.size w W) => eqAugs_any (.slice A3 n3 c3) (.slice A6 n6 c6) m.us W (RdL.below h5 hb2) (RdL.below k5 hb2))
  have HB := Lib.hid hb
  clear h2 h3 h4 h5 k3 k4 k5 hb e0 e1
  go_enter Try.func11, Try.ntmps11
  go_wp2_with fail
  rw [← hW0]
  refine (HC1.out).mono ?_
  rintro e w1 ⟨rfl, hb1⟩
  have HB1 := Lib.hid (below_step HB.out hb1)
  have HB01 := Lib.hid hb1
  obtain ⟨b0, b1, b2, b3⟩ := HCE.out w1 hb1
  clear hb1 hW0
  go_wp2_with fail
  refine (HC2.out _ HB1.out).mono ?_
  rintro e w2 ⟨rfl, hb1⟩
  have HB2 := Lib.hid (below_step HB1.out hb1)
  obtain ⟨d0, d1, d2, d3⟩ := HCE.out w2 (below_step HB01.out hb1)
  clear hb1 b0 b1 b2 b3
  go_wp2_with fail
  refine (HC3.out _ HB2.out).mono ?_
  rintro e w3 ⟨rfl, hb1⟩
  have HB3 := Lib.hid (below_step HB2.out hb1)
  clear hb1 d0 d1 d2 d3
  go_wp2
  go_ret
  exact ⟨rfl, HB3.out⟩
end Go.Proofs.Ytdkpleghpnflhaa
