/- CHAPTER 4, FOURTH PART: impl.NormalRanges: sorted by the library, joined from behind. -/
import Derived.Test.YtdmccopggmienaaGreatRngA
import Derived.Test.YtdmccopggmienaaGreatNumQ
import Derived.Test.YtdmccopggmienaaGreatSortK
import Derived.Test.YtdmccopggmienaaGreatShelf
import Derived.StillTailTactics
set_option linter.unusedVariables false
set_option linter.unusedSimpArgs false
namespace Go.Proofs.YtdmccopggmienaaGreat
open Go.RowKit Go.Sort Go.Shelf Go.Lib

theorem ltLo (x y : Rg) : ltOf (fun x y : Rg => Lib.compareInt x.lo y.lo) x y = decide (x.lo < y.lo) := by
  unfold ltOf Lib.compareInt
  by_cases h1 : x.lo < y.lo
  · simp [h1]
  · by_cases h2 : y.lo < x.lo <;> simp [h1, h2]
theorem swoLo : SWO (ltOf fun x y : Rg => Lib.compareInt x.lo y.lo) where
  irrefl x := by rw [ltLo]; simp
  trans x y z h1 h2 := by rw [ltLo] at *; simp at *; omega
  ntrans x y z h1 h2 := by rw [ltLo] at *; simp at *; omega
set_option maxRecDepth 100000 in
theorem cmp_any (x y : Rg) (W : World) : Calls Tryz.prog 87 #[.agg #[.int .i64 x.lo, .int .i64 x.hi], .agg #[.int .i64 y.lo, .int .i64 y.hi]] W fun e w' => e = .returned (.int .i64 (Lib.compareInt x.lo y.lo)) ∧ ∃ q os', w' = grow (W.drewN q) os' := by
  have hcon := fun W' => Tryz.cmp_Compare_int x.lo y.lo W'
  generalize Lib.compareInt x.lo y.lo = r at hcon ⊢
  go_enter Tryz.func87, Tryz.ntmps87
  go_wp2_with (first | (go_at_call 99; refine (hcon _).mono ?_; rintro e w' ⟨rfl, rfl⟩))
  go_ret
  exact ⟨rfl, 0, _, by rw [alloc_eq_grow, alloc_eq_grow, grow_grow]; rfl⟩
theorem isAggRng : ∀ w, (isAgg 74).run Tryz.prog w = .ok true w := fun w => by kernel_rfl
theorem sizeRng : ∀ w, (Go.sizeOf 74).run Tryz.prog w = .ok 2 w := fun w => by kernel_rfl
theorem sortRng_any (B g c n : Nat) (l : List Rg) (w : World) (hrow : RowG B w (.slice (some ⟨g, 0, none⟩) n c) l) (hn : n < 4611686018427387904) :
    Calls Tryz.prog 86 #[.slice (some ⟨g, 0, none⟩) n c, .func (.func 87) #[] #[]] w fun e w' => e = .returned (.tuple #[]) ∧
      ∃ l' : List Rg, (l'.Perm l ∧ l'.Pairwise (fun x y => x.lo ≤ y.lo)) ∧ RowG B w' (.slice (some ⟨g, 0, none⟩) n c) l' ∧ w.grownBy w' (some g) := by
  obtain rfl := hrow.cap'
  have eg : ∀ args w, (callFunc 87 args).run Tryz.prog w = .ok (.enter 87 args) w := enters_of Tryz.func87 (by kernel_rfl) rfl
  have hcon := AnyQ.slices_SortFunc Tryz.sortRng 2 isAggRng sizeRng Rg.enc Rg.enc_len (fun x v hv => by simp [Rg.enc] at hv; rcases hv with rfl | rfl <;> rfl) (fun x y => Lib.compareInt x.lo y.lo) swoLo 87 #[] g 0 c l.toArray w eg (fun _ _ _ _ x y => cmp_any x y _) (RowR.holdsK Rg.enc_len (by omega) hrow) (hrow.lt rfl).2 (by simpa using hn)
  refine hcon.mono ?_
  rintro e w' ⟨he, d', m, os, hp, hs, rfl⟩
  obtain ⟨h1, h2, h3⟩ := sortedK_list hp hs
  refine ⟨he, d'.toList, ⟨h2, h3.imp fun {x y} h => by rw [ltLo] at h; simpa using h⟩, ?_, grownBy_sortedK _⟩
  have := RowR.sortedK Rg.enc_len (by omega) hrow (m := m) (os := os) d'.toList h1
  simpa using this
set_option maxRecDepth 100000 in
set_option maxHeartbeats 4000000 in
theorem iJoinR_any (v : Value) (S : List Rg) (w : World) (hv : HasG w v S) (hn : S.length ≤ 274877906944) (hok : ∀ x ∈ S, x.ok) (hso : S.Pairwise (fun x y => x.lo ≤ y.lo)) :
    Calls Tryz.prog 88 #[v] w fun e w' => ∃ (v' : Value) (J : List Rg), e = .returned v' ∧ Joined S J ∧ RowG w.heap.size w' v' J ∧ Below w.heap.size w w' := by
  obtain ⟨A, cap, rfl, hn', hc⟩ := hv
  obtain ⟨n, hnn⟩ : ∃ n, n = S.length := ⟨_, rfl⟩
  have HN : Hid (n = S.length) := Lib.hid hnn
  rw [← hnn] at hn hn' ⊢
  clear hnn
  have HBN := Lib.hid hn
  have HOK := Lib.hid hok
  have HSO := Lib.hid hso
  clear hn hok hso
  have hrow0 : RowG w.heap.size (w.alloc (.cells #[] 74)) (.slice (some ⟨w.heap.size, 0, none⟩) 0 0) [] := rowG_new w _ (Nat.le_refl _)
  have hb0 : Below w.heap.size w (w.alloc (.cells #[] 74)) := below_al (Below.refl _ _) _
  go_enter Tryz.func88, Tryz.ntmps88
  go_wp2
  go_loopw [3, 10] (fun u i wr => ∃ (k m g c : Nat) (J : List Rg), k ≤ n ∧ m ≤ k ∧ i = .int .i64 k ∧ u = .slice (some ⟨g, 0, none⟩) m c ∧ Hid (m = J.length) ∧ RowG w.heap.size wr (.slice (some ⟨g, 0, none⟩) m c) J ∧ Hid (Joined (S.take k) J) ∧ Below w.heap.size w wr) (fun _ i _ => n - (intOf i).toNat)
  case atStart => exact ⟨0, 0, w.heap.size, 0, [], by omega, by omega, rfl, rfl, Lib.hid rfl, hrow0, Lib.hid Joined.start, hb0⟩
  case round =>
    obtain ⟨k, m, g, c, J, hk, hm, rfl, rfl, HL, hrow, HJ, hbel⟩ := hrel
    clear hrow0 hb0
    by_cases hlt : k < n
    · have hli : k < S.length := by rw [← HN.out]; exact hlt
      obtain ⟨a, rfl, hab, hcell0⟩ := HasG.gk hc k hli
      obtain ⟨x, hx⟩ : ∃ x, x = S[k] := ⟨_, rfl⟩
      rw [← hx] at hcell0
      obtain ⟨c0, c1⟩ := hcell0.below hbel hab
      have HX : Hid (S.take (k + 1) = S.take k ++ [x]) := Lib.hid (by rw [List.take_succ_eq_append_getElem hli, hx])
      have HO : Hid x.ok := Lib.hid (by rw [hx]; exact HOK.out _ (List.getElem_mem hli))
      have HP : Hid (∀ p ∈ S.take k, p.lo ≤ x.lo) := Lib.hid fun p hp => by
        obtain ⟨j, hj, rfl⟩ := List.getElem_of_mem hp
        rw [List.length_take] at hj
        rw [List.getElem_take, hx]
        exact (List.pairwise_iff_getElem.1 HSO.out) j k (by omega) hli (by omega)
      clear hx hcell0 hc
      obtain ⟨wo, rfl⟩ : ∃ wo, wo = wr := ⟨_, rfl⟩
      have hrowx : RowG w.heap.size (wo.alloc (.cells #[.int .i64 x.lo, .int .i64 x.hi] 74)) (.slice (some ⟨g, 0, none⟩) m c) J := RowR.alloc hrow _
      have hbox := rowG_box wo x w.heap.size hbel.size
      have hgb := (hrow.lt rfl)
      have hbelx := below_al hbel (.cells #[.int .i64 x.lo, .int .i64 x.hi] 74)
      have HM : Hid (m + 1 ≤ 549755813888) := Lib.hid (by have := HBN.out; omega)
      clear hrow
      rcases Nat.eq_zero_or_pos m with rfl | hmp
      · obtain rfl : J = [] := List.length_eq_zero_iff.1 HL.out.symm
        have HJ2 := Lib.hid (HJ.out.add HO.out (by simp))
        have HR := Lib.hid hrowx
        have HBX := Lib.hid hbox
        have HBL := Lib.hid hbelx
        clear hrowx hbox hbelx
        go_wp2
        go_quiet (fail)
        have h0 : RowG w.heap.size ((wo.alloc (.cells #[.int .i64 x.lo, .int .i64 x.hi] 74)).drewN nq) (.slice (some ⟨g, 0, none⟩) 0 c) [] := HR.out
        have hx0 : RowG w.heap.size ((wo.alloc (.cells #[.int .i64 x.lo, .int .i64 x.hi] 74)).drewN nq) (.slice (some ⟨wo.heap.size, 0, none⟩) 1 1) [x] := HBX.out
        have hb1 := below_drewN HBL.out nq
        generalize ((wo.alloc (.cells #[.int .i64 x.lo, .int .i64 x.hi] 74)).drewN nq) = w3 at h0 hx0 hb1 ⊢
        obtain ⟨e0, e1, f0, f1⟩ := RowG.box hx0
        go_wp2_with (at_builtin; refine wpList_rng_append rfl _ _ rfl w.heap.size g 0 c [] (by rfl) h0 x _ (by rfl) rfl HM.out hb1.size (0 + 1) rfl ?_; intro g' c' w4 hrow4 hg4)
        go_roundw
        case rel => exact ⟨k + 1, 0 + 1, g', c', [] ++ [x], by omega, by omega, by go_num, rfl, Lib.hid rfl, hrow4, by rw [HX.out]; exact HJ2, (below_al hb1 _).grown hg4 (below_al hb1 _).size (fun _ h => by cases h; exact hgb.1)⟩
        case measure => simp [intOf]; omega
      · obtain ⟨j, rfl⟩ : ∃ j, m = j + 1 := ⟨m - 1, by omega⟩
        obtain ⟨K, z, hKz⟩ : ∃ K z, J = K ++ [z] := ⟨J.dropLast, J.getLast (by have := HL.out; intro e; rw [e] at this; simp at this), (List.dropLast_concat_getLast _).symm⟩
        subst hKz
        have HKL : Hid (j = K.length) := Lib.hid (by have := HL.out; simp at this; omega)
        have hz1 := HJ.out.nj.2 z (by simp)
        obtain ⟨z1, z2, z3⟩ := hz1
        have hzh : -1000000000 ≤ z.hi := by omega
        have hw1 : IntKind.i64.wrap (z.hi + 1) = z.hi + 1 := IntWalk.i64_in _ (by omega)
        have HZC : Hid (∀ W, RowG w.heap.size W (.slice (some ⟨g, 0, none⟩) (j + 1) c) (K ++ [z]) → (W.cell? ⟨g, j * 2, none⟩ = some (.int .i64 z.lo) ∧ W.cell? ⟨g, j * 2 + 1, none⟩ = some (.int .i64 z.hi)) ∧ W.frozen? ⟨g, j * 2, none⟩ = false ∧ W.frozen? ⟨g, j * 2 + 1, none⟩ = false) := Lib.hid fun W h => by
          have := RowG.cells h (i := j) (by have := HKL.out; simp; omega)
          have e : (K ++ [z])[j]'(by have := HKL.out; simp; omega) = z := by have := HKL.out; simp [this]
          rw [e] at this; exact this
        have HR := Lib.hid hrowx
        have HBX := Lib.hid hbox
        have HBL := Lib.hid hbelx
        clear hrowx hbox hbelx
        have hjc : j + 1 ≤ c := HR.out.cap
        have hj0 : (0 : Int) ≤ (j : Int) := by omega
        have hjj : (j : Int) < (j : Int) + 1 := by omega
        have hzc := HZC.out _ HR.out
        obtain ⟨⟨d0, d1⟩, df0, df1⟩ := hzc
        by_cases hq : x.lo ≤ z.hi + 1
        · have hq' : decide (x.lo ≤ z.hi + 1) = true := decide_eq_true hq
          have HJ2 := Lib.hid (HJ.out.grow HO.out HP.out hq)
          go_wp2
          go_quiet (fail)
          have h0 : RowG w.heap.size ((wo.alloc (.cells #[.int .i64 x.lo, .int .i64 x.hi] 74)).drewN nq) (.slice (some ⟨g, 0, none⟩) (j + 1) c) (K ++ [z]) := HR.out
          have hx0 : RowG w.heap.size ((wo.alloc (.cells #[.int .i64 x.lo, .int .i64 x.hi] 74)).drewN nq) (.slice (some ⟨wo.heap.size, 0, none⟩) 1 1) [x] := HBX.out
          have hb1 := below_drewN HBL.out nq
          clear d0 d1 df0 df1
          generalize ((wo.alloc (.cells #[.int .i64 x.lo, .int .i64 x.hi] 74)).drewN nq) = w3 at h0 hx0 hb1 ⊢
          obtain ⟨e0, e1, f0, f1⟩ := RowG.box hx0
          have hzc := HZC.out _ h0
          obtain ⟨⟨d0, d1⟩, df0, df1⟩ := hzc
          go_wp2
          go_still_tail 12, (by kernel_rfl)
          still_call ((iMax_any z.hi x.hi _).mono fun _ _ ⟨h1, h2⟩ => ⟨h1, h2.symm⟩)
          repeat still_step
          refine wpStill_nil ?_
          change wpList _ _ _ _ _ w3.drew
          have h6 : RowG w.heap.size w3.drew (.slice (some ⟨g, 0, none⟩) (j + 1) c) (K ++ [z]) := h0
          have hb6 := hb1.drew
          clear d0 d1 df0 df1 e0 e1 f0 f1 h0 hx0 hb1
          generalize w3.drew = w6 at h6 hb6 ⊢
          have hzc := HZC.out _ h6
          obtain ⟨⟨d0, d1⟩, df0, df1⟩ := hzc
          have HPUT := Lib.hid (RowG.put1 h6 (i := j) (by have := HKL.out; simp; omega) (max z.hi x.hi))
          have HSET : Hid ((K ++ [z]).set j ⟨((K ++ [z])[j]'(by have := HKL.out; simp; omega)).lo, max z.hi x.hi⟩ = K ++ [⟨z.lo, max z.hi x.hi⟩]) := Lib.hid (by have := HKL.out; subst this; simp)
          clear h6
          go_wp2
          go_roundw
          case rel => exact ⟨k + 1, j + 1, g, c, K ++ [⟨z.lo, max z.hi x.hi⟩], by omega, by omega, by go_num, rfl, Lib.hid (by rw [List.length_append, ← HKL.out]; rfl), by rw [← HSET.out]; exact HPUT.out.1, by rw [HX.out]; exact HJ2, hb6.grown HPUT.out.2 hb6.size (fun _ h => by cases h; exact hgb.1)⟩
          case measure => simp [intOf]; omega
        · have hq' : decide (x.lo ≤ z.hi + 1) = false := decide_eq_false hq
          have HJ2 := Lib.hid (HJ.out.add HO.out (HJ.out.far hq))
          go_wp2
          go_quiet (fail)
          have h0 : RowG w.heap.size ((wo.alloc (.cells #[.int .i64 x.lo, .int .i64 x.hi] 74)).drewN nq) (.slice (some ⟨g, 0, none⟩) (j + 1) c) (K ++ [z]) := HR.out
          have hx0 : RowG w.heap.size ((wo.alloc (.cells #[.int .i64 x.lo, .int .i64 x.hi] 74)).drewN nq) (.slice (some ⟨wo.heap.size, 0, none⟩) 1 1) [x] := HBX.out
          have hb1 := below_drewN HBL.out nq
          clear d0 d1 df0 df1
          generalize ((wo.alloc (.cells #[.int .i64 x.lo, .int .i64 x.hi] 74)).drewN nq) = w3 at h0 hx0 hb1 ⊢
          obtain ⟨e0, e1, f0, f1⟩ := RowG.box hx0
          go_wp2_with (at_builtin; refine wpList_rng_append rfl _ _ rfl w.heap.size g (j + 1) c (K ++ [z]) (by rfl) h0 x _ (by rfl) rfl HM.out hb1.size (j + 1 + 1) rfl ?_; intro g' c' w4 hrow4 hg4)
          go_roundw
          case rel => exact ⟨k + 1, j + 1 + 1, g', c', (K ++ [z]) ++ [x], by omega, by omega, by go_num, rfl, Lib.hid (by have := HL.out; rw [List.length_append, ← this]; rfl), hrow4, by rw [HX.out]; exact HJ2, (below_al hb1 _).grown hg4 (below_al hb1 _).size (fun _ h => by cases h; exact hgb.1)⟩
          case measure => simp [intOf]; omega
    · go_wp2
      go_ret
      have e : k = n := by omega
      subst e
      have h := HJ.out
      rw [List.take_of_length_le (by rw [← HN.out]; exact Nat.le_refl _)] at h
      exact ⟨_, J, rfl, h, hrow, hbel⟩
end Go.Proofs.YtdmccopggmienaaGreat
