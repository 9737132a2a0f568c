/- CHAPTER 4, THIRD PART: spec.NormalRanges. -/
import Derived.Test.YtdmccopggmienaaGreatRng
import Derived.Test.YtdmccopggmienaaGreatNumQ
import Derived.IntWalk
import Derived.StillTailTactics
set_option linter.unusedVariables false
set_option linter.unusedSimpArgs false
namespace Go.Proofs.YtdmccopggmienaaGreat
open Go.RowKit

/-- within a round: the list so far, the range that is put in, those on its left and on its right -/
structure Inn (w0 : World) (g m c : Nat) (L : List Rg) (bx gl cl gr cr : Nat) (a b : List Rg) (x : Rg) (W : World) : Prop where
  out : RowG w0.heap.size W (.slice (some ⟨g, 0, none⟩) m c) L
  box : RowG w0.heap.size W (.slice (some ⟨bx, 0, none⟩) 1 1) [x]
  left : RowG (bx + 1) W (.slice (some ⟨gl, 0, none⟩) a.length cl) a
  right : RowG (bx + 1) W (.slice (some ⟨gr, 0, none⟩) b.length cr) b
  lt : g < bx
  ne : gl ≠ gr
  bel : Below w0.heap.size w0 W
section
variable {w0 W W' : World} {g m c bx gl cl gr cr gl' cl' : Nat} {L a b : List Rg} {x y : Rg}
theorem Inn.low (h : Inn w0 g m c L bx gl cl gr cr a b x W) : w0.heap.size ≤ bx ∧ bx < W.heap.size ∧ bx < gl ∧ gl < W.heap.size ∧ bx < gr ∧ gr < W.heap.size :=
  ⟨(h.box.lt rfl).1, (h.box.lt rfl).2, (h.left.lt rfl).1, (h.left.lt rfl).2, (h.right.lt rfl).1, (h.right.lt rfl).2⟩
theorem Inn.drewN (h : Inn w0 g m c L bx gl cl gr cr a b x W) (q : Nat) : Inn w0 g m c L bx gl cl gr cr a b x (W.drewN q) := ⟨h.out, h.box, h.left, h.right, h.lt, h.ne, below_drewN h.bel q⟩
theorem Inn.addL (h : Inn w0 g m c L bx gl cl gr cr a b x W) {o : Obj} (hr : RowG (bx + 1) W' (.slice (some ⟨gl', 0, none⟩) (a ++ [y]).length cl') (a ++ [y])) (hg : (W.alloc o).grownBy W' (some gl)) (hp : gl' = gl ∨ W.heap.size < gl') : Inn w0 g m c L bx gl' cl' gr cr (a ++ [y]) b x W' := by
  obtain ⟨l1, l2, l3, l4, l5, l6⟩ := h.low
  have hlt := h.lt
  have hne := h.ne
  exact ⟨(RowR.alloc h.out o).apart hg (by omega), (RowR.alloc h.box o).apart hg (by omega), hr, (RowR.alloc h.right o).apart hg (fun e => hne e.symm), hlt, by omega, (below_al h.bel o).grown hg (below_al h.bel o).size (fun k hk => by cases hk; omega)⟩
theorem Inn.addR (h : Inn w0 g m c L bx gl cl gr cr a b x W) {o : Obj} (hr : RowG (bx + 1) W' (.slice (some ⟨gl', 0, none⟩) (b ++ [y]).length cl') (b ++ [y])) (hg : (W.alloc o).grownBy W' (some gr)) (hp : gl' = gr ∨ W.heap.size < gl') : Inn w0 g m c L bx gl cl gl' cl' a (b ++ [y]) x W' := by
  obtain ⟨l1, l2, l3, l4, l5, l6⟩ := h.low
  have hlt := h.lt
  have hne := h.ne
  exact ⟨(RowR.alloc h.out o).apart hg (by omega), (RowR.alloc h.box o).apart hg (by omega), (RowR.alloc h.left o).apart hg hne, hr, hlt, by omega, (below_al h.bel o).grown hg (below_al h.bel o).size (fun k hk => by cases hk; omega)⟩
theorem Inn.put (h : Inn w0 g m c L bx gl cl gr cr a b x W) (y : Rg) : Inn w0 g m c L bx gl cl gr cr a b y ((W.setCell ⟨bx, 0, none⟩ (.int .i64 y.lo)).setCell ⟨bx, 1, none⟩ (.int .i64 y.hi)) := by
  obtain ⟨l1, l2, l3, l4, l5, l6⟩ := h.low
  have hlt := h.lt
  obtain ⟨p1, p2⟩ := RowG.boxPut h.box y
  exact ⟨h.out.apart p2 (by omega), p1, h.left.apart p2 (by omega), h.right.apart p2 (by omega), hlt, h.ne, h.bel.grown p2 h.bel.size (fun k hk => by cases hk; omega)⟩
theorem below_drew {B : Nat} (h : Below B w0 W) : Below B w0 W.drew := ⟨h.os, h.tape, h.output, h.size, h.block⟩
end
set_option maxRecDepth 100000 in
set_option maxHeartbeats 4000000 in
theorem sNorm_any (v : Value) (l : List Rg) (w : World) (hv : HasG w v l) (hn : l.length ≤ 274877906944) :
    Calls Tryz.prog 64 #[v] w fun e w' => ∃ v', e = .returned v' ∧ RowG w.heap.size w' v' (normS l) ∧ Below w.heap.size w w' := by
  obtain ⟨A, cap, rfl, hn', hc⟩ := hv
  obtain ⟨n, hnn⟩ : ∃ n, n = l.length := ⟨_, rfl⟩
  have HN : Hid (n = l.length) := Lib.hid hnn
  rw [← hnn] at hn hn' ⊢
  clear hnn
  have HBN := Lib.hid hn
  clear hn
  have hrow0 : RowG w.heap.size (w.alloc (.cells #[] 74)) (.slice (some ⟨w.heap.size, 0, none⟩) 0 0) [] := rowG_new w _ (Nat.le_refl _)
  have hb0 : Below w.heap.size w (w.alloc (.cells #[] 74)) := below_al (Below.refl _ _) _
  go_enter Tryz.func64, Tryz.ntmps64
  go_wp2
  go_loopw [3, 4] (fun u i wr => ∃ (i0 m g c : Nat) (L : List Rg), i0 ≤ n ∧ m ≤ i0 ∧ i = .int .i64 i0 ∧ u = .slice (some ⟨g, 0, none⟩) m c ∧ Hid (m = L.length) ∧ RowG w.heap.size wr (.slice (some ⟨g, 0, none⟩) m c) L ∧ Hid (IsNrm (l.take i0) L) ∧ Below w.heap.size w wr) (fun _ i _ => n - (intOf i).toNat)
  case atStart => exact ⟨0, 0, w.heap.size, 0, [], by omega, by omega, rfl, rfl, Lib.hid rfl, hrow0, Lib.hid isNrm_nil, hb0⟩
  case round =>
    obtain ⟨i0, m, g, c, L, hi0, hm, rfl, rfl, HL, hrow, HS, hbel⟩ := hrel
    clear hrow0 hb0
    by_cases hlt : i0 < n
    · have hli : i0 < l.length := by rw [← HN.out]; exact hlt
      obtain ⟨a, rfl, hab, hcell0⟩ := HasG.gk hc i0 hli
      obtain ⟨x, hx⟩ : ∃ x, x = l[i0] := ⟨_, rfl⟩
      rw [← hx] at hcell0
      obtain ⟨c0, c1⟩ := hcell0.below hbel hab
      have HX : Hid (l.take (i0 + 1) = l.take i0 ++ [x]) := Lib.hid (by rw [List.take_succ_eq_append_getElem hli, hx])
      clear hx hcell0 hc
      have hrowx : RowG w.heap.size (wr.alloc (.cells #[.int .i64 x.lo, .int .i64 x.hi] 74)) (.slice (some ⟨g, 0, none⟩) m c) L := RowR.alloc hrow _
      have hbelx := below_al hbel (.cells #[.int .i64 x.lo, .int .i64 x.hi] 74)
      by_cases a1 : x.hi < x.lo
      · have HB := Lib.hid (HS.out.skip (x0 := x) (fun h => by have := h.1; omega))
        go_wp2
        go_roundw
        case rel => exact ⟨i0 + 1, m, g, c, L, by omega, by omega, by go_num, rfl, HL, hrowx, by rw [HX.out]; exact HB, hbelx⟩
        case measure => simp [intOf]; omega
      · have b1 : decide (x.hi < x.lo) = false := by simpa using a1
        by_cases a2 : x.lo < -1000000000
        · have HB := Lib.hid (HS.out.skip (x0 := x) (fun h => by have := h.2.1; omega))
          go_wp2
          go_roundw
          case rel => exact ⟨i0 + 1, m, g, c, L, by omega, by omega, by go_num, rfl, HL, hrowx, by rw [HX.out]; exact HB, hbelx⟩
          case measure => simp [intOf]; omega
        · have b2 : decide (x.lo < -1000000000) = false := by simpa using a2
          by_cases a3 : 1000000000 < x.hi
          · have HB := Lib.hid (HS.out.skip (x0 := x) (fun h => by have := h.2.2; omega))
            go_wp2
            go_roundw
            case rel => exact ⟨i0 + 1, m, g, c, L, by omega, by omega, by go_num, rfl, HL, hrowx, by rw [HX.out]; exact HB, hbelx⟩
            case measure => simp [intOf]; omega
          · have b3 : decide (1000000000 < x.hi) = false := by simpa using a3
            have HO : Hid x.ok := Lib.hid ⟨by omega, by omega, by omega⟩
            obtain ⟨wx, hwx⟩ : ∃ wx, wx = wr.alloc (.cells #[.int .i64 x.lo, .int .i64 x.hi] 74) := ⟨_, rfl⟩
            have hin0 : Inn w g m c L wr.heap.size (wr.heap.size + 1) 0 (wr.heap.size + 1 + 1) 0 [] [] x ((wx.alloc (.cells #[] 74)).alloc (.cells #[] 74)) := by
              subst hwx
              refine ⟨RowR.alloc (RowR.alloc hrowx _) _, RowR.alloc (RowR.alloc (rowG_box wr x w.heap.size hbel.size) _) _, RowR.alloc ?_ _, ?_, (hrow.lt rfl).2, by omega, below_al (below_al hbelx _) _⟩
              · have := rowG_new (wr.alloc (.cells #[.int .i64 x.lo, .int .i64 x.hi] 74)) (wr.heap.size + 1) (by simp)
                simpa using this
              · have := rowG_new ((wr.alloc (.cells #[.int .i64 x.lo, .int .i64 x.hi] 74)).alloc (.cells #[] 74)) (wr.heap.size + 1) (by simp)
                simpa using this
            subst hwx
            clear hrow hrowx hbelx
            go_wp2
            obtain ⟨wo, rfl⟩ : ∃ wo, wo = wr := ⟨_, rfl⟩
            go_loopw [6, 7, 8] (fun u6 u7 u8 w2 => ∃ (k la lb gl cl gr cr : Nat) (A B : List Rg) (z : Rg), k ≤ m ∧ la ≤ k ∧ lb ≤ k ∧ u8 = .int .i64 k ∧ u6 = .slice (some ⟨gl, 0, none⟩) la cl ∧ u7 = .slice (some ⟨gr, 0, none⟩) lb cr ∧ Hid (la = A.length ∧ lb = B.length) ∧ Hid (Inn w g m c L wo.heap.size gl cl gr cr A B z w2) ∧ Hid (Split (L.take k) x A z B)) (fun _ _ u8 _ => m - (intOf u8).toNat)
            case atStart => exact ⟨0, 0, 0, wo.heap.size + 1, 0, wo.heap.size + 1 + 1, 0, [], [], x, by omega, by omega, by omega, rfl, by simp, by simp, Lib.hid ⟨rfl, rfl⟩, Lib.hid hin0, Lib.hid (Split.start HO.out)⟩
            case round =>
              obtain ⟨k, la, lb, gl, cl, gr, cr, A, B, z, hk, hla, hlb, rfl, rfl, rfl, HLL, HI, HSP⟩ := hrel
              clear hin0
              have hin := HI.out
              obtain ⟨l1, l2, l3, l4, l5, l6⟩ := hin.low
              obtain ⟨e0, e1, f0, f1⟩ := RowG.box hin.box
              have hzo := HSP.out.okx
              obtain ⟨z1, z2, z3⟩ := hzo
              have hzh : -1000000000 ≤ z.hi := by omega
              have hzl : z.lo ≤ 1000000000 := by omega
              have hbi := HBN.out
              have hla2 : la + 1 ≤ 549755813888 := by omega
              have hlb2 : lb + 1 ≤ 549755813888 := by omega
              have hlab2 : la + 1 + lb ≤ 549755813888 := by have := HSP.out.len; have := HLL.out; have := HL.out; rw [List.length_take] at *; omega
              have HZ : Hid (la + 1 ≤ 549755813888 ∧ lb + 1 ≤ 549755813888 ∧ la + 1 + lb ≤ 549755813888) := Lib.hid ⟨hla2, hlb2, hlab2⟩
              clear hbi hla2 hlb2 hlab2
              by_cases hkm : k < m
              · have hkL : k < L.length := by rw [← HL.out]; exact hkm
                have hcy := RowG.cells hin.out hkL
                obtain ⟨⟨d0, d1⟩, _, _⟩ := hcy
                have hyk := nrm_get HS.out.1 hkL
                obtain ⟨y, hy⟩ : ∃ y, y = L[k] := ⟨_, rfl⟩
                rw [← hy] at d0 d1 hyk
                have HY : Hid (L.take (k + 1) = L.take k ++ [y]) := Lib.hid (by rw [List.take_succ_eq_append_getElem hkL, hy])
                have HYP : Hid (y.ok ∧ ∀ p ∈ L.take k, p.bef y) := Lib.hid hyk
                obtain ⟨⟨y1, y2, y3⟩, _⟩ := hyk
                clear hy
                have hyh : -1000000000 ≤ y.hi := by omega
                have hyl : y.lo ≤ 1000000000 := by omega
                have hmc : m ≤ c := (RowR.cap hin.out)
                have hw1 : IntKind.i64.wrap (y.hi + 1) = y.hi + 1 := IntWalk.i64_in _ (by omega)
                have hw2 : IntKind.i64.wrap (z.hi + 1) = z.hi + 1 := IntWalk.i64_in _ (by omega)
                have hgl := hin.left
                have hgr := hin.right
                rw [← HLL.out.1] at hgl
                rw [← HLL.out.2] at hgr
                clear hin
                by_cases q1 : y.hi + 1 < z.lo
                · have q1' : decide (y.hi + 1 < z.lo) = true := decide_eq_true q1
                  have HSP2 := Lib.hid (HSP.out.left HYP.out.1 HYP.out.2 q1)
                  go_wp2
                  go_quiet (fail)
                  have hgl3 : RowG (wo.heap.size + 1) (wr.drewN nq) (.slice (some ⟨gl, 0, none⟩) la cl) A := hgl
                  have d0' : (wr.drewN nq).cell? ⟨g, k * 2, none⟩ = some (.int .i64 y.lo) := d0
                  have d1' : (wr.drewN nq).cell? ⟨g, k * 2 + 1, none⟩ = some (.int .i64 y.hi) := d1
                  have hin3 := Lib.hid (HI.out.drewN nq)
                  clear d0 d1 e0 e1 f0 f1 hgl hgr HI
                  have l2' : wo.heap.size + 1 ≤ (wr.drewN nq).heap.size := l2
                  generalize wr.drewN nq = w3 at hgl3 d0' d1' hin3 l2' ⊢
                  go_wp2_with (at_builtin; refine wpList_rng_append_at rfl _ _ rfl (wo.heap.size + 1) gl la cl A (by rfl) hgl3 y _ (by rfl) rfl HZ.out.1 l2' (la + 1) rfl ?_; intro g' c' w4 hrow4 hg4 hp4)
                  go_roundw
                  case rel => exact ⟨k + 1, la + 1, lb, g', c', gr, cr, A ++ [y], B, z, by omega, by omega, by omega, by go_num, rfl, rfl, Lib.hid ⟨by rw [List.length_append, ← HLL.out.1]; rfl, HLL.out.2⟩, Lib.hid (hin3.out.addL (by rw [List.length_append, ← HLL.out.1]; exact hrow4) hg4 hp4), by rw [HY.out]; exact HSP2⟩
                  case measure => simp [intOf]; omega
                · have q1' : decide (y.hi + 1 < z.lo) = false := decide_eq_false q1
                  by_cases q2 : z.hi + 1 < y.lo
                  · have q2' : decide (z.hi + 1 < y.lo) = true := decide_eq_true q2
                    have HSP2 := Lib.hid (HSP.out.right HYP.out.1 HYP.out.2 q2)
                    go_wp2
                    go_quiet (fail)
                    have d0' : (wr.drewN nq).cell? ⟨g, k * 2, none⟩ = some (.int .i64 y.lo) := d0
                    have d1' : (wr.drewN nq).cell? ⟨g, k * 2 + 1, none⟩ = some (.int .i64 y.hi) := d1
                    have e0' : (wr.drewN nq).cell? ⟨wo.heap.size, 0, none⟩ = some (.int .i64 z.lo) := e0
                    have e1' : (wr.drewN nq).cell? ⟨wo.heap.size, 1, none⟩ = some (.int .i64 z.hi) := e1
                    have hin3 := Lib.hid (HI.out.drewN nq)
                    clear d0 d1 e0 e1 f0 f1 hgl hgr HI l1 l2 l3 l4 l5 l6 hbel
                    generalize wr.drewN nq = w3 at d0' d1' e0' e1' hin3 ⊢
                    clear nq
                    go_wp2
                    go_quiet (fail)
                    have hgr3 : RowG (wo.heap.size + 1) (w3.drewN nq) (.slice (some ⟨gr, 0, none⟩) lb cr) B := by rw [HLL.out.2]; exact hin3.out.right
                    have d0 : (w3.drewN nq).cell? ⟨g, k * 2, none⟩ = some (.int .i64 y.lo) := d0'
                    have d1 : (w3.drewN nq).cell? ⟨g, k * 2 + 1, none⟩ = some (.int .i64 y.hi) := d1'
                    have l2' : wo.heap.size + 1 ≤ (w3.drewN nq).heap.size := hin3.out.low.2.1
                    have hin4 := Lib.hid (hin3.out.drewN nq)
                    clear d0' d1' e0' e1' hin3
                    generalize w3.drewN nq = w5 at d0 d1 hgr3 l2' hin4 ⊢
                    go_wp2_with (at_builtin; refine wpList_rng_append_at rfl _ _ rfl (wo.heap.size + 1) gr lb cr B (by rfl) hgr3 y _ (by rfl) rfl HZ.out.2.1 l2' (lb + 1) rfl ?_; intro g' c' w4 hrow4 hg4 hp4)
                    go_roundw
                    case rel => exact ⟨k + 1, la, lb + 1, gl, cl, g', c', A, B ++ [y], z, by omega, by omega, by omega, by go_num, rfl, rfl, Lib.hid ⟨HLL.out.1, by rw [List.length_append, ← HLL.out.2]; rfl⟩, Lib.hid (hin4.out.addR (by rw [List.length_append, ← HLL.out.2]; exact hrow4) hg4 hp4), by rw [HY.out]; exact HSP2⟩
                    case measure => simp [intOf]; omega
                  · have q2' : decide (z.hi + 1 < y.lo) = false := decide_eq_false q2
                    have HSP2 := Lib.hid (HSP.out.both HYP.out.1 HYP.out.2 q1 q2)
                    go_wp2
                    go_quiet (fail)
                    have d0' : (wr.drewN nq).cell? ⟨g, k * 2, none⟩ = some (.int .i64 y.lo) := d0
                    have d1' : (wr.drewN nq).cell? ⟨g, k * 2 + 1, none⟩ = some (.int .i64 y.hi) := d1
                    have e0' : (wr.drewN nq).cell? ⟨wo.heap.size, 0, none⟩ = some (.int .i64 z.lo) := e0
                    have e1' : (wr.drewN nq).cell? ⟨wo.heap.size, 1, none⟩ = some (.int .i64 z.hi) := e1
                    have hin3 := Lib.hid (HI.out.drewN nq)
                    clear d0 d1 e0 e1 f0 f1 hgl hgr HI l1 l2 l3 l4 l5 l6 hbel
                    generalize wr.drewN nq = w3 at d0' d1' e0' e1' hin3 ⊢
                    clear nq
                    go_wp2
                    go_quiet (fail)
                    have d0 : (w3.drewN nq).cell? ⟨g, k * 2, none⟩ = some (.int .i64 y.lo) := d0'
                    have d1 : (w3.drewN nq).cell? ⟨g, k * 2 + 1, none⟩ = some (.int .i64 y.hi) := d1'
                    have hin4 := Lib.hid (hin3.out.drewN nq)
                    have hbox := RowG.box hin4.out.box
                    obtain ⟨e0, e1, f0, f1⟩ := hbox
                    clear d0' d1' e0' e1' hin3
                    generalize w3.drewN nq = w5 at d0 d1 e0 e1 f0 f1 hin4 ⊢
                    go_wp2
                    go_still_tail 17, (by kernel_rfl)
                    still_call ((sMin_any z.lo y.lo _).mono fun _ _ ⟨h1, h2⟩ => ⟨h1, h2.symm⟩)
                    repeat still_step
                    still_call ((sMax_any z.hi y.hi _).mono fun _ _ ⟨h1, h2⟩ => ⟨h1, h2.symm⟩)
                    repeat still_step
                    refine wpStill_nil ?_
                    change wpList _ _ _ _ _ w5.drew
                    have hin5 := Lib.hid ((show Inn w g m c L wo.heap.size gl cl gr cr A B z w5.drew from hin4.out.drewN 1).put (z.cup y))
                    have e0'' : w5.drew.cell? ⟨wo.heap.size, 0, none⟩ = some (.int .i64 z.lo) := e0
                    have e1'' : w5.drew.cell? ⟨wo.heap.size, 1, none⟩ = some (.int .i64 z.hi) := e1
                    have f0'' : w5.drew.frozen? ⟨wo.heap.size, 0, none⟩ = false := f0
                    have f1'' : w5.drew.frozen? ⟨wo.heap.size, 1, none⟩ = false := f1
                    clear hin4 e0 e1 f0 f1 d0 d1
                    generalize w5.drew = w6 at hin5 e0'' e1'' f0'' f1'' ⊢
                    go_wp2
                    go_roundw
                    case rel => exact ⟨k + 1, la, lb, gl, cl, gr, cr, A, B, z.cup y, by omega, by omega, by omega, by go_num, rfl, rfl, HLL, hin5, by rw [HY.out]; exact HSP2⟩
                    case measure => simp [intOf]; omega
              · have e : k = m := by omega
                have hgl := hin.left
                have hgr := hin.right
                rw [← HLL.out.1] at hgl
                rw [← HLL.out.2] at hgr
                have HIN := Lib.hid hin
                clear hin HI
                go_wp2_with (first
                  | (at_builtin; refine wpList_rng_append_at rfl _ _ rfl (wo.heap.size + 1) gl la cl A (by rfl) hgl z _ (by rfl) rfl HZ.out.1 (by have := HIN.out.low; omega) (la + 1) rfl ?_; intro g' c' w4 hrow4 hg4 hp4; have hr4 := (RowR.alloc hgr _).apart hg4 (fun e => HIN.out.ne e.symm))
                  | (at_builtin; refine wpList_rng_appends rfl _ _ rfl (wo.heap.size + 1) g' (la + 1) c' (A ++ [z]) (by rfl) hrow4 (wo.heap.size + 1) gr lb cr B (by rfl) hr4 (by omega) HZ.out.2.2 (by have h := hg4.size; have := HIN.out.low; simp at h; omega) (la + 1 + lb) rfl ?_; intro g2 c2 w5 hrow5 hg5))
                have HB5 : Hid (Below w.heap.size w w5) := Lib.hid (by
                  have hl := HIN.out.low
                  have h4 := (below_al HIN.out.bel (.cells #[.int .i64 z.lo, .int .i64 z.hi] 74)).grown hg4 (below_al HIN.out.bel _).size (fun k hk => by cases hk; omega)
                  exact h4.grown hg5 h4.size (fun k hk => by cases hk; have := (hrow4.lt rfl).1; omega))
                have HFS : Hid (Split L x A z B) := Lib.hid (by have h := HSP.out; rwa [List.take_of_length_le (by have := HL.out; omega)] at h)
                have HLEN : Hid (la + 1 + lb ≤ i0 + 1 ∧ la + 1 + lb = (A ++ [z] ++ B).length) := Lib.hid (by
                  have h1 := HFS.out.len
                  have h2 := HLL.out
                  have h3 := HL.out
                  simp only [List.length_append, List.length_singleton]
                  omega)
                have hr6 : RowG w.heap.size w5 (.slice (some ⟨g2, 0, none⟩) (la + 1 + lb) c2) (A ++ [z] ++ B) := hrow5.mono (by have := HIN.out.low; omega)
                clear hrow5 hrow4 hr4 hgl hgr hg4 hg5
                go_roundw
                case rel => exact ⟨i0 + 1, la + 1 + lb, g2, c2, A ++ [z] ++ B, by omega, HLEN.out.1, by go_num, rfl, Lib.hid HLEN.out.2, hr6, by rw [HX.out]; exact Lib.hid (HS.out.put HFS.out HO.out), HB5.out⟩
                case measure => simp [intOf]; omega
    · go_wp2
      go_ret
      have e : i0 = n := by omega
      subst e
      refine ⟨_, rfl, ?_, hbel⟩
      have h := HS.out
      rw [List.take_of_length_le (by rw [← HN.out]; exact Nat.le_refl _)] at h
      rw [← h.eq]
      exact hrow
end Go.Proofs.YtdmccopggmienaaGreat
