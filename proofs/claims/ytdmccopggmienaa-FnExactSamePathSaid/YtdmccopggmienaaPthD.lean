/- CHAPTER 7, spec: SamePath. -/
import Derived.Test.YtdmccopggmienaaPthC
import Derived.RegionTactic
set_option linter.unusedVariables false
set_option linter.unusedSimpArgs false
namespace Go.Proofs.Ytdmccopggmienaa
open Go.RowKit

theorem two_cells {w : World} {b : Nat} {a0 a1 : Value} {t : TypeId} (h : w.heap[b]? = some (.cells #[a0, a1] t (0, 0))) : w.cell? ⟨b, 0, none⟩ = some a0 ∧ w.cell? ⟨b, 1, none⟩ = some a1 := by
  constructor
  · rw [cell_of_row _ b 0 _ _ _ h]; rfl
  · rw [cell_of_row _ b 1 _ _ _ h]; rfl
theorem three_cells {w : World} {b : Nat} {a0 a1 a2 : Value} {t : TypeId} (h : w.heap[b]? = some (.cells #[a0, a1, a2] t (0, 0))) : w.cell? ⟨b, 0, none⟩ = some a0 ∧ w.cell? ⟨b, 1, none⟩ = some a1 ∧ w.cell? ⟨b, 2, none⟩ = some a2 := by
  refine ⟨?_, ?_, ?_⟩
  · rw [cell_of_row _ b 0 _ _ _ h]; rfl
  · rw [cell_of_row _ b 1 _ _ _ h]; rfl
  · rw [cell_of_row _ b 2 _ _ _ h]; rfl
theorem hasX_tell {w : World} {A : Option Addr} {n c : Nat} {l : List Tst} (h : HasX w (.slice A n c) l) (k : Nat) (hk : k < l.length) : ∃ a, A = some a ∧ (a.add (k * 2)).block < w.heap.size ∧ Xk w (a.add (k * 2)) l[k] := by
  obtain ⟨A', c', e, _, hc⟩ := h
  cases e
  exact HasX.xk hc k hk
theorem two_new {w W : World} {o1 o2 : Obj} (h : ((w.alloc o1).alloc o2).drew = W) : W.heap[w.heap.size]? = some o1 ∧ W.heap[w.heap.size + 1]? = some o2 ∧ Below w.heap.size w W := by
  rw [← h]
  refine ⟨?_, ?_, (below_al (below_al (Below.refl _ _) _) _).drew⟩
  · show ((w.alloc o1).alloc o2).heap[w.heap.size]? = some o1
    rw [Below.heap_alloc _ _ _ (by simp)]; exact alloc_new_at' _ _ rfl
  · show ((w.alloc o1).alloc o2).heap[w.heap.size + 1]? = some o2
    exact alloc_new_at' _ _ (by simp)
set_option maxRecDepth 100000 in
set_option maxHeartbeats 8000000 in
theorem sSame_any (u v : PthV) (p p' : Pth) (w : World) (hu : HasP7 w u p) (hv : HasP7 w v p') :
    Calls Try.prog 18 #[u.val, v.val] w fun e w' => e = .returned (.bool (dB (p = p'))) ∧ Below w.heap.size w w' := by
  obtain ⟨r, k, l⟩ := p
  obtain ⟨r', k', l'⟩ := p'
  obtain ⟨ur, uk, sv⟩ := u
  obtain ⟨vr, vk, sv'⟩ := v
  obtain ⟨rfl, rfl, hs⟩ := hu
  obtain ⟨rfl, rfl, hs'⟩ := hv
  dsimp only at hs hs' ⊢
  obtain ⟨A, cap, rfl, hn', hc⟩ := hs.at
  obtain ⟨A', cap', rfl, hm', hc'⟩ := hs'.at
  obtain ⟨Z, hZ⟩ : ∃ Z, Z = dB ((⟨ur, uk, l⟩ : Pth) = ⟨vr, vk, l'⟩) := ⟨_, rfl⟩
  have HF1 : Hid (¬ ur = vr → Z = false) := Lib.hid fun he => hZ.trans (dB_no fun h => he (by cases h; rfl))
  have HF2 : Hid (¬ uk = vk → Z = false) := Lib.hid fun he => hZ.trans (dB_no fun h => he (by cases h; rfl))
  have HF3 : Hid (l ≠ l' → Z = false) := Lib.hid fun he => hZ.trans (dB_no fun h => he (by cases h; rfl))
  have HF4 : Hid (ur = vr → uk = vk → l = l' → Z = true) := Lib.hid fun e1 e2 e3 => by subst e1 e2 e3; rw [hZ]; exact dB_yes rfl
  rw [← hZ]
  have hb0 := below_al (below_al (Below.refl w.heap.size w) (.cells #[.bool ur, .int .i64 uk, .slice A l.length cap] 29)) (.cells #[.bool vr, .int .i64 vk, .slice A' l'.length cap'] 29)
  clear hZ hs hs'
  by_cases he : uk = vk
  rotate_left
  · have h1 : (uk != vk) = true := by simp [he]
    have HE := Lib.hid he
    have HB := Lib.hid hb0
    clear he hc hc' hb0
    cases ur <;> cases vr
    all_goals
      go_enter Try.func18, Try.ntmps18
      go_wp2
      go_ret
      exact ⟨ret_bool (HF2.out HE.out).symm, HB.out⟩
  have h1 : (uk != vk) = false := by simp [he]
  have HE := Lib.hid he
  clear he
  by_cases hr : ur = vr
  rotate_left
  · have HR := Lib.hid hr
    have HB := Lib.hid hb0
    clear hc hc' hb0
    cases ur <;> cases vr
    all_goals first
      | exact absurd rfl hr
      | (clear hr
         go_enter Try.func18, Try.ntmps18
         go_wp2
         go_ret
         exact ⟨ret_bool (HF1.out HR.out).symm, HB.out⟩)
  subst hr
  have hu0 : (ur != ur) = false := by simp
  by_cases hlen : l.length = l'.length
  rotate_left
  · have HB := Lib.hid hb0
    have HL : Hid (Z = false) := Lib.hid (HF3.out fun h => hlen (congrArg List.length h))
    clear hc hc' hb0
    generalize l.length = n at *
    generalize l'.length = m at *
    have h2 : ((n : Int) != (m : Int)) = true := by simp; omega
    all_goals
      go_enter Try.func18, Try.ntmps18
      go_wp2
      go_ret
      exact ⟨ret_bool HL.out.symm, HB.out⟩
  obtain ⟨n, hnn⟩ : ∃ n, n = l.length := ⟨_, rfl⟩
  have HN : Hid (n = l.length) := Lib.hid hnn
  have HM : Hid (n = l'.length) := Lib.hid (hnn.trans hlen)
  rw [← HM.out] at hm' hb0 ⊢
  rw [← hnn] at hn' hb0 ⊢
  have q0 : ((n : Int) != (n : Int)) = false := by simp
  obtain ⟨W0, hW0⟩ : ∃ W0, W0 = (w.alloc (.cells #[.bool ur, .int .i64 uk, .slice A n cap] 29)).alloc (.cells #[.bool ur, .int .i64 vk, .slice A' n cap'] 29) := ⟨_, rfl⟩
  rw [← hW0] at hb0
  have HBA : Hid (∀ W, Below W0.heap.size W0 W → (W.cell? ⟨w.heap.size, 0, none⟩ = some (.bool ur) ∧ W.cell? ⟨w.heap.size, 1, none⟩ = some (.int .i64 uk) ∧ W.cell? ⟨w.heap.size, 2, none⟩ = some (.slice A n cap)) ∧ (W.cell? ⟨w.heap.size + 1, 0, none⟩ = some (.bool ur) ∧ W.cell? ⟨w.heap.size + 1, 1, none⟩ = some (.int .i64 vk) ∧ W.cell? ⟨w.heap.size + 1, 2, none⟩ = some (.slice A' n cap')) ∧ Below w.heap.size w W) := Lib.hid fun W hb => by
    have hz : W0.heap.size = w.heap.size + 2 := by rw [hW0]; simp
    have X : W.heap[w.heap.size]? = some (.cells #[.bool ur, .int .i64 uk, .slice A n cap] 29 (0, 0)) := (hb.block _ (by omega)).trans (by rw [hW0, Below.heap_alloc _ _ _ (by simp)]; exact alloc_new_at' _ _ rfl)
    have Y : W.heap[w.heap.size + 1]? = some (.cells #[.bool ur, .int .i64 vk, .slice A' n cap'] 29 (0, 0)) := (hb.block _ (by omega)).trans (by rw [hW0]; exact alloc_new_at' _ _ (by simp))
    exact ⟨three_cells X, three_cells Y, below_step hb0 hb⟩
  have HZ0 : Hid (W0.heap.size = w.heap.size + 2) := Lib.hid (by rw [hW0]; simp)
  clear hnn hlen hm'
  go_enter Try.func18, Try.ntmps18
  all_goals
    go_wp2
    rw [← hW0]
    go_loopw [5] (fun i wr => ∃ k : Nat, k ≤ n ∧ i = .int .i64 k ∧ Hid (SameTo l l' k) ∧ Hid (Below W0.heap.size W0 wr)) (fun i _ => n - (intOf i).toNat)
    case atStart => exact ⟨0, Nat.zero_le _, rfl, Lib.hid (sameTo_0 l l'), Lib.hid (Below.refl _ _)⟩
    case round =>
      obtain ⟨k, hk, rfl, HS, HBW⟩ := hrel
      obtain ⟨⟨x0, x1, x2⟩, ⟨y0, y1, y2⟩, -⟩ := HBA.out _ HBW.out
      by_cases hlt : k < n
      · have hl1 : k < l.length := by rw [← HN.out]; exact hlt
        have hl2 : k < l'.length := by rw [← HM.out]; exact hlt
        obtain ⟨a, x, rfl, hab, hx, hxn, hxt⟩ := hc k hl1
        obtain ⟨a', y, rfl, hab', hy, hyn, hyt⟩ := hc' k hl2
        have hbel := (HBA.out _ HBW.out).2.2
        obtain ⟨c0, c1⟩ := hx.below hbel hab
        obtain ⟨d0, d1⟩ := hy.below hbel hab'
        have HXT := Lib.hid hxt
        have HYT := Lib.hid hyt
        obtain ⟨xA, xc, xe, hxm, hxc⟩ := id hxt
        obtain ⟨yA, yc, ye, hym, hyc⟩ := id hyt
        have HEQ : Hid (l[k] = l'[k] → SameTo l l' (k + 1)) := Lib.hid (sameTo_next HS.out hl1 hl2)
        have HNE : Hid (¬ l[k] = l'[k] → Z = false) := Lib.hid fun he => HF3.out (same_ne hl1 hl2 he)
        generalize l[k] = s at *
        generalize l'[k] = s' at *
        obtain ⟨sn, ts⟩ := s
        obtain ⟨sn', ts'⟩ := s'
        obtain ⟨xn, xtv⟩ := x
        obtain ⟨yn, ytv⟩ := y
        dsimp only at *
        subst hxn hyn xe ye
        have hbel2 := Lib.hid hbel
        have hz0 : w.heap.size + 2 ≤ wr.heap.size := by have := HBW.out.size; have := HZ0.out; omega
        have hz1 : w.heap.size < wr.heap.size := by omega
        have hz2 : w.heap.size + 1 < wr.heap.size := by omega
        have hz3 : w.heap.size < wr.heap.size + 1 := by omega
        have hz4 : w.heap.size + 1 < wr.heap.size + 1 := by omega
        have hw1 : (a.add (k * 2)).block < wr.heap.size := Nat.lt_of_lt_of_le hab hbel.size
        have hw2 : (a'.add (k * 2)).block < wr.heap.size := Nat.lt_of_lt_of_le hab' hbel.size
        have hw3 : (a.add (k * 2)).block < wr.heap.size + 1 := by omega
        have hw4 : (a'.add (k * 2)).block < wr.heap.size + 1 := by omega
        clear hxt hyt hbel hxc hym hyc hc hc'
        go_wp2
        go_region
        all_goals
          generalize hW2 : World.drew _ = W2
          obtain ⟨X1, X2, hB2⟩ := two_new hW2
          have HB2 := Lib.hid hB2
          have HX1 := Lib.hid X1
          have HX2 := Lib.hid X2
          have HXT2 := Lib.hid (HasR.below HXT.out (below_step hbel2.out hB2))
          have HYT2 := Lib.hid (HasR.below HYT.out (below_step hbel2.out hB2))
          have hzz : wr.heap.size + 1 < W2.heap.size := (Array.getElem?_eq_some_iff.1 X2).1
          obtain ⟨e0, e1⟩ := two_cells X1
          obtain ⟨f0, f1⟩ := two_cells X2
          clear x0 x1 x2 y0 y1 y2 c0 c1 d0 d1 hW2 X1 X2 hB2 hz0 hz1 hz2 hz3 hz4 hw1 hw2 hw3 hw4
          have HLOW : Hid (∀ W, Below W2.heap.size W2 W → Below W0.heap.size W0 W) := Lib.hid fun W hb => below_step (below_step HBW.out HB2.out) hb
          by_cases hne : xn = yn
          rotate_left
          · have h4 : (xn.toList == yn.toList) = false := str_ne7 hne
            have HL := Lib.hid (HNE.out (fun h => hne (by cases h; rfl)))
            clear hne
            go_wp2
            go_ret
            exact ⟨ret_bool HL.out.symm, (HBA.out _ (HLOW.out _ (Below.refl _ _))).2.2⟩
          subst hne
          by_cases hlt2 : ts.length = ts'.length
          rotate_left
          · have HL := Lib.hid (HNE.out (fun h => hlt2 (by cases h; rfl)))
            clear HXT2 HYT2 HXT HYT
            generalize ts.length = m1 at *
            generalize ts'.length = m2 at *
            have h3 : ((m1 : Int) != (m2 : Int)) = true := by simp; omega
            go_wp2
            go_ret
            exact ⟨ret_bool HL.out.symm, (HBA.out _ (HLOW.out _ (Below.refl _ _))).2.2⟩
          clear HXT HYT
          generalize hm2 : ts'.length = m2 at *
          generalize hm : ts.length = m at *
          subst hlt2
          have HL2 : Hid (ts.length = ts'.length) := Lib.hid (hm.trans hm2.symm)
          have HMM : Hid (m = ts.length) := Lib.hid hm.symm
          clear hm hm2
          have q3 : ((m : Int) != (m : Int)) = false := by simp
          have HKK : Hid (k < n) := Lib.hid hlt
          go_wp2
          obtain ⟨I, hI⟩ : ∃ I, I = k := ⟨_, rfl⟩
          subst hI
          obtain ⟨wo, hwo⟩ : ∃ wo : World, wo = wr := ⟨_, rfl⟩
          subst hwo
          go_loopw [8] (fun i wq => ∃ j : Nat, j ≤ m ∧ i = .int .i64 j ∧ Hid (SameTo ts ts' j) ∧ Hid (Below W2.heap.size W2 wq)) (fun i _ => m - (intOf i).toNat)
          case atStart => exact ⟨0, Nat.zero_le _, rfl, Lib.hid (sameTo_0 ts ts'), Lib.hid (Below.refl _ _)⟩
          case round =>
            clear e0 e1 f0 f1
            obtain ⟨j, hj, rfl, HJ, HBQ⟩ := hrel
            obtain ⟨e0, e1⟩ := two_cells ((HBQ.out.block _ (by omega)).trans HX1.out)
            obtain ⟨f0, f1⟩ := two_cells ((HBQ.out.block _ hzz).trans HX2.out)
            by_cases hjm : j < m
            · have hl3 : j < ts.length := by rw [← HMM.out]; exact hjm
              have hl4 : j < ts'.length := by rw [← HL2.out, ← HMM.out]; exact hjm
              obtain ⟨b, rfl, hbb, hx⟩ := hasX_tell HXT2.out j hl3
              obtain ⟨b', rfl, hbb', hy⟩ := hasX_tell HYT2.out j hl4
              obtain ⟨c0, c1⟩ := hx.below HBQ.out hbb
              obtain ⟨d0, d1⟩ := hy.below HBQ.out hbb'
              have HTE : Hid (ts[j] = ts'[j] → SameTo ts ts' (j + 1)) := Lib.hid (sameTo_next HJ.out hl3 hl4)
              have HTN : Hid (¬ ts[j] = ts'[j] → Z = false) := Lib.hid fun he => HNE.out (fun h => same_ne hl3 hl4 he (by cases h; rfl))
              generalize ts[j] = x at *
              generalize ts'[j] = y at *
              clear hx hy
              have q2 := fun op a b w => tstGd op a b x y w
              by_cases he : x = y
              · have q1 : ∀ w, (binOp .neq 42 (.agg #[.string x.n, .string x.v]) (.agg #[.string y.n, .string y.v])).run Try.prog w = .ok (.bool false) w := fun w => by rw [tstNe, he]; simp
                have HS2 := Lib.hid (HTE.out he)
                clear he
                go_wp2
                go_quiet (fail)
                go_wp2
                go_roundw
                case rel => exact ⟨j + 1, by omega, by go_num, HS2, Lib.hid (below_drewN HBQ.out _)⟩
                case measure => simp [intOf]; omega
              · have q1 : ∀ w, (binOp .neq 42 (.agg #[.string x.n, .string x.v]) (.agg #[.string y.n, .string y.v])).run Try.prog w = .ok (.bool true) w := fun w => by rw [tstNe, tst_ne he]; rfl
                have HL := Lib.hid (HTN.out he)
                clear he
                go_wp2
                go_quiet (fail)
                go_wp2
                go_ret
                exact ⟨ret_bool HL.out.symm, below_drewN (HBA.out _ (HLOW.out _ HBQ.out)).2.2 _⟩
            · have HS2 := Lib.hid (HEQ.out (by rw [sameTo_all HL2.out (by have := HJ.out; rwa [show j = ts.length by have := HMM.out; omega] at this)]))
              go_wp2
              go_roundw
              case rel => exact ⟨I + 1, by have := HKK.out; omega, by go_num, HS2, Lib.hid (HLOW.out _ HBQ.out)⟩
              case measure => simp [intOf]; have := HKK.out; omega
      · have HL : Hid (Z = true) := Lib.hid (HF4.out (by first | rfl | trivial) HE.out (sameTo_all (HN.out.symm.trans HM.out) (by have := HS.out; rwa [show k = l.length by have := HN.out; omega] at this)))
        have hB := (HBA.out _ HBW.out).2.2
        clear hc hc'
        go_wp2
        go_ret
        exact ⟨ret_bool HL.out.symm, hB⟩
end Go.Proofs.Ytdmccopggmienaa
