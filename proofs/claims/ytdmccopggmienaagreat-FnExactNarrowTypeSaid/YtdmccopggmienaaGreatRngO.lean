/- CHAPTER 4, FIFTH PART: impl.NormalRanges; MeetRanges. -/
import Derived.Test.YtdmccopggmienaaGreatRngM
import Derived.Test.YtdmccopggmienaaGreatRngN
set_option linter.unusedVariables false
set_option linter.unusedSimpArgs false
namespace Go.Proofs.YtdmccopggmienaaGreat
open Go.RowKit

set_option maxRecDepth 100000 in
set_option maxHeartbeats 2000000 in
theorem iNorm_any (v : Value) (l : List Rg) (w : World) (hv : HasG w v l) (hn : l.length ≤ 274877906944) :
    Calls Tryz.prog 70 #[v] w fun e w' => ∃ v', e = .returned v' ∧ RowG w.heap.size w' v' (normS l) ∧ Below w.heap.size w w' := by
  obtain ⟨A, cap, rfl, hn', hc⟩ := hv
  obtain ⟨n, hnn⟩ : ∃ n, n = l.length := ⟨_, rfl⟩
  have HN : Hid (n = l.length) := Lib.hid hnn
  rw [← hnn] at hn hn' ⊢
  clear hnn
  have HBN := Lib.hid hn
  clear hn
  have hrow0 : RowG w.heap.size (w.alloc (.cells #[] 74)) (.slice (some ⟨w.heap.size, 0, none⟩) 0 0) [] := rowG_new w _ (Nat.le_refl _)
  have hb0 : Below w.heap.size w (w.alloc (.cells #[] 74)) := below_al (Below.refl _ _) _
  go_enter Tryz.func70, Tryz.ntmps70
  go_wp2
  go_loopw [3, 9] (fun u i wr => ∃ (k m g c : Nat) (F : List Rg), k ≤ n ∧ m ≤ k ∧ i = .int .i64 k ∧ u = .slice (some ⟨g, 0, none⟩) m c ∧ Hid (F = (l.take k).filter (fun x => decide x.ok)) ∧ RowG w.heap.size wr (.slice (some ⟨g, 0, none⟩) m c) F ∧ Below w.heap.size w wr) (fun _ i _ => n - (intOf i).toNat)
  case atStart => exact ⟨0, 0, w.heap.size, 0, [], by omega, by omega, rfl, rfl, Lib.hid rfl, hrow0, hb0⟩
  case round =>
    obtain ⟨k, m, g, c, F, hk, hm, rfl, rfl, HF, hrow, hbel⟩ := hrel
    clear hrow0 hb0
    by_cases hlt : k < n
    · have hli : k < l.length := by rw [← HN.out]; exact hlt
      obtain ⟨a, rfl, hab, hcell0⟩ := HasG.gk hc k hli
      obtain ⟨x, hx⟩ : ∃ x, x = l[k] := ⟨_, rfl⟩
      rw [← hx] at hcell0
      obtain ⟨c0, c1⟩ := hcell0.below hbel hab
      have HX : Hid (l.take (k + 1) = l.take k ++ [x]) := Lib.hid (by rw [List.take_succ_eq_append_getElem hli, hx])
      have HM : Hid (m + 1 ≤ 549755813888) := Lib.hid (by have := HBN.out; omega)
      clear hx hcell0 hc
      have hrowx : RowG w.heap.size (wr.alloc (.cells #[.int .i64 x.lo, .int .i64 x.hi] 74)) (.slice (some ⟨g, 0, none⟩) m c) F := RowR.alloc hrow _
      have hgb := (hrow.lt rfl).1
      have hbelx := below_al hbel (.cells #[.int .i64 x.lo, .int .i64 x.hi] 74)
      clear hrow
      by_cases ho : x.ok
      · have HO := Lib.hid ho
        have HF2 : Hid (F ++ [x] = (l.take (k + 1)).filter (fun x => decide x.ok)) := Lib.hid (by rw [HX.out, List.filter_append, ← HF.out]; simp [ho])
        clear ho
        go_wp2_with (first
          | (go_at_call 69; refine (ok_yes HO.out _).mono ?_; rintro e w2 ⟨rfl, hb2⟩; obtain ⟨b0, b1⟩ := box2 hb2; have hrow2 := RowR.below hrowx hb2; have hbel2 := below_step hbelx hb2; clear hb2 hrowx hbelx)
          | (at_builtin; refine wpList_rng_append rfl _ _ rfl w.heap.size g m c F (by rfl) hrow2 x _ (by rfl) rfl HM.out hbel2.size (m + 1) rfl ?_; intro g' c' w4 hrow4 hg4))
        go_roundw
        case rel => exact ⟨k + 1, m + 1, g', c', F ++ [x], by omega, by omega, by go_num, rfl, HF2, hrow4, (below_al hbel2 _).grown hg4 (below_al hbel2 _).size (fun _ h => by cases h; exact hgb)⟩
        case measure => simp [intOf]; omega
      · have HO := Lib.hid ho
        have HF2 : Hid (F = (l.take (k + 1)).filter (fun x => decide x.ok)) := Lib.hid (by rw [HX.out, List.filter_append, ← HF.out]; simp [ho])
        clear ho
        go_wp2_with (first
          | (go_at_call 69; refine (ok_no HO.out _).mono ?_; rintro e w2 ⟨rfl, hb2⟩; have hrow2 := RowR.below hrowx hb2; have hbel2 := below_step hbelx hb2; clear hb2 hrowx hbelx))
        go_roundw
        case rel => exact ⟨k + 1, m, g, c, F, by omega, by omega, by go_num, rfl, HF2, hrow2, hbel2⟩
        case measure => simp [intOf]; omega
    · have e : k = n := by omega
      have HF2 : Hid (F = l.filter (fun x => decide x.ok)) := Lib.hid (by have := HF.out; rwa [List.take_of_length_le (by have := HN.out; omega)] at this)
      have HFL : Hid (m = F.length ∧ F.length ≤ 274877906944) := Lib.hid ⟨hrow.cap', by rw [HF2.out]; have h1 := List.length_filter_le (fun x : Rg => decide x.ok) l; have := HN.out; have := HBN.out; omega⟩
      have hgb := (hrow.lt rfl).1
      have HM : Hid (m < 4611686018427387904) := Lib.hid (by have := HFL.out; omega)
      clear hc
      go_wp2_with (first
        | (go_at_call 86; refine (sortRng_any w.heap.size g c m F _ hrow HM.out).mono ?_; rintro e w2 ⟨rfl, S, hS, hrow2, hg2⟩; have HS := Lib.hid hS; have hbel2 := hbel.grown hg2 hbel.size (fun _ h => by cases h; exact hgb); clear hS hg2)
        | (go_at_call 88; refine (iJoinR_any _ S _ hrow2.hasG (by rw [HS.out.1.length_eq]; exact HFL.out.2) (fun x hx => by have h := (HS.out.1.mem_iff).1 hx; rw [HF2.out] at h; simpa using (List.mem_filter.1 h).2) HS.out.2).mono ?_; rintro e w3 ⟨v', J, rfl, hJ, hrow3, hb3⟩; have HJ := Lib.hid hJ; clear hJ))
      go_ret
      refine ⟨_, rfl, ?_, below_step hbel2 hb3⟩
      rw [← (HJ.out.isNrm (l := l) (by rw [← HF2.out]; exact HS.out.1)).eq]
      exact hrow3.mono hbel2.size
theorem meets_snoc (p : List Rg) (x : Rg) (b : List Rg) : meets (p ++ [x]) b = meets p b ++ b.map x.cap := by unfold meets; rw [List.flatMap_append]; simp
theorem mul_lt_of {i k na nb : Nat} (hi : i < na) (hk : k < nb) : i * nb + k + 1 ≤ na * nb := by
  have h1 : (i + 1) * nb ≤ na * nb := Nat.mul_le_mul_right _ hi
  rw [Nat.succ_mul] at h1; omega
theorem meetS_a {a b : List Rg} (h : a.length = 0) : meetS a b = normS b := if_pos h
theorem meetS_b {a b : List Rg} (h : ¬ a.length = 0) (h' : b.length = 0) : meetS a b = normS a := by unfold meetS; rw [if_neg h, if_pos h']
theorem meetS_c {a b : List Rg} (h : ¬ a.length = 0) (h' : ¬ b.length = 0) : meetS a b = normS (meets a b) := by unfold meetS; rw [if_neg h, if_neg h']
theorem HasG.empty {w : World} {A : Option Addr} {n cap : Nat} {l : List Rg} (h : HasG w (.slice A n cap) l) : n = l.length := by
  obtain ⟨A', cap', hv, _⟩ := h
  cases hv; rfl
set_option maxRecDepth 100000 in
set_option maxHeartbeats 2000000 in
theorem sMeet_any (u v : Value) (a b : List Rg) (w : World) (hu : HasG w u a) (hv : HasG w v b) (ha : a.length ≤ 1048576) (hb : b.length ≤ 1048576) (hab : a.length * b.length ≤ 274877906944) :
    Calls Tryz.prog 38 #[u, v] w fun e w' => ∃ v', e = .returned v' ∧ RowG w.heap.size w' v' (meetS a b) ∧ Below w.heap.size w w' := by
  have HU := Lib.hid hu
  have HV := Lib.hid hv
  obtain ⟨A, capa, rfl, hna', hca⟩ := hu
  obtain ⟨A2, capb, rfl, hnb', hcb⟩ := hv
  have HAB := Lib.hid hab
  have HA := Lib.hid ha
  have HB := Lib.hid hb
  by_cases a0 : a.length = 0
  · have HS := Lib.hid (meetS_a (b := b) a0)
    clear hca hcb ha hb hab
    obtain ⟨na, hnna⟩ : ∃ n, n = a.length := ⟨_, rfl⟩
    obtain ⟨nb, hnnb⟩ : ∃ n, n = b.length := ⟨_, rfl⟩
    rw [← hnna] at hna' HU a0 ⊢
    rw [← hnnb] at hnb' HV ⊢
    clear hnna hnnb
    subst a0
    go_enter Tryz.func38, Tryz.ntmps38
    go_wp2_with (go_at_call 64; refine (sNorm_any _ b _ HV.out (Nat.le_trans HB.out (by omega))).mono ?_; rintro e w1 ⟨v', rfl, hr, hb1⟩)
    go_ret
    exact ⟨_, rfl, by rw [HS.out]; exact hr, hb1⟩
  · by_cases b0 : b.length = 0
    · have HS := Lib.hid (meetS_b a0 b0)
      clear hca hcb ha hb hab
      obtain ⟨na, hnna⟩ : ∃ n, n = a.length := ⟨_, rfl⟩
      obtain ⟨nb, hnnb⟩ : ∃ n, n = b.length := ⟨_, rfl⟩
      rw [← hnna] at hna' HU a0 ⊢
      rw [← hnnb] at hnb' HV b0 ⊢
      clear hnna hnnb
      subst b0
      have ha0 : ((na : Int) == 0) = false := by simpa using a0
      go_enter Tryz.func38, Tryz.ntmps38
      go_wp2_with (go_at_call 64; refine (sNorm_any _ a _ HU.out (Nat.le_trans HA.out (by omega))).mono ?_; rintro e w1 ⟨v', rfl, hr, hb1⟩)
      go_ret
      exact ⟨_, rfl, by rw [HS.out]; exact hr, hb1⟩
    · have HS := Lib.hid (meetS_c a0 b0)
      clear ha hb hab
      obtain ⟨na, hnna⟩ : ∃ n, n = a.length := ⟨_, rfl⟩
      obtain ⟨nb, hnnb⟩ : ∃ n, n = b.length := ⟨_, rfl⟩
      have HNA := Lib.hid hnna
      have HNB := Lib.hid hnnb
      rw [← hnna] at hna' HU a0 ⊢
      rw [← hnnb] at hnb' HV b0 ⊢
      clear hnna hnnb
      have ha0 : ((na : Int) == 0) = false := by simpa using a0
      have hb0 : ((nb : Int) == 0) = false := by simpa using b0
      have hrow0 : RowG w.heap.size (w.alloc (.cells #[] 74)) (.slice (some ⟨w.heap.size, 0, none⟩) 0 0) [] := rowG_new w _ (Nat.le_refl _)
      have hbel0 : Below w.heap.size w (w.alloc (.cells #[] 74)) := below_al (Below.refl _ _) _
      go_enter Tryz.func38, Tryz.ntmps38
      go_wp2
      go_loopw [5, 6] (fun u i wr => ∃ (i0 m g c : Nat) (O : List Rg), i0 ≤ na ∧ i = .int .i64 i0 ∧ u = .slice (some ⟨g, 0, none⟩) m c ∧ Hid (O = meets (a.take i0) b) ∧ RowG w.heap.size wr (.slice (some ⟨g, 0, none⟩) m c) O ∧ Below w.heap.size w wr) (fun _ i _ => na - (intOf i).toNat)
      case atStart => exact ⟨0, 0, w.heap.size, 0, [], by omega, rfl, rfl, Lib.hid rfl, hrow0, hbel0⟩
      case round =>
        obtain ⟨i0, m, g, c, O, hi0, rfl, rfl, HO, hrow, hbel⟩ := hrel
        clear hrow0 hbel0
        by_cases hlt : i0 < na
        · have hli : i0 < a.length := by rw [← HNA.out]; exact hlt
          obtain ⟨p, rfl, hp, hcellp⟩ := HasG.gk hca i0 hli
          obtain ⟨x, hx⟩ : ∃ x, x = a[i0] := ⟨_, rfl⟩
          rw [← hx] at hcellp
          have HX : Hid (a.take (i0 + 1) = a.take i0 ++ [x]) := Lib.hid (by rw [List.take_succ_eq_append_getElem hli, hx])
          have HCP := Lib.hid hcellp
          clear hx hcellp hca
          obtain ⟨I, rfl⟩ : ∃ I, I = i0 := ⟨_, rfl⟩
          go_wp2
          go_loopw [5, 7] (fun u kk wr => ∃ (k m g c : Nat) (O : List Rg), k ≤ nb ∧ kk = .int .i64 k ∧ u = .slice (some ⟨g, 0, none⟩) m c ∧ Hid (O = meets (a.take I) b ++ (b.take k).map x.cap) ∧ RowG w.heap.size wr (.slice (some ⟨g, 0, none⟩) m c) O ∧ Below w.heap.size w wr) (fun _ kk _ => nb - (intOf kk).toNat)
          case atStart => exact ⟨0, m, g, c, O, by omega, rfl, rfl, Lib.hid (by rw [HO.out]; simp), hrow, hbel⟩
          case round =>
            clear hrow hbel HO
            obtain ⟨k, m, g, c, O, hk, rfl, rfl, HO, hrow, hbel⟩ := hrel
            by_cases hkm : k < nb
            · have hkb : k < b.length := by rw [← HNB.out]; exact hkm
              obtain ⟨q, rfl, hq, hcellq⟩ := HasG.gk hcb k hkb
              obtain ⟨y, hy⟩ : ∃ y, y = b[k] := ⟨_, rfl⟩
              rw [← hy] at hcellq
              have HY : Hid (b.take (k + 1) = b.take k ++ [y]) := Lib.hid (by rw [List.take_succ_eq_append_getElem hkb, hy])
              clear hy hcb
              have HK : Hid (∀ w', Below w.heap.size w w' → ((w'.cell? (p.add (I * 2)) = some (.int .i64 x.lo) ∧ w'.cell? ⟨(p.add (I * 2)).block, (p.add (I * 2)).off + 1, none⟩ = some (.int .i64 x.hi)) ∧ (w'.cell? (q.add (k * 2)) = some (.int .i64 y.lo) ∧ w'.cell? ⟨(q.add (k * 2)).block, (q.add (k * 2)).off + 1, none⟩ = some (.int .i64 y.hi))) ∧ Below w.heap.size w w') := Lib.hid fun w' h => ⟨⟨HCP.out.below h hp, hcellq.below h hq⟩, h⟩
              clear hcellq
              have hgb := (hrow.lt rfl).1
              have HM : Hid (m + 1 ≤ 549755813888) := Lib.hid (by
                have h1 := hrow.cap'
                rw [HO.out, List.length_append, meets_length, List.length_map, List.length_take, List.length_take] at h1
                have h2 := mul_lt_of hlt hkm
                have h3 := HAB.out
                rw [← HNA.out, ← HNB.out] at h3
                rw [← HNA.out, ← HNB.out, Nat.min_eq_left (by omega), Nat.min_eq_left (by omega)] at h1
                omega)
              have HR := Lib.hid hrow
              clear hrow
              have hk0 := HK.out _ hbel
              obtain ⟨⟨⟨c0, c1⟩, d0, d1⟩, _⟩ := hk0
              go_wp2
              have HRA : Hid (∀ o, RowG w.heap.size (wr.drew.alloc o) (.slice (some ⟨g, 0, none⟩) m c) O) := Lib.hid fun o => RowR.alloc (show RowG w.heap.size wr.drew (.slice (some ⟨g, 0, none⟩) m c) O from HR.out) o
              have HB0 : Hid (Below w.heap.size w wr.drew) := Lib.hid hbel.drew
              go_region_held3 (fun w' => ((w'.cell? (p.add (I * 2)) = some (.int .i64 x.lo) ∧ w'.cell? ⟨(p.add (I * 2)).block, (p.add (I * 2)).off + 1, none⟩ = some (.int .i64 x.hi)) ∧ (w'.cell? (q.add (k * 2)) = some (.int .i64 y.lo) ∧ w'.cell? ⟨(q.add (k * 2)).block, (q.add (k * 2)).off + 1, none⟩ = some (.int .i64 y.hi))) ∧ Below w.heap.size w w') (first | exact HK.out _ HB0.out | exact HK.out _ hS1 | assumption | exact HK.out _ (below_al (by assumption : _ ∧ Below _ _ _).2 _))
                (first
                  | (go_at_call 65; refine (sMax_any _ _ _).mono ?_; rintro e w1 ⟨rfl, rfl⟩)
                  | (go_at_call 66; refine (sMin_any _ _ _).mono ?_; rintro e w1 ⟨rfl, rfl⟩)
                  | (refine step_rng_append rfl _ _ (by rfl) w.heap.size g m c O (by rfl) (HRA.out _) ⟨max x.lo y.lo, min x.hi y.hi⟩ ⟨wr.drew.heap.size, 0, none⟩ 1 (by rfl) (news_rng _ _ _) HM.out (by assumption : _ ∧ Below _ _ _).2.size (m + 1) rfl ?_
                     intro g' c' w4 hrow4 hg4 hp4
                     have hS1 : Below w.heap.size w w4 := (by assumption : _ ∧ Below _ _ _).2.grown hg4 (by assumption : _ ∧ Below _ _ _).2.size (fun _ h => by cases h; exact hgb)))
              go_wp2
              go_roundw
              case rel => exact ⟨k + 1, m + 1, g', c', O ++ [x.cap y], by omega, by go_num, rfl, Lib.hid (by rw [HY.out, HO.out, List.map_append, ← List.append_assoc]; rfl), hrow4, hS1⟩
              case measure => simp [intOf]; omega
            · go_wp2
              go_roundw
              case rel => exact ⟨I + 1, m, g, c, O, by omega, by go_num, rfl, Lib.hid (by rw [HX.out, meets_snoc, HO.out, List.take_of_length_le (l := b) (by have := HNB.out; omega)]), hrow, hbel⟩
              case measure => simp [intOf]; omega
        · have e : i0 = na := by omega
          have HO2 : Hid (O = meets a b) := Lib.hid (by have := HO.out; rwa [List.take_of_length_le (by have := HNA.out; omega)] at this)
          clear hca hcb
          go_wp2_with (go_at_call 64; refine (sNorm_any _ O _ hrow.hasG (by rw [HO2.out, meets_length]; exact HAB.out)).mono ?_; rintro e w1 ⟨v', rfl, hr, hb1⟩)
          go_ret
          exact ⟨_, rfl, by rw [HS.out, ← HO2.out]; exact hr.mono hbel.size, below_step hbel hb1⟩
set_option maxRecDepth 100000 in
set_option maxHeartbeats 2000000 in
theorem iMeet_any (u v : Value) (a b : List Rg) (w : World) (hu : HasG w u a) (hv : HasG w v b) (ha : a.length ≤ 1048576) (hb : b.length ≤ 1048576) (hab : a.length * b.length ≤ 274877906944) :
    Calls Tryz.prog 43 #[u, v] w fun e w' => ∃ v', e = .returned v' ∧ RowG w.heap.size w' v' (meetS a b) ∧ Below w.heap.size w w' := by
  have HU := Lib.hid hu
  have HV := Lib.hid hv
  obtain ⟨A, capa, rfl, hna', hca⟩ := hu
  obtain ⟨A2, capb, rfl, hnb', hcb⟩ := hv
  have HAB := Lib.hid hab
  have HA := Lib.hid ha
  have HB := Lib.hid hb
  by_cases a0 : a.length = 0
  · have HS := Lib.hid (meetS_a (b := b) a0)
    clear hca hcb ha hb hab
    obtain ⟨na, hnna⟩ : ∃ n, n = a.length := ⟨_, rfl⟩
    obtain ⟨nb, hnnb⟩ : ∃ n, n = b.length := ⟨_, rfl⟩
    rw [← hnna] at hna' HU a0 ⊢
    rw [← hnnb] at hnb' HV ⊢
    clear hnna hnnb
    subst a0
    go_enter Tryz.func43, Tryz.ntmps43
    go_wp2_with (go_at_call 70; refine (iNorm_any _ b _ HV.out (Nat.le_trans HB.out (by omega))).mono ?_; rintro e w1 ⟨v', rfl, hr, hb1⟩)
    go_ret
    exact ⟨_, rfl, by rw [HS.out]; exact hr, hb1⟩
  · by_cases b0 : b.length = 0
    · have HS := Lib.hid (meetS_b a0 b0)
      clear hca hcb ha hb hab
      obtain ⟨na, hnna⟩ : ∃ n, n = a.length := ⟨_, rfl⟩
      obtain ⟨nb, hnnb⟩ : ∃ n, n = b.length := ⟨_, rfl⟩
      rw [← hnna] at hna' HU a0 ⊢
      rw [← hnnb] at hnb' HV b0 ⊢
      clear hnna hnnb
      subst b0
      have ha0 : ((na : Int) == 0) = false := by simpa using a0
      go_enter Tryz.func43, Tryz.ntmps43
      go_wp2_with (go_at_call 70; refine (iNorm_any _ a _ HU.out (Nat.le_trans HA.out (by omega))).mono ?_; rintro e w1 ⟨v', rfl, hr, hb1⟩)
      go_ret
      exact ⟨_, rfl, by rw [HS.out]; exact hr, hb1⟩
    · have HS := Lib.hid (meetS_c a0 b0)
      clear ha hb hab
      obtain ⟨na, hnna⟩ : ∃ n, n = a.length := ⟨_, rfl⟩
      obtain ⟨nb, hnnb⟩ : ∃ n, n = b.length := ⟨_, rfl⟩
      have HNA := Lib.hid hnna
      have HNB := Lib.hid hnnb
      rw [← hnna] at hna' HU a0 ⊢
      rw [← hnnb] at hnb' HV b0 ⊢
      clear hnna hnnb
      have ha0 : ((na : Int) == 0) = false := by simpa using a0
      have hb0 : ((nb : Int) == 0) = false := by simpa using b0
      have hrow0 : RowG w.heap.size (w.alloc (.cells #[] 74)) (.slice (some ⟨w.heap.size, 0, none⟩) 0 0) [] := rowG_new w _ (Nat.le_refl _)
      have hbel0 : Below w.heap.size w (w.alloc (.cells #[] 74)) := below_al (Below.refl _ _) _
      go_enter Tryz.func43, Tryz.ntmps43
      go_wp2
      go_loopw [5, 23] (fun u i wr => ∃ (i0 m g c : Nat) (O : List Rg), i0 ≤ na ∧ i = .int .i64 i0 ∧ u = .slice (some ⟨g, 0, none⟩) m c ∧ Hid (O = meets (a.take i0) b) ∧ RowG w.heap.size wr (.slice (some ⟨g, 0, none⟩) m c) O ∧ Below w.heap.size w wr) (fun _ i _ => na - (intOf i).toNat)
      case atStart => exact ⟨0, 0, w.heap.size, 0, [], by omega, rfl, rfl, Lib.hid rfl, hrow0, hbel0⟩
      case round =>
        obtain ⟨i0, m, g, c, O, hi0, rfl, rfl, HO, hrow, hbel⟩ := hrel
        clear hrow0 hbel0
        by_cases hlt : i0 < na
        · have hli : i0 < a.length := by rw [← HNA.out]; exact hlt
          obtain ⟨p, rfl, hp, hcellp⟩ := HasG.gk hca i0 hli
          obtain ⟨x, hx⟩ : ∃ x, x = a[i0] := ⟨_, rfl⟩
          rw [← hx] at hcellp
          have HX : Hid (a.take (i0 + 1) = a.take i0 ++ [x]) := Lib.hid (by rw [List.take_succ_eq_append_getElem hli, hx])
          have hcx := hcellp.below hbel hp
          obtain ⟨c0, c1⟩ := hcx
          clear hx hcellp hca
          obtain ⟨I, rfl⟩ : ∃ I, I = i0 := ⟨_, rfl⟩
          obtain ⟨wo, rfl⟩ : ∃ wo, wo = wr := ⟨_, rfl⟩
          have hrow1 : RowG w.heap.size (wo.alloc (.cells #[.int .i64 x.lo, .int .i64 x.hi] 74)) (.slice (some ⟨g, 0, none⟩) m c) O := RowR.alloc hrow _
          have hbx := rowG_box wo x w.heap.size hbel.size
          have hbel1 := below_al hbel (.cells #[.int .i64 x.lo, .int .i64 x.hi] 74)
          have hgo : g ≠ wo.heap.size := Nat.ne_of_lt (hrow.lt rfl).2
          have HBO : Hid (w.heap.size ≤ wo.heap.size) := Lib.hid hbel.size
          clear hrow hbel
          go_wp2
          clear c0 c1
          go_loopw [5, 29] (fun u kk wr => ∃ (k m g c : Nat) (O : List Rg), k ≤ nb ∧ kk = .int .i64 k ∧ u = .slice (some ⟨g, 0, none⟩) m c ∧ Hid (O = meets (a.take I) b ++ (b.take k).map x.cap) ∧ Hid (g ≠ wo.heap.size) ∧ RowG w.heap.size wr (.slice (some ⟨g, 0, none⟩) m c) O ∧ RowG w.heap.size wr (.slice (some ⟨wo.heap.size, 0, none⟩) 1 1) [x] ∧ Below w.heap.size w wr) (fun _ kk _ => nb - (intOf kk).toNat)
          case atStart => exact ⟨0, m, g, c, O, by omega, rfl, rfl, Lib.hid (by rw [HO.out]; simp), Lib.hid hgo, hrow1, hbx, hbel1⟩
          case round =>
            clear hrow1 hbx hbel1 HO hgo
            obtain ⟨k, m, g, c, O, hk, rfl, rfl, HO, HG, hrow, hbx, hbel⟩ := hrel
            by_cases hkm : k < nb
            · have hkb : k < b.length := by rw [← HNB.out]; exact hkm
              obtain ⟨q, rfl, hq, hcellq⟩ := HasG.gk hcb k hkb
              obtain ⟨y, hy⟩ : ∃ y, y = b[k] := ⟨_, rfl⟩
              rw [← hy] at hcellq
              have HY : Hid (b.take (k + 1) = b.take k ++ [y]) := Lib.hid (by rw [List.take_succ_eq_append_getElem hkb, hy])
              clear hy hcb
              have hcy := hcellq.below hbel hq
              obtain ⟨d0, d1⟩ := hcy
              clear hcellq
              have hgb := (hrow.lt rfl).1
              have HM : Hid (m + 1 ≤ 549755813888) := Lib.hid (by
                have h1 := hrow.cap'
                rw [HO.out, List.length_append, meets_length, List.length_map, List.length_take, List.length_take] at h1
                have h2 := mul_lt_of hlt hkm
                have h3 := HAB.out
                rw [← HNA.out, ← HNB.out] at h3
                rw [← HNA.out, ← HNB.out, Nat.min_eq_left (by omega), Nat.min_eq_left (by omega)] at h1
                omega)
              have HR : Hid (RowG w.heap.size (wr.alloc (.cells #[.int .i64 y.lo, .int .i64 y.hi] 74)) (.slice (some ⟨g, 0, none⟩) m c) O) := Lib.hid (RowR.alloc hrow _)
              have HBX : Hid (RowG w.heap.size (wr.alloc (.cells #[.int .i64 y.lo, .int .i64 y.hi] 74)) (.slice (some ⟨wo.heap.size, 0, none⟩) 1 1) [x]) := Lib.hid (RowR.alloc hbx _)
              have HBY := Lib.hid (rowG_box wr y w.heap.size hbel.size)
              have HNE : Hid (g < wr.heap.size ∧ wo.heap.size < wr.heap.size) := Lib.hid ⟨(hrow.lt rfl).2, (hbx.lt rfl).2⟩
              have hbel2 := below_al hbel (.cells #[.int .i64 y.lo, .int .i64 y.hi] 74)
              clear hrow hbx hbel
              go_wp2
              obtain ⟨w2, hw2⟩ : ∃ w2, w2 = wr.alloc (.cells #[.int .i64 y.lo, .int .i64 y.hi] 74) := ⟨_, rfl⟩
              rw [← hw2] at HR HBX HBY hbel2 ⊢
              have HS2 : Hid (wr.heap.size < w2.heap.size) := Lib.hid (by rw [hw2]; simp)
              obtain ⟨by', hby'⟩ : ∃ k, k = wr.heap.size := ⟨_, rfl⟩
              rw [← hby'] at HBY HNE HS2 ⊢
              clear hw2 hby' d0 d1
              obtain ⟨e0, e1, _, _⟩ := RowG.box HBX.out
              obtain ⟨d0, d1, _, _⟩ := RowG.box HBY.out
              have HSM : Hid (∀ w', RowG w.heap.size w' (.slice (some ⟨wo.heap.size, 0, none⟩) 1 1) [x] → RowG w.heap.size w' (.slice (some ⟨by', 0, none⟩) 1 1) [y] → Below w.heap.size w w' → ((w'.cell? ⟨wo.heap.size, 0, none⟩ = some (.int .i64 x.lo) ∧ w'.cell? ⟨wo.heap.size, 1, none⟩ = some (.int .i64 x.hi)) ∧ (w'.cell? ⟨by', 0, none⟩ = some (.int .i64 y.lo) ∧ w'.cell? ⟨by', 1, none⟩ = some (.int .i64 y.hi))) ∧ Below w.heap.size w w') := Lib.hid fun w' h1 h2 h3 => ⟨⟨⟨(RowG.box h1).1, (RowG.box h1).2.1⟩, (RowG.box h2).1, (RowG.box h2).2.1⟩, h3⟩
              have HR3 : Hid (∀ o, RowG w.heap.size (w2.drew.alloc o) (.slice (some ⟨g, 0, none⟩) m c) O ∧ RowG w.heap.size (w2.drew.alloc o) (.slice (some ⟨wo.heap.size, 0, none⟩) 1 1) [x] ∧ RowG w.heap.size (w2.drew.alloc o) (.slice (some ⟨by', 0, none⟩) 1 1) [y] ∧ Below w.heap.size w (w2.drew.alloc o)) := Lib.hid fun o =>
                ⟨RowR.alloc (show RowG w.heap.size w2.drew (.slice (some ⟨g, 0, none⟩) m c) O from HR.out) o, RowR.alloc (show RowG w.heap.size w2.drew (.slice (some ⟨wo.heap.size, 0, none⟩) 1 1) [x] from HBX.out) o, RowR.alloc (show RowG w.heap.size w2.drew (.slice (some ⟨by', 0, none⟩) 1 1) [y] from HBY.out) o, below_al hbel2.drew o⟩
              have HB0 : Hid (RowG w.heap.size w2.drew (.slice (some ⟨wo.heap.size, 0, none⟩) 1 1) [x] ∧ RowG w.heap.size w2.drew (.slice (some ⟨by', 0, none⟩) 1 1) [y] ∧ Below w.heap.size w w2.drew) := Lib.hid ⟨HBX.out, HBY.out, hbel2.drew⟩
              have HS3 : Hid (by' < w2.drew.heap.size) := Lib.hid HS2.out
              clear hbel2
              go_region_held3 (fun w' => ((w'.cell? ⟨wo.heap.size, 0, none⟩ = some (.int .i64 x.lo) ∧ w'.cell? ⟨wo.heap.size, 1, none⟩ = some (.int .i64 x.hi)) ∧ (w'.cell? ⟨by', 0, none⟩ = some (.int .i64 y.lo) ∧ w'.cell? ⟨by', 1, none⟩ = some (.int .i64 y.hi))) ∧ Below w.heap.size w w') (first | exact HSM.out _ HB0.out.1 HB0.out.2.1 HB0.out.2.2 | exact HSM.out _ hx4 hy4 hS1 | assumption | exact HSM.out _ (HR3.out _).2.1 (HR3.out _).2.2.1 (HR3.out _).2.2.2)
                (first
                  | (go_at_call 71; refine (iMax_any _ _ _).mono ?_; rintro e w1 ⟨rfl, rfl⟩)
                  | (go_at_call 72; refine (iMin_any _ _ _).mono ?_; rintro e w1 ⟨rfl, rfl⟩)
                  | (refine step_rng_append rfl _ _ (by rfl) w.heap.size g m c O (by rfl) (HR3.out _).1 ⟨max x.lo y.lo, min x.hi y.hi⟩ ⟨w2.drew.heap.size, 0, none⟩ 1 (by rfl) (news_rng _ _ _) HM.out (HR3.out _).2.2.2.size (m + 1) rfl ?_
                     intro g' c' w4 hrow4 hg4 hp4
                     have hx4 := (HR3.out _).2.1.apart hg4 (fun e => HG.out e.symm)
                     have hy4 := (HR3.out _).2.2.1.apart hg4 (fun e => by have := HNE.out; omega)
                     have hS1 : Below w.heap.size w w4 := (HR3.out _).2.2.2.grown hg4 (HR3.out _).2.2.2.size (fun _ h => by cases h; exact hgb)))
              go_wp2
              go_roundw
              case rel => exact ⟨k + 1, m + 1, g', c', O ++ [x.cap y], by omega, by go_num, rfl, Lib.hid (by rw [HY.out, HO.out, List.map_append, ← List.append_assoc]; rfl), Lib.hid (by have h1 := HG.out; have h2 := HNE.out; have h3 := HS2.out; simp at hp4; omega), hrow4, hx4, hS1⟩
              case measure => simp [intOf]; omega
            · go_wp2
              go_roundw
              case rel => exact ⟨I + 1, m, g, c, O, by omega, by go_num, rfl, Lib.hid (by rw [HX.out, meets_snoc, HO.out, List.take_of_length_le (l := b) (by have := HNB.out; omega)]), hrow, hbel⟩
              case measure => simp [intOf]; omega
        · have e : i0 = na := by omega
          have HO2 : Hid (O = meets a b) := Lib.hid (by have := HO.out; rwa [List.take_of_length_le (by have := HNA.out; omega)] at this)
          clear hca hcb
          go_wp2_with (go_at_call 70; refine (iNorm_any _ O _ hrow.hasG (by rw [HO2.out, meets_length]; exact HAB.out)).mono ?_; rintro e w1 ⟨v', rfl, hr, hb1⟩)
          go_ret
          exact ⟨_, rfl, by rw [HS.out, ← HO2.out]; exact hr.mono hbel.size, below_step hbel hb1⟩
end Go.Proofs.YtdmccopggmienaaGreat
