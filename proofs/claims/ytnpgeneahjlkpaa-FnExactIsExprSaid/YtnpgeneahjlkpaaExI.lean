/- CHAPTER 8, impl: levelOf, kidCount, mayBeItem, hasRightFields, isExprWithin, IsExpr. -/
import Derived.Test.YtnpgeneahjlkpaaExM
set_option linter.unusedVariables false
set_option linter.unusedSimpArgs false
namespace Go.Proofs.Ytnpgeneahjlkpaa
open Go.RowKit

def lvl (op : Int) : Int := if op = 6 then 0 else if op = 7 then 1 else if 8 ≤ op ∧ op ≤ 13 then 2 else if op = 14 ∨ op = 15 then 3 else 4
set_option maxRecDepth 100000 in
set_option maxHeartbeats 1000000 in
theorem level_any (op : Int) (w : World) : Calls Try.prog 106 #[.int .i64 op] w fun e w' => e = .returned (.int .i64 (lvl op)) ∧ w = w' := by
  obtain ⟨z, hz⟩ : ∃ z, z = lvl op := ⟨_, rfl⟩
  rw [← hz]
  by_cases h : 6 ≤ op ∧ op ≤ 15
  · obtain ⟨h1, h2⟩ := h
    rcases (show op = 6 ∨ op = 7 ∨ op = 8 ∨ op = 9 ∨ op = 10 ∨ op = 11 ∨ op = 12 ∨ op = 13 ∨ op = 14 ∨ op = 15 by omega) with rfl | rfl | rfl | rfl | rfl | rfl | rfl | rfl | rfl | rfl
    all_goals
      rw [show z = _ from hz]
      clear h1 h2 hz
      go_enter Try.func106, Try.ntmps106
      go_wp2
      go_ret
      exact ⟨rfl, rfl⟩
  · have e6 : ¬ op = 6 := by omega
    have e7 : ¬ op = 7 := by omega
    have e8 : ¬ op = 8 := by omega
    have e9 : ¬ op = 9 := by omega
    have e10 : ¬ op = 10 := by omega
    have e11 : ¬ op = 11 := by omega
    have e12 : ¬ op = 12 := by omega
    have e13 : ¬ op = 13 := by omega
    have e14 : ¬ op = 14 := by omega
    have e15 : ¬ op = 15 := by omega
    have hz4 : z = 4 := by rw [hz]; unfold lvl; rw [if_neg e6, if_neg e7, if_neg (by omega), if_neg (by omega)]
    subst hz4
    clear hz h
    go_enter Try.func106, Try.ntmps106
    go_wp2
    go_ret
    exact ⟨rfl, rfl⟩
set_option maxRecDepth 100000 in
set_option maxHeartbeats 1000000 in
theorem kidCount_any (op : Int) (w : World) : Calls Try.prog 73 #[.int .i64 op] w fun e w' => e = .returned (.int .i64 (kidN op)) ∧ w = w' := by
  obtain ⟨z, hz⟩ : ∃ z : Int, z = lvl op := ⟨_, rfl⟩
  obtain ⟨m, hm⟩ : ∃ m : Int, m = kidN op := ⟨_, rfl⟩
  have HC := Lib.hid (fun w => level_any op w)
  rw [← hz] at HC
  rw [← hm]
  by_cases e5 : op = 5
  · have : m = 1 := by rw [hm]; unfold kidN; rw [if_pos e5]; rfl
    subst this
    clear hz hm
    go_enter Try.func73, Try.ntmps73
    go_wp2
    go_ret
    exact ⟨rfl, rfl⟩
  · by_cases h : z < 4
    · have : m = 2 := by
        have : 6 ≤ op ∧ op ≤ 15 := by rw [hz] at h; unfold lvl at h; split at h <;> (try split at h) <;> (try split at h) <;> (try split at h) <;> omega
        rw [hm]; unfold kidN; rw [if_neg e5, if_pos this]; rfl
      subst this
      clear hz hm
      go_enter Try.func73, Try.ntmps73
      go_wp2_with (go_at_call 106; refine (HC.out _).mono ?_; rintro e w' ⟨rfl, rfl⟩)
      go_ret
      exact ⟨rfl, rfl⟩
    · have : m = 0 := by
        have : ¬ (6 ≤ op ∧ op ≤ 15) := by rw [hz] at h; unfold lvl at h; split at h <;> (try split at h) <;> (try split at h) <;> (try split at h) <;> omega
        rw [hm]; unfold kidN; rw [if_neg e5, if_neg this]; rfl
      subst this
      clear hz hm
      go_enter Try.func73, Try.ntmps73
      go_wp2_with (go_at_call 106; refine (HC.out _).mono ?_; rintro e w' ⟨rfl, rfl⟩)
      go_ret
      exact ⟨rfl, rfl⟩
theorem or_l : wOr.toList = [111, 114] := by rw [ByteArray.toList_eq]; rfl
theorem and_l : wAnd.toList = [97, 110, 100] := by rw [ByteArray.toList_eq]; rfl
theorem or_yes {s : ByteArray} (h : s = wOr) : (s.toList == [111, 114]) = true := by rw [h, or_l]; rfl
theorem and_yes {s : ByteArray} (h : s = wAnd) : (s.toList == [97, 110, 100]) = true := by rw [h, and_l]; rfl
theorem or_no {s : ByteArray} (h : s ≠ wOr) : (s.toList == [111, 114]) = false := by rw [← or_l]; exact str_ne7 h
theorem and_no {s : ByteArray} (h : s ≠ wAnd) : (s.toList == [97, 110, 100]) = false := by rw [← and_l]; exact str_ne7 h
theorem mayBe_nil {p : Pth} (h : p.st.length = 0) : dB (MayBe p) = !p.root := by
  cases hr : p.root
  · exact dB_yes ⟨fun _ => hr, fun _ _ h' => absurd h' (by omega)⟩
  · exact dB_no fun hh => by have := hh.1 h; rw [hr] at this; cases this
theorem mayBe_cons {p : Pth} (h : 0 < p.st.length) : dB (MayBe p) = (p.root || decide (0 < p.ups) || (dB (p.st[0].n ≠ wOr) && dB (p.st[0].n ≠ wAnd))) := by
  cases hr : p.root
  · by_cases hu : 0 < p.ups
    · rw [decide_eq_true hu]
      exact dB_yes ⟨fun hh => hr, fun _ h' => absurd h' (by omega)⟩
    · rw [decide_eq_false hu]
      by_cases h1 : p.st[0].n ≠ wOr
      · by_cases h2 : p.st[0].n ≠ wAnd
        · rw [dB_yes h1, dB_yes h2]; exact dB_yes ⟨fun hh => hr, fun _ _ _ => ⟨h1, h2⟩⟩
        · rw [dB_no h2, dB_yes h1]; exact dB_no fun hh => h2 (hh.2 hr (by omega) h).2
      · rw [dB_no h1]; exact dB_no fun hh => h1 (hh.2 hr (by omega) h).1
  · exact dB_yes ⟨fun hh => absurd hh (by omega), fun h' => by rw [hr] at h'; cases h'⟩
set_option maxRecDepth 100000 in
set_option maxHeartbeats 2000000 in
theorem iMayBe_any (v : PthV) (p : Pth) (w : World) (h : HasP7 w v p) :
    Calls Try.prog 104 #[v.val] w fun e w' => e = .returned (.bool (dB (MayBe p))) ∧ Below w.heap.size w w' := by
  obtain ⟨r, u, l⟩ := p
  obtain ⟨r', u', sv⟩ := v
  obtain ⟨rfl, rfl, hs⟩ := h
  dsimp only at hs ⊢
  obtain ⟨A, cap, rfl, hn, hc⟩ := hs.at
  obtain ⟨n, hnn⟩ : ∃ n, n = l.length := ⟨_, rfl⟩
  have HB := Lib.hid (below_al (Below.refl w.heap.size w) (.cells #[.bool r', .int .i64 u', .slice A n cap] 32))
  rw [← hnn] at hn ⊢
  by_cases hz : n = 0
  · have HM := Lib.hid (mayBe_nil (p := ⟨r', u', l⟩) (by rw [← hz]; exact hnn.symm))
    clear hc hs hnn
    subst hz
    cases r'
    all_goals
      go_enter Try.func104, Try.ntmps104
      go_wp2
      go_ret
      exact ⟨by rw [HM.out]; rfl, HB.out⟩
  · have hlt : 0 < l.length := by omega
    have HM := Lib.hid (mayBe_cons (p := ⟨r', u', l⟩) hlt)
    obtain ⟨a, r, rfl, hab, hk, hrn, -⟩ := hc 0 hlt
    obtain ⟨c0, -⟩ := hk.below HB.out hab
    dsimp only at HM
    rw [← hrn] at HM
    have hn1 : 0 < n := by omega
    have hn1' : ¬ (n : Int) = 0 := by omega
    have e0 : ((n : Int) == 0) = false := by simp; omega
    rw [show a.add (0 * 2) = a by simp [Addr.add]] at c0
    clear hc hs hnn hlt hk hrn hz hab
    cases r'
    · by_cases hu : 0 < u'
      · have HU := Lib.hid hu
        go_enter Try.func104, Try.ntmps104
        go_wp2
        go_ret
        exact ⟨by rw [HM.out, decide_eq_true HU.out]; rfl, HB.out⟩
      · have HU := Lib.hid hu
        by_cases h1 : r.n = wOr
        · have f1 := or_yes h1
          have H1 := Lib.hid h1
          clear h1
          go_enter Try.func104, Try.ntmps104
          go_wp2
          go_ret
          exact ⟨by rw [HM.out, decide_eq_false (Int.not_lt.2 HU.out), dB_no (fun hh => hh H1.out)]; rfl, HB.out⟩
        · have f1 := or_no h1
          have H1 := Lib.hid h1
          clear h1
          by_cases h2 : r.n = wAnd
          · have f2 := and_yes h2
            have H2 := Lib.hid h2
            clear h2
            go_enter Try.func104, Try.ntmps104
            go_wp2
            go_ret
            exact ⟨by rw [HM.out, decide_eq_false (Int.not_lt.2 HU.out), dB_yes H1.out, dB_no (fun hh => hh H2.out)]; rfl, HB.out⟩
          · have f2 := and_no h2
            have H2 := Lib.hid h2
            clear h2
            go_enter Try.func104, Try.ntmps104
            go_wp2
            go_ret
            exact ⟨by rw [HM.out, decide_eq_false (Int.not_lt.2 HU.out), dB_yes H1.out, dB_yes H2.out]; rfl, HB.out⟩
    · go_enter Try.func104, Try.ntmps104
      go_wp2
      go_ret
      exact ⟨by rw [HM.out]; rfl, HB.out⟩
end Go.Proofs.Ytnpgeneahjlkpaa
