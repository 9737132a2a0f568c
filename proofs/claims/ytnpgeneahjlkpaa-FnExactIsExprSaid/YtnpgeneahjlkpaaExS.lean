/- CHAPTER 8, spec: l8Plain, l8Writable, l8Depth. PRINTED by tools/gen_exS.py. -/
import Derived.Test.YtnpgeneahjlkpaaExF
import Derived.Test.YtnpgeneahjlkpaaPthI
import Derived.Test.YtnpgeneahjlkpaaNumW
import Derived.Test.YtnpgeneahjlkpaaIn
set_option linter.unusedVariables false
set_option linter.unusedSimpArgs false
namespace Go.Proofs.Ytnpgeneahjlkpaa
open Go.RowKit

set_option maxRecDepth 100000 in
set_option maxHeartbeats 1000000 in
theorem sPlainP_any (v : PthV) (p : Pth) (w : World) (h : HasP7 w v p) :
    Calls Try.prog 70 #[v.val] w fun e w' => e = .returned (.bool (dB (PthNil p))) ∧ Below w.heap.size w w' := by
  rw [← nilB]
  obtain ⟨r, u, l⟩ := p
  obtain ⟨r', u', sv⟩ := v
  obtain ⟨rfl, rfl, hs⟩ := h
  dsimp only at hs ⊢
  obtain ⟨A, cap, rfl, hn, -⟩ := hs.at
  clear hs
  generalize l.length = n at *
  have HB := Lib.hid (below_al (Below.refl w.heap.size w) (.cells #[.bool r', .int .i64 u', .slice A n cap] 32))
  by_cases h1 : u' = 0
  · subst h1
    by_cases h2 : n = 0
    · subst h2
      cases r'
      all_goals
        go_enter Try.func70, Try.ntmps70
        go_wp2
        go_ret
        exact ⟨rfl, HB.out⟩
    · have e1 : ((n : Int) == 0) = false := by simp; omega
      have e2 : decide (n = 0) = false := by simp [h2]
      rw [e2]
      clear h2 e2
      cases r'
      all_goals
        go_enter Try.func70, Try.ntmps70
        go_wp2
        go_ret
        exact ⟨rfl, HB.out⟩
  · have e1 : (u' == 0) = false := by simp [h1]
    have e2 : decide (u' = 0) = false := by simp [h1]
    rw [e2]
    clear h1 e2
    cases r'
    all_goals
      go_enter Try.func70, Try.ntmps70
      go_wp2
      go_ret
      exact ⟨by simp, HB.out⟩
set_option maxRecDepth 100000 in
set_option maxHeartbeats 2000000 in
theorem sWrit_any (v : PthV) (p : Pth) (w : World) (h : HasP7 w v p) (hok : PthOk p) :
    Calls Try.prog 71 #[v.val] w fun e w' => e = .returned (.bool (dB (MayBe p))) ∧ Below w.heap.size w w' := by
  obtain ⟨⟨hu0, -⟩, -, hru, hne, -⟩ := hok
  obtain ⟨r, u, l⟩ := p
  obtain ⟨r', u', sv⟩ := v
  obtain ⟨rfl, rfl, hs⟩ := h
  dsimp only at hs hu0 hru hne ⊢
  obtain ⟨A, cap, rfl, hn, hc⟩ := hs.at
  obtain ⟨n, hnn⟩ : ∃ n, n = l.length := ⟨_, rfl⟩
  have HB := Lib.hid (below_al (Below.refl w.heap.size w) (.cells #[.bool r', .int .i64 u', .slice A n cap] 32))
  rw [← hnn] at hn hne ⊢
  by_cases hz : n = 0
  · have HM := Lib.hid (mayBe_nil (p := ⟨r', u', l⟩) (by rw [← hz]; exact hnn.symm))
    clear hc hs hnn
    subst hz
    cases r'
    · have hu : 0 < u' := by
        rcases Int.lt_or_lt_of_ne (show u' ≠ 0 from fun e => hne ⟨rfl, e, rfl⟩) with h | h
        · omega
        · exact h
      clear hne hru hu0
      go_enter Try.func71, Try.ntmps71
      go_wp2
      go_ret
      exact ⟨by rw [HM.out]; rfl, HB.out⟩
    · have hu : ¬ 0 < u' := fun h => hru ⟨rfl, h⟩
      clear hne hru
      go_enter Try.func71, Try.ntmps71
      go_wp2
      go_ret
      exact ⟨by rw [HM.out]; rfl, HB.out⟩
  · have hlt : 0 < l.length := by omega
    have HM := Lib.hid (mayBe_cons (p := ⟨r', u', l⟩) hlt)
    obtain ⟨a, r, rfl, hab, hk, hrn, -⟩ := hc 0 hlt
    obtain ⟨c0, -⟩ := hk.below HB.out hab
    dsimp only at HM
    rw [← hrn] at HM
    have hn1 : 0 < n := by omega
    have hn1' : (0 : Int) < (n : Int) := by omega
    rw [show a.add (0 * 2) = a by simp [Addr.add]] at c0
    clear hc hs hnn hlt hk hrn hz hab hne
    cases r'
    · by_cases hu : 0 < u'
      · have HU := Lib.hid hu
        clear hru hu0
        go_enter Try.func71, Try.ntmps71
        go_wp2
        go_ret
        exact ⟨by rw [HM.out, decide_eq_true HU.out]; rfl, HB.out⟩
      · have HU := Lib.hid hu
        clear hru hu0
        by_cases h1 : r.n = wOr
        · have f1 := or_yes h1
          have H1 := Lib.hid h1
          clear h1
          go_enter Try.func71, Try.ntmps71
          go_wp2
          go_ret
          exact ⟨by rw [HM.out, decide_eq_false (Int.not_lt.2 HU.out), dB_no (fun hh => hh H1.out)]; rfl, HB.out⟩
        · have f1 := or_no h1
          have H1 := Lib.hid h1
          clear h1
          by_cases h2 : r.n = wAnd
          · have f2 := and_yes h2
            have H2 := Lib.hid h2
            clear h2
            go_enter Try.func71, Try.ntmps71
            go_wp2
            go_ret
            exact ⟨by rw [HM.out, decide_eq_false (Int.not_lt.2 HU.out), dB_yes H1.out, dB_no (fun hh => hh H2.out)]; rfl, HB.out⟩
          · have f2 := and_no h2
            have H2 := Lib.hid h2
            clear h2
            go_enter Try.func71, Try.ntmps71
            go_wp2
            go_ret
            exact ⟨by rw [HM.out, decide_eq_false (Int.not_lt.2 HU.out), dB_yes H1.out, dB_yes H2.out]; rfl, HB.out⟩
    · have hu : ¬ 0 < u' := fun h => hru ⟨rfl, h⟩
      clear hru
      go_enter Try.func71, Try.ntmps71
      go_wp2
      go_ret
      exact ⟨by rw [HM.out]; rfl, HB.out⟩
def SDep (d : Nat) : Prop := ∀ (r : ExR) (t : Ex) (w : World), RdN exK d w r t → dpL d t.kids ≤ 1048576 → Calls Try.prog 35 #[r.val] w fun e w' => e = .returned (.int .i64 ((dpL d t.kids : Int) + 1)) ∧ Below w.heap.size w w'
set_option maxRecDepth 100000 in
set_option maxHeartbeats 2000000 in
theorem sDep_of (d : Nat) (ih : ∀ e, d = e + 1 → SDep e) : SDep d := by
  intro r t w hr hdp
  obtain ⟨⟨h0, hp⟩, hk⟩ := hr
  clear h0
  obtain ⟨A, cap, hkv, hlen, hat⟩ := ex_at hk
  obtain ⟨A3, n3, c3, hsl⟩ : ∃ A n c, r.sv = .slice A n c := by obtain ⟨A, c, hv, _⟩ := hp.st.at; exact ⟨A, _, c, hv⟩
  have HAT : Hid (∀ k (hk : k < t.kids.length), ∃ (a : Addr) (r' : ExR) (m : Nat), A = some a ∧ (a.add (k * 7)).block < w.heap.size ∧ Ek w (a.add (k * 7)) r' ∧ dpL d (t.kids.take (k + 1)) = max (dpL d (t.kids.take k)) (m + 1) ∧ ∀ W, Below w.heap.size w W → Calls Try.prog 35 #[r'.val] W fun e w' => e = .returned (.int .i64 ((m : Int) + 1)) ∧ Below W.heap.size W w') := Lib.hid fun k hkl => by
    obtain ⟨a, r', d', e1, e2, e3, e4, e5⟩ := hat k hkl
    subst e2
    exact ⟨a, r', dpL d' t.kids[k].kids, e1, e3, e4, fold_take (f := fun t => dpL d' t.kids + 1) hkl 0, fun W hb => ih d' rfl r' t.kids[k] W (e5.below hb) (by have := dpL_kid (d := d') (List.getElem_mem hkl); omega)⟩
  have HZ : Hid (dpL d (t.kids.take 0) = 0) := Lib.hid (by cases d <;> rfl)
  obtain ⟨n1, hn1⟩ : ∃ n1 : Nat, n1 = t.kids.length := ⟨_, rfl⟩
  have HF : Hid (∀ k, k = n1 → dpL d (t.kids.take k) = dpL d t.kids) := Lib.hid fun k hk => by rw [List.take_of_length_le (by omega)]
  have HN1 := Lib.hid hn1
  rw [← hn1] at hlen hkv
  obtain ⟨z, hz⟩ : ∃ z : Nat, z = dpL d t.kids := ⟨_, rfl⟩
  rw [← hz] at hdp HF ⊢
  have hzw : (z : Int) ≤ 1048576 := by omega
  obtain ⟨op, num, text, ro, up, sv, kv⟩ := r
  dsimp only at hsl hkv
  subst hsl hkv
  have HB0 := Lib.hid (below_al (Below.refl w.heap.size w) (.cells #[.int .i64 op, .int .i64 num, .string text, .bool ro, .int .i64 up, .slice A3 n3 c3, .slice A n1 cap] 35))
  have HX0 := Lib.hid (EBox.new 35 w ⟨op, num, text, ro, up, .slice A3 n3 c3, .slice A n1 cap⟩)
  clear hp hk hat ih hn1 hz hdp
  go_enter Try.func35, Try.ntmps35
  go_wp2
  go_loopw [3, 4] (fun q i wr => ∃ k : Nat, k ≤ n1 ∧ i = .int .i64 k ∧ q = .int .i64 (dpL d (t.kids.take k) : Nat) ∧ Hid (EBox 35 wr w.heap.size ⟨op, num, text, ro, up, .slice A3 n3 c3, .slice A n1 cap⟩) ∧ Below w.heap.size w wr) (fun _ i _ => n1 - (intOf i).toNat)
  case atStart => exact ⟨0, Nat.zero_le _, rfl, by rw [HZ.out]; rfl, HX0, HB0.out⟩
  case round =>
    obtain ⟨k, hk, rfl, rfl, HX, hbel⟩ := hrel
    obtain ⟨a0, a1, a2, a3, a4, a5, a6⟩ := HX.out.tell
    by_cases hlt : k < n1
    · have hl1 : k < t.kids.length := by rw [← HN1.out]; exact hlt
      obtain ⟨a, q, m, rfl, hab, hx, hmx, HC⟩ := HAT.out k hl1
      have HC := Lib.hid HC
      have HMX := Lib.hid hmx
      obtain ⟨c0, c1, c2, c3, c4, c5, c6⟩ := hx.below hbel hab
      generalize hv : dpL d (t.kids.take k) = y at *
      clear hx hmx
      go_wp2_with fail
      refine (HC.out _ hbel).mono ?_
      rintro e w2 ⟨rfl, hb2⟩
      have HB2 := Lib.hid (below_step hbel hb2)
      have HX2 := Lib.hid (HX.out.below hb2)
      clear hb2 a0 a1 a2 a3 a4 a5 a6 c0 c1 c2 c3 c4 c5 c6
      go_wp2_with fail
      refine (sMax_any _ _ _).mono ?_
      rintro e w3 ⟨rfl, rfl⟩
      go_wp2
      go_roundw
      case rel => exact ⟨k + 1, by omega, by go_num, by rw [HMX.out]; congr 2; omega, HX2, HB2.out⟩
      case measure => simp [intOf]; omega
    · have HE := Lib.hid (HF.out k (by omega))
      generalize dpL d (t.kids.take k) = y at *
      obtain rfl : y = z := HE.out
      go_wp2
      go_ret
      exact ⟨rfl, hbel⟩
theorem sDep_any : ∀ d, SDep d
  | 0 => sDep_of 0 (fun e h => by cases h)
  | d + 1 => sDep_of (d + 1) (fun e h => by cases h; exact sDep_any d)
end Go.Proofs.Ytnpgeneahjlkpaa
