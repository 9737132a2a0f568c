/- CHAPTER 7, impl: Test.isValid, hasNameOf, slices.ContainsFunc at it. -/
import Derived.Test.YtnpgeneahjlkpaaPthC
import Derived.Test.YtnpgeneahjlkpaaNameC
import Derived.Laws.EntriesVeiled
set_option linter.unusedVariables false
set_option linter.unusedSimpArgs false
namespace Go.Proofs.Ytnpgeneahjlkpaa
open Go.RowKit

noncomputable def tstV (x : Tst) : Bool := nameB x.n && textB x.v
set_option maxRecDepth 100000 in
set_option maxHeartbeats 1000000 in
theorem iTst_any (x : Tst) (hx : TstSz x) (w : World) :
    Calls Try.prog 110 #[.agg #[.string x.n, .string x.v]] w fun e w' => e = .returned (.bool (tstV x)) ∧ Below w.heap.size w w' := by
  have H1 := Lib.hid (fun w => iIsName_any x.n (by unfold maxLen; have := hx.1; omega) w)
  have H2 := Lib.hid (fun w => iIsText_any x.v (by unfold maxLen; have := hx.2; omega) w)
  have HB := Lib.hid (below_al (Below.refl w.heap.size w) (.cells #[.string x.n, .string x.v] 116))
  unfold tstV
  generalize nameB x.n = b1 at *
  generalize textB x.v = b2 at *
  cases b1
  · go_enter Try.func110, Try.ntmps110
    go_wp2_with (first | (go_at_call 109; refine (H1.out _).mono ?_; rintro e w' ⟨rfl, rfl⟩))
    go_ret
    exact ⟨rfl, HB.out⟩
  · go_enter Try.func110, Try.ntmps110
    go_wp2_with (first
      | (go_at_call 109; refine (H1.out _).mono ?_; rintro e w' ⟨rfl, rfl⟩)
      | (go_at_call 103; refine (H2.out _).mono ?_; rintro e w' ⟨rfl, rfl⟩))
    go_ret
    exact ⟨rfl, HB.out⟩
set_option maxRecDepth 100000 in
theorem hasName_any (x y : Tst) (w : World) :
    Calls Try.prog 112 #[.agg #[.string x.n, .string x.v], .agg #[.string y.n, .string y.v]] w fun e w' => e = .returned (.bool (dB (x.n = y.n))) ∧ Below w.heap.size w w' := by
  have HB := Lib.hid (below_al (below_al (Below.refl w.heap.size w) (.cells #[.string x.n, .string x.v] 116)) (.cells #[.string y.n, .string y.v] 116))
  by_cases h : x.n = y.n
  · rw [dB_yes h]
    have h1 : (x.n.toList == y.n.toList) = true := by rw [h]; simp
    have HH := Lib.hid h
    clear h
    go_enter Try.func112, Try.ntmps112
    go_wp2
    go_ret
    exact ⟨rfl, HB.out⟩
  · rw [dB_no h]
    have h1 : (x.n.toList == y.n.toList) = false := str_ne7 h
    clear h
    go_enter Try.func112, Try.ntmps112
    go_wp2
    go_ret
    exact ⟨rfl, HB.out⟩
/-- one of the tests l has the name of x -/
def NameIn (x : Tst) (l : List Tst) : Prop := ∃ y ∈ l, x.n = y.n
set_option maxRecDepth 100000 in
set_option maxHeartbeats 2000000 in
theorem indexF_any (v : Value) (l : List Tst) (x : Tst) (w : World) (hv : HasX w v l) :
    Calls Try.prog 133 #[v, .func (.func 112) #[.agg #[.string x.n, .string x.v]] #[]] w fun e w' => (∃ r : Int, e = .returned (.int .i64 r) ∧ Hid (decide (0 ≤ r) = dB (NameIn x l))) ∧ Below w.heap.size w w' := by
  obtain ⟨A, cap, rfl, hn', hc⟩ := hv
  obtain ⟨n, hnn⟩ : ∃ n, n = l.length := ⟨_, rfl⟩
  have HN : Hid (n = l.length) := Lib.hid hnn
  rw [← hnn] at hn' ⊢
  clear hnn
  go_enter Try.func133, Try.ntmps133
  go_wp2
  go_loopw [8] (fun i wr => ∃ k : Nat, k ≤ n ∧ i = .int .i64 k ∧ Hid (∀ j (hj : j < l.length), j < k → x.n ≠ l[j].n) ∧ Below w.heap.size w wr) (fun i _ => n - (intOf i).toNat)
  case atStart => exact ⟨0, Nat.zero_le _, rfl, Lib.hid (fun j _ h => absurd h (by omega)), Below.refl _ _⟩
  case round =>
    obtain ⟨k, hk, rfl, HS, hbel⟩ := hrel
    by_cases hlt : k < n
    · have hl1 : k < l.length := by rw [← HN.out]; exact hlt
      obtain ⟨a, rfl, hab, hx⟩ := HasX.xk hc k hl1
      obtain ⟨y, hye⟩ : ∃ y, y = l[k] := ⟨_, rfl⟩
      rw [← hye] at hx
      have HY := Lib.hid hye
      obtain ⟨c0, c1⟩ := hx.below hbel hab
      have HC := Lib.hid (hasName_any x y wr)
      obtain ⟨b, hb⟩ : ∃ b, b = dB (x.n = y.n) := ⟨_, rfl⟩
      have HBT := Lib.hid hb
      rw [← hb] at HC
      clear hx hye hc hb
      go_wp2_with fail
      refine HC.out.mono ?_
      rintro e w1 ⟨rfl, hb1⟩
      have HB1 := Lib.hid (below_step hbel hb1)
      clear hb1
      cases b with
      | true =>
        have HL : Hid (decide (0 ≤ (k : Int)) = dB (NameIn x l)) := Lib.hid (by rw [dB_yes ⟨l[k], List.getElem_mem hl1, by rw [← HY.out]; exact dB_true HBT.out.symm⟩]; simp)
        go_wp2
        go_ret
        exact ⟨⟨_, rfl, HL⟩, HB1.out⟩
      | false =>
        have HS2 : Hid (∀ j (hj : j < l.length), j < k + 1 → x.n ≠ l[j].n) := Lib.hid fun j hj hjk => by
          by_cases e : j = k
          · subst e; rw [← HY.out]; exact dB_false HBT.out.symm
          · exact HS.out j hj (by omega)
        go_wp2
        go_roundw
        case rel => exact ⟨k + 1, by omega, by go_num, HS2, HB1.out⟩
        case measure => simp [intOf]; omega
    · have HL : Hid (decide (0 ≤ (-1 : Int)) = dB (NameIn x l)) := Lib.hid (by
        rw [dB_no]
        · rfl
        · rintro ⟨y, hy, e⟩
          obtain ⟨j, hj, rfl⟩ := List.getElem_of_mem hy
          exact HS.out j hj (by have := HN.out; omega) e)
      clear hc
      go_wp2
      go_ret
      exact ⟨⟨_, rfl, HL⟩, hbel⟩
set_option maxRecDepth 100000 in
theorem containsF_any (v : Value) (l : List Tst) (x : Tst) (w : World) (hv : HasX w v l) :
    Calls Try.prog 111 #[v, .func (.func 112) #[.agg #[.string x.n, .string x.v]] #[]] w fun e w' => e = .returned (.bool (dB (NameIn x l))) ∧ Below w.heap.size w w' := by
  have HC := Lib.hid (indexF_any v l x w hv)
  obtain ⟨A, cap, rfl, -⟩ := id hv
  clear hv
  go_enter Try.func111, Try.ntmps111
  go_wp2_with (go_at_call 133; refine (HC.out).mono ?_; rintro e w' ⟨⟨r, rfl, hr⟩, hb⟩)
  go_ret
  exact ⟨ret_bool hr.out, hb⟩
set_option maxRecDepth 100000 in
theorem isEmpty_any (v : PthV) (p : Pth) (w : World) (h : HasP7 w v p) :
    Calls Try.prog 84 #[v.val] w fun e w' => e = .returned (.bool (!p.root && decide (p.ups = 0) && decide (p.st.length = 0))) ∧ Below w.heap.size w w' := by
  obtain ⟨r, u, l⟩ := p
  obtain ⟨r', u', sv⟩ := v
  obtain ⟨rfl, rfl, hs⟩ := h
  dsimp only at hs ⊢
  obtain ⟨A, cap, rfl, hn, -⟩ := hs.at
  clear hs
  generalize l.length = n at *
  have HB := Lib.hid (below_al (Below.refl w.heap.size w) (.cells #[.bool r', .int .i64 u', .slice A n cap] 32))
  by_cases h1 : u' = 0
  · subst h1
    by_cases h2 : n = 0
    · subst h2
      cases r'
      all_goals
        go_enter Try.func84, Try.ntmps84
        go_wp2
        go_ret
        exact ⟨rfl, HB.out⟩
    · have e1 : ((n : Int) == 0) = false := by simp; omega
      have e2 : decide (n = 0) = false := by simp [h2]
      rw [e2]
      clear h2 e2
      cases r'
      all_goals
        go_enter Try.func84, Try.ntmps84
        go_wp2
        go_ret
        exact ⟨rfl, HB.out⟩
  · have e1 : (u' == 0) = false := by simp [h1]
    have e2 : decide (u' = 0) = false := by simp [h1]
    rw [e2]
    clear h1 e2
    cases r'
    all_goals
      go_enter Try.func84, Try.ntmps84
      go_wp2
      go_ret
      exact ⟨rfl, HB.out⟩
end Go.Proofs.Ytnpgeneahjlkpaa
