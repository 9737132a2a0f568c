/- CHAPTER 6, impl: areEnumNames, isFilledText, hasFields. -/
import Derived.Test.YtdalobhomlfpiaaTyA
namespace Go.Proofs.Ytdalobhomlfpiaa
open Go.RowKit

/-- a slice's length fits its room -/
def CapN (v : Value) : Prop := ∀ A n c, v = .slice A n c → n ≤ c
theorem Row.capN {B : Nat} {w : World} {v : Value} {l : List ByteArray} (h : Row B w v l) : CapN v := by
  intro A n c e
  rcases h.form with ⟨e', _⟩ | ⟨g, cap, e', _⟩
  · rw [e'] at e; cases e; exact Nat.le_refl _
  · subst e'; cases e; exact h.cap.2
noncomputable def enumB (l : List ByteArray) : Bool := decide (0 < l.length ∧ l.length ≤ 6) && namesB l
set_option maxRecDepth 100000 in
set_option maxHeartbeats 2000000 in
theorem enum_any (v : Value) (l : List ByteArray) (w : World) (hv : Has w v l) (hcap : CapN v) (hs : ∀ s ∈ l, s.size ≤ 1048576) :
    Calls Try.prog 75 #[v] w fun e w' => e = .returned (.bool (enumB l)) ∧ w = w' := by
  have HT := Lib.hid (fun A c k n (h : v = .slice A n c) (hk : k ≤ n) (s : ByteArray) => containsB_any (.slice A k c) (l.take k) s w (has_take (h ▸ hv) hk))
  obtain ⟨A, cap, rfl, hn', hc⟩ := hv
  obtain ⟨n, hnn⟩ : ∃ n, n = l.length := ⟨_, rfl⟩
  have HN : Hid (n = l.length) := Lib.hid hnn
  have hnc := hcap A l.length cap rfl
  clear hcap
  rw [← hnn] at hn' HT hnc ⊢
  clear hnn
  by_cases h0 : n = 0
  · have z1 : (n == 0) = true := by simp [h0]
    have z2 : ((n : Int) == 0) = true := by simp [h0]
    have z3 : decide ((6 : Int) < (n : Int)) = false := by simp; omega
    have HE : Hid (enumB l = false) := Lib.hid (by unfold enumB; rw [← HN.out, h0]; rfl)
    clear hc
    go_enter Try.func75, Try.ntmps75
    go_wp2
    go_ret
    exact ⟨ret_bool HE.out.symm, rfl⟩
  · have h0' : ((n : Int) == 0) = false := by simp; omega
    have z1 : (n == 0) = false := by simp [h0]
    by_cases h6 : 6 < n
    · have HE : Hid (enumB l = false) := Lib.hid (by unfold enumB; rw [← HN.out]; simp; omega)
      have z3 : decide ((6 : Int) < (n : Int)) = true := by simp; omega
      clear hc
      go_enter Try.func75, Try.ntmps75
      go_wp2
      go_ret
      exact ⟨ret_bool HE.out.symm, rfl⟩
    · have h6' : decide ((6 : Int) < (n : Int)) = false := by simp; omega
      have HE : Hid (∀ b, namesB l = b → enumB l = b) := Lib.hid (fun b hb => by unfold enumB; rw [← HN.out, hb]; have : decide (0 < n ∧ n ≤ 6) = true := by simp; omega
                                                                                 rw [this]; rfl)
      go_enter Try.func75, Try.ntmps75
      go_wp2
      go_loop [15] (fun i => ∃ k : Nat, k ≤ n ∧ i = .int .i64 k ∧ Hid (NamesOk l k)) (fun i => n - (intOf i).toNat)
      case atStart => exact ⟨0, Nat.zero_le _, rfl, Lib.hid (names_zero l)⟩
      case round =>
        obtain ⟨k, hk, rfl, HI⟩ := hrel
        by_cases hlt : k < n
        · have hlk : k < l.length := by rw [← HN.out]; exact hlt
          obtain ⟨a, rfl, hab, hcell⟩ := hc k hlk
          have HNM := Lib.hid (fun w => iIsName_any l[k] (by have := hs _ (List.getElem_mem hlk); unfold maxLen; omega) w)
          have HCT := Lib.hid (HT.out (some a) cap k n rfl hk l[k])
          obtain ⟨x, hx⟩ : ∃ x, x = l[k] := ⟨_, rfl⟩
          rw [← hx] at hcell HNM HCT
          have HX := Lib.hid hx
          have hkc : (k : Int) ≤ (cap : Int) := by omega
          clear hx hc HT hs
          obtain ⟨q, hq⟩ : ∃ q, q = nameB x := ⟨_, rfl⟩
          have HQ := Lib.hid hq
          rw [← hq] at HNM
          clear hq
          cases q with
          | false =>
            have HB := Lib.hid (HE.out false (names_bad hlk (by rw [← HX.out]; exact HQ.out.symm)))
            go_wp2_with (first | (go_at_call 87; refine (HNM.out _).mono ?_; rintro e w' ⟨rfl, rfl⟩))
            go_ret
            exact ⟨ret_bool HB.out.symm, rfl⟩
          | true =>
            obtain ⟨b, hb⟩ : ∃ b, b = memB x (l.take k) := ⟨_, rfl⟩
            have HB := Lib.hid hb
            rw [← hb] at HCT
            clear hb
            cases b with
            | true =>
              have HE2 : Hid (enumB l = false) := Lib.hid (HE.out false (by
                obtain ⟨j, hj, hjk, e⟩ := mem_take' ((mem_iff _ _).1 HB.out.symm)
                exact names_twice hj hlk hjk (by rw [e, HX.out])))
              go_wp2_with (first | (go_at_call 87; refine (HNM.out _).mono ?_; rintro e w' ⟨rfl, rfl⟩) | (go_at_call 88; refine (HCT.out).mono ?_; rintro e w' ⟨rfl, rfl⟩))
              go_ret
              exact ⟨ret_bool HE2.out.symm, rfl⟩
            | false =>
              have HJ : Hid (NamesOk l (k + 1)) := Lib.hid (names_step hlk HI.out (by rw [← HX.out]; exact HQ.out.symm) fun j hj hjk e => by
                have := (mem_iff x (l.take k)).2 (by rw [HX.out, ← e]; exact take_mem' hj hjk)
                rw [← HB.out] at this; cases this)
              go_wp2_with (first | (go_at_call 87; refine (HNM.out _).mono ?_; rintro e w' ⟨rfl, rfl⟩) | (go_at_call 88; refine (HCT.out).mono ?_; rintro e w' ⟨rfl, rfl⟩))
              go_round
              case rel => exact ⟨k + 1, by omega, by go_num, HJ⟩
              case measure => simp [intOf]; omega
        · have HB := Lib.hid (HE.out true (names_yes (by have := HI.out; rwa [show k = l.length by have := HN.out; omega] at this)))
          go_wp2
          go_ret
          exact ⟨ret_bool HB.out.symm, rfl⟩
theorem em_ne {s : ByteArray} (h : s.size ≠ 0) : s ≠ ⟨#[]⟩ := by rintro rfl; exact h rfl
theorem em_eq {s : ByteArray} (h : s.size = 0) : s = ⟨#[]⟩ := by
  cases s with
  | mk d => rw [show d = #[] from Array.eq_empty_of_size_eq_zero h]
def emB (s : ByteArray) : Bool := s.size == 0
theorem em_cases (s : ByteArray) : s = ⟨#[]⟩ ∨ ((s.toList == (⟨#[]⟩ : ByteArray).toList) = false ∧ s.toList.isEmpty = false ∧ ¬ s.toList = [] ∧ emB s = false) := by
  by_cases h : s.size = 0
  · exact .inl (em_eq h)
  · have h1 := str_ne (em_ne h)
    have h2 : ¬ s.toList = [] := by
      intro e
      rw [ByteArray.toList_eq] at e
      apply h
      have : s.data.toList.length = 0 := by rw [e]; rfl
      simpa using this
    refine .inr ⟨h1, ?_, h2, beq_eq_false_iff_ne.2 h⟩
    cases hh : s.toList with
    | nil => exact absurd hh h2
    | cons _ _ => rfl
set_option maxRecDepth 100000 in
theorem filled_any (s : ByteArray) (hs : s.size ≤ 1048576) (w : World) :
    Calls Try.prog 76 #[.string s] w fun e w' => e = .returned (.bool (!emB s && textB s)) ∧ w = w' := by
  have HC := Lib.hid (fun w => iIsText_any s (by unfold maxLen; omega) w)
  rcases em_cases s with rfl | ⟨h1, h2, h3, h4⟩
  · go_enter Try.func76, Try.ntmps76
    go_wp2
    go_ret
    exact ⟨rfl, rfl⟩
  · go_enter Try.func76, Try.ntmps76
    go_wp2_with (first | (go_at_call 89; refine (HC.out _).mono ?_; rintro e w' ⟨rfl, rfl⟩))
    go_ret
    exact ⟨ret_bool (by rw [h4]; rfl), rfl⟩
/-- no field is set beside the kind -/
def bareB (t : Ty) : Bool := decide (t.rg.length = 0) && decide (t.nm.length = 0) && emB t.pt && emB t.ph
set_option maxRecDepth 100000 in
set_option maxHeartbeats 1000000 in
theorem fields_any (v : TyV) (t : Ty) (w : World) (h : HasTy w v t) :
    Calls Try.prog 59 #[v.val] w fun e w' => e = .returned (.bool (!bareB t)) ∧ Below w.heap.size w w' := by
  obtain ⟨k, rg, nm, pt, ph⟩ := t
  obtain ⟨k', vr, vn, pt', ph'⟩ := v
  obtain ⟨rfl, hr, hn, rfl, rfl⟩ := h
  dsimp only at hr hn ⊢
  obtain ⟨A, c, rfl, hn1, _⟩ := hr
  obtain ⟨A', c', rfl, hn2, _⟩ := hn
  obtain ⟨n, hnn⟩ : ∃ n, n = rg.length := ⟨_, rfl⟩
  obtain ⟨m, hmm⟩ : ∃ m, m = nm.length := ⟨_, rfl⟩
  have HB : Hid (bareB ⟨k', rg, nm, pt', ph'⟩ = (decide (n = 0) && decide (m = 0) && emB pt' && emB ph')) := Lib.hid (by rw [hnn, hmm]; rfl)
  rw [← hnn] at hn1 ⊢
  rw [← hmm] at hn2 ⊢
  clear hnn hmm
  have hb0 : Below w.heap.size w (w.alloc (.cells #[.int .i64 k', .slice A n c, .slice A' m c', .string pt', .string ph'] 47)) := below_al (Below.refl _ _) _
  by_cases h0 : 0 < n
  · go_enter Try.func59, Try.ntmps59
    go_wp2
    go_ret
    exact ⟨ret_bool (by rw [HB.out]; simp; omega), hb0⟩
  · obtain rfl : n = 0 := by omega
    by_cases h1 : 0 < m
    · go_enter Try.func59, Try.ntmps59
      go_wp2
      go_ret
      exact ⟨ret_bool (by rw [HB.out]; simp; omega), hb0⟩
    · obtain rfl : m = 0 := by omega
      rcases em_cases pt' with rfl | ⟨h1, h2, h3, h4⟩
      · rcases em_cases ph' with rfl | ⟨h1, h2, h3, h4⟩
        · go_enter Try.func59, Try.ntmps59
          go_wp2
          go_ret
          exact ⟨ret_bool (by rw [HB.out]; rfl), hb0⟩
        · go_enter Try.func59, Try.ntmps59
          go_wp2
          go_ret
          exact ⟨ret_bool (by rw [HB.out, h4]; rfl), hb0⟩
      · go_enter Try.func59, Try.ntmps59
        go_wp2
        go_ret
        exact ⟨ret_bool (by rw [HB.out, h4]; rfl), hb0⟩
end Go.Proofs.Ytdalobhomlfpiaa
