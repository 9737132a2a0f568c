/- MERGED for a claim: TyA TyB TyC. -/
import Derived.Test.YtkifdbeklagelaaGreatDoorTy
import Derived.Test.YtkifdbeklagelaaGreatDoorRngAi
import Derived.Test.YtkifdbeklagelaaGreatDoorNameC
import Derived.RegionTactic
import Derived.ChangeAlike
import Derived.BigRegion
set_option linter.unusedVariables false
set_option linter.unusedSimpArgs false
/- CHAPTER 6, impl: lists of names, a text found in a list, the tests of single fields. -/
namespace Go.Proofs.YtkifdbeklagelaaGreatDoor
open Go.RowKit

/-- the first n texts are names, no two of them the same -/
def NamesOk (l : List ByteArray) (n : Nat) : Prop := ∀ i (hi : i < l.length), i < n → NameP l[i] ∧ ∀ k (hk : k < l.length), k < i → l[k] ≠ l[i]
noncomputable def namesB (l : List ByteArray) : Bool := @decide (NamesOk l l.length) (Classical.propDecidable _)
theorem names_yes {l : List ByteArray} (h : NamesOk l l.length) : namesB l = true := @decide_eq_true _ (Classical.propDecidable _) h
theorem names_no {l : List ByteArray} (h : ¬ NamesOk l l.length) : namesB l = false := @decide_eq_false _ (Classical.propDecidable _) h
theorem names_zero (l : List ByteArray) : NamesOk l 0 := fun i _ h => absurd h (by omega)
theorem names_nil : namesB [] = true := names_yes fun i hi => absurd hi (by simp)
theorem names_step {l : List ByteArray} {k : Nat} (hk : k < l.length) (h : NamesOk l k) (h1 : nameB l[k] = true) (h2 : ∀ j (hj : j < l.length), j < k → l[j] ≠ l[k]) : NamesOk l (k + 1) := by
  intro i hi hik
  by_cases he : i = k
  · subst he
    refine ⟨?_, h2⟩
    by_cases hn : NameP l[i]
    · exact hn
    · rw [← name_no hn] at h1; cases h1
  · exact h i hi (by omega)
theorem names_bad {l : List ByteArray} {k : Nat} (hk : k < l.length) (h1 : nameB l[k] = false) : namesB l = false := names_no fun h => by
  have := (h k hk hk).1
  rw [← name_yes this] at h1; cases h1
theorem names_twice {l : List ByteArray} {j k : Nat} (hj : j < l.length) (hk : k < l.length) (hjk : j < k) (h : l[j] = l[k]) : namesB l = false := names_no fun hh => (hh k hk hk).2 j hj hjk h
theorem has_take {w : World} {A : Option Addr} {n c k : Nat} {l : List ByteArray} (h : Has w (.slice A n c) l) (hk : k ≤ n) : Has w (.slice A k c) (l.take k) := by
  obtain ⟨A', cap, e, hn, hc⟩ := h
  cases e
  refine ⟨A, c, by rw [List.length_take, Nat.min_eq_left hk], by rw [List.length_take]; omega, fun i hi => ?_⟩
  have hi' : i < l.length := by rw [List.length_take] at hi; omega
  obtain ⟨a, h1, h2, h3⟩ := hc i hi'
  exact ⟨a, h1, h2, by rw [h3, List.getElem_take]⟩
theorem mem_take' {l : List ByteArray} {k : Nat} {s : ByteArray} (h : s ∈ l.take k) : ∃ j, ∃ hj : j < l.length, j < k ∧ l[j] = s := by
  obtain ⟨j, hj, e⟩ := List.getElem_of_mem h
  rw [List.length_take] at hj
  exact ⟨j, by omega, by omega, by rw [← e, List.getElem_take]⟩
theorem take_mem' {l : List ByteArray} {j k : Nat} (hj : j < l.length) (h : j < k) : l[j] ∈ l.take k := by
  rw [← List.getElem_take (j := k) (h := by rw [List.length_take]; omega)]
  exact List.getElem_mem _
theorem add_0 (a : Addr) : a.add 0 = a := by
  unfold Addr.add; split
  · cases a; simp_all
  · cases a; simp_all
theorem str_ne {s x : ByteArray} (h : s ≠ x) : (s.toList == x.toList) = false := by
  rw [beq_eq_false_iff_ne]
  intro e
  rw [ByteArray.toList_eq, ByteArray.toList_eq] at e
  exact h (ByteArray.ext (Array.toList_inj.1 e))
set_option maxRecDepth 100000 in
set_option maxHeartbeats 1000000 in
theorem index_any (v : Value) (l : List ByteArray) (s : ByteArray) (w : World) (hv : Has w v l) :
    Calls Tryz.prog 174 #[v, .string s] w fun e w' => (∃ r : Int, e = .returned (.int .i64 r) ∧ Hid (0 ≤ r ↔ s ∈ l)) ∧ w = w' := by
  obtain ⟨A, cap, rfl, hn', hc⟩ := hv
  obtain ⟨n, hnn⟩ : ∃ n, n = l.length := ⟨_, rfl⟩
  have HN : Hid (n = l.length) := Lib.hid hnn
  rw [← hnn] at hn' ⊢
  clear hnn
  go_enter Tryz.func174, Tryz.ntmps174
  go_wp2
  go_loop [8] (fun i => ∃ k : Nat, k ≤ n ∧ i = .int .i64 k ∧ Hid (∀ j (hj : j < l.length), j < k → s ≠ l[j])) (fun i => n - (intOf i).toNat)
  case atStart => exact ⟨0, Nat.zero_le _, rfl, Lib.hid fun j _ h => absurd h (by omega)⟩
  case round =>
    obtain ⟨k, hk, rfl, HI⟩ := hrel
    by_cases hlt : k < n
    · have hlk : k < l.length := by rw [← HN.out]; exact hlt
      obtain ⟨a, rfl, hab, hcell⟩ := hc k hlk
      obtain ⟨x, hx⟩ : ∃ x, x = l[k] := ⟨_, rfl⟩
      rw [← hx] at hcell
      have HX := Lib.hid hx
      clear hx hc
      by_cases he : s = x
      · subst he
        have HB : Hid (0 ≤ (k : Int) ↔ s ∈ l) := Lib.hid ⟨fun _ => by rw [HX.out]; exact List.getElem_mem _, fun _ => by omega⟩
        go_wp2
        go_ret
        exact ⟨⟨_, rfl, HB⟩, rfl⟩
      · have h1 : (s.toList == x.toList) = false := str_ne he
        have HJ : Hid (∀ j (hj : j < l.length), j < k + 1 → s ≠ l[j]) := Lib.hid fun j hj hjk => by
          by_cases e : j = k
          · subst e; rw [← HX.out]; exact he
          · exact HI.out j hj (by omega)
        clear he
        go_wp2
        go_round
        case rel => exact ⟨k + 1, by omega, by go_num, HJ⟩
        case measure => simp [intOf]; omega
    · have HB : Hid (0 ≤ (-1 : Int) ↔ s ∈ l) := Lib.hid ⟨fun h => absurd h (by omega), fun h => by
        obtain ⟨j, hj, e⟩ := List.getElem_of_mem h
        exact absurd e.symm (HI.out j hj (by have := HN.out; omega))⟩
      go_wp2
      go_ret
      exact ⟨⟨_, rfl, HB⟩, rfl⟩
theorem contains_any (v : Value) (l : List ByteArray) (s : ByteArray) (w : World) (hv : Has w v l) :
    Calls Tryz.prog 158 #[v, .string s] w fun e w' => (∃ b : Bool, e = .returned (.bool b) ∧ Hid (b = true ↔ s ∈ l)) ∧ w = w' := by
  have HC := Lib.hid (index_any v l s w hv)
  clear hv
  go_enter Tryz.func158, Tryz.ntmps158
  go_wp2_with (go_at_call 174; refine (HC.out).mono ?_; rintro e w' ⟨⟨r, rfl, hr⟩, rfl⟩)
  go_ret
  exact ⟨⟨_, rfl, Lib.hid (by rw [← hr.out]; simp)⟩, rfl⟩
noncomputable def memB (s : ByteArray) (l : List ByteArray) : Bool := @decide (s ∈ l) (Classical.propDecidable _)
theorem mem_iff (s : ByteArray) (l : List ByteArray) : memB s l = true ↔ s ∈ l := @decide_eq_true_iff _ (Classical.propDecidable _)
theorem containsB_any (v : Value) (l : List ByteArray) (s : ByteArray) (w : World) (hv : Has w v l) :
    Calls Tryz.prog 158 #[v, .string s] w fun e w' => e = .returned (.bool (memB s l)) ∧ w = w' :=
  (contains_any v l s w hv).mono fun e w' ⟨⟨b, he, hb⟩, hw⟩ => ⟨by rw [he]; exact ret_bool (by rw [Bool.eq_iff_iff, mem_iff, hb.out]), hw⟩
/-- the first number of the first range, if there is one, is none below 0 -/
def loB : List Rg → Bool | [] => true | x :: _ => decide (0 ≤ x.lo)
set_option maxRecDepth 100000 in
set_option maxHeartbeats 1000000 in
theorem areLen_any (v : Value) (l : List Rg) (w : World) (hv : HasG w v l) :
    Calls Tryz.prog 125 #[v] w fun e w' => e = .returned (.bool (areB l && loB l)) ∧ Below w.heap.size w w' := by
  have HC := Lib.hid (iAre_any v l w hv)
  obtain ⟨A, cap, rfl, hn', hc⟩ := hv
  generalize areB l = b at HC ⊢
  cases b with
  | false =>
    clear hc
    go_enter Tryz.func125, Tryz.ntmps125
    go_wp2_with (go_at_call 124; refine (HC.out).mono ?_; rintro e w' ⟨rfl, hb⟩)
    go_ret
    exact ⟨rfl, hb⟩
  | true =>
    cases l with
    | nil =>
      clear hc
      go_enter Tryz.func125, Tryz.ntmps125
      go_wp2_with (go_at_call 124; refine (HC.out).mono ?_; rintro e w' ⟨rfl, hb⟩)
      go_ret
      exact ⟨rfl, hb⟩
    | cons x r =>
      obtain ⟨a, rfl, hab, hcell⟩ := HasG.gk hc 0 (by simp)
      have HCL : Hid (∀ W, Below w.heap.size w W → W.cell? a = some (.int .i64 x.lo)) := Lib.hid fun W hb => by
        have := (hcell.below hb hab).1
        rw [Nat.zero_mul, add_0] at this; exact this
      obtain ⟨n, hn⟩ : ∃ n, n = (x :: r).length := ⟨_, rfl⟩
      rw [← hn] at HC hn' ⊢
      have h0 : (n == 0) = false := by rw [hn]; simp
      have h1 : (0 : Int) < (n : Int) := by rw [hn]; simp
      have h2 : ((n : Int) == 0) = false := by simp; omega
      clear hc hcell hn
      go_enter Tryz.func125, Tryz.ntmps125
      go_wp2_with (go_at_call 124; refine (HC.out).mono ?_; rintro e w' ⟨rfl, hb⟩; have c0 := HCL.out _ hb)
      go_ret
      exact ⟨by simp [loB], hb⟩
end Go.Proofs.YtkifdbeklagelaaGreatDoor

/- CHAPTER 6, impl: areEnumNames, isFilledText, hasFields. -/
namespace Go.Proofs.YtkifdbeklagelaaGreatDoor
open Go.RowKit

/-- a slice's length fits its room -/
def CapN (v : Value) : Prop := ∀ A n c, v = .slice A n c → n ≤ c
theorem Row.capN {B : Nat} {w : World} {v : Value} {l : List ByteArray} (h : Row B w v l) : CapN v := by
  intro A n c e
  rcases h.form with ⟨e', _⟩ | ⟨g, cap, e', _⟩
  · rw [e'] at e; cases e; exact Nat.le_refl _
  · subst e'; cases e; exact h.cap.2
noncomputable def enumB (l : List ByteArray) : Bool := decide (0 < l.length ∧ l.length ≤ 6) && namesB l
set_option maxRecDepth 100000 in
set_option maxHeartbeats 2000000 in
theorem enum_any (v : Value) (l : List ByteArray) (w : World) (hv : Has w v l) (hcap : CapN v) (hs : ∀ s ∈ l, s.size ≤ 1048576) :
    Calls Tryz.prog 127 #[v] w fun e w' => e = .returned (.bool (enumB l)) ∧ w = w' := by
  have HT := Lib.hid (fun A c k n (h : v = .slice A n c) (hk : k ≤ n) (s : ByteArray) => containsB_any (.slice A k c) (l.take k) s w (has_take (h ▸ hv) hk))
  obtain ⟨A, cap, rfl, hn', hc⟩ := hv
  obtain ⟨n, hnn⟩ : ∃ n, n = l.length := ⟨_, rfl⟩
  have HN : Hid (n = l.length) := Lib.hid hnn
  have hnc := hcap A l.length cap rfl
  clear hcap
  rw [← hnn] at hn' HT hnc ⊢
  clear hnn
  by_cases h0 : n = 0
  · have z1 : (n == 0) = true := by simp [h0]
    have z2 : ((n : Int) == 0) = true := by simp [h0]
    have z3 : decide ((6 : Int) < (n : Int)) = false := by simp; omega
    have HE : Hid (enumB l = false) := Lib.hid (by unfold enumB; rw [← HN.out, h0]; rfl)
    clear hc
    go_enter Tryz.func127, Tryz.ntmps127
    go_wp2
    go_ret
    exact ⟨ret_bool HE.out.symm, rfl⟩
  · have h0' : ((n : Int) == 0) = false := by simp; omega
    have z1 : (n == 0) = false := by simp [h0]
    by_cases h6 : 6 < n
    · have HE : Hid (enumB l = false) := Lib.hid (by unfold enumB; rw [← HN.out]; simp; omega)
      have z3 : decide ((6 : Int) < (n : Int)) = true := by simp; omega
      clear hc
      go_enter Tryz.func127, Tryz.ntmps127
      go_wp2
      go_ret
      exact ⟨ret_bool HE.out.symm, rfl⟩
    · have h6' : decide ((6 : Int) < (n : Int)) = false := by simp; omega
      have HE : Hid (∀ b, namesB l = b → enumB l = b) := Lib.hid (fun b hb => by unfold enumB; rw [← HN.out, hb]; have : decide (0 < n ∧ n ≤ 6) = true := by simp; omega
                                                                                 rw [this]; rfl)
      go_enter Tryz.func127, Tryz.ntmps127
      go_wp2
      go_loop [15] (fun i => ∃ k : Nat, k ≤ n ∧ i = .int .i64 k ∧ Hid (NamesOk l k)) (fun i => n - (intOf i).toNat)
      case atStart => exact ⟨0, Nat.zero_le _, rfl, Lib.hid (names_zero l)⟩
      case round =>
        obtain ⟨k, hk, rfl, HI⟩ := hrel
        by_cases hlt : k < n
        · have hlk : k < l.length := by rw [← HN.out]; exact hlt
          obtain ⟨a, rfl, hab, hcell⟩ := hc k hlk
          have HNM := Lib.hid (fun w => iIsName_any l[k] (by have := hs _ (List.getElem_mem hlk); unfold maxLen; omega) w)
          have HCT := Lib.hid (HT.out (some a) cap k n rfl hk l[k])
          obtain ⟨x, hx⟩ : ∃ x, x = l[k] := ⟨_, rfl⟩
          rw [← hx] at hcell HNM HCT
          have HX := Lib.hid hx
          have hkc : (k : Int) ≤ (cap : Int) := by omega
          clear hx hc HT hs
          obtain ⟨q, hq⟩ : ∃ q, q = nameB x := ⟨_, rfl⟩
          have HQ := Lib.hid hq
          rw [← hq] at HNM
          clear hq
          cases q with
          | false =>
            have HB := Lib.hid (HE.out false (names_bad hlk (by rw [← HX.out]; exact HQ.out.symm)))
            go_wp2_with (first | (go_at_call 157; refine (HNM.out _).mono ?_; rintro e w' ⟨rfl, rfl⟩))
            go_ret
            exact ⟨ret_bool HB.out.symm, rfl⟩
          | true =>
            obtain ⟨b, hb⟩ : ∃ b, b = memB x (l.take k) := ⟨_, rfl⟩
            have HB := Lib.hid hb
            rw [← hb] at HCT
            clear hb
            cases b with
            | true =>
              have HE2 : Hid (enumB l = false) := Lib.hid (HE.out false (by
                obtain ⟨j, hj, hjk, e⟩ := mem_take' ((mem_iff _ _).1 HB.out.symm)
                exact names_twice hj hlk hjk (by rw [e, HX.out])))
              go_wp2_with (first | (go_at_call 157; refine (HNM.out _).mono ?_; rintro e w' ⟨rfl, rfl⟩) | (go_at_call 158; refine (HCT.out).mono ?_; rintro e w' ⟨rfl, rfl⟩))
              go_ret
              exact ⟨ret_bool HE2.out.symm, rfl⟩
            | false =>
              have HJ : Hid (NamesOk l (k + 1)) := Lib.hid (names_step hlk HI.out (by rw [← HX.out]; exact HQ.out.symm) fun j hj hjk e => by
                have := (mem_iff x (l.take k)).2 (by rw [HX.out, ← e]; exact take_mem' hj hjk)
                rw [← HB.out] at this; cases this)
              go_wp2_with (first | (go_at_call 157; refine (HNM.out _).mono ?_; rintro e w' ⟨rfl, rfl⟩) | (go_at_call 158; refine (HCT.out).mono ?_; rintro e w' ⟨rfl, rfl⟩))
              go_round
              case rel => exact ⟨k + 1, by omega, by go_num, HJ⟩
              case measure => simp [intOf]; omega
        · have HB := Lib.hid (HE.out true (names_yes (by have := HI.out; rwa [show k = l.length by have := HN.out; omega] at this)))
          go_wp2
          go_ret
          exact ⟨ret_bool HB.out.symm, rfl⟩
theorem em_ne {s : ByteArray} (h : s.size ≠ 0) : s ≠ ⟨#[]⟩ := by rintro rfl; exact h rfl
theorem em_eq {s : ByteArray} (h : s.size = 0) : s = ⟨#[]⟩ := by
  cases s with
  | mk d => rw [show d = #[] from Array.eq_empty_of_size_eq_zero h]
def emB (s : ByteArray) : Bool := s.size == 0
theorem em_cases (s : ByteArray) : s = ⟨#[]⟩ ∨ ((s.toList == (⟨#[]⟩ : ByteArray).toList) = false ∧ s.toList.isEmpty = false ∧ ¬ s.toList = [] ∧ emB s = false) := by
  by_cases h : s.size = 0
  · exact .inl (em_eq h)
  · have h1 := str_ne (em_ne h)
    have h2 : ¬ s.toList = [] := by
      intro e
      rw [ByteArray.toList_eq] at e
      apply h
      have : s.data.toList.length = 0 := by rw [e]; rfl
      simpa using this
    refine .inr ⟨h1, ?_, h2, beq_eq_false_iff_ne.2 h⟩
    cases hh : s.toList with
    | nil => exact absurd hh h2
    | cons _ _ => rfl
set_option maxRecDepth 100000 in
theorem filled_any (s : ByteArray) (hs : s.size ≤ 1048576) (w : World) :
    Calls Tryz.prog 128 #[.string s] w fun e w' => e = .returned (.bool (!emB s && textB s)) ∧ w = w' := by
  have HC := Lib.hid (fun w => iIsText_any s (by unfold maxLen; omega) w)
  rcases em_cases s with rfl | ⟨h1, h2, h3, h4⟩
  · go_enter Tryz.func128, Tryz.ntmps128
    go_wp2
    go_ret
    exact ⟨rfl, rfl⟩
  · go_enter Tryz.func128, Tryz.ntmps128
    go_wp2_with (first | (go_at_call 148; refine (HC.out _).mono ?_; rintro e w' ⟨rfl, rfl⟩))
    go_ret
    exact ⟨ret_bool (by rw [h4]; rfl), rfl⟩
/-- no field is set beside the kind -/
def bareB (t : Ty) : Bool := decide (t.rg.length = 0) && decide (t.nm.length = 0) && emB t.pt && emB t.ph
set_option maxRecDepth 100000 in
set_option maxHeartbeats 1000000 in
theorem fields_any (v : TyV) (t : Ty) (w : World) (h : HasTy w v t) :
    Calls Tryz.prog 90 #[v.val] w fun e w' => e = .returned (.bool (!bareB t)) ∧ Below w.heap.size w w' := by
  obtain ⟨k, rg, nm, pt, ph⟩ := t
  obtain ⟨k', vr, vn, pt', ph'⟩ := v
  obtain ⟨rfl, hr, hn, rfl, rfl⟩ := h
  dsimp only at hr hn ⊢
  obtain ⟨A, c, rfl, hn1, _⟩ := hr
  obtain ⟨A', c', rfl, hn2, _⟩ := hn
  obtain ⟨n, hnn⟩ : ∃ n, n = rg.length := ⟨_, rfl⟩
  obtain ⟨m, hmm⟩ : ∃ m, m = nm.length := ⟨_, rfl⟩
  have HB : Hid (bareB ⟨k', rg, nm, pt', ph'⟩ = (decide (n = 0) && decide (m = 0) && emB pt' && emB ph')) := Lib.hid (by rw [hnn, hmm]; rfl)
  rw [← hnn] at hn1 ⊢
  rw [← hmm] at hn2 ⊢
  clear hnn hmm
  have hb0 : Below w.heap.size w (w.alloc (.cells #[.int .i64 k', .slice A n c, .slice A' m c', .string pt', .string ph'] 30)) := below_al (Below.refl _ _) _
  by_cases h0 : 0 < n
  · go_enter Tryz.func90, Tryz.ntmps90
    go_wp2
    go_ret
    exact ⟨ret_bool (by rw [HB.out]; simp; omega), hb0⟩
  · obtain rfl : n = 0 := by omega
    by_cases h1 : 0 < m
    · go_enter Tryz.func90, Tryz.ntmps90
      go_wp2
      go_ret
      exact ⟨ret_bool (by rw [HB.out]; simp; omega), hb0⟩
    · obtain rfl : m = 0 := by omega
      rcases em_cases pt' with rfl | ⟨h1, h2, h3, h4⟩
      · rcases em_cases ph' with rfl | ⟨h1, h2, h3, h4⟩
        · go_enter Tryz.func90, Tryz.ntmps90
          go_wp2
          go_ret
          exact ⟨ret_bool (by rw [HB.out]; rfl), hb0⟩
        · go_enter Tryz.func90, Tryz.ntmps90
          go_wp2
          go_ret
          exact ⟨ret_bool (by rw [HB.out, h4]; rfl), hb0⟩
      · go_enter Tryz.func90, Tryz.ntmps90
        go_wp2
        go_ret
        exact ⟨ret_bool (by rw [HB.out, h4]; rfl), hb0⟩
end Go.Proofs.YtkifdbeklagelaaGreatDoor

/- CHAPTER 6, impl: divideType. -/
namespace Go.Proofs.YtkifdbeklagelaaGreatDoor
open Go.RowKit

/-- what is left of a type -/
def restV (v : TyV) : TyV :=
  if v.k = 1 then { v with vr := .slice none 0 0 }
  else if v.k = 2 then { v with vr := .slice none 0 0, pt := ⟨#[]⟩ }
  else if v.k = 4 then { v with vn := .slice none 0 0 }
  else if v.k = 5 then { v with ph := ⟨#[]⟩ }
  else v
/-- the type as the type of its kind -/
def kindV (v : TyV) : Value :=
  if v.k = 1 then .iface 155 (.agg #[v.vr])
  else if v.k = 2 then .iface 157 (.agg #[v.vr, .string v.pt])
  else if v.k = 3 then .iface 159 (.agg #[])
  else if v.k = 4 then .iface 161 (.agg #[v.vn])
  else if v.k = 5 then .iface 163 (.agg #[.string v.ph])
  else if v.k = 6 then .iface 164 (.agg #[])
  else .nilIface
set_option maxRecDepth 100000 in
set_option maxHeartbeats 2000000 in
theorem divide_1 (A A' : Option Addr) (n c m c' : Nat) (pt ph : ByteArray) (w : World) :
    Calls Tryz.prog 89 #[(⟨1, .slice A n c, .slice A' m c', pt, ph⟩ : TyV).val] w fun e w' => e = .returned (.tuple #[.iface 155 (.agg #[.slice A n c]), (⟨1, .slice none 0 0, .slice A' m c', pt, ph⟩ : TyV).val]) ∧ Below w.heap.size w w' := by
  have HB0 := below_al (below_al (below_al (Below.refl w.heap.size w) (.cells #[.int .i64 1, .slice A n c, .slice A' m c', .string pt, .string ph] 30)) (.cells #[.int .i64 1, .slice none 0 0, .slice A' m c', .string pt, .string ph] 30)) (.cells #[.int .i64 1, .slice none 0 0, .slice A' m c', .string pt, .string ph] 30)
  go_enter Tryz.func89, Tryz.ntmps89
  go_wp2
  go_region
  go_wp2
  refine bodyPost_ret (v := .tuple #[.iface 155 (.agg #[.slice A n c]), (⟨1, .slice none 0 0, .slice A' m c', pt, ph⟩ : TyV).val]) (by simp [results, Tryz.results89, go_sem]) rfl ?_
  exact ⟨rfl, below_drewN HB0 1⟩
set_option maxRecDepth 100000 in
set_option maxHeartbeats 2000000 in
theorem divide_2 (A A' : Option Addr) (n c m c' : Nat) (pt ph : ByteArray) (w : World) :
    Calls Tryz.prog 89 #[(⟨2, .slice A n c, .slice A' m c', pt, ph⟩ : TyV).val] w fun e w' => e = .returned (.tuple #[.iface 157 (.agg #[.slice A n c, .string pt]), (⟨2, .slice none 0 0, .slice A' m c', ⟨#[]⟩, ph⟩ : TyV).val]) ∧ Below w.heap.size w w' := by
  have HB0 := below_al (below_al (below_al (Below.refl w.heap.size w) (.cells #[.int .i64 2, .slice A n c, .slice A' m c', .string pt, .string ph] 30)) (.cells #[.int .i64 2, .slice none 0 0, .slice A' m c', .string ⟨#[]⟩, .string ph] 30)) (.cells #[.int .i64 2, .slice none 0 0, .slice A' m c', .string ⟨#[]⟩, .string ph] 30)
  go_enter Tryz.func89, Tryz.ntmps89
  go_wp2
  go_region
  go_wp2
  refine bodyPost_ret (v := .tuple #[.iface 157 (.agg #[.slice A n c, .string pt]), (⟨2, .slice none 0 0, .slice A' m c', ⟨#[]⟩, ph⟩ : TyV).val]) (by simp [results, Tryz.results89, go_sem]) rfl ?_
  exact ⟨rfl, below_drewN HB0 1⟩
set_option maxRecDepth 100000 in
set_option maxHeartbeats 2000000 in
theorem divide_3 (A A' : Option Addr) (n c m c' : Nat) (pt ph : ByteArray) (w : World) :
    Calls Tryz.prog 89 #[(⟨3, .slice A n c, .slice A' m c', pt, ph⟩ : TyV).val] w fun e w' => e = .returned (.tuple #[.iface 159 (.agg #[]), (⟨3, .slice A n c, .slice A' m c', pt, ph⟩ : TyV).val]) ∧ Below w.heap.size w w' := by
  have HB0 := below_al (below_al (below_al (Below.refl w.heap.size w) (.cells #[.int .i64 3, .slice A n c, .slice A' m c', .string pt, .string ph] 30)) (.cells #[.int .i64 3, .slice A n c, .slice A' m c', .string pt, .string ph] 30)) (.cells #[.int .i64 3, .slice A n c, .slice A' m c', .string pt, .string ph] 30)
  go_enter Tryz.func89, Tryz.ntmps89
  go_wp2
  go_region
  go_wp2
  refine bodyPost_ret (v := .tuple #[.iface 159 (.agg #[]), (⟨3, .slice A n c, .slice A' m c', pt, ph⟩ : TyV).val]) (by simp [results, Tryz.results89, go_sem]) rfl ?_
  exact ⟨rfl, below_drewN HB0 1⟩
set_option maxRecDepth 100000 in
set_option maxHeartbeats 2000000 in
theorem divide_4 (A A' : Option Addr) (n c m c' : Nat) (pt ph : ByteArray) (w : World) :
    Calls Tryz.prog 89 #[(⟨4, .slice A n c, .slice A' m c', pt, ph⟩ : TyV).val] w fun e w' => e = .returned (.tuple #[.iface 161 (.agg #[.slice A' m c']), (⟨4, .slice A n c, .slice none 0 0, pt, ph⟩ : TyV).val]) ∧ Below w.heap.size w w' := by
  have HB0 := below_al (below_al (below_al (Below.refl w.heap.size w) (.cells #[.int .i64 4, .slice A n c, .slice A' m c', .string pt, .string ph] 30)) (.cells #[.int .i64 4, .slice A n c, .slice none 0 0, .string pt, .string ph] 30)) (.cells #[.int .i64 4, .slice A n c, .slice none 0 0, .string pt, .string ph] 30)
  go_enter Tryz.func89, Tryz.ntmps89
  go_wp2
  go_region
  go_wp2
  refine bodyPost_ret (v := .tuple #[.iface 161 (.agg #[.slice A' m c']), (⟨4, .slice A n c, .slice none 0 0, pt, ph⟩ : TyV).val]) (by simp [results, Tryz.results89, go_sem]) rfl ?_
  exact ⟨rfl, below_drewN HB0 1⟩
set_option maxRecDepth 100000 in
set_option maxHeartbeats 2000000 in
theorem divide_5 (A A' : Option Addr) (n c m c' : Nat) (pt ph : ByteArray) (w : World) :
    Calls Tryz.prog 89 #[(⟨5, .slice A n c, .slice A' m c', pt, ph⟩ : TyV).val] w fun e w' => e = .returned (.tuple #[.iface 163 (.agg #[.string ph]), (⟨5, .slice A n c, .slice A' m c', pt, ⟨#[]⟩⟩ : TyV).val]) ∧ Below w.heap.size w w' := by
  have HB0 := below_al (below_al (below_al (Below.refl w.heap.size w) (.cells #[.int .i64 5, .slice A n c, .slice A' m c', .string pt, .string ph] 30)) (.cells #[.int .i64 5, .slice A n c, .slice A' m c', .string pt, .string ⟨#[]⟩] 30)) (.cells #[.int .i64 5, .slice A n c, .slice A' m c', .string pt, .string ⟨#[]⟩] 30)
  go_enter Tryz.func89, Tryz.ntmps89
  go_wp2
  go_region
  go_wp2
  refine bodyPost_ret (v := .tuple #[.iface 163 (.agg #[.string ph]), (⟨5, .slice A n c, .slice A' m c', pt, ⟨#[]⟩⟩ : TyV).val]) (by simp [results, Tryz.results89, go_sem]) rfl ?_
  exact ⟨rfl, below_drewN HB0 1⟩
set_option maxRecDepth 100000 in
set_option maxHeartbeats 2000000 in
theorem divide_6 (A A' : Option Addr) (n c m c' : Nat) (pt ph : ByteArray) (w : World) :
    Calls Tryz.prog 89 #[(⟨6, .slice A n c, .slice A' m c', pt, ph⟩ : TyV).val] w fun e w' => e = .returned (.tuple #[.iface 164 (.agg #[]), (⟨6, .slice A n c, .slice A' m c', pt, ph⟩ : TyV).val]) ∧ Below w.heap.size w w' := by
  have HB0 := below_al (below_al (below_al (Below.refl w.heap.size w) (.cells #[.int .i64 6, .slice A n c, .slice A' m c', .string pt, .string ph] 30)) (.cells #[.int .i64 6, .slice A n c, .slice A' m c', .string pt, .string ph] 30)) (.cells #[.int .i64 6, .slice A n c, .slice A' m c', .string pt, .string ph] 30)
  go_enter Tryz.func89, Tryz.ntmps89
  go_wp2
  go_region
  go_wp2
  refine bodyPost_ret (v := .tuple #[.iface 164 (.agg #[]), (⟨6, .slice A n c, .slice A' m c', pt, ph⟩ : TyV).val]) (by simp [results, Tryz.results89, go_sem]) rfl ?_
  exact ⟨rfl, below_drewN HB0 1⟩
set_option maxRecDepth 100000 in
set_option maxHeartbeats 2000000 in
theorem divide_other (A A' : Option Addr) (n c m c' : Nat) (pt ph : ByteArray) (w : World) (k : Int) (h : k ≠ 1 ∧ k ≠ 2 ∧ k ≠ 3 ∧ k ≠ 4 ∧ k ≠ 5 ∧ k ≠ 6) :
    Calls Tryz.prog 89 #[(⟨k, .slice A n c, .slice A' m c', pt, ph⟩ : TyV).val] w fun e w' => e = .returned (.tuple #[.nilIface, (⟨k, .slice A n c, .slice A' m c', pt, ph⟩ : TyV).val]) ∧ Below w.heap.size w w' := by
  have HB0 := below_al (below_al (below_al (Below.refl w.heap.size w) (.cells #[.int .i64 k, .slice A n c, .slice A' m c', .string pt, .string ph] 30)) (.cells #[.int .i64 k, .slice A n c, .slice A' m c', .string pt, .string ph] 30)) (.cells #[.int .i64 k, .slice A n c, .slice A' m c', .string pt, .string ph] 30)
  obtain ⟨h1, h2, h3, h4, h5, h6⟩ := h
  have e1 : (k == 1) = false := beq_eq_false_iff_ne.2 h1
  have e2 : (k == 2) = false := beq_eq_false_iff_ne.2 h2
  have e3 : (k == 3) = false := beq_eq_false_iff_ne.2 h3
  have e4 : (k == 4) = false := beq_eq_false_iff_ne.2 h4
  have e5 : (k == 5) = false := beq_eq_false_iff_ne.2 h5
  have e6 : (k == 6) = false := beq_eq_false_iff_ne.2 h6
  go_enter Tryz.func89, Tryz.ntmps89
  go_wp2
  go_region
  go_wp2
  refine bodyPost_ret (v := .tuple #[.nilIface, (⟨k, .slice A n c, .slice A' m c', pt, ph⟩ : TyV).val]) (by simp [results, Tryz.results89, go_sem]) rfl ?_
  exact ⟨rfl, below_drewN HB0 1⟩
theorem divide_any (v : TyV) (A A' : Option Addr) (n c m c' : Nat) (h1 : v.vr = .slice A n c) (h2 : v.vn = .slice A' m c') (w : World) :
    Calls Tryz.prog 89 #[v.val] w fun e w' => e = .returned (.tuple #[kindV v, (restV v).val]) ∧ Below w.heap.size w w' := by
  obtain ⟨k, vr, vn, pt, ph⟩ := v
  obtain rfl : vr = _ := h1
  obtain rfl : vn = _ := h2
  by_cases k1 : k = 1
  · subst k1; exact divide_1 A A' n c m c' pt ph w
  by_cases k2 : k = 2
  · subst k2; exact divide_2 A A' n c m c' pt ph w
  by_cases k3 : k = 3
  · subst k3; exact divide_3 A A' n c m c' pt ph w
  by_cases k4 : k = 4
  · subst k4; exact divide_4 A A' n c m c' pt ph w
  by_cases k5 : k = 5
  · subst k5; exact divide_5 A A' n c m c' pt ph w
  by_cases k6 : k = 6
  · subst k6; exact divide_6 A A' n c m c' pt ph w
  have := divide_other A A' n c m c' pt ph w k ⟨k1, k2, k3, k4, k5, k6⟩
  rw [show kindV ⟨k, .slice A n c, .slice A' m c', pt, ph⟩ = .nilIface by unfold kindV; simp only [k1, k2, k3, k4, k5, k6, if_false], show restV ⟨k, .slice A n c, .slice A' m c', pt, ph⟩ = ⟨k, .slice A n c, .slice A' m c', pt, ph⟩ by unfold restV; simp only [k1, k2, k4, k5, if_false]]
  exact this
end Go.Proofs.YtkifdbeklagelaaGreatDoor
