/- CHAPTER 4, SECOND PART: InRanges. -/
import Derived.Test.YtdmccopggmienaaGreatRng
import Derived.Test.YtdmccopggmienaaGreatIn
import Derived.IntWalk
set_option linter.unusedVariables false
set_option linter.unusedSimpArgs false
namespace Go.Proofs.YtdmccopggmienaaGreat
open Go.RowKit

/-- the number is in the ranges -/
def InS (l : List Rg) (n : Int) : Prop := l = [] ∨ Mem l n
noncomputable def inB (l : List Rg) (n : Int) : Bool := @decide (InS l n) (Classical.propDecidable _)
theorem inB_yes {l : List Rg} {n : Int} (h : InS l n) : inB l n = true := @decide_eq_true _ (Classical.propDecidable _) h
theorem inB_no {l : List Rg} {n : Int} (h : ¬ InS l n) : inB l n = false := @decide_eq_false _ (Classical.propDecidable _) h
theorem inB_at {l : List Rg} {n : Int} {k : Nat} (hk : k < l.length) (h : l[k].In n) : inB l n = true := inB_yes (.inr ⟨_, List.getElem_mem hk, h⟩)
theorem notMem_next {l : List Rg} {n : Int} {k : Nat} (hk : k < l.length) (h : ¬ Mem (l.take k) n) (hn : ¬ l[k].In n) : ¬ Mem (l.take (k + 1)) n := by
  rw [List.take_succ_eq_append_getElem hk, mem_append, mem_one]
  exact fun h' => h'.elim h hn
theorem inB_end {l : List Rg} {n : Int} {m : Nat} (hm : m = l.length) (h : ¬ Mem (l.take m) n) : inB l n = decide ((m : Int) = 0) := by
  rw [List.take_of_length_le (by omega)] at h
  by_cases h0 : m = 0
  · rw [inB_yes (.inl (List.length_eq_zero_iff.1 (by omega)))]; simp [h0]
  · rw [inB_no (fun h' => h'.elim (fun e => h0 (by rw [hm, e]; rfl)) h)]; simp [h0]
set_option maxRecDepth 100000 in
set_option maxHeartbeats 1000000 in
theorem sInR_any (v : Value) (l : List Rg) (q : Int) (w : World) (hv : HasG w v l) :
    Calls Tryz.prog 24 #[v, .int .i64 q] w fun e w' => e = .returned (.bool (inB l q)) ∧ Below w.heap.size w w' := by
  obtain ⟨A, cap, rfl, hn', hc⟩ := hv
  obtain ⟨n, hnn⟩ : ∃ n, n = l.length := ⟨_, rfl⟩
  have HN : Hid (n = l.length) := Lib.hid hnn
  rw [← hnn] at hn' ⊢
  clear hnn
  obtain ⟨r, hr⟩ : ∃ r, r = inB l q := ⟨_, rfl⟩
  have HR : Hid (r = inB l q) := Lib.hid hr
  rw [← hr]
  clear hr
  go_enter Tryz.func24, Tryz.ntmps24
  go_wp2
  go_loopw [5] (fun i wr => ∃ k : Nat, k ≤ n ∧ i = .int .i64 k ∧ Hid (¬ Mem (l.take k) q) ∧ Below w.heap.size w wr) (fun i _ => n - (intOf i).toNat)
  case atStart => exact ⟨0, Nat.zero_le _, rfl, Lib.hid (mem_nil q), Below.refl _ _⟩
  case round =>
    obtain ⟨k, hk, rfl, HP, hbel⟩ := hrel
    by_cases hlt : k < n
    · have hlk : k < l.length := by rw [← HN.out]; exact hlt
      obtain ⟨a, rfl, hab, hcell0⟩ := HasG.gk hc k hlk
      obtain ⟨x, hx⟩ : ∃ x, x = l[k] := ⟨_, rfl⟩
      rw [← hx] at hcell0
      obtain ⟨c0, c1⟩ := hcell0.below hbel hab
      have HX := Lib.hid hx
      clear hx hcell0 hc
      by_cases hi : x.lo ≤ q ∧ q ≤ x.hi
      · obtain ⟨i1, i2⟩ := hi
        have HB := Lib.hid (inB_at hlk (n := q) (by rw [← HX.out]; exact ⟨i1, i2⟩))
        go_wp2
        go_quiet ((go_at_call 50; exact Calls.quiet_of_same ((sIn_yes _ _ _ _ i1 i2).mono fun _ _ ⟨h1, h2⟩ => ⟨h1, h2.symm⟩)))
        go_wp2
        go_ret
        exact ⟨ret_bool (by rw [HR.out, HB.out]), below_drewN hbel _⟩
      · have HI : Hid (q < x.lo ∨ x.hi < q) := Lib.hid (by omega)
        have HB := Lib.hid (notMem_next hlk HP.out (n := q) (by rw [← HX.out]; exact hi))
        clear hi
        go_wp2
        go_quiet ((go_at_call 50; exact Calls.quiet_of_same ((sIn_no _ _ _ _ HI.out).mono fun _ _ ⟨h1, h2⟩ => ⟨h1, h2.symm⟩)))
        go_wp2
        go_roundw
        case rel => exact ⟨k + 1, by omega, by go_num, HB, below_drewN hbel _⟩
        case measure => simp [intOf]; omega
    · have e : k = n := by omega
      subst e
      go_wp2
      go_ret
      exact ⟨ret_bool (by rw [HR.out, inB_end HN.out HP.out]; rfl), hbel⟩
set_option maxRecDepth 100000 in
set_option maxHeartbeats 1000000 in
theorem iInR_any (v : Value) (l : List Rg) (q : Int) (w : World) (hv : HasG w v l) :
    Calls Tryz.prog 60 #[v, .int .i64 q] w fun e w' => e = .returned (.bool (inB l q)) ∧ Below w.heap.size w w' := by
  obtain ⟨A, cap, rfl, hn', hc⟩ := hv
  obtain ⟨n, hnn⟩ : ∃ n, n = l.length := ⟨_, rfl⟩
  have HN : Hid (n = l.length) := Lib.hid hnn
  rw [← hnn] at hn' ⊢
  clear hnn
  obtain ⟨r, hr⟩ : ∃ r, r = inB l q := ⟨_, rfl⟩
  have HR : Hid (r = inB l q) := Lib.hid hr
  rw [← hr]
  clear hr
  go_enter Tryz.func60, Tryz.ntmps60
  go_wp2
  go_loopw [9] (fun i wr => ∃ k : Nat, k ≤ n ∧ i = .int .i64 k ∧ Hid (¬ Mem (l.take k) q) ∧ Below w.heap.size w wr) (fun i _ => n - (intOf i).toNat)
  case atStart => exact ⟨0, Nat.zero_le _, rfl, Lib.hid (mem_nil q), Below.refl _ _⟩
  case round =>
    obtain ⟨k, hk, rfl, HP, hbel⟩ := hrel
    by_cases hlt : k < n
    · have hlk : k < l.length := by rw [← HN.out]; exact hlt
      obtain ⟨a, rfl, hab, hcell0⟩ := HasG.gk hc k hlk
      obtain ⟨x, hx⟩ : ∃ x, x = l[k] := ⟨_, rfl⟩
      rw [← hx] at hcell0
      obtain ⟨c0, c1⟩ := hcell0.below hbel hab
      have HX := Lib.hid hx
      clear hx hcell0 hc
      by_cases i1 : x.lo ≤ q
      · by_cases i2 : q ≤ x.hi
        · have HB := Lib.hid (inB_at hlk (n := q) (by rw [← HX.out]; exact ⟨i1, i2⟩))
          go_wp2
          go_ret
          exact ⟨ret_bool (by rw [HR.out, HB.out]), below_al hbel _⟩
        · have HB := Lib.hid (notMem_next hlk HP.out (n := q) (by rw [← HX.out]; exact fun h => i2 h.2))
          go_wp2
          go_roundw
          case rel => exact ⟨k + 1, by omega, by go_num, HB, below_al hbel _⟩
          case measure => simp [intOf]; omega
      · have HB := Lib.hid (notMem_next hlk HP.out (n := q) (by rw [← HX.out]; exact fun h => i1 h.1))
        go_wp2
        go_roundw
        case rel => exact ⟨k + 1, by omega, by go_num, HB, below_al hbel _⟩
        case measure => simp [intOf]; omega
    · have e : k = n := by omega
      subst e
      go_wp2
      go_ret
      exact ⟨ret_bool (by rw [HR.out, inB_end HN.out HP.out]; rfl), hbel⟩
end Go.Proofs.YtdmccopggmienaaGreat
