/- CHAPTER 6, impl: lists of names, a text found in a list, the tests of single fields. -/
import Derived.Test.YtdalobhomlfpiaaTy
import Derived.Test.YtdalobhomlfpiaaRngAi
import Derived.Test.YtdalobhomlfpiaaNameC
namespace Go.Proofs.Ytdalobhomlfpiaa
open Go.RowKit

/-- the first n texts are names, no two of them the same -/
def NamesOk (l : List ByteArray) (n : Nat) : Prop := ∀ i (hi : i < l.length), i < n → NameP l[i] ∧ ∀ k (hk : k < l.length), k < i → l[k] ≠ l[i]
noncomputable def namesB (l : List ByteArray) : Bool := @decide (NamesOk l l.length) (Classical.propDecidable _)
theorem names_yes {l : List ByteArray} (h : NamesOk l l.length) : namesB l = true := @decide_eq_true _ (Classical.propDecidable _) h
theorem names_no {l : List ByteArray} (h : ¬ NamesOk l l.length) : namesB l = false := @decide_eq_false _ (Classical.propDecidable _) h
theorem names_zero (l : List ByteArray) : NamesOk l 0 := fun i _ h => absurd h (by omega)
theorem names_nil : namesB [] = true := names_yes fun i hi => absurd hi (by simp)
theorem names_step {l : List ByteArray} {k : Nat} (hk : k < l.length) (h : NamesOk l k) (h1 : nameB l[k] = true) (h2 : ∀ j (hj : j < l.length), j < k → l[j] ≠ l[k]) : NamesOk l (k + 1) := by
  intro i hi hik
  by_cases he : i = k
  · subst he
    refine ⟨?_, h2⟩
    by_cases hn : NameP l[i]
    · exact hn
    · rw [← name_no hn] at h1; cases h1
  · exact h i hi (by omega)
theorem names_bad {l : List ByteArray} {k : Nat} (hk : k < l.length) (h1 : nameB l[k] = false) : namesB l = false := names_no fun h => by
  have := (h k hk hk).1
  rw [← name_yes this] at h1; cases h1
theorem names_twice {l : List ByteArray} {j k : Nat} (hj : j < l.length) (hk : k < l.length) (hjk : j < k) (h : l[j] = l[k]) : namesB l = false := names_no fun hh => (hh k hk hk).2 j hj hjk h
theorem has_take {w : World} {A : Option Addr} {n c k : Nat} {l : List ByteArray} (h : Has w (.slice A n c) l) (hk : k ≤ n) : Has w (.slice A k c) (l.take k) := by
  obtain ⟨A', cap, e, hn, hc⟩ := h
  cases e
  refine ⟨A, c, by rw [List.length_take, Nat.min_eq_left hk], by rw [List.length_take]; omega, fun i hi => ?_⟩
  have hi' : i < l.length := by rw [List.length_take] at hi; omega
  obtain ⟨a, h1, h2, h3⟩ := hc i hi'
  exact ⟨a, h1, h2, by rw [h3, List.getElem_take]⟩
theorem mem_take' {l : List ByteArray} {k : Nat} {s : ByteArray} (h : s ∈ l.take k) : ∃ j, ∃ hj : j < l.length, j < k ∧ l[j] = s := by
  obtain ⟨j, hj, e⟩ := List.getElem_of_mem h
  rw [List.length_take] at hj
  exact ⟨j, by omega, by omega, by rw [← e, List.getElem_take]⟩
theorem take_mem' {l : List ByteArray} {j k : Nat} (hj : j < l.length) (h : j < k) : l[j] ∈ l.take k := by
  rw [← List.getElem_take (j := k) (h := by rw [List.length_take]; omega)]
  exact List.getElem_mem _
theorem add_0 (a : Addr) : a.add 0 = a := by
  unfold Addr.add; split
  · cases a; simp_all
  · cases a; simp_all
theorem str_ne {s x : ByteArray} (h : s ≠ x) : (s.toList == x.toList) = false := by
  rw [beq_eq_false_iff_ne]
  intro e
  rw [ByteArray.toList_eq, ByteArray.toList_eq] at e
  exact h (ByteArray.ext (Array.toList_inj.1 e))
set_option maxRecDepth 100000 in
set_option maxHeartbeats 1000000 in
theorem index_any (v : Value) (l : List ByteArray) (s : ByteArray) (w : World) (hv : Has w v l) :
    Calls Try.prog 98 #[v, .string s] w fun e w' => (∃ r : Int, e = .returned (.int .i64 r) ∧ Hid (0 ≤ r ↔ s ∈ l)) ∧ w = w' := by
  obtain ⟨A, cap, rfl, hn', hc⟩ := hv
  obtain ⟨n, hnn⟩ : ∃ n, n = l.length := ⟨_, rfl⟩
  have HN : Hid (n = l.length) := Lib.hid hnn
  rw [← hnn] at hn' ⊢
  clear hnn
  go_enter Try.func98, Try.ntmps98
  go_wp2
  go_loop [8] (fun i => ∃ k : Nat, k ≤ n ∧ i = .int .i64 k ∧ Hid (∀ j (hj : j < l.length), j < k → s ≠ l[j])) (fun i => n - (intOf i).toNat)
  case atStart => exact ⟨0, Nat.zero_le _, rfl, Lib.hid fun j _ h => absurd h (by omega)⟩
  case round =>
    obtain ⟨k, hk, rfl, HI⟩ := hrel
    by_cases hlt : k < n
    · have hlk : k < l.length := by rw [← HN.out]; exact hlt
      obtain ⟨a, rfl, hab, hcell⟩ := hc k hlk
      obtain ⟨x, hx⟩ : ∃ x, x = l[k] := ⟨_, rfl⟩
      rw [← hx] at hcell
      have HX := Lib.hid hx
      clear hx hc
      by_cases he : s = x
      · subst he
        have HB : Hid (0 ≤ (k : Int) ↔ s ∈ l) := Lib.hid ⟨fun _ => by rw [HX.out]; exact List.getElem_mem _, fun _ => by omega⟩
        go_wp2
        go_ret
        exact ⟨⟨_, rfl, HB⟩, rfl⟩
      · have h1 : (s.toList == x.toList) = false := str_ne he
        have HJ : Hid (∀ j (hj : j < l.length), j < k + 1 → s ≠ l[j]) := Lib.hid fun j hj hjk => by
          by_cases e : j = k
          · subst e; rw [← HX.out]; exact he
          · exact HI.out j hj (by omega)
        clear he
        go_wp2
        go_round
        case rel => exact ⟨k + 1, by omega, by go_num, HJ⟩
        case measure => simp [intOf]; omega
    · have HB : Hid (0 ≤ (-1 : Int) ↔ s ∈ l) := Lib.hid ⟨fun h => absurd h (by omega), fun h => by
        obtain ⟨j, hj, e⟩ := List.getElem_of_mem h
        exact absurd e.symm (HI.out j hj (by have := HN.out; omega))⟩
      go_wp2
      go_ret
      exact ⟨⟨_, rfl, HB⟩, rfl⟩
theorem contains_any (v : Value) (l : List ByteArray) (s : ByteArray) (w : World) (hv : Has w v l) :
    Calls Try.prog 88 #[v, .string s] w fun e w' => (∃ b : Bool, e = .returned (.bool b) ∧ Hid (b = true ↔ s ∈ l)) ∧ w = w' := by
  have HC := Lib.hid (index_any v l s w hv)
  clear hv
  go_enter Try.func88, Try.ntmps88
  go_wp2_with (go_at_call 98; refine (HC.out).mono ?_; rintro e w' ⟨⟨r, rfl, hr⟩, rfl⟩)
  go_ret
  exact ⟨⟨_, rfl, Lib.hid (by rw [← hr.out]; simp)⟩, rfl⟩
noncomputable def memB (s : ByteArray) (l : List ByteArray) : Bool := @decide (s ∈ l) (Classical.propDecidable _)
theorem mem_iff (s : ByteArray) (l : List ByteArray) : memB s l = true ↔ s ∈ l := @decide_eq_true_iff _ (Classical.propDecidable _)
theorem containsB_any (v : Value) (l : List ByteArray) (s : ByteArray) (w : World) (hv : Has w v l) :
    Calls Try.prog 88 #[v, .string s] w fun e w' => e = .returned (.bool (memB s l)) ∧ w = w' :=
  (contains_any v l s w hv).mono fun e w' ⟨⟨b, he, hb⟩, hw⟩ => ⟨by rw [he]; exact ret_bool (by rw [Bool.eq_iff_iff, mem_iff, hb.out]), hw⟩
/-- the first number of the first range, if there is one, is none below 0 -/
def loB : List Rg → Bool | [] => true | x :: _ => decide (0 ≤ x.lo)
set_option maxRecDepth 100000 in
set_option maxHeartbeats 1000000 in
theorem areLen_any (v : Value) (l : List Rg) (w : World) (hv : HasG w v l) :
    Calls Try.prog 74 #[v] w fun e w' => e = .returned (.bool (areB l && loB l)) ∧ Below w.heap.size w w' := by
  have HC := Lib.hid (iAre_any v l w hv)
  obtain ⟨A, cap, rfl, hn', hc⟩ := hv
  generalize areB l = b at HC ⊢
  cases b with
  | false =>
    clear hc
    go_enter Try.func74, Try.ntmps74
    go_wp2_with (go_at_call 73; refine (HC.out).mono ?_; rintro e w' ⟨rfl, hb⟩)
    go_ret
    exact ⟨rfl, hb⟩
  | true =>
    cases l with
    | nil =>
      clear hc
      go_enter Try.func74, Try.ntmps74
      go_wp2_with (go_at_call 73; refine (HC.out).mono ?_; rintro e w' ⟨rfl, hb⟩)
      go_ret
      exact ⟨rfl, hb⟩
    | cons x r =>
      obtain ⟨a, rfl, hab, hcell⟩ := HasG.gk hc 0 (by simp)
      have HCL : Hid (∀ W, Below w.heap.size w W → W.cell? a = some (.int .i64 x.lo)) := Lib.hid fun W hb => by
        have := (hcell.below hb hab).1
        rw [Nat.zero_mul, add_0] at this; exact this
      obtain ⟨n, hn⟩ : ∃ n, n = (x :: r).length := ⟨_, rfl⟩
      rw [← hn] at HC hn' ⊢
      have h0 : (n == 0) = false := by rw [hn]; simp
      have h1 : (0 : Int) < (n : Int) := by rw [hn]; simp
      have h2 : ((n : Int) == 0) = false := by simp; omega
      clear hc hcell hn
      go_enter Try.func74, Try.ntmps74
      go_wp2_with (go_at_call 73; refine (HC.out).mono ?_; rintro e w' ⟨rfl, hb⟩; have c0 := HCL.out _ hb)
      go_ret
      exact ⟨by simp [loB], hb⟩
end Go.Proofs.Ytdalobhomlfpiaa
