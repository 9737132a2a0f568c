/- CHAPTER 4: the written form of ranges: plain mathematics. -/
import Derived.Test.YtkifdbeklagelaaGreatDoorRngOpen
import Derived.Test.YtkifdbeklagelaaGreatDoorNumU
import Derived.Test.YtkifdbeklagelaaGreatDoorStrs
import Derived.Lib.Join
set_option linter.unusedVariables false
set_option linter.unusedSimpArgs false
namespace Go.Proofs.YtkifdbeklagelaaGreatDoor
open Go.RowKit NumP

/-- the texts, a byte between two -/
def joinC (c : UInt8) (xs : List ByteArray) : ByteArray := ⟨(Lib.join (xs.map (·.data.toList)) [c]).toArray⟩
def dots : ByteArray := ⟨#[46, 46]⟩
def rangeS (x : Rg) : ByteArray := if x.lo = x.hi then fmtS x.lo else fmtS x.lo ++ dots ++ fmtS x.hi
def rngsT (l : List Rg) : List ByteArray := l.map rangeS
theorem join_snocC {xs : List (List UInt8)} (h : xs ≠ []) (y sep : List UInt8) : Lib.join (xs ++ [y]) sep = Lib.join xs sep ++ sep ++ y := by
  cases xs with
  | nil => exact absurd rfl h
  | cons x r => rw [List.cons_append, Lib.join_cons, Lib.join_cons]; simp [Lib.joinTail]
theorem joinC_one (c : UInt8) (y : ByteArray) : joinC c ([] ++ [y]) = ⟨#[]⟩ ++ y := by
  unfold joinC
  rw [List.nil_append, List.map_cons, List.map_nil, Lib.join_one]
  apply ByteArray.ext; simp
theorem joinC_snoc {c : UInt8} {xs : List ByteArray} (h : xs ≠ []) (y : ByteArray) : joinC c (xs ++ [y]) = joinC c xs ++ ⟨#[c]⟩ ++ y := by
  unfold joinC
  rw [List.map_append, List.map_cons, List.map_nil, join_snocC (by simpa using h)]
  apply ByteArray.ext; simp
theorem rngs_take {l : List Rg} {k : Nat} (hk : k < l.length) : rngsT (l.take (k + 1)) = rngsT (l.take k) ++ [rangeS l[k]] := by
  unfold rngsT
  rw [List.take_succ_eq_append_getElem hk, List.map_append]; rfl
theorem rngs_ne {l : List Rg} {k : Nat} (h0 : 0 < k) (hk : k < l.length) : rngsT (l.take k) ≠ [] := by
  unfold rngsT; intro h
  have := congrArg List.length h
  simp only [List.length_map, List.length_take, List.length_nil] at this; omega
theorem fmtS_size {n : Int} (h : -9223372036854775808 ≤ n) (h' : n ≤ 9223372036854775807) : (fmtS n).size ≤ 21 := (fmtL_length h h').2
theorem rangeS_size {x : Rg} (h : RgWf x) : (rangeS x).size ≤ 44 := by
  have h1 := fmtS_size h.1 h.2.1
  have h2 := fmtS_size h.2.2.1 h.2.2.2
  unfold rangeS
  split
  · omega
  · rw [ByteArray.size_append, ByteArray.size_append]
    have : dots.size = 2 := rfl
    omega
theorem join_lenC {xs : List (List UInt8)} {m : Nat} {c : UInt8} (h : ∀ x ∈ xs, x.length ≤ m) : (Lib.join xs [c]).length ≤ xs.length * (m + 1) := by
  cases xs with
  | nil => simp [Lib.join_nil]
  | cons x r =>
    rw [Lib.join_cons, List.length_append]
    have h2 : (Lib.joinTail [c] r).length ≤ r.length * (m + 1) := by
      have hr : ∀ x ∈ r, x.length ≤ m := fun y hy => h y (List.mem_cons_of_mem _ hy)
      clear h
      induction r with
      | nil => simp [Lib.joinTail]
      | cons y r ih =>
        have h1 := ih (fun z hz => hr z (List.mem_cons_of_mem _ hz))
        have h3 := hr y (List.mem_cons_self ..)
        unfold Lib.joinTail at h1 ⊢
        rw [List.map_cons, List.flatten_cons, List.length_append, List.length_append, List.length_cons, List.length_cons, List.length_nil, Nat.succ_mul]
        omega
    have h1 := h x (List.mem_cons_self ..)
    rw [List.length_cons, Nat.succ_mul]; omega
theorem rngs_join_len {l : List Rg} (hn : l.length ≤ 1048576) (hs : ∀ x ∈ l, RgWf x) : (Lib.join ((rngsT l).map (·.data.toList)) [124]).length ≤ 140737488355328 := by
  have h := join_lenC (c := 124) (xs := (rngsT l).map (·.data.toList)) (m := 44) (fun y hy => by
    unfold rngsT at hy
    simp only [List.map_map, List.mem_map, Function.comp] at hy
    obtain ⟨x, hx, rfl⟩ := hy
    have h1 := rangeS_size (hs x hx)
    have e : (rangeS x).data.toList.length = (rangeS x).size := by simp
    rw [e]; omega)
  have e : ((rngsT l).map (·.data.toList)).length = l.length := by simp [rngsT]
  rw [e] at h
  exact Nat.le_trans h (by omega)
def formatS (l : List Rg) : ByteArray := joinC 124 (rngsT l)
theorem formatS_size (l : List Rg) : (formatS l).size = (Lib.join ((rngsT l).map (·.data.toList)) [124]).length := rfl
theorem format_take_len {l : List Rg} (hn : l.length ≤ 1048576) (hs : ∀ x ∈ l, RgWf x) (k : Nat) : (formatS (l.take k)).size ≤ 140737488355328 := by
  rw [formatS_size]
  exact rngs_join_len (by rw [List.length_take]; omega) (fun x hx => hs x (List.mem_of_mem_take hx))
theorem format_next {l : List Rg} {k : Nat} (hk : k < l.length) (h0 : 0 < k) : formatS (l.take (k + 1)) = formatS (l.take k) ++ ⟨#[124]⟩ ++ rangeS l[k] := by
  unfold formatS; rw [rngs_take hk, joinC_snoc (rngs_ne h0 hk)]
theorem format_first {l : List Rg} (hk : 0 < l.length) : formatS (l.take (0 + 1)) = formatS (l.take 0) ++ rangeS l[0] := by
  unfold formatS; rw [rngs_take hk]; exact joinC_one _ _
theorem rangeS_same {x : Rg} (h : x.lo = x.hi) : rangeS x = fmtS x.lo := if_pos h
theorem rangeS_two {x : Rg} (h : ¬ x.lo = x.hi) (a : ByteArray) : a ++ rangeS x = a ++ fmtS x.lo ++ dots ++ fmtS x.hi := by
  unfold rangeS; rw [if_neg h, ByteArray.append_assoc, ByteArray.append_assoc, ByteArray.append_assoc]
end Go.Proofs.YtkifdbeklagelaaGreatDoor
