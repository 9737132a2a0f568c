/- CHAPTER 4, RANGES READ: impl's beginsWithMark, readBound, readRange. -/
import Derived.Test.YtdfapkceanicoaaDoorParP
import Derived.Test.YtdfapkceanicoaaDoorNumQ
import Derived.Deep.Slices
set_option linter.unusedVariables false
set_option linter.unusedSimpArgs false
namespace Go.Proofs.YtdfapkceanicoaaDoor
open Go.RowKit NumP

/-- the head of a list of tokens that is read -/
theorem HasT.head {w : World} {A : Option Addr} {n cap : Nat} {x : Tok} {r : List Tok} (h : HasT w (.slice A n cap) (x :: r)) :
    ∃ a, A = some a ∧ n = r.length + 1 ∧ a.block < w.heap.size ∧ w.cell? a = some (.int .i64 x.k) ∧ w.cell? ⟨a.block, a.off + 1, none⟩ = some (.string x.t) := by
  obtain ⟨A', cap', hv, hn, hc⟩ := h
  cases hv
  obtain ⟨a, ha, hb, hk⟩ := HasT.tk hc 0 (by simp)
  exact ⟨a, ha, by simp, hb, hk.1, hk.2.1⟩
theorem HasT.two {w : World} {A : Option Addr} {n cap : Nat} {x y : Tok} {r : List Tok} (h : HasT w (.slice A n cap) (x :: y :: r)) :
    ∃ a, A = some a ∧ w.cell? ⟨a.block, a.off + 3, none⟩ = some (.int .i64 y.k) ∧ w.cell? ⟨a.block, a.off + 4, none⟩ = some (.string y.t) := by
  obtain ⟨A', cap', hv, hn, hc⟩ := h
  cases hv
  obtain ⟨a, ha, hb, hk⟩ := HasT.tk hc 1 (by simp)
  exact ⟨a, ha, hk.1, hk.2.1⟩
theorem HasT.size {w : World} {A : Option Addr} {n cap : Nat} {l : List Tok} (h : HasT w (.slice A n cap) l) : n = l.length ∧ n ≤ 9223372036854775807 := by
  obtain ⟨A', cap', hv, hn, _⟩ := h
  cases hv
  exact ⟨rfl, hn⟩
set_option maxRecDepth 100000 in
theorem iMk_any (A : Option Addr) (n cap : Nat) (l : List Tok) (m : ByteArray) (w : World) (hv : HasT w (.slice A n cap) l) :
    Calls Tryd.prog 41 #[.slice A n cap, .string m] w fun e w' => e = .returned (.bool (mkB l m)) ∧ w = w' := by
  obtain ⟨hn, hn'⟩ := hv.size
  match l with
  | [] =>
    obtain rfl : n = 0 := by simpa using hn
    rw [mkB_nil]
    clear hv hn
    go_enter Tryd.func41, Tryd.ntmps41
    go_wp2
    go_ret
    exact ⟨rfl, rfl⟩
  | x :: r =>
    obtain ⟨a, rfl, hn2, hb, c0, c1⟩ := hv.head
    have h0 : (0 : Int) < (n : Int) := by omega
    have h0' : decide (0 < n) = true := decide_eq_true (by omega)
    clear hn hn2
    by_cases hk : x.k = 4
    · rw [mkB_text hk]
      have hk' : (x.k == 4) = true := by simpa using hk
      by_cases ht : x.t = m
      · rw [decide_eq_true ht]
        have ht1 : (x.t.toList == m.toList) = true := by rw [ht]; simp
        clear ht hk hv
        go_enter Tryd.func41, Tryd.ntmps41
        go_wp2
        go_ret
        exact ⟨rfl, rfl⟩
      · rw [decide_eq_false ht]
        have ht1 : (x.t.toList == m.toList) = false := by
          simp only [beq_eq_false_iff_ne, ne_eq]
          intro e; exact ht (by rw [ByteArray.toList_eq, ByteArray.toList_eq] at e; apply ByteArray.ext; exact Array.toList_inj.1 e)
        clear ht hk hv
        go_enter Tryd.func41, Tryd.ntmps41
        go_wp2
        go_ret
        exact ⟨rfl, rfl⟩
    · rw [mkB_kind hk]
      have hk' : (x.k == 4) = false := by simpa using hk
      clear hk hv
      go_enter Tryd.func41, Tryd.ntmps41
      go_wp2
      go_ret
      exact ⟨rfl, rfl⟩
/-- a bound and the tokens that it takes; 0, 0 for none -/
def bdV : Option (Int × Nat) → Value
  | some (n, k) => .tuple #[.int .i64 n, .int .i64 k]
  | none => .tuple #[.int .i64 0, .int .i64 0]
theorem rdB_minus {l : List Tok} (h : mkB l minusT = true) : rdB l = (numT [45] (l.drop 1)).map fun n => (n, 2) := by unfold rdB; rw [if_pos h]
theorem rdB_plain {l : List Tok} (h : mkB l minusT = false) : rdB l = (numT [] l).map fun n => (n, 1) := by unfold rdB; rw [if_neg (by rw [h]; simp)]
theorem numT_kind {sg : List UInt8} {x : Tok} {r : List Tok} (h : ¬ x.k = 2) : numT sg (x :: r) = none := if_neg h
theorem numT_num {sg : List UInt8} {x : Tok} {r : List Tok} (h : x.k = 2) : numT sg (x :: r) = parseL (sg ++ x.t.data.toList) := if_pos h
theorem data_app (a b : ByteArray) : (a ++ b).data.toList = a.data.toList ++ b.data.toList := by simp
/-- a range and the tokens that it takes -/
def rgV : Option (Rg × Nat) → Value
  | some (x, k) => .tuple #[.agg #[.int .i64 x.lo, .int .i64 x.hi], .int .i64 k]
  | none => .tuple #[.agg #[.int .i64 0, .int .i64 0], .int .i64 0]
theorem rdR_none {l : List Tok} (h : rdB l = none) : rdR l = none := by unfold rdR; rw [h]; rfl
theorem rdR_one {l : List Tok} {lo : Int} {k : Nat} (h : rdB l = some (lo, k)) (hm : mkB (l.drop k) dotsT = false) : rdR l = some (⟨lo, lo⟩, k) := by
  unfold rdR; rw [h, Option.bind_some]; simp only; rw [if_neg (by rw [hm]; simp)]
theorem rdR_two {l : List Tok} {lo : Int} {k : Nat} (h : rdB l = some (lo, k)) (hm : mkB (l.drop k) dotsT = true) : rdR l = (rdB (l.drop (k + 1))).map fun (hi, j) => (⟨lo, hi⟩, k + 1 + j) := by
  unfold rdR; rw [h, Option.bind_some]; simp only; rw [if_pos hm]
/-- a list of tokens cut at its beginning -/
theorem HasT.cut {w : World} {a : Addr} {n cap : Nat} {l : List Tok} (h : HasT w (.slice (some a) n cap) l) (hc : n ≤ cap) {k : Nat} (hk : k ≤ n) :
    HasT w (.slice (if cap = k then some a else some (a.add (k * 3))) (n - k) (cap - k)) (l.drop k) := by
  obtain ⟨A', cap', hv, hn, hcell⟩ := h
  cases hv
  by_cases e : cap = k
  · rw [if_pos e]
    refine ⟨some a, cap - k, by rw [List.length_drop], by rw [List.length_drop]; omega, fun i hi => ?_⟩
    rw [List.length_drop] at hi; omega
  · rw [if_neg e]
    refine ⟨some (a.add (k * 3)), cap - k, by rw [List.length_drop], by rw [List.length_drop]; omega, fun i hi => ?_⟩
    rw [List.length_drop] at hi
    obtain ⟨a', h1, h2, h3⟩ := hcell (k + i) (by omega)
    cases h1
    refine ⟨_, rfl, by rw [addr_blk]; exact h2, fun j x hx => ?_⟩
    rw [List.getElem_drop] at hx
    rw [show (a.add (k * 3)).add (i * 3) = a.add ((k + i) * 3) by rw [Go.Deep.add_add, Nat.add_mul]]
    exact h3 j x hx
theorem box2f {w w1 : World} {v0 v1 : Value} {t : TypeId} (h : Below (w.alloc (.cells #[v0, v1] t)).heap.size (w.alloc (.cells #[v0, v1] t)) w1) :
    w.heap.size < w1.heap.size ∧ (w1.cell? ⟨w.heap.size, 0, none⟩ = some v0 ∧ w1.cell? ⟨w.heap.size, 1, none⟩ = some v1) ∧ w1.frozen? ⟨w.heap.size, 0, none⟩ = false ∧ w1.frozen? ⟨w.heap.size, 1, none⟩ = false := by
  have hl : w.heap.size < (w.alloc (.cells #[v0, v1] t)).heap.size := by simp
  have hf : ∀ j, w1.frozen? ⟨w.heap.size, j, none⟩ = false := fun j => by
    rw [h.frozen (p := ⟨w.heap.size, j, none⟩) hl]
    unfold World.frozen?
    dsimp only
    rw [heap_alloc_new]
    simp
  exact ⟨Nat.lt_of_lt_of_le hl h.size, box2 h, hf 0, hf 1⟩
end Go.Proofs.YtdfapkceanicoaaDoor
