/- CHAPTER 5, spec: l5Both, l5Ends. -/
import Derived.Test.YtnpgeneahjlkpaaPatZ
import Derived.Test.YtnpgeneahjlkpaaMatP
set_option linter.unusedVariables false
set_option linter.unusedSimpArgs false
namespace Go.Proofs.Ytnpgeneahjlkpaa
open Go.RowKit

abbrev HasB (w : World) (v : Value) (l : List Bool) : Prop := HasR bE 1 w v l
theorem HasB.cell {w : World} {v : Value} {l : List Bool} (h : HasB w v l) {i : Nat} (hi : i < l.length) : ∃ a c, v = .slice (some a) l.length c ∧ a.block < w.heap.size ∧ w.cell? (a.add i) = some (.bool l[i]) := by
  obtain ⟨A, cap, rfl, _, hc⟩ := h
  obtain ⟨a, rfl, hb, hcc⟩ := hc i hi
  refine ⟨a, cap, rfl, hb, ?_⟩
  have := hcc 0 (.bool l[i]) rfl
  rw [Nat.mul_one] at this
  have e : (a.add i).add 0 = a.add i := by unfold Addr.add; rfl
  rwa [e] at this
theorem HasB.form {w : World} {v : Value} {l : List Bool} (h : HasB w v l) : ∃ A c, v = .slice A l.length c := by obtain ⟨A, c, hv, _⟩ := h; exact ⟨A, c, hv⟩
def orL (a b : List Bool) : List Bool := List.zipWith (· || ·) a b
theorem orL_len {a b : List Bool} (h : a.length = b.length) : (orL a b).length = a.length := by unfold orL; simp [h]
theorem on_or {a b : List Bool} (h : a.length = b.length) (i : Nat) : On (orL a b) i ↔ On a i ∨ On b i := by
  by_cases hi : i < a.length
  · have h1 : i < (orL a b).length := by rw [orL_len h]; exact hi
    have h2 : i < b.length := by omega
    rw [on_get h1, on_get hi, on_get h2]
    simp [orL]
  · constructor
    · intro hh; exact absurd (on_lt hh) (by rw [orL_len h]; exact hi)
    · rintro (hh | hh)
      · exact absurd (on_lt hh) hi
      · exact absurd (on_lt hh) (by omega)
/-- the first k places of a list, the others false -/
def upto (l : List Bool) (k : Nat) : List Bool := l.take k ++ List.replicate (l.length - k) false
theorem upto_len (l : List Bool) (k : Nat) : (upto l k).length = l.length := by unfold upto; simp; omega
theorem upto_zero (l : List Bool) : upto l 0 = List.replicate l.length false := by simp [upto]
theorem upto_all (l : List Bool) {k : Nat} (h : l.length ≤ k) : upto l k = l := by unfold upto; rw [List.take_of_length_le h, Nat.sub_eq_zero_of_le h]; simp
theorem upto_get (l : List Bool) (k i : Nat) : (upto l k)[i]? = if i < l.length then (if i < k then l[i]? else some false) else none := by
  unfold upto
  by_cases hi : i < l.length
  · rw [if_pos hi]
    by_cases hk : i < k
    · rw [if_pos hk, List.getElem?_append_left (by simp; omega), List.getElem?_take_of_lt hk]
    · rw [if_neg hk, List.getElem?_append_right (by simp; omega), List.getElem?_replicate, if_pos (by simp; omega)]
  · rw [if_neg hi, List.getElem?_eq_none (by simp; omega)]
theorem upto_set (l : List Bool) {k : Nat} (h : k < l.length) : (upto l k).set k l[k] = upto l (k + 1) := by
  apply List.ext_getElem?
  intro i
  rw [List.getElem?_set, upto_len, upto_get, upto_get]
  by_cases e : k = i
  · subst e
    rw [if_pos rfl, if_pos h, if_pos h, if_pos (by omega), List.getElem?_eq_getElem h]
  · rw [if_neg e]
    by_cases hi : i < l.length
    · rw [if_pos hi, if_pos hi]
      by_cases hk : i < k
      · rw [if_pos hk, if_pos (by omega)]
      · rw [if_neg hk, if_neg (by omega)]
    · rw [if_neg hi, if_neg hi]
set_option maxRecDepth 100000 in
set_option maxHeartbeats 1000000 in
theorem sboth_any (u v : Value) (a b : List Bool) (w : World) (ha : HasB w u a) (hb : HasB w v b) (hl : a.length = b.length) (hn : a.length ≤ 2097152) :
    Calls Try.prog 92 #[u, v] w fun e w' => ∃ o, e = .returned o ∧ Hid (RowB w.heap.size w' o (orL a b)) ∧ Hid (Below w.heap.size w w') := by
  obtain ⟨i0, hi0, hz0, hz1, hz2⟩ := info_parts infoBool
  obtain ⟨A1, c1, rfl⟩ := ha.form
  obtain ⟨A2, c2, rfl⟩ := hb.form
  obtain ⟨n, hnn⟩ : ∃ n, n = a.length := ⟨_, rfl⟩
  have hol : (orL a b).length = n := by rw [orL_len hl, hnn]
  have HC : ∀ i, i < n → ∃ (x y : Bool) (p q : Addr), A1 = some p ∧ A2 = some q ∧ p.block < w.heap.size ∧ q.block < w.heap.size ∧ w.cell? (p.add i) = some (.bool x) ∧ w.cell? (q.add i) = some (.bool y) ∧ Hid ((upto (orL a b) i).set i (x || y) = upto (orL a b) (i + 1)) := fun i hi => by
    obtain ⟨p, cp, hp1, hp2, hp3⟩ := ha.cell (i := i) (by omega)
    obtain ⟨q, cq, hq1, hq2, hq3⟩ := hb.cell (i := i) (by omega)
    cases hp1; cases hq1
    refine ⟨_, _, p, q, rfl, rfl, hp2, hq2, hp3, hq3, Lib.hid ?_⟩
    rw [← upto_set (orL a b) (by omega)]
    congr 1
    simp [orL]
  have HN := Lib.hid hnn
  have HOL := Lib.hid hol
  have HL2 : Hid (b.length = n) := Lib.hid (by omega)
  rw [← hnn] at hn ⊢
  rw [HL2.out]
  have hb2 : i0.bytes * n ≤ 281474976710656 := by rw [hz2]; omega
  have hb3 : n ≤ maxLen := by unfold maxLen; omega
  have HZ : Hid (i0.bytes = 1) := Lib.hid hz2
  clear hz2 hol hnn hl ha hb
  go_enter Try.func92, Try.ntmps92
  go_wp2_with (at_make; refine wpList_make_full _ rfl _ _ 94 rfl w.heap.size 4 i0 (.bool false) 1 Try.underlying94 hi0 hz0 hz1 _ _ _ _ n rfl rfl rfl rfl hb2 hb3 (Nat.le_refl _) ?_; intro w1 hown1 hg1)
  have hrow1 : RowB w.heap.size w1 (.slice (some ⟨w.heap.size, 0, none⟩) n n) (upto (orL a b) 0) := by
    have := hown1
    rw [show (madeCells (Value.bool false).cells (n * 1)).toList = (List.replicate n false).flatMap bE from made_flat bE_len (by omega) _ false rfl n] at this
    unfold RowB RowR
    rw [upto_zero, HOL.out, List.length_replicate]
    simpa using this
  have hbel1 : Below w.heap.size w w1 := (Below.refl _ _).grown hg1 (Nat.le_refl _) (by simp)
  clear hown1 hg1
  go_loopw [6] (fun i wr => ∃ k : Nat, k ≤ n ∧ i = .int .i64 k ∧ Hid (RowB w.heap.size wr (.slice (some ⟨w.heap.size, 0, none⟩) n n) (upto (orL a b) k)) ∧ Below w.heap.size w wr) (fun i _ => n - (intOf i).toNat)
  case atStart => exact ⟨0, Nat.zero_le _, rfl, Lib.hid hrow1, hbel1⟩
  case round =>
    clear hrow1 hbel1
    obtain ⟨k, hk, rfl, HR, hbel⟩ := hrel
    by_cases hlt : k < n
    · obtain ⟨x, y, p, q, rfl, rfl, hp, hq, cx, cy, HSET⟩ := HC k hlt
      have cx' : wr.cell? (p.add k) = some (.bool x) := by rw [hbel.cell (by rw [addr_blk]; exact hp)]; exact cx
      have cy' : wr.cell? (q.add k) = some (.bool y) := by rw [hbel.cell (by rw [addr_blk]; exact hq)]; exact cy
      have hkl : k < (upto (orL a b) k).length := by rw [upto_len, HOL.out]; exact hlt
      obtain ⟨vb, hcell⟩ : ∃ vb, wr.cell? ⟨w.heap.size, k, none⟩ = some (.bool vb) := ⟨_, RowB.at HR.out hkl⟩
      have hfz := RowR.frozen HR.out k
      have HPUT := Lib.hid (fun u => RowB.put HR.out hkl u)
      have HBS : Hid (∀ u, Below w.heap.size w (wr.setCell ⟨w.heap.size, k, none⟩ (.bool u))) := Lib.hid fun u => below_set hbel (Nat.le_refl _)
      have hkz : (k : Int) < (n : Int) := by omega
      clear cx cy HR hkl HC hbel
      cases x
      all_goals
        go_wp2
        go_roundw
        case rel => exact ⟨k + 1, by omega, by go_num, Lib.hid (by rw [← HSET.out]; first | exact (HPUT.out _).1 | simpa using (HPUT.out _).1), HBS.out _⟩
        case measure => simp [intOf]; omega
    · have hkz : ¬ (k : Int) < (n : Int) := by omega
      have hR := HR.out
      rw [upto_all _ (by rw [HOL.out]; omega)] at hR
      go_wp2
      go_ret
      exact ⟨_, rfl, Lib.hid hR, Lib.hid hbel⟩
end Go.Proofs.Ytnpgeneahjlkpaa
