/- CONTRACTS OF CHAPTER 1, FOURTH PART: the functions that read a text. -/
import Derived.Test.YtapalfmjebggfaaDoorNumU
import Derived.Lib.Strings
namespace Go.Proofs.YtapalfmjebggfaaDoor
open Go.RowKit NumP

/-- what a reader returns: the number and true; 0 and false where there is none -/
def tupI : Option Int → Value
  | none => .tuple #[.int .i64 0, .bool false]
  | some n => .tuple #[.int .i64 n, .bool true]
def tupN (o : Option Nat) : Value := tupI (o.map Int.ofNat)
theorem tupN_none {l : List UInt8} (h : rdL l = none) : tupN (rdL l) = .tuple #[.int .i64 0, .bool false] := by rw [h]; rfl
theorem tupN_some {l : List UInt8} {m : Nat} (h : rdL l = some m) : tupN (rdL l) = .tuple #[.int .i64 m, .bool true] := by rw [h]; rfl

theorem rdGo_dig {n : Nat} {c : UInt8} {r : List UInt8} (h1 : 48 ≤ c.toNat) (h2 : c.toNat ≤ 57) (h3 : n * 10 + (c.toNat - 48) ≤ 1000000000) : rdGo n (c :: r) = rdGo (n * 10 + (c.toNat - 48)) r := by
  rw [rdGo, if_pos ⟨h1, h2⟩, if_pos h3]
theorem rdGo_big {n : Nat} {c : UInt8} {r : List UInt8} (h3 : 1000000000 < n * 10 + (c.toNat - 48)) : rdGo n (c :: r) = none := by
  rw [rdGo]; split
  · rw [if_neg (by omega)]
  · rfl
theorem rdGo_bad {n : Nat} {c : UInt8} {r : List UInt8} (h : c.toNat < 48 ∨ 57 < c.toNat) : rdGo n (c :: r) = none := by
  rw [rdGo, if_neg (by omega)]
theorem rdL_of {l : List UInt8} {o : Option Nat} (h : l ≠ []) (e : rdGo 0 l = o) : rdL l = o := by unfold rdL; rw [if_neg h, e]
theorem end_none {l : List UInt8} (h : l ≠ []) (e : rdGo 0 l = none) : Value.tuple #[.int .i64 0, .bool false] = tupN (rdL l) := by rw [rdL_of h e]; rfl
theorem end_some {l : List UInt8} {m : Nat} (h : l ≠ []) (e : rdGo 0 l = some m) : Value.tuple #[.int .i64 m, .bool true] = tupN (rdL l) := by rw [rdL_of h e]; rfl

set_option maxRecDepth 100000 in
set_option maxHeartbeats 400000 in
theorem iDig_any (s : ByteArray) (hs : s.size ≤ maxLen) (w : World) :
    Calls Tryd.prog 92 #[.string s] w fun e w' => e = .returned (tupN (rdL s.data.toList)) ∧ w = w' := by
  unfold maxLen at hs
  by_cases h0 : s.size = 0
  · have he : s = ⟨#[]⟩ := by apply ByteArray.ext; exact Array.eq_empty_of_size_eq_zero h0
    subst he
    go_enter Tryd.func92, Tryd.ntmps92
    go_wp2
    go_ret2
    exact ⟨ret_val rfl, rfl⟩
  · have hne : s.toList.isEmpty = false := not_empty (by omega)
    have HN : Hid (s.data.toList ≠ []) := Lib.hid (data_ne (by omega))
    go_enter Tryd.func92, Tryd.ntmps92
    go_wp2
    go_loop [4, 10] (fun x i => ∃ k n : Nat, k ≤ s.size ∧ n ≤ 1000000000 ∧ x = .int .i64 n ∧ i = .int .i64 k ∧ rdGo 0 s.data.toList = rdGo n (s.data.toList.drop k)) (fun _ i => s.size - (intOf i).toNat)
    case atStart => exact ⟨0, 0, by omega, by omega, rfl, rfl, rfl⟩
    case round =>
      obtain ⟨k, n, hk, hn, rfl, rfl, hr⟩ := hrel
      have HR := Lib.hid hr
      clear hr
      by_cases hlt : k < s.size
      · have HD := Lib.hid (data_drop s k hlt)
        go_wp2
        all_goals first
          | (go_round
             case rel => exact ⟨k + 1, n * 10 + (s[k].toNat - 48), by omega, by omega, by go_num, by go_num, HR.out.trans (by rw [HD.out, rdGo_dig (by omega) (by omega) (by omega)])⟩
             case measure => simp [intOf]; omega)
          | (go_ret2
             exact ⟨ret_val (end_none HN.out (HR.out.trans (by rw [HD.out]; first | exact rdGo_bad (by omega) | exact rdGo_big (by omega)))), rfl⟩)
      · go_wp2
        go_ret2
        exact ⟨ret_val (end_some HN.out (HR.out.trans (by rw [List.drop_eq_nil_of_le (by simp; omega), rdGo]))), rfl⟩

def unS (s : ByteArray) : ByteArray := ⟨(unsign s.data.toList).toArray⟩
theorem unS_data (s : ByteArray) : (unS s).data.toList = unsign s.data.toList := by simp [unS]
theorem unS_size (s : ByteArray) : (unS s).size ≤ s.size := by
  have e : (unS s).size = (unsign s.data.toList).length := by simp [unS, ByteArray.size]
  have e2 : s.size = s.data.toList.length := by simp
  rw [e, e2]
  cases s.data.toList with
  | nil => simp [unsign]
  | cons c r => simp only [unsign]; split <;> simp
theorem unS_sign {s : ByteArray} (h : 0 < s.size) (h' : s[0] = 45 ∨ s[0] = 43) : s.extract 1 s.size = unS s := by
  apply ByteArray.ext
  apply Array.toList_inj.1
  rw [unS_data, Lib.extract_data, data_cons s h, unsign, if_pos h']
  simp
  exact List.take_of_length_le (by simp)
theorem unS_plain {s : ByteArray} (h : 0 < s.size) (h' : ¬ (s[0] = 45 ∨ s[0] = 43)) : s = unS s := by
  apply ByteArray.ext
  apply Array.toList_inj.1
  rw [unS_data, data_cons s h, unsign, if_neg h']
theorem minus_of {s : ByteArray} (h : 0 < s.size) : minus s.data.toList = (s[0] == 45) := by rw [data_cons s h]; rfl
set_option maxRecDepth 100000 in
set_option maxHeartbeats 400000 in
theorem iUn_any (s : ByteArray) (hs : s.size ≤ maxLen) (w : World) :
    Calls Tryd.prog 93 #[.string s] w fun e w' => e = .returned (.string (unS s)) ∧ w = w' := by
  unfold maxLen at hs
  by_cases h0 : s.size = 0
  · have he : s = ⟨#[]⟩ := by apply ByteArray.ext; exact Array.eq_empty_of_size_eq_zero h0
    subst he
    go_enter Tryd.func93, Tryd.ntmps93
    go_wp2
    go_ret
    exact ⟨ret_str rfl, rfl⟩
  · have hp : 0 < s.size := by omega
    have hne : s.toList.isEmpty = false := not_empty hp
    go_enter Tryd.func93, Tryd.ntmps93
    go_wp2
    · go_ret
      exact ⟨ret_str (unS_sign hp (Or.inl (byte_eq (d := 45) ‹_›))), rfl⟩
    · go_ret
      have h : ((s[0].toNat : Int) == 45) = true ∨ ((s[0].toNat : Int) == 43) = true := by assumption
      exact ⟨ret_str (unS_sign hp (h.elim (fun h => .inl (byte_eq (d := 45) (by simpa using h))) (fun h => .inr (byte_eq (d := 43) (by simpa using h))))), rfl⟩
    · go_ret
      have h : ((s[0].toNat : Int) == 45) = false ∧ ((s[0].toNat : Int) == 43) = false := by assumption
      exact ⟨ret_str (unS_plain hp (by rintro (e | e) <;> simp [e] at h)), rfl⟩

/-! the two readers at what stands behind the sign -/
theorem iDig_none (s : ByteArray) (hs : s.size ≤ maxLen) (w : World) (h : rdL s.data.toList = none) :
    Calls Tryd.prog 92 #[.string s] w fun e w' => e = .returned (.tuple #[.int .i64 0, .bool false]) ∧ w = w' :=
  (iDig_any s hs w).mono fun _ _ ⟨he, hw⟩ => ⟨by rw [he, tupN_none h], hw⟩
theorem iDig_some (s : ByteArray) (hs : s.size ≤ maxLen) (w : World) (m : Nat) (h : rdL s.data.toList = some m) :
    Calls Tryd.prog 92 #[.string s] w fun e w' => e = .returned (.tuple #[.int .i64 m, .bool true]) ∧ w = w' :=
  (iDig_any s hs w).mono fun _ _ ⟨he, hw⟩ => ⟨by rw [he, tupN_some h], hw⟩
theorem read_none {s : ByteArray} (h : rdL (unS s).data.toList = none) : Value.tuple #[.int .i64 0, .bool false] = tupI (readL s.data.toList) := by
  rw [unS_data] at h; unfold readL; rw [h]; rfl
theorem read_neg {s : ByteArray} {m : Nat} (h : rdL (unS s).data.toList = some m) (h0 : 0 < s.size) (h1 : s[0] = 45) : Value.tuple #[.int .i64 (-(m : Int)), .bool true] = tupI (readL s.data.toList) := by
  rw [unS_data] at h; unfold readL; rw [h, minus_of h0, h1]; rfl
theorem read_pos {s : ByteArray} {m : Nat} (h : rdL (unS s).data.toList = some m) (h0 : 0 < s.size) (h1 : s[0] ≠ 45) : Value.tuple #[.int .i64 (m : Int), .bool true] = tupI (readL s.data.toList) := by
  rw [unS_data] at h; unfold readL; rw [h, minus_of h0, beq_eq_false_iff_ne.2 h1]; rfl
theorem some_size {s : ByteArray} {m : Nat} (h : rdL (unS s).data.toList = some m) : 0 < s.size := by
  have := unS_size s
  have : (unS s).size ≠ 0 := by
    intro e
    have he : unS s = ⟨#[]⟩ := by apply ByteArray.ext; exact Array.eq_empty_of_size_eq_zero e
    rw [he] at h; simp [rdL] at h
  omega

set_option maxRecDepth 100000 in
set_option maxHeartbeats 400000 in
theorem iRead_any (s : ByteArray) (hs : s.size ≤ maxLen) (w : World) :
    Calls Tryd.prog 87 #[.string s] w fun e w' => e = .returned (tupI (readL s.data.toList)) ∧ w = w' := by
  have hu : (unS s).size ≤ maxLen := Nat.le_trans (unS_size s) hs
  cases h : rdL (unS s).data.toList with
  | none =>
    have H := Lib.hid h
    clear h
    go_enter Tryd.func87, Tryd.ntmps87
    go_wp2_with (first
      | (go_at_call 93; refine (iUn_any _ hs _).mono ?_; rintro e w' ⟨rfl, rfl⟩)
      | (go_at_call 92; refine (iDig_none _ hu _ H.out).mono ?_; rintro e w' ⟨rfl, rfl⟩))
    go_ret2
    exact ⟨ret_val (read_none H.out), rfl⟩
  | some m =>
    have h0 := some_size h
    have hm := rdL_le h
    have H := Lib.hid h
    clear h
    by_cases h1 : s[0] = 45
    · have h1' : ((s[0].toNat : Int) == 45) = true := by rw [h1]; rfl
      have H1 := Lib.hid h1
      clear h1
      go_enter Tryd.func87, Tryd.ntmps87
      go_wp2_with (first
        | (go_at_call 93; refine (iUn_any _ hs _).mono ?_; rintro e w' ⟨rfl, rfl⟩)
        | (go_at_call 92; refine (iDig_some _ hu _ m H.out).mono ?_; rintro e w' ⟨rfl, rfl⟩))
      go_ret2
      exact ⟨ret_val (read_neg H.out h0 H1.out), rfl⟩
    · have h1' : ((s[0].toNat : Int) == 45) = false := byte_ne (d := 45) h1
      have H1 := Lib.hid h1
      clear h1
      go_enter Tryd.func87, Tryd.ntmps87
      go_wp2_with (first
        | (go_at_call 93; refine (iUn_any _ hs _).mono ?_; rintro e w' ⟨rfl, rfl⟩)
        | (go_at_call 92; refine (iDig_some _ hu _ m H.out).mono ?_; rintro e w' ⟨rfl, rfl⟩))
      go_ret2
      exact ⟨ret_val (read_pos H.out h0 H1.out), rfl⟩
end Go.Proofs.YtapalfmjebggfaaDoor
