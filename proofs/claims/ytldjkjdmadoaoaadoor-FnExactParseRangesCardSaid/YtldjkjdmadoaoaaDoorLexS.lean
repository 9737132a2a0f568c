/- CHAPTER 3, spec: l3Letter, l3Digit, l3Name, l3Mark. -/
import Derived.Test.YtldjkjdmadoaoaaDoorLexP
import Derived.Test.YtldjkjdmadoaoaaDoorLexA
import Derived.Test.YtldjkjdmadoaoaaDoorIn
namespace Go.Proofs.YtldjkjdmadoaoaaDoor
open Go.RowKit

set_option maxRecDepth 100000 in
theorem s3Let_any (c : UInt8) (w : World) : Calls Tryd.prog 82 #[.int .u8 c.toNat] w fun e w' => e = .returned (.bool (letB c)) ∧ w = w' := by
  have hby : (c.toNat : Int) ≤ 255 := by have := c.toNat_lt; omega
  have h : ∀ w, Calls Tryd.prog 103 #[.int .i64 c.toNat, .int .i64 97, .int .i64 122] w fun e w' => e = .returned (.bool (letB c)) ∧ w = w' := fun w =>
    (sIn_any _ _ _ w).mono fun _ _ ⟨he, hw⟩ => ⟨by rw [he]; exact ret_bool (by unfold letB; congr 1; exact propext ⟨fun h => by omega, fun h => by omega⟩), hw⟩
  go_enter Tryd.func82, Tryd.ntmps82
  go_wp2_with (go_at_call 103; refine (h _).mono ?_; rintro e w' ⟨rfl, rfl⟩)
  go_ret
  exact ⟨rfl, rfl⟩
set_option maxRecDepth 100000 in
theorem s3Dig_any (c : UInt8) (w : World) : Calls Tryd.prog 84 #[.int .u8 c.toNat] w fun e w' => e = .returned (.bool (digB c)) ∧ w = w' := by
  have hby : (c.toNat : Int) ≤ 255 := by have := c.toNat_lt; omega
  have h : ∀ w, Calls Tryd.prog 103 #[.int .i64 c.toNat, .int .i64 48, .int .i64 57] w fun e w' => e = .returned (.bool (digB c)) ∧ w = w' := fun w =>
    (sIn_any _ _ _ w).mono fun _ _ ⟨he, hw⟩ => ⟨by rw [he]; exact ret_bool (by unfold digB; congr 1; exact propext ⟨fun h => by omega, fun h => by omega⟩), hw⟩
  go_enter Tryd.func84, Tryd.ntmps84
  go_wp2_with (go_at_call 103; refine (h _).mono ?_; rintro e w' ⟨rfl, rfl⟩)
  go_ret
  exact ⟨rfl, rfl⟩
theorem trim_eq (l : List UInt8) {c : UInt8} (h : c = 45) : Lib.trimRightB (l ++ [c]) 45 = Lib.trimRightB l 45 := by
  subst h; unfold Lib.trimRightB; rw [List.reverse_append]; rfl
theorem trim_ne (l : List UInt8) {c : UInt8} (h : c ≠ 45) : Lib.trimRightB (l ++ [c]) 45 = l ++ [c] := by
  unfold Lib.trimRightB; rw [List.reverse_append]
  have : (c == 45) = false := by simpa using h
  simp [List.dropWhile_cons, this]
theorem drop_get {s : ByteArray} {a j : Nat} (h : a + j < s.size) : (s.data.toList.drop a)[j]'(by rw [dlen]; omega) = s[a + j] := by
  rw [List.getElem_drop]; rfl
theorem tw_from {p : UInt8 → Bool} {s : ByteArray} {a k : Nat} (ha : a ≤ k) (hk : k ≤ s.size) (h : ∀ j (hj : j < s.size), a ≤ j → j < k → p s[j] = true) (he : ∀ hk : k < s.size, p s[k] = false) : (s.data.toList.drop a).takeWhile p = (s.data.toList.drop a).take (k - a) := by
  refine tw_list _ _ (by rw [dlen]; omega) (fun j hj hjk => ?_) (fun hk' => ?_)
  · rw [dlen] at hj
    rw [drop_get (by omega)]; exact h _ (by omega) (by omega) (by omega)
  · rw [dlen] at hk'
    rw [drop_get (by omega)]
    have := he (by omega)
    have e : a + (k - a) = k := by omega
    simp only [e]; exact this
theorem take_from {s : ByteArray} {a k : Nat} (ha : a ≤ k) (hk : k < s.size) : (s.data.toList.drop a).take (k + 1 - a) = (s.data.toList.drop a).take (k - a) ++ [s[k]] := by
  rw [show k + 1 - a = (k - a) + 1 by omega, List.take_succ_eq_append_getElem (by rw [dlen]; omega)]
  congr 2
  rw [drop_get (by omega)]
  have e : a + (k - a) = k := by omega
  simp only [e]
/-- how far the cutting off of '-' has come -/
def Tr (s : ByteArray) (a k : Nat) : Prop := nmLen (s.data.toList.drop a) = (Lib.trimRightB ((s.data.toList.drop a).take (k - a)) 45).length
theorem Tr.start {s : ByteArray} {a k : Nat} (ha : a ≤ k) (hk : k ≤ s.size) (h : ∀ j (hj : j < s.size), a ≤ j → j < k → nbB s[j] = true) (he : ∀ hk : k < s.size, nbB s[k] = false) : Tr s a k := by
  unfold Tr nmLen; rw [tw_from ha hk h he]
theorem Tr.cut {s : ByteArray} {a k : Nat} (h : Tr s a (k + 1)) (ha : a ≤ k) (hk : k < s.size) (hc : s[k] = 45) : Tr s a k := by
  unfold Tr at h ⊢; rw [h, take_from ha hk, trim_eq _ hc]
theorem Tr.done {s : ByteArray} {a k : Nat} (h : Tr s a (k + 1)) (ha : a ≤ k) (hk : k < s.size) (hc : s[k] ≠ 45) : (k : Int) + 1 = ((a + nmLen (s.data.toList.drop a) : Nat) : Int) := by
  unfold Tr at h; rw [h, take_from ha hk, trim_ne _ hc, List.length_append, List.length_take, dlen]; simp; omega
theorem nbB_of {c : UInt8} : nbB c = (letB c || digB c || c == 45) := rfl
set_option maxRecDepth 100000 in
set_option maxHeartbeats 1000000 in
theorem sName_any (s : ByteArray) (hs : s.size ≤ 1048576) (a : Nat) (ha : a < s.size) (hl : letB s[a] = true) (w : World) :
    Calls Tryd.prog 83 #[.string s, .int .i64 a] w fun e w' => e = .returned (.int .i64 ((a + nmLen (s.data.toList.drop a) : Nat) : Int)) ∧ w = w' := by
  have H45 := Lib.hid (letB_45 hl)
  have HNB := Lib.hid (letB_nb hl)
  clear hl
  go_enter Tryd.func83, Tryd.ntmps83
  go_wp2
  go_loop [5] (fun i => ∃ k : Nat, a ≤ k ∧ k ≤ s.size ∧ i = .int .i64 k ∧ Hid (∀ j (h : j < s.size), a ≤ j → j < k → nbB s[j] = true)) (fun i => s.size - (intOf i).toNat)
  case atStart => exact ⟨a, by omega, by omega, rfl, Lib.hid (fun _ _ _ h => by omega)⟩
  case round =>
    obtain ⟨k, hak, hk, rfl, HR⟩ := hrel
    by_cases hnb : ∃ h : k < s.size, nbB s[k] = true
    · obtain ⟨hlt, hb⟩ := hnb
      have HB := Lib.hid hb
      have HN := Lib.hid (fun j (h : j < s.size) (hj0 : a ≤ j) (hj : j < k + 1) => if he : j < k then HR.out j h hj0 he else (by
               obtain rfl : j = k := by omega
               exact hb : nbB s[j] = true))
      rw [nbB_of] at hb
      cases h1 : letB s[k]
      · cases h2 : digB s[k]
        · rw [h1, h2] at hb
          have h45 : ((s[k].toNat : Int) == 45) = true := by rw [show (45 : Int) = ((45 : UInt8).toNat : Int) from rfl, byte_beq]; simpa using hb
          clear hb
          go_wp2_with (first
            | (go_at_call 82; refine (s3Let_any _ _).mono ?_; rw [h1]; rintro e w' ⟨rfl, rfl⟩)
            | (go_at_call 84; refine (s3Dig_any _ _).mono ?_; rw [h2]; rintro e w' ⟨rfl, rfl⟩))
          go_round
          case rel => exact ⟨k + 1, by omega, by omega, by go_num, HN⟩
          case measure => simp [intOf]; omega
        · clear hb
          go_wp2_with (first
            | (go_at_call 82; refine (s3Let_any _ _).mono ?_; rw [h1]; rintro e w' ⟨rfl, rfl⟩)
            | (go_at_call 84; refine (s3Dig_any _ _).mono ?_; rw [h2]; rintro e w' ⟨rfl, rfl⟩))
          go_round
          case rel => exact ⟨k + 1, by omega, by omega, by go_num, HN⟩
          case measure => simp [intOf]; omega
      · clear hb
        go_wp2_with (go_at_call 82; refine (s3Let_any _ _).mono ?_; rw [h1]; rintro e w' ⟨rfl, rfl⟩)
        go_round
        case rel => exact ⟨k + 1, by omega, by omega, by go_num, HN⟩
        case measure => simp [intOf]; omega
    · have he : ∀ h : k < s.size, nbB s[k] = false := fun h => by
        cases hb : nbB s[k]
        · rfl
        · exact absurd ⟨h, hb⟩ hnb
      have HT := Lib.hid (Tr.start hak hk HR.out he)
      have hka : a < k := by
        rcases Nat.lt_or_ge a k with h | h
        · exact h
        · obtain rfl : a = k := by omega
          have h1 := HNB.out
          have h2 := he ha
          rw [h1] at h2; cases h2
      clear hnb HR
      by_cases hlt : k < s.size
      · have hb := he hlt
        rw [nbB_of] at hb
        simp only [Bool.or_eq_false_iff] at hb
        obtain ⟨⟨h1, h2⟩, h3⟩ := hb
        have h45 : ((s[k].toNat : Int) == 45) = false := by rw [show (45 : Int) = ((45 : UInt8).toNat : Int) from rfl, byte_beq]; exact h3
        clear he h3
        obtain ⟨q, rfl⟩ : ∃ q, k = q + 1 := ⟨k - 1, by omega⟩
        go_wp2_with (first
            | (go_at_call 82; refine (s3Let_any _ _).mono ?_; rw [h1]; rintro e w' ⟨rfl, rfl⟩)
            | (go_at_call 84; refine (s3Dig_any _ _).mono ?_; rw [h2]; rintro e w' ⟨rfl, rfl⟩))
        go_loop [5] (fun i => ∃ m : Nat, a ≤ m ∧ m < s.size ∧ i = .int .i64 ((m : Int) + 1) ∧ Hid (Tr s a (m + 1))) (fun i => (intOf i).toNat)
        case atStart => exact ⟨q, by omega, by omega, by go_num, HT⟩
        case round =>
          clear HT
          obtain ⟨m, ham, hm, rfl, HM⟩ := hrel
          by_cases hc : s[m] = 45
          · have t1 : ((s[m].toNat : Int) == 45) = true := byte_on hc
            have hne : a ≠ m := by rintro rfl; exact H45.out hc
            have HC := Lib.hid (HM.out.cut ham hm hc)
            clear hc
            obtain ⟨m', rfl⟩ : ∃ m', m = m' + 1 := ⟨m - 1, by omega⟩
            go_wp2
            go_round
            case rel => exact ⟨m', by omega, by omega, by go_num, HC⟩
            case measure => simp [intOf]; omega
          · have t1 : ((s[m].toNat : Int) == 45) = false := byte_ne (d := 45) hc
            have HC := Lib.hid (HM.out.done ham hm hc)
            clear hc
            go_wp2
            go_ret
            exact ⟨ret_int HC.out, rfl⟩
      · obtain ⟨q, rfl⟩ : ∃ q, k = q + 1 := ⟨k - 1, by omega⟩
        go_wp2
        go_loop [5] (fun i => ∃ m : Nat, a ≤ m ∧ m < s.size ∧ i = .int .i64 ((m : Int) + 1) ∧ Hid (Tr s a (m + 1))) (fun i => (intOf i).toNat)
        case atStart => exact ⟨q, by omega, by omega, by go_num, HT⟩
        case round =>
          clear HT
          obtain ⟨m, ham, hm, rfl, HM⟩ := hrel
          by_cases hc : s[m] = 45
          · have t1 : ((s[m].toNat : Int) == 45) = true := byte_on hc
            have hne : a ≠ m := by rintro rfl; exact H45.out hc
            have HC := Lib.hid (HM.out.cut ham hm hc)
            clear hc
            obtain ⟨m', rfl⟩ : ∃ m', m = m' + 1 := ⟨m - 1, by omega⟩
            go_wp2
            go_round
            case rel => exact ⟨m', by omega, by omega, by go_num, HC⟩
            case measure => simp [intOf]; omega
          · have t1 : ((s[m].toNat : Int) == 45) = false := byte_ne (d := 45) hc
            have HC := Lib.hid (HM.out.done ham hm hc)
            clear hc
            go_wp2
            go_ret
            exact ⟨ret_int HC.out, rfl⟩
theorem mk2_at {s : ByteArray} {a : Nat} (h : a + 2 ≤ s.size) : mk2 (s.data.toList.drop a) = ((s.extract a (a + 2)).toList == [33, 61] || (s.extract a (a + 2)).toList == [60, 61] || (s.extract a (a + 2)).toList == [62, 61] || (s.extract a (a + 2)).toList == [46, 46]) := by
  rw [Lib.toList_data, Lib.extract_data, show a + 2 - a = 2 by omega]
  have hl := dlen s a
  match s.data.toList.drop a, hl with
  | [], hl => simp at hl; omega
  | [_], hl => simp at hl; omega
  | c :: d :: r, _ =>
    have e : ∀ a b : UInt8, ([c, d] == [a, b]) = (c == a && d == b) := fun a b => by
      rw [Bool.eq_iff_iff]; simp
    simp only [List.take_succ_cons, List.take_zero, e]
    rfl
theorem ex_take (s : ByteArray) (a n : Nat) : s.extract a (a + n) = ⟨((s.data.toList.drop a).take n).toArray⟩ := ba_of (by rw [Lib.extract_data]; congr 1; omega)
theorem mk_loop {s : ByteArray} {a k : Nat} (h : a < s.size) (hm : mk2 (s.data.toList.drop a) = false) (hk : k < marks1.length) (he : s[a] = marks1[k]) : mkLen (s.data.toList.drop a) = 1 := by
  rw [data_drop s a h] at hm ⊢
  rw [mkLen_one hm, if_pos]
  rw [List.contains_iff_mem, he]
  exact List.getElem_mem hk
theorem mk_none {s : ByteArray} {a : Nat} (h : a < s.size) (hm : mk2 (s.data.toList.drop a) = false) (he : ∀ j (hj : j < marks1.length), s[a] ≠ marks1[j]) : mkLen (s.data.toList.drop a) = 0 := by
  rw [data_drop s a h] at hm ⊢
  rw [mkLen_one hm, if_neg]
  rw [List.contains_iff_mem]
  intro hx
  obtain ⟨j, hj, e⟩ := List.getElem_of_mem hx
  exact he j hj e.symm
theorem below_drewN' {B : Nat} {a w : World} (h : Below B a w) (q : Nat) : Below B a (w.drewN q) := ⟨h.os, h.tape, h.output, h.size, h.block⟩
set_option maxRecDepth 100000 in
set_option maxHeartbeats 1000000 in
theorem sMark_one (s : ByteArray) (hs : s.size ≤ 1048576) (a : Nat) (ha : a < s.size) (hm : mk2 (s.data.toList.drop a) = false) (w : World) :
    Calls Tryd.prog 87 #[.string s, .int .i64 a] w fun e w' => e = .returned (.string ⟨((s.data.toList.drop a).take (mkLen (s.data.toList.drop a))).toArray⟩) ∧ Below w.heap.size w w' := by
  have HM := Lib.hid hm
  by_cases h2 : a + 2 ≤ s.size
  · have hx := mk2_at h2
    rw [hm] at hx
    have hx' := hx.symm
    simp only [Bool.or_eq_false_iff] at hx'
    obtain ⟨⟨⟨h1, h2'⟩, h3⟩, h4⟩ := hx'
    clear hx hm
    go_enter Tryd.func87, Tryd.ntmps87
    go_wp2
    go_loopw [5] (fun i wr => ∃ k : Nat, k ≤ 18 ∧ i = .int .i64 k ∧ Hid (∀ j (hj : j < marks1.length), j < k → s[a] ≠ marks1[j]) ∧ Below w.heap.size w wr) (fun i _ => 18 - (intOf i).toNat)
    case atStart => exact ⟨0, by omega, rfl, Lib.hid (fun _ _ h => by omega), Below.refl _ _⟩
    case round =>
      obtain ⟨k, hk, rfl, HR, hbel⟩ := hrel
      by_cases hlt : k < 18
      · have hlt' : k < marks1.length := hlt
        by_cases he : s[a] = marks1[k]
        · have t1 : ((s[a].toNat : Int) == (((⟨#[123, 125, 59, 91, 93, 40, 41, 60, 62, 61, 43, 45, 47, 124, 46, 44, 36, 58]⟩ : ByteArray)[k]'hlt).toNat : Int)) = true := byte_on (d := (⟨#[123, 125, 59, 91, 93, 40, 41, 60, 62, 61, 43, 45, 47, 124, 46, 44, 36, 58]⟩ : ByteArray)[k]'hlt) he
          have HE := Lib.hid (mk_loop ha HM.out hlt' he)
          have HX := Lib.hid (ex_take s a 1)
          clear he
          go_wp2
          go_quiet (fail)
          go_wp2
          go_ret
          exact ⟨ret_str (by rw [HE.out]; exact HX.out), below_drewN' hbel _⟩
        · have t1 : ((s[a].toNat : Int) == (((⟨#[123, 125, 59, 91, 93, 40, 41, 60, 62, 61, 43, 45, 47, 124, 46, 44, 36, 58]⟩ : ByteArray)[k]'hlt).toNat : Int)) = false := byte_ne (d := (⟨#[123, 125, 59, 91, 93, 40, 41, 60, 62, 61, 43, 45, 47, 124, 46, 44, 36, 58]⟩ : ByteArray)[k]'hlt) he
          have HN := Lib.hid (fun j (hj : j < marks1.length) (hjk : j < k + 1) => if h : j < k then HR.out j hj h else (by
            obtain rfl : j = k := by omega
            exact he : s[a] ≠ marks1[j]))
          clear he
          go_wp2
          go_quiet (fail)
          go_wp2
          go_roundw
          case rel => exact ⟨k + 1, by omega, by go_num, HN, below_drewN' hbel _⟩
          case measure => simp [intOf]; omega
      · have HE := Lib.hid (mk_none ha HM.out (fun j hj => HR.out j hj (by have e : marks1.length = 18 := rfl; omega)))
        go_wp2
        go_ret
        exact ⟨ret_str (by rw [HE.out]; rfl), hbel⟩
  · go_enter Tryd.func87, Tryd.ntmps87
    go_wp2
    go_loopw [5] (fun i wr => ∃ k : Nat, k ≤ 18 ∧ i = .int .i64 k ∧ Hid (∀ j (hj : j < marks1.length), j < k → s[a] ≠ marks1[j]) ∧ Below w.heap.size w wr) (fun i _ => 18 - (intOf i).toNat)
    case atStart => exact ⟨0, by omega, rfl, Lib.hid (fun _ _ h => by omega), Below.refl _ _⟩
    case round =>
      obtain ⟨k, hk, rfl, HR, hbel⟩ := hrel
      by_cases hlt : k < 18
      · have hlt' : k < marks1.length := hlt
        by_cases he : s[a] = marks1[k]
        · have t1 : ((s[a].toNat : Int) == (((⟨#[123, 125, 59, 91, 93, 40, 41, 60, 62, 61, 43, 45, 47, 124, 46, 44, 36, 58]⟩ : ByteArray)[k]'hlt).toNat : Int)) = true := byte_on (d := (⟨#[123, 125, 59, 91, 93, 40, 41, 60, 62, 61, 43, 45, 47, 124, 46, 44, 36, 58]⟩ : ByteArray)[k]'hlt) he
          have HE := Lib.hid (mk_loop ha HM.out hlt' he)
          have HX := Lib.hid (ex_take s a 1)
          clear he
          go_wp2
          go_quiet (fail)
          go_wp2
          go_ret
          exact ⟨ret_str (by rw [HE.out]; exact HX.out), below_drewN' hbel _⟩
        · have t1 : ((s[a].toNat : Int) == (((⟨#[123, 125, 59, 91, 93, 40, 41, 60, 62, 61, 43, 45, 47, 124, 46, 44, 36, 58]⟩ : ByteArray)[k]'hlt).toNat : Int)) = false := byte_ne (d := (⟨#[123, 125, 59, 91, 93, 40, 41, 60, 62, 61, 43, 45, 47, 124, 46, 44, 36, 58]⟩ : ByteArray)[k]'hlt) he
          have HN := Lib.hid (fun j (hj : j < marks1.length) (hjk : j < k + 1) => if h : j < k then HR.out j hj h else (by
            obtain rfl : j = k := by omega
            exact he : s[a] ≠ marks1[j]))
          clear he
          go_wp2
          go_quiet (fail)
          go_wp2
          go_roundw
          case rel => exact ⟨k + 1, by omega, by go_num, HN, below_drewN' hbel _⟩
          case measure => simp [intOf]; omega
      · have HE := Lib.hid (mk_none ha HM.out (fun j hj => HR.out j hj (by have e : marks1.length = 18 := rfl; omega)))
        go_wp2
        go_ret
        exact ⟨ret_str (by rw [HE.out]; rfl), hbel⟩
set_option maxRecDepth 100000 in
set_option maxHeartbeats 1000000 in
theorem sMark_two (s : ByteArray) (hs : s.size ≤ 1048576) (a : Nat) (ha : a < s.size) (hm : mk2 (s.data.toList.drop a) = true) (w : World) :
    Calls Tryd.prog 87 #[.string s, .int .i64 a] w fun e w' => e = .returned (.string ⟨((s.data.toList.drop a).take (mkLen (s.data.toList.drop a))).toArray⟩) ∧ Below w.heap.size w w' := by
  have h2 : a + 2 ≤ s.size := by
    rcases Nat.lt_or_ge s.size (a + 2) with h | h
    · rw [mk2_short (by rw [dlen]; omega)] at hm; cases hm
    · exact h
  have hx := mk2_at h2
  rw [hm] at hx
  have HX : Hid (s.extract a (a + 2) = ⟨((s.data.toList.drop a).take (mkLen (s.data.toList.drop a))).toArray⟩) := Lib.hid (by rw [mkLen_two hm]; exact ex_take s a 2)
  clear hm
  cases h1 : ((s.extract a (a + 2)).toList == [33, 61])
  · cases h2 : ((s.extract a (a + 2)).toList == [60, 61])
    · cases h3 : ((s.extract a (a + 2)).toList == [62, 61])
      · cases h4 : ((s.extract a (a + 2)).toList == [46, 46])
        · rw [h1, h2, h3, h4] at hx; cases hx
        · clear hx
          go_enter Tryd.func87, Tryd.ntmps87
          go_wp2
          go_ret
          exact ⟨ret_str HX.out, Below.refl _ _⟩
      · clear hx
        go_enter Tryd.func87, Tryd.ntmps87
        go_wp2
        go_ret
        exact ⟨ret_str HX.out, Below.refl _ _⟩
    · clear hx
      go_enter Tryd.func87, Tryd.ntmps87
      go_wp2
      go_ret
      exact ⟨ret_str HX.out, Below.refl _ _⟩
  · clear hx
    go_enter Tryd.func87, Tryd.ntmps87
    go_wp2
    go_ret
    exact ⟨ret_str HX.out, Below.refl _ _⟩
theorem sMark_any (s : ByteArray) (hs : s.size ≤ 1048576) (a : Nat) (ha : a < s.size) (w : World) :
    Calls Tryd.prog 87 #[.string s, .int .i64 a] w fun e w' => e = .returned (.string ⟨((s.data.toList.drop a).take (mkLen (s.data.toList.drop a))).toArray⟩) ∧ Below w.heap.size w w' := by
  cases hm : mk2 (s.data.toList.drop a)
  · exact sMark_one s hs a ha hm w
  · exact sMark_two s hs a ha hm w
end Go.Proofs.YtldjkjdmadoaoaaDoor
