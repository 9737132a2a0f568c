/- CHAPTER 3, impl: skipBlanks, nameSize, numberSize, markSize. -/
import Derived.Test.YtapalfmjebggfaaDoorLexP
import Derived.Test.YtapalfmjebggfaaDoorName
import Derived.Test.YtapalfmjebggfaaDoorShelf
import Derived.Deep.LoopGhost
import Derived.WalkMore
import Derived.BigQuiet
import Derived.Deep.QuietTactic
namespace Go.Proofs.YtapalfmjebggfaaDoor
open Go.RowKit

theorem ba_of {x : ByteArray} {l : List UInt8} (h : x.data.toList = l) : x = ⟨l.toArray⟩ := by
  apply ByteArray.ext
  rw [← h]
theorem byte_on {c d : UInt8} (h : c = d) : ((c.toNat : Int) == (d.toNat : Int)) = true := by rw [h]; simp
theorem skip_done {s : ByteArray} {R : List UInt8} {k : Nat} (h : skip false (s.data.toList.drop k) = R) (hk : s.size ≤ k) : R = [] := by
  rw [← h, List.drop_eq_nil_of_le (by simp; omega), skip_nil]
set_option maxRecDepth 100000 in
set_option maxHeartbeats 1000000 in
theorem iSkip_any (s : ByteArray) (hs : s.size ≤ 1048576) (a : Nat) (ha : a ≤ s.size) (w : World) :
    Calls Tryd.prog 36 #[.string s, .int .i64 a] w fun e w' => e = .returned (.int .i64 (skE s a)) ∧ w = w' := by
  obtain ⟨R, hR⟩ : ∃ R, R = skip false (s.data.toList.drop a) := ⟨_, rfl⟩
  have HE : Hid (skE s a = s.size - R.length) := Lib.hid (by unfold skE; rw [hR])
  have HR0 := Lib.hid hR.symm
  clear hR
  go_enter Tryd.func36, Tryd.ntmps36
  go_wp2
  go_step3
  go_wp2
  go_step3
  go_wp2
  go_loopg [1] (s.size - a) (fun g i wx => ∃ k : Nat, k + g = s.size ∧ i = .int .i64 k ∧ Hid (skip false (s.data.toList.drop k) = R) ∧ wx = w)
  case atStart => exact ⟨a, by omega, rfl, HR0, rfl⟩
  case round =>
    obtain ⟨k, hk, rfl, HR, rfl⟩ := hrel
    by_cases hlt : k < s.size
    · have hd := data_drop s k hlt
      by_cases h32 : s[k] = 32
      · have t1 : ((s[k].toNat : Int) == 32) = true := byte_on h32
        have HN : Hid (skip false (s.data.toList.drop (k + 1)) = R) := Lib.hid (by rw [← HR.out, hd, skip_blank (.inl h32)])
        clear hd h32
        go_wp2
        go_roundg (gk - 1)
        case rel => exact ⟨k + 1, by omega, by go_num, HN, rfl⟩
        case measure => omega
      · by_cases h10 : s[k] = 10
        · have t1 : ((s[k].toNat : Int) == 32) = false := byte_ne (d := 32) h32
          have t2 : ((s[k].toNat : Int) == 10) = true := byte_on h10
          have HN : Hid (skip false (s.data.toList.drop (k + 1)) = R) := Lib.hid (by rw [← HR.out, hd, skip_blank (.inr h10)])
          clear hd h32 h10
          go_wp2
          go_roundg (gk - 1)
          case rel => exact ⟨k + 1, by omega, by go_num, HN, rfl⟩
          case measure => omega
        · by_cases h35 : s[k] = 35
          · have t1 : ((s[k].toNat : Int) == 32) = false := byte_ne (d := 32) h32
            have t2 : ((s[k].toNat : Int) == 10) = false := byte_ne (d := 10) h10
            have t3 : ((s[k].toNat : Int) == 35) = true := byte_on h35
            have HN : Hid (skip true (s.data.toList.drop k) = R) := Lib.hid (by rw [← HR.out, hd, skip_hash h35])
            clear hd h32 h10 h35
            go_wp2
            obtain ⟨wo, rfl⟩ : ∃ wo : World, wo = wr := ⟨_, rfl⟩
            obtain ⟨G, rfl⟩ : ∃ G : Nat, G = gk := ⟨_, rfl⟩
            go_loopg [1] (s.size - k) (fun g i wx => ∃ j : Nat, k ≤ j ∧ j + g = s.size ∧ j < s.size ∧ i = .int .i64 j ∧ Hid (skip true (s.data.toList.drop j) = R) ∧ wx = wo)
            case atStart => exact ⟨k, by omega, by omega, by omega, rfl, HN, rfl⟩
            case round =>
              clear HN t1 t2 t3
              obtain ⟨j, hkj, hj, hjl, rfl, HJ, rfl⟩ := hrel
              have hd := data_drop s j hjl
              by_cases h10 : s[j] = 10
              · have t1 : ((s[j].toNat : Int) != 10) = false := byte_bne (d := 10) h10
                have HM : Hid (skip false (s.data.toList.drop (j + 1)) = R) := Lib.hid (by rw [← HJ.out, hd, skip_line h10, skip_blank (.inr h10)])
                clear hd h10
                go_wp2
                go_roundg (G - (j + 1 - k))
                case rel => exact ⟨j + 1, by omega, by go_num, HM, rfl⟩
                case measure => omega
              · have t1 : ((s[j].toNat : Int) != 10) = true := byte_nbne (d := 10) h10
                have HM : Hid (skip true (s.data.toList.drop (j + 1)) = R) := Lib.hid (by rw [← HJ.out, hd, skip_in h10])
                clear hd h10
                by_cases hend : j + 1 = s.size
                · have t2 : ((j : Int) + 1 == (s.size : Int)) = true := by simp only [beq_iff_eq]; omega
                  go_wp2
                  rw [Exit.noGoto_ret]
                  go_ret
                  exact ⟨ret_int (by rw [HE.out, ← HM.out, List.drop_eq_nil_of_le (by simp; omega), skip_nil]; simp; omega), rfl⟩
                · have t2 : ((j : Int) + 1 == (s.size : Int)) = false := by simp only [beq_eq_false_iff_ne, ne_eq]; omega
                  go_wp2
                  go_roundg (gk - 1)
                  case rel => exact ⟨j + 1, by omega, by omega, by omega, by go_num, HM, rfl⟩
                  case measure => omega
          · have t1 : ((s[k].toNat : Int) == 32) = false := byte_ne (d := 32) h32
            have t2 : ((s[k].toNat : Int) == 10) = false := byte_ne (d := 10) h10
            have t3 : ((s[k].toNat : Int) == 35) = false := byte_ne (d := 35) h35
            have hst : R = s.data.toList.drop k := by rw [← HR.out, hd, skip_stop h32 h10 h35]
            have HX : Hid (skE s a = k) := Lib.hid (by rw [HE.out, hst, dlen]; omega)
            clear hd h32 h10 h35 hst
            go_wp2
            rw [Exit.noGoto_ret]
            go_ret
            exact ⟨ret_int (by rw [HX.out]), rfl⟩
    · have HX : Hid (skE s a = k) := Lib.hid (by rw [HE.out, skip_done HR.out (by omega)]; simp; omega)
      go_wp2
      rw [Exit.noGoto_ret]
      go_ret
      exact ⟨ret_int (by rw [HX.out]), rfl⟩
theorem tw_list {p : UInt8 → Bool} : ∀ (l : List UInt8) (k : Nat), k ≤ l.length → (∀ j (hj : j < l.length), j < k → p l[j] = true) → (∀ hk : k < l.length, p l[k] = false) → l.takeWhile p = l.take k := by
  intro l
  induction l with
  | nil => intro k hk _ _; simp
  | cons c r ih =>
    intro k hk h he
    cases k with
    | zero => have := he (by simp); simp at this; simp [this]
    | succ k =>
      have h0 := h 0 (by simp) (by omega)
      simp only [List.getElem_cons_zero] at h0
      rw [List.takeWhile_cons, if_pos h0, List.take_succ_cons]
      rw [ih k (by simpa using hk) (fun j hj hjk => by have := h (j + 1) (by simpa using hj) (by omega); rwa [List.getElem_cons_succ] at this) (fun hk' => by have := he (by simpa using hk'); rwa [List.getElem_cons_succ] at this)]
theorem tw {p : UInt8 → Bool} {s : ByteArray} {k : Nat} (hk : k ≤ s.size) (h : ∀ j (hj : j < s.size), j < k → p s[j] = true) (he : ∀ hk : k < s.size, p s[k] = false) : s.data.toList.takeWhile p = s.data.toList.take k :=
  tw_list _ k (by simpa using hk) (fun j hj hjk => h j (by simpa using hj) hjk) (fun hk' => he (by simpa using hk'))
theorem tw_len {p : UInt8 → Bool} {s : ByteArray} {k : Nat} (hk : k ≤ s.size) (h : ∀ j (hj : j < s.size), j < k → p s[j] = true) (he : ∀ hk : k < s.size, p s[k] = false) : (s.data.toList.takeWhile p).length = k := by
  rw [tw hk h he, List.length_take]; simp; omega
set_option maxRecDepth 100000 in
set_option maxHeartbeats 400000 in
theorem iNumSize_any (s : ByteArray) (hs : s.size ≤ 1048576) (w : World) :
    Calls Tryd.prog 60 #[.string s] w fun e w' => e = .returned (.int .i64 (dgLen s.data.toList)) ∧ w = w' := by
  go_enter Tryd.func60, Tryd.ntmps60
  go_wp2
  go_loop [3] (fun i => ∃ k : Nat, k ≤ s.size ∧ i = .int .i64 k ∧ Hid (∀ j (h : j < s.size), j < k → digB s[j] = true)) (fun i => s.size - (intOf i).toNat)
  case atStart => exact ⟨0, by omega, rfl, Lib.hid (fun _ _ h => by omega)⟩
  case round =>
    obtain ⟨k, hk, rfl, HR⟩ := hrel
    by_cases hlt : k < s.size
    · cases ht : digB s[k]
      · have HT := Lib.hid ht
        clear ht
        go_wp2_with (go_at_call 59; refine (iDigB_any _ _).mono ?_; rw [HT.out]; rintro e w' ⟨rfl, rfl⟩)
        go_ret
        exact ⟨ret_int (by unfold dgLen; rw [tw_len hk HR.out (fun _ => HT.out)]), rfl⟩
      · have HT := Lib.hid ht
        clear ht
        go_wp2_with (go_at_call 59; refine (iDigB_any _ _).mono ?_; rw [HT.out]; rintro e w' ⟨rfl, rfl⟩)
        go_round
        case rel => exact ⟨k + 1, by omega, by go_num, Lib.hid (fun j h hj => if he : j < k then HR.out j h he else by
               obtain rfl : j = k := by omega
               exact HT.out)⟩
        case measure => simp [intOf]; omega
    · go_wp2
      go_ret
      exact ⟨ret_int (by unfold dgLen; rw [tw_len hk HR.out (fun h => absurd h hlt)]), rfl⟩
set_option maxRecDepth 100000 in
set_option maxHeartbeats 400000 in
theorem iNameSize_any (s : ByteArray) (hs : s.size ≤ 1048576) (w : World) :
    Calls Tryd.prog 58 #[.string s] w fun e w' => e = .returned (.int .i64 (nmLen s.data.toList)) ∧ w = w' := by
  go_enter Tryd.func58, Tryd.ntmps58
  go_wp2
  go_loop [3] (fun i => ∃ k : Nat, k ≤ s.size ∧ i = .int .i64 k ∧ Hid (∀ j (h : j < s.size), j < k → nbB s[j] = true)) (fun i => s.size - (intOf i).toNat)
  case atStart => exact ⟨0, by omega, rfl, Lib.hid (fun _ _ h => by omega)⟩
  case round =>
    obtain ⟨k, hk, rfl, HR⟩ := hrel
    by_cases hlt : k < s.size
    · cases ht : nbB s[k]
      · have HT := Lib.hid ht
        clear ht
        have HE : Hid ((Lib.trimRightB (s.data.toList.take k) 45).length = nmLen s.data.toList) := Lib.hid (by
          unfold nmLen; rw [tw hk HR.out (fun _ => HT.out)])
        go_wp2_with (first
          | (go_at_call 74; refine (iNb_any _ _).mono ?_; rw [HT.out]; rintro e w' ⟨rfl, rfl⟩)
          | (go_at_call 75; refine (Tryd.strings_TrimRight_one (s.extract 0 k) 45 (by decide) _ (by simp; omega)).mono ?_; rintro e w' ⟨rfl, rfl⟩))
        go_ret
        exact ⟨ret_int (by rw [HE.out]), rfl⟩
      · have HT := Lib.hid ht
        clear ht
        go_wp2_with (go_at_call 74; refine (iNb_any _ _).mono ?_; rw [HT.out]; rintro e w' ⟨rfl, rfl⟩)
        go_round
        case rel => exact ⟨k + 1, by omega, by go_num, Lib.hid (fun j h hj => if he : j < k then HR.out j h he else by
               obtain rfl : j = k := by omega
               exact HT.out)⟩
        case measure => simp [intOf]; omega
    · have HE : Hid ((Lib.trimRightB (s.data.toList.take k) 45).length = nmLen s.data.toList) := Lib.hid (by
        unfold nmLen; rw [tw hk HR.out (fun h => absurd h hlt)])
      go_wp2_with (go_at_call 75; refine (Tryd.strings_TrimRight_one (s.extract 0 k) 45 (by decide) _ (by simp; omega)).mono ?_; rintro e w' ⟨rfl, rfl⟩)
      go_ret
      exact ⟨ret_int (by rw [HE.out]), rfl⟩
theorem indexByte_ge (l : List UInt8) (c : UInt8) : Lib.indexByte l c = -1 ∨ 0 ≤ Lib.indexByte l c := by
  induction l with
  | nil => exact .inl rfl
  | cons b r ih =>
    unfold Lib.indexByte
    split
    · omega
    · split
      · exact .inl rfl
      · rename_i h1 h2
        simp only [beq_iff_eq] at h2
        omega
theorem indexByte_has (l : List UInt8) (c : UInt8) : (l.contains c = true ∧ 0 ≤ Lib.indexByte l c) ∨ (l.contains c = false ∧ Lib.indexByte l c = -1) := by
  induction l with
  | nil => exact .inr ⟨rfl, rfl⟩
  | cons b r ih =>
    unfold Lib.indexByte
    by_cases h : b = c
    · subst h; exact .inl ⟨by simp, by simp⟩
    · have h1 : (b == c) = false := by simpa using h
      have h2 : (c == b) = false := by simpa using fun e => h e.symm
      rw [h1, List.contains_cons, h2, Bool.false_or]
      rcases ih with ⟨i1, i2⟩ | ⟨i1, i2⟩
      · refine .inl ⟨i1, ?_⟩
        have h3 : (Lib.indexByte r c == -1) = false := by simp; omega
        rw [h3]
        have e : (if false = true then (0 : Int) else if false = true then -1 else Lib.indexByte r c + 1) = Lib.indexByte r c + 1 := by simp
        omega
      · exact .inr ⟨i1, by rw [i2]; rfl⟩
theorem mk2_short {l : List UInt8} (h : l.length < 2) : mk2 l = false := by
  match l, h with
  | [], _ => rfl
  | [_], _ => rfl
theorem mkLen_one {c : UInt8} {r : List UInt8} (h : mk2 (c :: r) = false) : mkLen (c :: r) = if marks1.contains c = true then 1 else 0 := by
  unfold mkLen; rw [h]; rfl
theorem mkLen_two {l : List UInt8} (h : mk2 l = true) : mkLen l = 2 := by unfold mkLen; rw [if_pos h]
theorem mk_yes {s : ByteArray} (h0 : 0 < s.size) (hm : mk2 s.data.toList = false) (h : 0 ≤ Lib.indexByte [123, 125, 59, 91, 93, 40, 41, 60, 62, 61, 43, 45, 47, 124, 46, 44, 36, 58] s[0]) : (1 : Int) = (mkLen s.data.toList : Nat) := by
  rw [data_cons s h0] at hm ⊢
  rw [mkLen_one hm]
  rcases indexByte_has marks1 s[0] with ⟨i1, _⟩ | ⟨_, i2⟩
  · rw [i1]; rfl
  · unfold marks1 at i2; omega
theorem mk_no {s : ByteArray} (h0 : 0 < s.size) (hm : mk2 s.data.toList = false) (h : Lib.indexByte [123, 125, 59, 91, 93, 40, 41, 60, 62, 61, 43, 45, 47, 124, 46, 44, 36, 58] s[0] < 0) : (0 : Int) = (mkLen s.data.toList : Nat) := by
  rw [data_cons s h0] at hm ⊢
  rw [mkLen_one hm]
  rcases indexByte_has marks1 s[0] with ⟨_, i2⟩ | ⟨i1, _⟩
  · unfold marks1 at i2; omega
  · rw [i1]; rfl
theorem mk2_ex {s : ByteArray} (h : 2 ≤ s.size) : mk2 s.data.toList = ((s.extract 0 2).toList == [33, 61] || (s.extract 0 2).toList == [60, 61] || (s.extract 0 2).toList == [62, 61] || (s.extract 0 2).toList == [46, 46]) := by
  rw [Lib.toList_data, Lib.extract_data]
  have hl : s.data.toList.length = s.size := by simp
  match s.data.toList, hl with
  | [], hl => simp at hl; omega
  | [_], hl => simp at hl; omega
  | c :: d :: r, _ =>
    have e : ∀ a b : UInt8, ([c, d] == [a, b]) = (c == a && d == b) := fun a b => by
      rw [Bool.eq_iff_iff]; simp
    simp only [List.drop_zero, Nat.sub_zero, List.take_succ_cons, List.take_zero, e]
    rfl
set_option maxRecDepth 100000 in
set_option maxHeartbeats 1000000 in
theorem iMark_any (s : ByteArray) (hs : s.size ≤ 1048576) (h0 : 0 < s.size) (w : World) :
    Calls Tryd.prog 62 #[.string s] w fun e w' => e = .returned (.int .i64 (mkLen s.data.toList)) ∧ w = w' := by
  by_cases h2 : 2 ≤ s.size
  · have hx := mk2_ex h2
    have fin : mk2 s.data.toList = true → (2 : Int) = (mkLen s.data.toList : Nat) := fun h => by rw [mkLen_two h]; rfl
    cases h1 : ((s.extract 0 2).toList == [33, 61])
    · cases h2 : ((s.extract 0 2).toList == [60, 61])
      · cases h3 : ((s.extract 0 2).toList == [62, 61])
        · cases h4 : ((s.extract 0 2).toList == [46, 46])
          · rw [h1, h2, h3, h4] at hx
            have HX : Hid (mk2 s.data.toList = false) := Lib.hid hx
            clear fin hx
            go_enter Tryd.func62, Tryd.ntmps62
            go_wp2_with (go_at_call 77; refine (Tryd.strings_IndexByte _ _ _).mono ?_; rintro e w' ⟨rfl, rfl⟩)
            all_goals
              go_ret
              exact ⟨ret_int (by first | exact mk_yes h0 HX.out (by assumption) | exact mk_no h0 HX.out (by assumption)), rfl⟩
          · rw [h1, h2, h3, h4] at hx
            have HX := Lib.hid (fin hx)
            clear fin hx
            go_enter Tryd.func62, Tryd.ntmps62
            go_wp2
            go_ret
            exact ⟨ret_int HX.out, rfl⟩
        · rw [h1, h2, h3] at hx
          have HX := Lib.hid (fin hx)
          clear fin hx
          go_enter Tryd.func62, Tryd.ntmps62
          go_wp2
          go_ret
          exact ⟨ret_int HX.out, rfl⟩
      · rw [h1, h2] at hx
        have HX := Lib.hid (fin hx)
        clear fin hx
        go_enter Tryd.func62, Tryd.ntmps62
        go_wp2
        go_ret
        exact ⟨ret_int HX.out, rfl⟩
    · rw [h1] at hx
      have HX := Lib.hid (fin hx)
      clear fin hx
      go_enter Tryd.func62, Tryd.ntmps62
      go_wp2
      go_ret
      exact ⟨ret_int HX.out, rfl⟩
  · have hm := Lib.hid (mk2_short (l := s.data.toList) (by simp; omega))
    go_enter Tryd.func62, Tryd.ntmps62
    go_wp2_with (go_at_call 77; refine (Tryd.strings_IndexByte _ _ _).mono ?_; rintro e w' ⟨rfl, rfl⟩)
    all_goals
      go_ret
      exact ⟨ret_int (by first | exact mk_yes h0 hm.out (by assumption) | exact mk_no h0 hm.out (by assumption)), rfl⟩
end Go.Proofs.YtapalfmjebggfaaDoor
