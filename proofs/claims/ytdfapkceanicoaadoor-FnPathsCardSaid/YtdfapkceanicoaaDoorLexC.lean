/- MERGED for a claim: LexA NameB Let LexS LexB LexC. -/
import Derived.Test.YtdfapkceanicoaaDoorLexP
import Derived.Test.YtdfapkceanicoaaDoorName
import Derived.Test.YtdfapkceanicoaaDoorShelf
import Derived.Deep.LoopGhost
import Derived.WalkMore
import Derived.BigQuiet
import Derived.Deep.QuietTactic
import Derived.Test.YtdfapkceanicoaaDoorIn
import Derived.Lib.IndexBytes
set_option linter.unusedVariables false
set_option linter.unusedSimpArgs false
/- CHAPTER 3, impl: skipBlanks, nameSize, numberSize, markSize. -/
namespace Go.Proofs.YtdfapkceanicoaaDoor
open Go.RowKit

theorem ba_of {x : ByteArray} {l : List UInt8} (h : x.data.toList = l) : x = ⟨l.toArray⟩ := by
  apply ByteArray.ext
  rw [← h]
theorem byte_on {c d : UInt8} (h : c = d) : ((c.toNat : Int) == (d.toNat : Int)) = true := by rw [h]; simp
theorem skip_done {s : ByteArray} {R : List UInt8} {k : Nat} (h : skip false (s.data.toList.drop k) = R) (hk : s.size ≤ k) : R = [] := by
  rw [← h, List.drop_eq_nil_of_le (by simp; omega), skip_nil]
set_option maxRecDepth 100000 in
set_option maxHeartbeats 1000000 in
theorem iSkip_any (s : ByteArray) (hs : s.size ≤ 1048576) (a : Nat) (ha : a ≤ s.size) (w : World) :
    Calls Tryd.prog 39 #[.string s, .int .i64 a] w fun e w' => e = .returned (.int .i64 (skE s a)) ∧ w = w' := by
  obtain ⟨R, hR⟩ : ∃ R, R = skip false (s.data.toList.drop a) := ⟨_, rfl⟩
  have HE : Hid (skE s a = s.size - R.length) := Lib.hid (by unfold skE; rw [hR])
  have HR0 := Lib.hid hR.symm
  clear hR
  go_enter Tryd.func39, Tryd.ntmps39
  go_wp2
  go_step3
  go_wp2
  go_step3
  go_wp2
  go_loopg [1] (s.size - a) (fun g i wx => ∃ k : Nat, k + g = s.size ∧ i = .int .i64 k ∧ Hid (skip false (s.data.toList.drop k) = R) ∧ wx = w)
  case atStart => exact ⟨a, by omega, rfl, HR0, rfl⟩
  case round =>
    obtain ⟨k, hk, rfl, HR, rfl⟩ := hrel
    by_cases hlt : k < s.size
    · have hd := data_drop s k hlt
      by_cases h32 : s[k] = 32
      · have t1 : ((s[k].toNat : Int) == 32) = true := byte_on h32
        have HN : Hid (skip false (s.data.toList.drop (k + 1)) = R) := Lib.hid (by rw [← HR.out, hd, skip_blank (.inl h32)])
        clear hd h32
        go_wp2
        go_roundg (gk - 1)
        case rel => exact ⟨k + 1, by omega, by go_num, HN, rfl⟩
        case measure => omega
      · by_cases h10 : s[k] = 10
        · have t1 : ((s[k].toNat : Int) == 32) = false := byte_ne (d := 32) h32
          have t2 : ((s[k].toNat : Int) == 10) = true := byte_on h10
          have HN : Hid (skip false (s.data.toList.drop (k + 1)) = R) := Lib.hid (by rw [← HR.out, hd, skip_blank (.inr h10)])
          clear hd h32 h10
          go_wp2
          go_roundg (gk - 1)
          case rel => exact ⟨k + 1, by omega, by go_num, HN, rfl⟩
          case measure => omega
        · by_cases h35 : s[k] = 35
          · have t1 : ((s[k].toNat : Int) == 32) = false := byte_ne (d := 32) h32
            have t2 : ((s[k].toNat : Int) == 10) = false := byte_ne (d := 10) h10
            have t3 : ((s[k].toNat : Int) == 35) = true := byte_on h35
            have HN : Hid (skip true (s.data.toList.drop k) = R) := Lib.hid (by rw [← HR.out, hd, skip_hash h35])
            clear hd h32 h10 h35
            go_wp2
            obtain ⟨wo, rfl⟩ : ∃ wo : World, wo = wr := ⟨_, rfl⟩
            obtain ⟨G, rfl⟩ : ∃ G : Nat, G = gk := ⟨_, rfl⟩
            go_loopg [1] (s.size - k) (fun g i wx => ∃ j : Nat, k ≤ j ∧ j + g = s.size ∧ j < s.size ∧ i = .int .i64 j ∧ Hid (skip true (s.data.toList.drop j) = R) ∧ wx = wo)
            case atStart => exact ⟨k, by omega, by omega, by omega, rfl, HN, rfl⟩
            case round =>
              clear HN t1 t2 t3
              obtain ⟨j, hkj, hj, hjl, rfl, HJ, rfl⟩ := hrel
              have hd := data_drop s j hjl
              by_cases h10 : s[j] = 10
              · have t1 : ((s[j].toNat : Int) != 10) = false := byte_bne (d := 10) h10
                have HM : Hid (skip false (s.data.toList.drop (j + 1)) = R) := Lib.hid (by rw [← HJ.out, hd, skip_line h10, skip_blank (.inr h10)])
                clear hd h10
                go_wp2
                go_roundg (G - (j + 1 - k))
                case rel => exact ⟨j + 1, by omega, by go_num, HM, rfl⟩
                case measure => omega
              · have t1 : ((s[j].toNat : Int) != 10) = true := byte_nbne (d := 10) h10
                have HM : Hid (skip true (s.data.toList.drop (j + 1)) = R) := Lib.hid (by rw [← HJ.out, hd, skip_in h10])
                clear hd h10
                by_cases hend : j + 1 = s.size
                · have t2 : ((j : Int) + 1 == (s.size : Int)) = true := by simp only [beq_iff_eq]; omega
                  go_wp2
                  rw [Exit.noGoto_ret]
                  go_ret
                  exact ⟨ret_int (by rw [HE.out, ← HM.out, List.drop_eq_nil_of_le (by simp; omega), skip_nil]; simp; omega), rfl⟩
                · have t2 : ((j : Int) + 1 == (s.size : Int)) = false := by simp only [beq_eq_false_iff_ne, ne_eq]; omega
                  go_wp2
                  go_roundg (gk - 1)
                  case rel => exact ⟨j + 1, by omega, by omega, by omega, by go_num, HM, rfl⟩
                  case measure => omega
          · have t1 : ((s[k].toNat : Int) == 32) = false := byte_ne (d := 32) h32
            have t2 : ((s[k].toNat : Int) == 10) = false := byte_ne (d := 10) h10
            have t3 : ((s[k].toNat : Int) == 35) = false := byte_ne (d := 35) h35
            have hst : R = s.data.toList.drop k := by rw [← HR.out, hd, skip_stop h32 h10 h35]
            have HX : Hid (skE s a = k) := Lib.hid (by rw [HE.out, hst, dlen]; omega)
            clear hd h32 h10 h35 hst
            go_wp2
            rw [Exit.noGoto_ret]
            go_ret
            exact ⟨ret_int (by rw [HX.out]), rfl⟩
    · have HX : Hid (skE s a = k) := Lib.hid (by rw [HE.out, skip_done HR.out (by omega)]; simp; omega)
      go_wp2
      rw [Exit.noGoto_ret]
      go_ret
      exact ⟨ret_int (by rw [HX.out]), rfl⟩
theorem tw_list {p : UInt8 → Bool} : ∀ (l : List UInt8) (k : Nat), k ≤ l.length → (∀ j (hj : j < l.length), j < k → p l[j] = true) → (∀ hk : k < l.length, p l[k] = false) → l.takeWhile p = l.take k := by
  intro l
  induction l with
  | nil => intro k hk _ _; simp
  | cons c r ih =>
    intro k hk h he
    cases k with
    | zero => have := he (by simp); simp at this; simp [this]
    | succ k =>
      have h0 := h 0 (by simp) (by omega)
      simp only [List.getElem_cons_zero] at h0
      rw [List.takeWhile_cons, if_pos h0, List.take_succ_cons]
      rw [ih k (by simpa using hk) (fun j hj hjk => by have := h (j + 1) (by simpa using hj) (by omega); rwa [List.getElem_cons_succ] at this) (fun hk' => by have := he (by simpa using hk'); rwa [List.getElem_cons_succ] at this)]
theorem tw {p : UInt8 → Bool} {s : ByteArray} {k : Nat} (hk : k ≤ s.size) (h : ∀ j (hj : j < s.size), j < k → p s[j] = true) (he : ∀ hk : k < s.size, p s[k] = false) : s.data.toList.takeWhile p = s.data.toList.take k :=
  tw_list _ k (by simpa using hk) (fun j hj hjk => h j (by simpa using hj) hjk) (fun hk' => he (by simpa using hk'))
theorem tw_len {p : UInt8 → Bool} {s : ByteArray} {k : Nat} (hk : k ≤ s.size) (h : ∀ j (hj : j < s.size), j < k → p s[j] = true) (he : ∀ hk : k < s.size, p s[k] = false) : (s.data.toList.takeWhile p).length = k := by
  rw [tw hk h he, List.length_take]; simp; omega
set_option maxRecDepth 100000 in
set_option maxHeartbeats 400000 in
theorem iNumSize_any (s : ByteArray) (hs : s.size ≤ 1048576) (w : World) :
    Calls Tryd.prog 69 #[.string s] w fun e w' => e = .returned (.int .i64 (dgLen s.data.toList)) ∧ w = w' := by
  go_enter Tryd.func69, Tryd.ntmps69
  go_wp2
  go_loop [3] (fun i => ∃ k : Nat, k ≤ s.size ∧ i = .int .i64 k ∧ Hid (∀ j (h : j < s.size), j < k → digB s[j] = true)) (fun i => s.size - (intOf i).toNat)
  case atStart => exact ⟨0, by omega, rfl, Lib.hid (fun _ _ h => by omega)⟩
  case round =>
    obtain ⟨k, hk, rfl, HR⟩ := hrel
    by_cases hlt : k < s.size
    · cases ht : digB s[k]
      · have HT := Lib.hid ht
        clear ht
        go_wp2_with (go_at_call 68; refine (iDigB_any _ _).mono ?_; rw [HT.out]; rintro e w' ⟨rfl, rfl⟩)
        go_ret
        exact ⟨ret_int (by unfold dgLen; rw [tw_len hk HR.out (fun _ => HT.out)]), rfl⟩
      · have HT := Lib.hid ht
        clear ht
        go_wp2_with (go_at_call 68; refine (iDigB_any _ _).mono ?_; rw [HT.out]; rintro e w' ⟨rfl, rfl⟩)
        go_round
        case rel => exact ⟨k + 1, by omega, by go_num, Lib.hid (fun j h hj => if he : j < k then HR.out j h he else by
               obtain rfl : j = k := by omega
               exact HT.out)⟩
        case measure => simp [intOf]; omega
    · go_wp2
      go_ret
      exact ⟨ret_int (by unfold dgLen; rw [tw_len hk HR.out (fun h => absurd h hlt)]), rfl⟩
set_option maxRecDepth 100000 in
set_option maxHeartbeats 400000 in
theorem iNameSize_any (s : ByteArray) (hs : s.size ≤ 1048576) (w : World) :
    Calls Tryd.prog 67 #[.string s] w fun e w' => e = .returned (.int .i64 (nmLen s.data.toList)) ∧ w = w' := by
  go_enter Tryd.func67, Tryd.ntmps67
  go_wp2
  go_loop [3] (fun i => ∃ k : Nat, k ≤ s.size ∧ i = .int .i64 k ∧ Hid (∀ j (h : j < s.size), j < k → nbB s[j] = true)) (fun i => s.size - (intOf i).toNat)
  case atStart => exact ⟨0, by omega, rfl, Lib.hid (fun _ _ h => by omega)⟩
  case round =>
    obtain ⟨k, hk, rfl, HR⟩ := hrel
    by_cases hlt : k < s.size
    · cases ht : nbB s[k]
      · have HT := Lib.hid ht
        clear ht
        have HE : Hid ((Lib.trimRightB (s.data.toList.take k) 45).length = nmLen s.data.toList) := Lib.hid (by
          unfold nmLen; rw [tw hk HR.out (fun _ => HT.out)])
        go_wp2_with (first
          | (go_at_call 89; refine (iNb_any _ _).mono ?_; rw [HT.out]; rintro e w' ⟨rfl, rfl⟩)
          | (go_at_call 90; refine (Tryd.strings_TrimRight_one (s.extract 0 k) 45 (by decide) _ (by simp; omega)).mono ?_; rintro e w' ⟨rfl, rfl⟩))
        go_ret
        exact ⟨ret_int (by rw [HE.out]), rfl⟩
      · have HT := Lib.hid ht
        clear ht
        go_wp2_with (go_at_call 89; refine (iNb_any _ _).mono ?_; rw [HT.out]; rintro e w' ⟨rfl, rfl⟩)
        go_round
        case rel => exact ⟨k + 1, by omega, by go_num, Lib.hid (fun j h hj => if he : j < k then HR.out j h he else by
               obtain rfl : j = k := by omega
               exact HT.out)⟩
        case measure => simp [intOf]; omega
    · have HE : Hid ((Lib.trimRightB (s.data.toList.take k) 45).length = nmLen s.data.toList) := Lib.hid (by
        unfold nmLen; rw [tw hk HR.out (fun h => absurd h hlt)])
      go_wp2_with (go_at_call 90; refine (Tryd.strings_TrimRight_one (s.extract 0 k) 45 (by decide) _ (by simp; omega)).mono ?_; rintro e w' ⟨rfl, rfl⟩)
      go_ret
      exact ⟨ret_int (by rw [HE.out]), rfl⟩
theorem indexByte_ge (l : List UInt8) (c : UInt8) : Lib.indexByte l c = -1 ∨ 0 ≤ Lib.indexByte l c := by
  induction l with
  | nil => exact .inl rfl
  | cons b r ih =>
    unfold Lib.indexByte
    split
    · omega
    · split
      · exact .inl rfl
      · rename_i h1 h2
        simp only [beq_iff_eq] at h2
        omega
theorem indexByte_has (l : List UInt8) (c : UInt8) : (l.contains c = true ∧ 0 ≤ Lib.indexByte l c) ∨ (l.contains c = false ∧ Lib.indexByte l c = -1) := by
  induction l with
  | nil => exact .inr ⟨rfl, rfl⟩
  | cons b r ih =>
    unfold Lib.indexByte
    by_cases h : b = c
    · subst h; exact .inl ⟨by simp, by simp⟩
    · have h1 : (b == c) = false := by simpa using h
      have h2 : (c == b) = false := by simpa using fun e => h e.symm
      rw [h1, List.contains_cons, h2, Bool.false_or]
      rcases ih with ⟨i1, i2⟩ | ⟨i1, i2⟩
      · refine .inl ⟨i1, ?_⟩
        have h3 : (Lib.indexByte r c == -1) = false := by simp; omega
        rw [h3]
        have e : (if false = true then (0 : Int) else if false = true then -1 else Lib.indexByte r c + 1) = Lib.indexByte r c + 1 := by simp
        omega
      · exact .inr ⟨i1, by rw [i2]; rfl⟩
theorem mk2_short {l : List UInt8} (h : l.length < 2) : mk2 l = false := by
  match l, h with
  | [], _ => rfl
  | [_], _ => rfl
theorem mkLen_one {c : UInt8} {r : List UInt8} (h : mk2 (c :: r) = false) : mkLen (c :: r) = if marks1.contains c = true then 1 else 0 := by
  unfold mkLen; rw [h]; rfl
theorem mkLen_two {l : List UInt8} (h : mk2 l = true) : mkLen l = 2 := by unfold mkLen; rw [if_pos h]
theorem mk_yes {s : ByteArray} (h0 : 0 < s.size) (hm : mk2 s.data.toList = false) (h : 0 ≤ Lib.indexByte [123, 125, 59, 91, 93, 40, 41, 60, 62, 61, 43, 45, 47, 124, 46, 44, 36, 58] s[0]) : (1 : Int) = (mkLen s.data.toList : Nat) := by
  rw [data_cons s h0] at hm ⊢
  rw [mkLen_one hm]
  rcases indexByte_has marks1 s[0] with ⟨i1, _⟩ | ⟨_, i2⟩
  · rw [i1]; rfl
  · unfold marks1 at i2; omega
theorem mk_no {s : ByteArray} (h0 : 0 < s.size) (hm : mk2 s.data.toList = false) (h : Lib.indexByte [123, 125, 59, 91, 93, 40, 41, 60, 62, 61, 43, 45, 47, 124, 46, 44, 36, 58] s[0] < 0) : (0 : Int) = (mkLen s.data.toList : Nat) := by
  rw [data_cons s h0] at hm ⊢
  rw [mkLen_one hm]
  rcases indexByte_has marks1 s[0] with ⟨_, i2⟩ | ⟨i1, _⟩
  · unfold marks1 at i2; omega
  · rw [i1]; rfl
theorem mk2_ex {s : ByteArray} (h : 2 ≤ s.size) : mk2 s.data.toList = ((s.extract 0 2).toList == [33, 61] || (s.extract 0 2).toList == [60, 61] || (s.extract 0 2).toList == [62, 61] || (s.extract 0 2).toList == [46, 46]) := by
  rw [Lib.toList_data, Lib.extract_data]
  have hl : s.data.toList.length = s.size := by simp
  match s.data.toList, hl with
  | [], hl => simp at hl; omega
  | [_], hl => simp at hl; omega
  | c :: d :: r, _ =>
    have e : ∀ a b : UInt8, ([c, d] == [a, b]) = (c == a && d == b) := fun a b => by
      rw [Bool.eq_iff_iff]; simp
    simp only [List.drop_zero, Nat.sub_zero, List.take_succ_cons, List.take_zero, e]
    rfl
set_option maxRecDepth 100000 in
set_option maxHeartbeats 1000000 in
theorem iMark_any (s : ByteArray) (hs : s.size ≤ 1048576) (h0 : 0 < s.size) (w : World) :
    Calls Tryd.prog 71 #[.string s] w fun e w' => e = .returned (.int .i64 (mkLen s.data.toList)) ∧ w = w' := by
  by_cases h2 : 2 ≤ s.size
  · have hx := mk2_ex h2
    have fin : mk2 s.data.toList = true → (2 : Int) = (mkLen s.data.toList : Nat) := fun h => by rw [mkLen_two h]; rfl
    cases h1 : ((s.extract 0 2).toList == [33, 61])
    · cases h2 : ((s.extract 0 2).toList == [60, 61])
      · cases h3 : ((s.extract 0 2).toList == [62, 61])
        · cases h4 : ((s.extract 0 2).toList == [46, 46])
          · rw [h1, h2, h3, h4] at hx
            have HX : Hid (mk2 s.data.toList = false) := Lib.hid hx
            clear fin hx
            go_enter Tryd.func71, Tryd.ntmps71
            go_wp2_with (go_at_call 92; refine (Tryd.strings_IndexByte _ _ _).mono ?_; rintro e w' ⟨rfl, rfl⟩)
            all_goals
              go_ret
              exact ⟨ret_int (by first | exact mk_yes h0 HX.out (by assumption) | exact mk_no h0 HX.out (by assumption)), rfl⟩
          · rw [h1, h2, h3, h4] at hx
            have HX := Lib.hid (fin hx)
            clear fin hx
            go_enter Tryd.func71, Tryd.ntmps71
            go_wp2
            go_ret
            exact ⟨ret_int HX.out, rfl⟩
        · rw [h1, h2, h3] at hx
          have HX := Lib.hid (fin hx)
          clear fin hx
          go_enter Tryd.func71, Tryd.ntmps71
          go_wp2
          go_ret
          exact ⟨ret_int HX.out, rfl⟩
      · rw [h1, h2] at hx
        have HX := Lib.hid (fin hx)
        clear fin hx
        go_enter Tryd.func71, Tryd.ntmps71
        go_wp2
        go_ret
        exact ⟨ret_int HX.out, rfl⟩
    · rw [h1] at hx
      have HX := Lib.hid (fin hx)
      clear fin hx
      go_enter Tryd.func71, Tryd.ntmps71
      go_wp2
      go_ret
      exact ⟨ret_int HX.out, rfl⟩
  · have hm := Lib.hid (mk2_short (l := s.data.toList) (by simp; omega))
    go_enter Tryd.func71, Tryd.ntmps71
    go_wp2_with (go_at_call 92; refine (Tryd.strings_IndexByte _ _ _).mono ?_; rintro e w' ⟨rfl, rfl⟩)
    all_goals
      go_ret
      exact ⟨ret_int (by first | exact mk_yes h0 hm.out (by assumption) | exact mk_no h0 hm.out (by assumption)), rfl⟩
end Go.Proofs.YtdfapkceanicoaaDoor

/- CHAPTER 2, SECOND PART: IsName and IsText, the walks. -/
namespace Go.Proofs.YtdfapkceanicoaaDoor
open Go.RowKit

theorem sLet_any (c : UInt8) (w : World) : Calls Tryd.prog 26 #[.int .i64 c.toNat, .int .i64 97, .int .i64 122] w fun e w' => e = .returned (.bool (letB c)) ∧ w = w' :=
  (sIn_any _ _ _ w).mono fun _ _ ⟨he, hw⟩ => ⟨by rw [he]; exact ret_bool (by unfold letB; congr 1; exact propext ⟨fun h => by omega, fun h => by omega⟩), hw⟩
theorem sDig_any' (c : UInt8) (w : World) : Calls Tryd.prog 26 #[.int .i64 c.toNat, .int .i64 48, .int .i64 57] w fun e w' => e = .returned (.bool (digB c)) ∧ w = w' :=
  (sIn_any _ _ _ w).mono fun _ _ ⟨he, hw⟩ => ⟨by rw [he]; exact ret_bool (by unfold digB; congr 1; exact propext ⟨fun h => by omega, fun h => by omega⟩), hw⟩
theorem sTx_any (c : UInt8) (w : World) : Calls Tryd.prog 26 #[.int .i64 c.toNat, .int .i64 32, .int .i64 126] w fun e w' => e = .returned (.bool (txB c)) ∧ w = w' :=
  (sIn_any _ _ _ w).mono fun _ _ ⟨he, hw⟩ => ⟨by rw [he]; exact ret_bool (by unfold txB; congr 1; exact propext ⟨fun h => by omega, fun h => by omega⟩), hw⟩

/-- a name of chapter 2 -/
def NameP (s : ByteArray) : Prop :=
  0 < s.size ∧ s.size ≤ 16 ∧ (∀ h : 0 < s.size, letB s[0] = true) ∧ (∀ h : s.size - 1 < s.size, s[s.size - 1] ≠ 45) ∧ ∀ k (h : k < s.size), nbB s[k] = true
noncomputable def nameB (s : ByteArray) : Bool := @decide (NameP s) (Classical.propDecidable _)
theorem name_yes {s : ByteArray} (h : NameP s) : true = nameB s := (@decide_eq_true _ (Classical.propDecidable _) h).symm
theorem name_no {s : ByteArray} (h : ¬ NameP s) : false = nameB s := (@decide_eq_false _ (Classical.propDecidable _) h).symm
/-- a text of chapter 2 -/
def TextP (s : ByteArray) : Prop := s.size ≤ 40 ∧ ∀ k (h : k < s.size), txB s[k] = true
noncomputable def textB (s : ByteArray) : Bool := @decide (TextP s) (Classical.propDecidable _)
theorem text_yes {s : ByteArray} (h : TextP s) : true = textB s := (@decide_eq_true _ (Classical.propDecidable _) h).symm
theorem text_no {s : ByteArray} (h : ¬ TextP s) : false = textB s := (@decide_eq_false _ (Classical.propDecidable _) h).symm

set_option maxRecDepth 100000 in
set_option maxHeartbeats 400000 in
theorem iIsText_any (s : ByteArray) (hs : s.size ≤ maxLen) (w : World) :
    Calls Tryd.prog 94 #[.string s] w fun e w' => e = .returned (.bool (textB s)) ∧ w = w' := by
  unfold maxLen at hs
  by_cases hl : 40 < s.size
  · go_enter Tryd.func94, Tryd.ntmps94
    go_wp2
    go_ret
    exact ⟨ret_bool (text_no fun h => by have := h.1; omega), rfl⟩
  · go_enter Tryd.func94, Tryd.ntmps94
    go_wp2
    go_loop [9] (fun i => ∃ k : Nat, k ≤ s.size ∧ i = .int .i64 k ∧ ∀ j (h : j < s.size), j < k → txB s[j] = true) (fun i => s.size - (intOf i).toNat)
    case atStart => exact ⟨0, by omega, rfl, fun _ _ h => by omega⟩
    case round =>
      obtain ⟨k, hk, rfl, hr⟩ := hrel
      have HR := Lib.hid hr
      clear hr
      by_cases hlt : k < s.size
      · go_wp2
        all_goals first
          | (go_round
             case rel => exact ⟨k + 1, by omega, by go_num, fun j h hj => if he : j < k then HR.out j h he else by
               obtain rfl : j = k := by omega
               exact decide_eq_true (by omega)⟩
             case measure => simp [intOf]; omega)
          | (go_ret
             exact ⟨ret_bool (text_no fun h => by have := h.2 k hlt; have := of_decide_eq_true this; omega), rfl⟩)
      · go_wp2
        go_ret
        exact ⟨ret_bool (text_yes ⟨by omega, fun j h => HR.out j h (by omega)⟩), rfl⟩

set_option maxRecDepth 100000 in
set_option maxHeartbeats 400000 in
theorem sIsText_any (s : ByteArray) (hs : s.size ≤ maxLen) (w : World) :
    Calls Tryd.prog 25 #[.string s] w fun e w' => e = .returned (.bool (textB s)) ∧ w = w' := by
  unfold maxLen at hs
  go_enter Tryd.func25, Tryd.ntmps25
  go_wp2
  go_loop [3] (fun i => ∃ k : Nat, k ≤ s.size ∧ i = .int .i64 k ∧ ∀ j (h : j < s.size), j < k → txB s[j] = true) (fun i => s.size - (intOf i).toNat)
  case atStart => exact ⟨0, by omega, rfl, fun _ _ h => by omega⟩
  case round =>
    obtain ⟨k, hk, rfl, hr⟩ := hrel
    have HR := Lib.hid hr
    clear hr
    by_cases hlt : k < s.size
    · have hby : (s[k].toNat : Int) ≤ 255 := by have := s[k].toNat_lt; omega
      cases ht : txB s[k]
      all_goals
        have HT := Lib.hid ht
        clear ht
        go_wp2_with (go_at_call 26; refine (sTx_any _ _).mono ?_; rw [HT.out]; rintro e w' ⟨rfl, rfl⟩)
        first
          | (go_round
             case rel => exact ⟨k + 1, by omega, by go_num, fun j h hj => if he : j < k then HR.out j h he else by
               obtain rfl : j = k := by omega
               exact HT.out⟩
             case measure => simp [intOf]; omega)
          | (go_ret
             exact ⟨ret_bool (text_no fun h => by have := h.2 k hlt; rw [HT.out] at this; cases this), rfl⟩)
    · by_cases h40 : (s.size : Int) ≤ 40
      all_goals
        go_wp2
        go_ret
        first
          | exact ⟨ret_bool (text_yes ⟨by omega, fun j h => HR.out j h (by omega)⟩), rfl⟩
          | exact ⟨ret_bool (text_no fun h => by have := h.1; omega), rfl⟩

set_option maxRecDepth 100000 in
set_option maxHeartbeats 400000 in
theorem iIsName_any (s : ByteArray) (hs : s.size ≤ maxLen) (w : World) :
    Calls Tryd.prog 73 #[.string s] w fun e w' => e = .returned (.bool (nameB s)) ∧ w = w' := by
  unfold maxLen at hs
  by_cases h0 : s.size = 0
  · obtain rfl := str_empty h0
    go_enter Tryd.func73, Tryd.ntmps73
    go_wp2
    go_ret
    exact ⟨ret_bool (name_no fun h => absurd h.1 (by decide)), rfl⟩
  · have hp : 0 < s.size := by omega
    have hne : s.toList.isEmpty = false := not_empty hp
    by_cases hl : 16 < s.size
    · go_enter Tryd.func73, Tryd.ntmps73
      go_wp2
      go_ret
      exact ⟨ret_bool (name_no fun h => by have := h.2.1; omega), rfl⟩
    · cases h1 : letB s[0]
      · go_enter Tryd.func73, Tryd.ntmps73
        go_wp2_with (go_at_call 66; refine (iLet_any _ _).mono ?_; rw [h1]; rintro e w' ⟨rfl, rfl⟩)
        go_ret
        exact ⟨ret_bool (name_no fun h => by have := h.2.2.1 hp; rw [h1] at this; cases this), rfl⟩
      · have H1 := Lib.hid h1
        clear h1
        by_cases h2 : s[s.size - 1] = 45
        · have h2' : ((s[s.size - 1].toNat : Int) == 45) = true := by rw [h2]; rfl
          have H2 := Lib.hid h2
          clear h2
          go_enter Tryd.func73, Tryd.ntmps73
          go_wp2_with (go_at_call 66; refine (iLet_any _ _).mono ?_; rw [H1.out]; rintro e w' ⟨rfl, rfl⟩)
          go_ret
          exact ⟨ret_bool (name_no fun h => h.2.2.2.1 (by omega) H2.out), rfl⟩
        · have h2' : ((s[s.size - 1].toNat : Int) == 45) = false := byte_ne (d := 45) h2
          have H2 := Lib.hid h2
          clear h2
          go_enter Tryd.func73, Tryd.ntmps73
          go_wp2_with (go_at_call 66; refine (iLet_any _ _).mono ?_; rw [H1.out]; rintro e w' ⟨rfl, rfl⟩)
          go_loop [27] (fun i => ∃ k : Nat, k ≤ s.size ∧ i = .int .i64 k ∧ ∀ j (h : j < s.size), j < k → nbB s[j] = true) (fun i => s.size - (intOf i).toNat)
          case atStart => exact ⟨0, by omega, rfl, fun _ _ h => by omega⟩
          case round =>
            obtain ⟨k, hk, rfl, hr⟩ := hrel
            have HR := Lib.hid hr
            clear hr
            by_cases hlt : k < s.size
            · cases ht : nbB s[k]
              all_goals
                have HT := Lib.hid ht
                clear ht
                go_wp2_with (go_at_call 89; refine (iNb_any _ _).mono ?_; rw [HT.out]; rintro e w' ⟨rfl, rfl⟩)
                first
                  | (go_round
                     case rel => exact ⟨k + 1, by omega, by go_num, fun j h hj => if he : j < k then HR.out j h he else by
                       obtain rfl : j = k := by omega
                       exact HT.out⟩
                     case measure => simp [intOf]; omega)
                  | (go_ret
                     exact ⟨ret_bool (name_no fun h => by have := h.2.2.2.2 k hlt; rw [HT.out] at this; cases this), rfl⟩)
            · go_wp2
              go_ret
              exact ⟨ret_bool (name_yes ⟨hp, by omega, fun _ => H1.out, fun _ => H2.out, fun j h => HR.out j h (by omega)⟩), rfl⟩
end Go.Proofs.YtdfapkceanicoaaDoor

/- spec's l3Letter, l3Digit. -/
namespace Go.Proofs.YtdfapkceanicoaaDoor
open Go.RowKit

set_option maxRecDepth 100000 in
theorem s3Let_any (c : UInt8) (w : World) : Calls Tryd.prog 81 #[.int .u8 c.toNat] w fun e w' => e = .returned (.bool (letB c)) ∧ w = w' := by
  have hby : (c.toNat : Int) ≤ 255 := by have := c.toNat_lt; omega
  have h : ∀ w, Calls Tryd.prog 26 #[.int .i64 c.toNat, .int .i64 97, .int .i64 122] w fun e w' => e = .returned (.bool (letB c)) ∧ w = w' := fun w =>
    (sIn_any _ _ _ w).mono fun _ _ ⟨he, hw⟩ => ⟨by rw [he]; exact ret_bool (by unfold letB; congr 1; exact propext ⟨fun h => by omega, fun h => by omega⟩), hw⟩
  go_enter Tryd.func81, Tryd.ntmps81
  go_wp2_with (go_at_call 26; refine (h _).mono ?_; rintro e w' ⟨rfl, rfl⟩)
  go_ret
  exact ⟨rfl, rfl⟩
set_option maxRecDepth 100000 in
theorem s3Dig_any (c : UInt8) (w : World) : Calls Tryd.prog 83 #[.int .u8 c.toNat] w fun e w' => e = .returned (.bool (digB c)) ∧ w = w' := by
  have hby : (c.toNat : Int) ≤ 255 := by have := c.toNat_lt; omega
  have h : ∀ w, Calls Tryd.prog 26 #[.int .i64 c.toNat, .int .i64 48, .int .i64 57] w fun e w' => e = .returned (.bool (digB c)) ∧ w = w' := fun w =>
    (sIn_any _ _ _ w).mono fun _ _ ⟨he, hw⟩ => ⟨by rw [he]; exact ret_bool (by unfold digB; congr 1; exact propext ⟨fun h => by omega, fun h => by omega⟩), hw⟩
  go_enter Tryd.func83, Tryd.ntmps83
  go_wp2_with (go_at_call 26; refine (h _).mono ?_; rintro e w' ⟨rfl, rfl⟩)
  go_ret
  exact ⟨rfl, rfl⟩
end Go.Proofs.YtdfapkceanicoaaDoor

/- CHAPTER 3, spec: l3Letter, l3Digit, l3Name, l3Mark. -/
namespace Go.Proofs.YtdfapkceanicoaaDoor
open Go.RowKit

theorem trim_eq (l : List UInt8) {c : UInt8} (h : c = 45) : Lib.trimRightB (l ++ [c]) 45 = Lib.trimRightB l 45 := by
  subst h; unfold Lib.trimRightB; rw [List.reverse_append]; rfl
theorem trim_ne (l : List UInt8) {c : UInt8} (h : c ≠ 45) : Lib.trimRightB (l ++ [c]) 45 = l ++ [c] := by
  unfold Lib.trimRightB; rw [List.reverse_append]
  have : (c == 45) = false := by simpa using h
  simp [List.dropWhile_cons, this]
theorem drop_get {s : ByteArray} {a j : Nat} (h : a + j < s.size) : (s.data.toList.drop a)[j]'(by rw [dlen]; omega) = s[a + j] := by
  rw [List.getElem_drop]; rfl
theorem tw_from {p : UInt8 → Bool} {s : ByteArray} {a k : Nat} (ha : a ≤ k) (hk : k ≤ s.size) (h : ∀ j (hj : j < s.size), a ≤ j → j < k → p s[j] = true) (he : ∀ hk : k < s.size, p s[k] = false) : (s.data.toList.drop a).takeWhile p = (s.data.toList.drop a).take (k - a) := by
  refine tw_list _ _ (by rw [dlen]; omega) (fun j hj hjk => ?_) (fun hk' => ?_)
  · rw [dlen] at hj
    rw [drop_get (by omega)]; exact h _ (by omega) (by omega) (by omega)
  · rw [dlen] at hk'
    rw [drop_get (by omega)]
    have := he (by omega)
    have e : a + (k - a) = k := by omega
    simp only [e]; exact this
theorem take_from {s : ByteArray} {a k : Nat} (ha : a ≤ k) (hk : k < s.size) : (s.data.toList.drop a).take (k + 1 - a) = (s.data.toList.drop a).take (k - a) ++ [s[k]] := by
  rw [show k + 1 - a = (k - a) + 1 by omega, List.take_succ_eq_append_getElem (by rw [dlen]; omega)]
  congr 2
  rw [drop_get (by omega)]
  have e : a + (k - a) = k := by omega
  simp only [e]
/-- how far the cutting off of '-' has come -/
def TrL (s : ByteArray) (a k : Nat) : Prop := nmLen (s.data.toList.drop a) = (Lib.trimRightB ((s.data.toList.drop a).take (k - a)) 45).length
theorem TrL.start {s : ByteArray} {a k : Nat} (ha : a ≤ k) (hk : k ≤ s.size) (h : ∀ j (hj : j < s.size), a ≤ j → j < k → nbB s[j] = true) (he : ∀ hk : k < s.size, nbB s[k] = false) : TrL s a k := by
  unfold TrL nmLen; rw [tw_from ha hk h he]
theorem TrL.cut {s : ByteArray} {a k : Nat} (h : TrL s a (k + 1)) (ha : a ≤ k) (hk : k < s.size) (hc : s[k] = 45) : TrL s a k := by
  unfold TrL at h ⊢; rw [h, take_from ha hk, trim_eq _ hc]
theorem TrL.done {s : ByteArray} {a k : Nat} (h : TrL s a (k + 1)) (ha : a ≤ k) (hk : k < s.size) (hc : s[k] ≠ 45) : (k : Int) + 1 = ((a + nmLen (s.data.toList.drop a) : Nat) : Int) := by
  unfold TrL at h; rw [h, take_from ha hk, trim_ne _ hc, List.length_append, List.length_take, dlen]; simp; omega
theorem nbB_of {c : UInt8} : nbB c = (letB c || digB c || c == 45) := rfl
set_option maxRecDepth 100000 in
set_option maxHeartbeats 1000000 in
theorem sName_any (s : ByteArray) (hs : s.size ≤ 1048576) (a : Nat) (ha : a < s.size) (hl : letB s[a] = true) (w : World) :
    Calls Tryd.prog 82 #[.string s, .int .i64 a] w fun e w' => e = .returned (.int .i64 ((a + nmLen (s.data.toList.drop a) : Nat) : Int)) ∧ w = w' := by
  have H45 := Lib.hid (letB_45 hl)
  have HNB := Lib.hid (letB_nb hl)
  clear hl
  go_enter Tryd.func82, Tryd.ntmps82
  go_wp2
  go_loop [5] (fun i => ∃ k : Nat, a ≤ k ∧ k ≤ s.size ∧ i = .int .i64 k ∧ Hid (∀ j (h : j < s.size), a ≤ j → j < k → nbB s[j] = true)) (fun i => s.size - (intOf i).toNat)
  case atStart => exact ⟨a, by omega, by omega, rfl, Lib.hid (fun _ _ _ h => by omega)⟩
  case round =>
    obtain ⟨k, hak, hk, rfl, HR⟩ := hrel
    by_cases hnb : ∃ h : k < s.size, nbB s[k] = true
    · obtain ⟨hlt, hb⟩ := hnb
      have HB := Lib.hid hb
      have HN := Lib.hid (fun j (h : j < s.size) (hj0 : a ≤ j) (hj : j < k + 1) => if he : j < k then HR.out j h hj0 he else (by
               obtain rfl : j = k := by omega
               exact hb : nbB s[j] = true))
      rw [nbB_of] at hb
      cases h1 : letB s[k]
      · cases h2 : digB s[k]
        · rw [h1, h2] at hb
          have h45 : ((s[k].toNat : Int) == 45) = true := by rw [show (45 : Int) = ((45 : UInt8).toNat : Int) from rfl, byte_beq]; simpa using hb
          clear hb
          go_wp2_with (first
            | (go_at_call 81; refine (s3Let_any _ _).mono ?_; rw [h1]; rintro e w' ⟨rfl, rfl⟩)
            | (go_at_call 83; refine (s3Dig_any _ _).mono ?_; rw [h2]; rintro e w' ⟨rfl, rfl⟩))
          go_round
          case rel => exact ⟨k + 1, by omega, by omega, by go_num, HN⟩
          case measure => simp [intOf]; omega
        · clear hb
          go_wp2_with (first
            | (go_at_call 81; refine (s3Let_any _ _).mono ?_; rw [h1]; rintro e w' ⟨rfl, rfl⟩)
            | (go_at_call 83; refine (s3Dig_any _ _).mono ?_; rw [h2]; rintro e w' ⟨rfl, rfl⟩))
          go_round
          case rel => exact ⟨k + 1, by omega, by omega, by go_num, HN⟩
          case measure => simp [intOf]; omega
      · clear hb
        go_wp2_with (go_at_call 81; refine (s3Let_any _ _).mono ?_; rw [h1]; rintro e w' ⟨rfl, rfl⟩)
        go_round
        case rel => exact ⟨k + 1, by omega, by omega, by go_num, HN⟩
        case measure => simp [intOf]; omega
    · have he : ∀ h : k < s.size, nbB s[k] = false := fun h => by
        cases hb : nbB s[k]
        · rfl
        · exact absurd ⟨h, hb⟩ hnb
      have HT := Lib.hid (TrL.start hak hk HR.out he)
      have hka : a < k := by
        rcases Nat.lt_or_ge a k with h | h
        · exact h
        · obtain rfl : a = k := by omega
          have h1 := HNB.out
          have h2 := he ha
          rw [h1] at h2; cases h2
      clear hnb HR
      by_cases hlt : k < s.size
      · have hb := he hlt
        rw [nbB_of] at hb
        simp only [Bool.or_eq_false_iff] at hb
        obtain ⟨⟨h1, h2⟩, h3⟩ := hb
        have h45 : ((s[k].toNat : Int) == 45) = false := by rw [show (45 : Int) = ((45 : UInt8).toNat : Int) from rfl, byte_beq]; exact h3
        clear he h3
        obtain ⟨q, rfl⟩ : ∃ q, k = q + 1 := ⟨k - 1, by omega⟩
        go_wp2_with (first
            | (go_at_call 81; refine (s3Let_any _ _).mono ?_; rw [h1]; rintro e w' ⟨rfl, rfl⟩)
            | (go_at_call 83; refine (s3Dig_any _ _).mono ?_; rw [h2]; rintro e w' ⟨rfl, rfl⟩))
        go_loop [5] (fun i => ∃ m : Nat, a ≤ m ∧ m < s.size ∧ i = .int .i64 ((m : Int) + 1) ∧ Hid (TrL s a (m + 1))) (fun i => (intOf i).toNat)
        case atStart => exact ⟨q, by omega, by omega, by go_num, HT⟩
        case round =>
          clear HT
          obtain ⟨m, ham, hm, rfl, HM⟩ := hrel
          by_cases hc : s[m] = 45
          · have t1 : ((s[m].toNat : Int) == 45) = true := byte_on hc
            have hne : a ≠ m := by rintro rfl; exact H45.out hc
            have HC := Lib.hid (HM.out.cut ham hm hc)
            clear hc
            obtain ⟨m', rfl⟩ : ∃ m', m = m' + 1 := ⟨m - 1, by omega⟩
            go_wp2
            go_round
            case rel => exact ⟨m', by omega, by omega, by go_num, HC⟩
            case measure => simp [intOf]; omega
          · have t1 : ((s[m].toNat : Int) == 45) = false := byte_ne (d := 45) hc
            have HC := Lib.hid (HM.out.done ham hm hc)
            clear hc
            go_wp2
            go_ret
            exact ⟨ret_int HC.out, rfl⟩
      · obtain ⟨q, rfl⟩ : ∃ q, k = q + 1 := ⟨k - 1, by omega⟩
        go_wp2
        go_loop [5] (fun i => ∃ m : Nat, a ≤ m ∧ m < s.size ∧ i = .int .i64 ((m : Int) + 1) ∧ Hid (TrL s a (m + 1))) (fun i => (intOf i).toNat)
        case atStart => exact ⟨q, by omega, by omega, by go_num, HT⟩
        case round =>
          clear HT
          obtain ⟨m, ham, hm, rfl, HM⟩ := hrel
          by_cases hc : s[m] = 45
          · have t1 : ((s[m].toNat : Int) == 45) = true := byte_on hc
            have hne : a ≠ m := by rintro rfl; exact H45.out hc
            have HC := Lib.hid (HM.out.cut ham hm hc)
            clear hc
            obtain ⟨m', rfl⟩ : ∃ m', m = m' + 1 := ⟨m - 1, by omega⟩
            go_wp2
            go_round
            case rel => exact ⟨m', by omega, by omega, by go_num, HC⟩
            case measure => simp [intOf]; omega
          · have t1 : ((s[m].toNat : Int) == 45) = false := byte_ne (d := 45) hc
            have HC := Lib.hid (HM.out.done ham hm hc)
            clear hc
            go_wp2
            go_ret
            exact ⟨ret_int HC.out, rfl⟩
theorem mk2_at {s : ByteArray} {a : Nat} (h : a + 2 ≤ s.size) : mk2 (s.data.toList.drop a) = ((s.extract a (a + 2)).toList == [33, 61] || (s.extract a (a + 2)).toList == [60, 61] || (s.extract a (a + 2)).toList == [62, 61] || (s.extract a (a + 2)).toList == [46, 46]) := by
  rw [Lib.toList_data, Lib.extract_data, show a + 2 - a = 2 by omega]
  have hl := dlen s a
  match s.data.toList.drop a, hl with
  | [], hl => simp at hl; omega
  | [_], hl => simp at hl; omega
  | c :: d :: r, _ =>
    have e : ∀ a b : UInt8, ([c, d] == [a, b]) = (c == a && d == b) := fun a b => by
      rw [Bool.eq_iff_iff]; simp
    simp only [List.take_succ_cons, List.take_zero, e]
    rfl
theorem ex_take (s : ByteArray) (a n : Nat) : s.extract a (a + n) = ⟨((s.data.toList.drop a).take n).toArray⟩ := ba_of (by rw [Lib.extract_data]; congr 1; omega)
theorem mk_loop {s : ByteArray} {a k : Nat} (h : a < s.size) (hm : mk2 (s.data.toList.drop a) = false) (hk : k < marks1.length) (he : s[a] = marks1[k]) : mkLen (s.data.toList.drop a) = 1 := by
  rw [data_drop s a h] at hm ⊢
  rw [mkLen_one hm, if_pos]
  rw [List.contains_iff_mem, he]
  exact List.getElem_mem hk
theorem mk_none {s : ByteArray} {a : Nat} (h : a < s.size) (hm : mk2 (s.data.toList.drop a) = false) (he : ∀ j (hj : j < marks1.length), s[a] ≠ marks1[j]) : mkLen (s.data.toList.drop a) = 0 := by
  rw [data_drop s a h] at hm ⊢
  rw [mkLen_one hm, if_neg]
  rw [List.contains_iff_mem]
  intro hx
  obtain ⟨j, hj, e⟩ := List.getElem_of_mem hx
  exact he j hj e.symm
theorem below_drewN' {B : Nat} {a w : World} (h : Below B a w) (q : Nat) : Below B a (w.drewN q) := ⟨h.os, h.tape, h.output, h.size, h.block⟩
set_option maxRecDepth 100000 in
set_option maxHeartbeats 1000000 in
theorem sMark_one (s : ByteArray) (hs : s.size ≤ 1048576) (a : Nat) (ha : a < s.size) (hm : mk2 (s.data.toList.drop a) = false) (w : World) :
    Calls Tryd.prog 86 #[.string s, .int .i64 a] w fun e w' => e = .returned (.string ⟨((s.data.toList.drop a).take (mkLen (s.data.toList.drop a))).toArray⟩) ∧ Below w.heap.size w w' := by
  have HM := Lib.hid hm
  by_cases h2 : a + 2 ≤ s.size
  · have hx := mk2_at h2
    rw [hm] at hx
    have hx' := hx.symm
    simp only [Bool.or_eq_false_iff] at hx'
    obtain ⟨⟨⟨h1, h2'⟩, h3⟩, h4⟩ := hx'
    clear hx hm
    go_enter Tryd.func86, Tryd.ntmps86
    go_wp2
    go_loopw [5] (fun i wr => ∃ k : Nat, k ≤ 18 ∧ i = .int .i64 k ∧ Hid (∀ j (hj : j < marks1.length), j < k → s[a] ≠ marks1[j]) ∧ Below w.heap.size w wr) (fun i _ => 18 - (intOf i).toNat)
    case atStart => exact ⟨0, by omega, rfl, Lib.hid (fun _ _ h => by omega), Below.refl _ _⟩
    case round =>
      obtain ⟨k, hk, rfl, HR, hbel⟩ := hrel
      by_cases hlt : k < 18
      · have hlt' : k < marks1.length := hlt
        by_cases he : s[a] = marks1[k]
        · have t1 : ((s[a].toNat : Int) == (((⟨#[123, 125, 59, 91, 93, 40, 41, 60, 62, 61, 43, 45, 47, 124, 46, 44, 36, 58]⟩ : ByteArray)[k]'hlt).toNat : Int)) = true := byte_on (d := (⟨#[123, 125, 59, 91, 93, 40, 41, 60, 62, 61, 43, 45, 47, 124, 46, 44, 36, 58]⟩ : ByteArray)[k]'hlt) he
          have HE := Lib.hid (mk_loop ha HM.out hlt' he)
          have HX := Lib.hid (ex_take s a 1)
          clear he
          go_wp2
          go_quiet (fail)
          go_wp2
          go_ret
          exact ⟨ret_str (by rw [HE.out]; exact HX.out), below_drewN' hbel _⟩
        · have t1 : ((s[a].toNat : Int) == (((⟨#[123, 125, 59, 91, 93, 40, 41, 60, 62, 61, 43, 45, 47, 124, 46, 44, 36, 58]⟩ : ByteArray)[k]'hlt).toNat : Int)) = false := byte_ne (d := (⟨#[123, 125, 59, 91, 93, 40, 41, 60, 62, 61, 43, 45, 47, 124, 46, 44, 36, 58]⟩ : ByteArray)[k]'hlt) he
          have HN := Lib.hid (fun j (hj : j < marks1.length) (hjk : j < k + 1) => if h : j < k then HR.out j hj h else (by
            obtain rfl : j = k := by omega
            exact he : s[a] ≠ marks1[j]))
          clear he
          go_wp2
          go_quiet (fail)
          go_wp2
          go_roundw
          case rel => exact ⟨k + 1, by omega, by go_num, HN, below_drewN' hbel _⟩
          case measure => simp [intOf]; omega
      · have HE := Lib.hid (mk_none ha HM.out (fun j hj => HR.out j hj (by have e : marks1.length = 18 := rfl; omega)))
        go_wp2
        go_ret
        exact ⟨ret_str (by rw [HE.out]; rfl), hbel⟩
  · go_enter Tryd.func86, Tryd.ntmps86
    go_wp2
    go_loopw [5] (fun i wr => ∃ k : Nat, k ≤ 18 ∧ i = .int .i64 k ∧ Hid (∀ j (hj : j < marks1.length), j < k → s[a] ≠ marks1[j]) ∧ Below w.heap.size w wr) (fun i _ => 18 - (intOf i).toNat)
    case atStart => exact ⟨0, by omega, rfl, Lib.hid (fun _ _ h => by omega), Below.refl _ _⟩
    case round =>
      obtain ⟨k, hk, rfl, HR, hbel⟩ := hrel
      by_cases hlt : k < 18
      · have hlt' : k < marks1.length := hlt
        by_cases he : s[a] = marks1[k]
        · have t1 : ((s[a].toNat : Int) == (((⟨#[123, 125, 59, 91, 93, 40, 41, 60, 62, 61, 43, 45, 47, 124, 46, 44, 36, 58]⟩ : ByteArray)[k]'hlt).toNat : Int)) = true := byte_on (d := (⟨#[123, 125, 59, 91, 93, 40, 41, 60, 62, 61, 43, 45, 47, 124, 46, 44, 36, 58]⟩ : ByteArray)[k]'hlt) he
          have HE := Lib.hid (mk_loop ha HM.out hlt' he)
          have HX := Lib.hid (ex_take s a 1)
          clear he
          go_wp2
          go_quiet (fail)
          go_wp2
          go_ret
          exact ⟨ret_str (by rw [HE.out]; exact HX.out), below_drewN' hbel _⟩
        · have t1 : ((s[a].toNat : Int) == (((⟨#[123, 125, 59, 91, 93, 40, 41, 60, 62, 61, 43, 45, 47, 124, 46, 44, 36, 58]⟩ : ByteArray)[k]'hlt).toNat : Int)) = false := byte_ne (d := (⟨#[123, 125, 59, 91, 93, 40, 41, 60, 62, 61, 43, 45, 47, 124, 46, 44, 36, 58]⟩ : ByteArray)[k]'hlt) he
          have HN := Lib.hid (fun j (hj : j < marks1.length) (hjk : j < k + 1) => if h : j < k then HR.out j hj h else (by
            obtain rfl : j = k := by omega
            exact he : s[a] ≠ marks1[j]))
          clear he
          go_wp2
          go_quiet (fail)
          go_wp2
          go_roundw
          case rel => exact ⟨k + 1, by omega, by go_num, HN, below_drewN' hbel _⟩
          case measure => simp [intOf]; omega
      · have HE := Lib.hid (mk_none ha HM.out (fun j hj => HR.out j hj (by have e : marks1.length = 18 := rfl; omega)))
        go_wp2
        go_ret
        exact ⟨ret_str (by rw [HE.out]; rfl), hbel⟩
set_option maxRecDepth 100000 in
set_option maxHeartbeats 1000000 in
theorem sMark_two (s : ByteArray) (hs : s.size ≤ 1048576) (a : Nat) (ha : a < s.size) (hm : mk2 (s.data.toList.drop a) = true) (w : World) :
    Calls Tryd.prog 86 #[.string s, .int .i64 a] w fun e w' => e = .returned (.string ⟨((s.data.toList.drop a).take (mkLen (s.data.toList.drop a))).toArray⟩) ∧ Below w.heap.size w w' := by
  have h2 : a + 2 ≤ s.size := by
    rcases Nat.lt_or_ge s.size (a + 2) with h | h
    · rw [mk2_short (by rw [dlen]; omega)] at hm; cases hm
    · exact h
  have hx := mk2_at h2
  rw [hm] at hx
  have HX : Hid (s.extract a (a + 2) = ⟨((s.data.toList.drop a).take (mkLen (s.data.toList.drop a))).toArray⟩) := Lib.hid (by rw [mkLen_two hm]; exact ex_take s a 2)
  clear hm
  cases h1 : ((s.extract a (a + 2)).toList == [33, 61])
  · cases h2 : ((s.extract a (a + 2)).toList == [60, 61])
    · cases h3 : ((s.extract a (a + 2)).toList == [62, 61])
      · cases h4 : ((s.extract a (a + 2)).toList == [46, 46])
        · rw [h1, h2, h3, h4] at hx; cases hx
        · clear hx
          go_enter Tryd.func86, Tryd.ntmps86
          go_wp2
          go_ret
          exact ⟨ret_str HX.out, Below.refl _ _⟩
      · clear hx
        go_enter Tryd.func86, Tryd.ntmps86
        go_wp2
        go_ret
        exact ⟨ret_str HX.out, Below.refl _ _⟩
    · clear hx
      go_enter Tryd.func86, Tryd.ntmps86
      go_wp2
      go_ret
      exact ⟨ret_str HX.out, Below.refl _ _⟩
  · clear hx
    go_enter Tryd.func86, Tryd.ntmps86
    go_wp2
    go_ret
    exact ⟨ret_str HX.out, Below.refl _ _⟩
theorem sMark_any (s : ByteArray) (hs : s.size ≤ 1048576) (a : Nat) (ha : a < s.size) (w : World) :
    Calls Tryd.prog 86 #[.string s, .int .i64 a] w fun e w' => e = .returned (.string ⟨((s.data.toList.drop a).take (mkLen (s.data.toList.drop a))).toArray⟩) ∧ Below w.heap.size w w' := by
  cases hm : mk2 (s.data.toList.drop a)
  · exact sMark_one s hs a ha hm w
  · exact sMark_two s hs a ha hm w
end Go.Proofs.YtdfapkceanicoaaDoor

/- CHAPTER 3, impl: readToken. -/
namespace Go.Proofs.YtdfapkceanicoaaDoor
open Go.RowKit

theorem box3f {w w1 : World} {v0 v1 v2 : Value} {t : TypeId} (h : Below (w.alloc (.cells #[v0, v1, v2] t)).heap.size (w.alloc (.cells #[v0, v1, v2] t)) w1) :
    (w1.cell? ⟨w.heap.size, 0, none⟩ = some v0 ∧ w1.cell? ⟨w.heap.size, 1, none⟩ = some v1 ∧ w1.cell? ⟨w.heap.size, 2, none⟩ = some v2) ∧
    w1.frozen? ⟨w.heap.size, 0, none⟩ = false ∧ w1.frozen? ⟨w.heap.size, 1, none⟩ = false ∧ w1.frozen? ⟨w.heap.size, 2, none⟩ = false := by
  have hl : w.heap.size < (w.alloc (.cells #[v0, v1, v2] t)).heap.size := by simp
  have hf : ∀ j, w1.frozen? ⟨w.heap.size, j, none⟩ = false := fun j => by
    rw [h.frozen (p := ⟨w.heap.size, j, none⟩) hl]
    unfold World.frozen?
    dsimp only
    rw [heap_alloc_new]
    simp
  exact ⟨box3 h, hf 0, hf 1, hf 2⟩
set_option maxRecDepth 100000 in
set_option maxHeartbeats 1000000 in
theorem iTok_some (s : ByteArray) (hs : s.size ≤ 1048576) (a : Nat) (ha : a < s.size) (k : Int) (t : List UInt8) (z : Nat) (h : tokL (s.data.toList.drop a) = some (k, t, z)) (w : World) :
    Calls Tryd.prog 40 #[.string s, .int .i64 a] w fun e w' => e = .returned (.tuple #[.agg #[.int .i64 k, .string ⟨t.toArray⟩, .int .i64 a], .int .i64 z]) ∧ Below w.heap.size w w' := by
  have hr : (s.extract a s.size).data.toList = s.data.toList.drop a := Lib.extract_to_end s a
  have hz : (s.extract a s.size).size = s.size - a := by simp
  have h0 : 0 < (s.extract a s.size).size := by omega
  have hc := data_cons _ h0
  have h' := h
  rw [← hr, hc] at h'
  have hle : (s.extract a s.size).size ≤ 1048576 := by omega
  cases h1 : letB (s.extract a s.size)[0]
  · cases h2 : digB (s.extract a s.size)[0]
    · by_cases h3 : (s.extract a s.size)[0] = 34
      · have t3 : (((s.extract a s.size)[0].toNat : Int) == 34) = true := byte_on h3
        rw [tokL_quo h3] at h'
        have C := iReadQ_any _ hle
        rw [quotedAt_is h0 h3] at C
        cases hq : rdq ((s.extract a s.size).data.toList.drop 1) with
        | none => rw [hq] at h'; cases h'
        | some p =>
          rw [show (0 : Nat) + 1 = 1 from rfl, hq] at C
          rw [hq] at h'
          cases h'
          have hsh := rdq_short _ _ p.1 p.2 (Nat.le_refl _) hq
          rw [hr, List.drop_drop, dlen] at hsh
          have e0 : ((s.extract a s.size).data.toList.drop 1).length + 1 - p.2.length = s.size - a - p.2.length := by rw [hr, List.drop_drop, dlen]; omega
          rw [e0]
          simp only [Option.map_some, readV, hz] at C
          generalize s.size - a - p.2.length = n at C ⊢
          clear hq hr hc h e0 h3
          go_enter Tryd.func40, Tryd.ntmps40
          go_wp2_with (first
            | (go_at_call 66; refine (iLet_any _ _).mono ?_; rw [h1]; rintro e w' ⟨rfl, rfl⟩)
            | (go_at_call 68; refine (iDigB_any _ _).mono ?_; rw [h2]; rintro e w' ⟨rfl, rfl⟩)
            | (go_at_call 70; refine (C _).mono ?_; rintro e w' ⟨rfl, hb⟩; obtain ⟨⟨c0, c1, c2⟩, f0, f1, f2⟩ := box3f hb))
          exact bodyPost_ret (v := .tuple #[.agg #[.int .i64 3, .string ⟨p.1.toArray⟩, .int .i64 a], .int .i64 n]) (by simp [results, Tryd.results40, go_sem, c0, c1, c2]) rfl ⟨rfl, (((below_step (below_al (Below.refl _ _) _) hb).setCell (Nat.le_refl _) _).setCell (Nat.le_refl _) _).setCell (Nat.le_refl _) _⟩
      · have t3 : (((s.extract a s.size)[0].toNat : Int) == 34) = false := byte_ne (d := 34) h3
        by_cases h4 : mkLen ((s.extract a s.size)[0] :: (s.extract a s.size).data.toList.drop 1) = 0
        · rw [tokL_non h1 h2 h3 h4] at h'; cases h'
        · rw [tokL_mrk h1 h2 h3 h4, ← hc, hr] at h'
          cases h'
          have C := iMark_any _ hle h0
          rw [hr] at C
          have hnl := mkLen_le (s.data.toList.drop a)
          rw [dlen] at hnl
          have ht : Hid (∀ n, (s.extract a s.size).extract 0 n = ⟨((s.data.toList.drop a).take n).toArray⟩) := Lib.hid fun n => ba_of (by rw [Lib.extract_data, hr]; simp)
          clear hr hc h h3 h4
          generalize mkLen (s.data.toList.drop a) = n at C hnl ⊢
          go_enter Tryd.func40, Tryd.ntmps40
          go_wp2_with (first
            | (go_at_call 66; refine (iLet_any _ _).mono ?_; rw [h1]; rintro e w' ⟨rfl, rfl⟩)
            | (go_at_call 68; refine (iDigB_any _ _).mono ?_; rw [h2]; rintro e w' ⟨rfl, rfl⟩)
            | (go_at_call 71; refine (C _).mono ?_; rintro e w' ⟨rfl, rfl⟩))
          exact bodyPost_ret (v := .tuple #[.agg #[.int .i64 4, .string ((s.extract a s.size).extract 0 n), .int .i64 a], .int .i64 n]) (by simp [results, Tryd.results40, go_sem]) rfl ⟨by rw [ht.out], below_al (Below.refl _ _) _⟩
    · rw [tokL_dig h1 h2, ← hc, hr] at h'
      cases h'
      have C := iNumSize_any _ hle
      rw [hr] at C
      have hnl := dgLen_le (s.data.toList.drop a)
      rw [dlen] at hnl
      have ht : Hid (∀ n, (s.extract a s.size).extract 0 n = ⟨((s.data.toList.drop a).take n).toArray⟩) := Lib.hid fun n => ba_of (by rw [Lib.extract_data, hr]; simp)
      clear hr hc h
      generalize dgLen (s.data.toList.drop a) = n at C hnl ⊢
      go_enter Tryd.func40, Tryd.ntmps40
      go_wp2_with (first
        | (go_at_call 66; refine (iLet_any _ _).mono ?_; rw [h1]; rintro e w' ⟨rfl, rfl⟩)
        | (go_at_call 68; refine (iDigB_any _ _).mono ?_; rw [h2]; rintro e w' ⟨rfl, rfl⟩)
        | (go_at_call 69; refine (C _).mono ?_; rintro e w' ⟨rfl, rfl⟩))
      exact bodyPost_ret (v := .tuple #[.agg #[.int .i64 2, .string ((s.extract a s.size).extract 0 n), .int .i64 a], .int .i64 n]) (by simp [results, Tryd.results40, go_sem]) rfl ⟨by rw [ht.out], below_al (Below.refl _ _) _⟩
  · rw [tokL_let h1, ← hc, hr] at h'
    cases h'
    have C := iNameSize_any _ hle
    rw [hr] at C
    have hnl := nmLen_le (s.data.toList.drop a)
    rw [dlen] at hnl
    have ht : Hid (∀ n, (s.extract a s.size).extract 0 n = ⟨((s.data.toList.drop a).take n).toArray⟩) := Lib.hid fun n => ba_of (by rw [Lib.extract_data, hr]; simp)
    clear hr hc h
    generalize nmLen (s.data.toList.drop a) = n at C hnl ⊢
    go_enter Tryd.func40, Tryd.ntmps40
    go_wp2_with (first
      | (go_at_call 66; refine (iLet_any _ _).mono ?_; rw [h1]; rintro e w' ⟨rfl, rfl⟩)
      | (go_at_call 67; refine (C _).mono ?_; rintro e w' ⟨rfl, rfl⟩))
    exact bodyPost_ret (v := .tuple #[.agg #[.int .i64 1, .string ((s.extract a s.size).extract 0 n), .int .i64 a], .int .i64 n]) (by simp [results, Tryd.results40, go_sem]) rfl ⟨by rw [ht.out], below_al (Below.refl _ _) _⟩
set_option maxRecDepth 100000 in
set_option maxHeartbeats 1000000 in
theorem iTok_none (s : ByteArray) (hs : s.size ≤ 1048576) (a : Nat) (ha : a < s.size) (h : tokL (s.data.toList.drop a) = none) (w : World) :
    Calls Tryd.prog 40 #[.string s, .int .i64 a] w fun e w' => (∃ (k : Int) (t : ByteArray), e = .returned (.tuple #[.agg #[.int .i64 k, .string t, .int .i64 a], .int .i64 0])) ∧ Below w.heap.size w w' := by
  have hr : (s.extract a s.size).data.toList = s.data.toList.drop a := Lib.extract_to_end s a
  have hz : (s.extract a s.size).size = s.size - a := by simp
  have h0 : 0 < (s.extract a s.size).size := by omega
  have hc := data_cons _ h0
  have h' := h
  rw [← hr, hc] at h'
  have hle : (s.extract a s.size).size ≤ 1048576 := by omega
  cases h1 : letB (s.extract a s.size)[0]
  · cases h2 : digB (s.extract a s.size)[0]
    · by_cases h3 : (s.extract a s.size)[0] = 34
      · have t3 : (((s.extract a s.size)[0].toNat : Int) == 34) = true := byte_on h3
        rw [tokL_quo h3] at h'
        have C := iReadQ_any _ hle
        rw [quotedAt_is h0 h3] at C
        cases hq : rdq ((s.extract a s.size).data.toList.drop 1) with
        | some p => rw [hq] at h'; cases h'
        | none =>
          rw [show (0 : Nat) + 1 = 1 from rfl, hq] at C
          simp only [Option.map_none, readV] at C
          clear hq hr hc h h3 h'
          go_enter Tryd.func40, Tryd.ntmps40
          go_wp2_with (first
            | (go_at_call 66; refine (iLet_any _ _).mono ?_; rw [h1]; rintro e w' ⟨rfl, rfl⟩)
            | (go_at_call 68; refine (iDigB_any _ _).mono ?_; rw [h2]; rintro e w' ⟨rfl, rfl⟩)
            | (go_at_call 70; refine (C _).mono ?_; rintro e w' ⟨rfl, hb⟩; obtain ⟨⟨c0, c1, c2⟩, f0, f1, f2⟩ := box3f hb))
          exact bodyPost_ret (v := .tuple #[.agg #[.int .i64 3, .string ⟨#[]⟩, .int .i64 a], .int .i64 0]) (by simp [results, Tryd.results40, go_sem, c0, c1, c2]) rfl ⟨⟨_, _, rfl⟩, (((below_step (below_al (Below.refl _ _) _) hb).setCell (Nat.le_refl _) _).setCell (Nat.le_refl _) _).setCell (Nat.le_refl _) _⟩
      · have t3 : (((s.extract a s.size)[0].toNat : Int) == 34) = false := byte_ne (d := 34) h3
        by_cases h4 : mkLen ((s.extract a s.size)[0] :: (s.extract a s.size).data.toList.drop 1) = 0
        · have C := iMark_any _ hle h0
          rw [hc, h4] at C
          clear hr hc h h3 h4 h'
          go_enter Tryd.func40, Tryd.ntmps40
          go_wp2_with (first
            | (go_at_call 66; refine (iLet_any _ _).mono ?_; rw [h1]; rintro e w' ⟨rfl, rfl⟩)
            | (go_at_call 68; refine (iDigB_any _ _).mono ?_; rw [h2]; rintro e w' ⟨rfl, rfl⟩)
            | (go_at_call 71; refine (C _).mono ?_; rintro e w' ⟨rfl, rfl⟩))
          exact bodyPost_ret (v := .tuple #[.agg #[.int .i64 4, .string ((s.extract a s.size).extract 0 0), .int .i64 a], .int .i64 0]) (by simp [results, Tryd.results40, go_sem]) rfl ⟨⟨_, _, rfl⟩, below_al (Below.refl _ _) _⟩
        · rw [tokL_mrk h1 h2 h3 h4] at h'; cases h'
    · rw [tokL_dig h1 h2] at h'; cases h'
  · rw [tokL_let h1] at h'; cases h'
end Go.Proofs.YtdfapkceanicoaaDoor

/- CHAPTER 3, impl: Lex. -/
namespace Go.Proofs.YtdfapkceanicoaaDoor
open Go.RowKit

theorem heap_new1' (w : World) (o1 o2 : Obj) : ((w.alloc o1).alloc o2).heap[w.heap.size + 1]? = some o2 := by
  have h := heap_alloc_new (w.alloc o1) o2
  have e : (w.alloc o1).heap.size = w.heap.size + 1 := by simp
  rwa [e] at h
theorem iSkip_add (s : ByteArray) (hs : s.size ≤ 1048576) (a z : Nat) (ha : a + z ≤ s.size) (w : World) :
    Calls Tryd.prog 39 #[.string s, .int .i64 ((a : Int) + (z : Int))] w fun e w' => e = .returned (.int .i64 (skE s (a + z))) ∧ w = w' := by
  have h := iSkip_any s hs (a + z) ha w
  rwa [Int.natCast_add] at h
set_option maxRecDepth 100000 in
set_option maxHeartbeats 1000000 in
theorem iLex_any (s : ByteArray) (hs : s.size ≤ 1048576) (T : List Tok) (e : Option Nat) (hL : Lx s.size s.data.toList T e) (w : World) :
    Calls Tryd.prog 19 #[.string s] w fun en w' => ∃ v, en = .returned (.tuple #[v, .int .i64 (lexI e)]) ∧ RowT w.heap.size w' v (lexT T e) ∧ Below w.heap.size w w' := by
  have H0 := Lib.hid (Sf.past (Nat.zero_le _) (Sf.start hL))
  have HS0 := Lib.hid (skE_stop (s := s) (Nat.zero_le _))
  have hk0 := skE_le s 0
  clear hL
  have C0 := iSkip_any s hs 0 (Nat.zero_le _)
  generalize skE s 0 = k0 at H0 HS0 hk0 C0
  go_enter Tryd.func19, Tryd.ntmps19
  go_wp2_with (go_at_call 39; refine (C0 _).mono ?_; rintro e w' ⟨rfl, rfl⟩)
  go_loopw [4, 5] (fun v i wr => ∃ (k g c n : Nat) (acc T' : List Tok), k ≤ s.size ∧ n ≤ k ∧ i = .int .i64 k ∧ v = .slice (some ⟨g, 0, none⟩) n c ∧ RowT w.heap.size wr (.slice (some ⟨g, 0, none⟩) n c) acc ∧ Hid (skip false (s.data.toList.drop k) = s.data.toList.drop k) ∧ Hid (Sf s k acc T' T e) ∧ Below w.heap.size w wr) (fun _ i _ => s.size - (intOf i).toNat)
  case atStart => exact ⟨k0, w.heap.size, 0, 0, [], T, hk0, Nat.zero_le _, rfl, rfl, rowR_empty (heap_alloc_new w _) (Nat.le_refl _), HS0, H0, below_al (Below.refl _ _) _⟩
  case round =>
    clear H0 HS0 hk0 C0
    obtain ⟨k, g, c, n, acc, T', hk, hnk, rfl, rfl, hrow, HS, HF, hbel⟩ := hrel
    by_cases hlt : k < s.size
    · rcases HF.out.parts hlt HS.out with ⟨h1, rfl, rfl⟩ | ⟨kd, t, z, T2, h1, hz0, hz1, ht, h2⟩
      · have C := iTok_none s hs k hlt h1
        clear h1 HF
        go_wp2_with (go_at_call 40; refine (C _).mono ?_; rintro e w1 ⟨⟨kd, t, rfl⟩, hb1⟩)
        go_ret2
        have hbel1 := below_step hbel hb1
        exact ⟨_, rfl, rowR_empty (heap_new1' _ _ _) (Nat.le_trans hbel1.size (Nat.le_succ _)), below_al (below_al hbel1 _) _⟩
      · have C := iTok_some s hs k hlt kd t z h1
        have D := iSkip_add s hs k z hz1
        have hne : ((z : Int) == 0) = false := by simp only [beq_eq_false_iff_ne, ne_eq]; omega
        have hle := skE_le s (k + z)
        have hge := skE_ge (s := s) hz1
        have HS2 := Lib.hid (skE_stop (s := s) hz1)
        have HF2 := Lib.hid (Sf.past hz1 h2)
        generalize skE s (k + z) = k2 at D hle hge HS2 HF2
        clear h1 HF h2
        go_wp2_with (first
          | (go_at_call 40; refine (C _).mono ?_; rintro e w1 ⟨rfl, hb1⟩; have hrow1 := RowR.alloc (RowR.below hrow hb1) (.cells #[.int .i64 kd, .string ⟨t.toArray⟩, .int .i64 k] 70); have hbel1 := below_al (below_step hbel hb1) (.cells #[.int .i64 kd, .string ⟨t.toArray⟩, .int .i64 k] 70); have hgB := (RowR.lt hrow rfl).1; clear hrow hb1)
          | (at_builtin; refine wpList_tok_append rfl _ _ rfl w.heap.size g n c _ rfl hrow1 ⟨kd, ⟨t.toArray⟩, k⟩ _ rfl (by simp) (by omega) hbel1.size (n + 1) rfl ?_; clear hrow1; intro g' c'' w2 hrow2 hg2)
          | (go_at_call 39; refine (D _).mono ?_; rintro e w' ⟨rfl, rfl⟩))
        go_roundw
        case rel => exact ⟨k2, g', c'', n + 1, _, T2, hle, by omega, rfl, rfl, hrow2, HS2, HF2, (below_al hbel1 _).grown hg2 (below_al hbel1 _).size (fun _ h => by cases h; exact hgB)⟩
        case measure => simp [intOf]; omega
    · obtain ⟨rfl, rfl⟩ := HF.out.done (by omega)
      go_wp2
      go_ret2
      exact ⟨_, rfl, hrow, hbel⟩
end Go.Proofs.YtdfapkceanicoaaDoor
