/- MERGED for a claim: LexA LexB LexC. -/
import Derived.Test.YtkifdbeklagelaaGreatDoorLexP
import Derived.Test.YtkifdbeklagelaaGreatDoorName
import Derived.Test.YtkifdbeklagelaaGreatDoorShelf
import Derived.Deep.LoopGhost
import Derived.WalkMore
import Derived.BigQuiet
import Derived.Deep.QuietTactic
import Derived.Lib.IndexBytes
set_option linter.unusedVariables false
set_option linter.unusedSimpArgs false
/- CHAPTER 3, impl: skipBlanks, nameSize, numberSize, markSize. -/
namespace Go.Proofs.YtkifdbeklagelaaGreatDoor
open Go.RowKit

theorem ba_of {x : ByteArray} {l : List UInt8} (h : x.data.toList = l) : x = ⟨l.toArray⟩ := by
  apply ByteArray.ext
  rw [← h]
theorem byte_on {c d : UInt8} (h : c = d) : ((c.toNat : Int) == (d.toNat : Int)) = true := by rw [h]; simp
theorem skip_done {s : ByteArray} {R : List UInt8} {k : Nat} (h : skip false (s.data.toList.drop k) = R) (hk : s.size ≤ k) : R = [] := by
  rw [← h, List.drop_eq_nil_of_le (by simp; omega), skip_nil]
set_option maxRecDepth 100000 in
set_option maxHeartbeats 1000000 in
theorem iSkip_any (s : ByteArray) (hs : s.size ≤ 1048576) (a : Nat) (ha : a ≤ s.size) (w : World) :
    Calls Tryz.prog 71 #[.string s, .int .i64 a] w fun e w' => e = .returned (.int .i64 (skE s a)) ∧ w = w' := by
  obtain ⟨R, hR⟩ : ∃ R, R = skip false (s.data.toList.drop a) := ⟨_, rfl⟩
  have HE : Hid (skE s a = s.size - R.length) := Lib.hid (by unfold skE; rw [hR])
  have HR0 := Lib.hid hR.symm
  clear hR
  go_enter Tryz.func71, Tryz.ntmps71
  go_wp2
  go_step3
  go_wp2
  go_step3
  go_wp2
  go_loopg [1] (s.size - a) (fun g i wx => ∃ k : Nat, k + g = s.size ∧ i = .int .i64 k ∧ Hid (skip false (s.data.toList.drop k) = R) ∧ wx = w)
  case atStart => exact ⟨a, by omega, rfl, HR0, rfl⟩
  case round =>
    obtain ⟨k, hk, rfl, HR, rfl⟩ := hrel
    by_cases hlt : k < s.size
    · have hd := data_drop s k hlt
      by_cases h32 : s[k] = 32
      · have t1 : ((s[k].toNat : Int) == 32) = true := byte_on h32
        have HN : Hid (skip false (s.data.toList.drop (k + 1)) = R) := Lib.hid (by rw [← HR.out, hd, skip_blank (.inl h32)])
        clear hd h32
        go_wp2
        go_roundg (gk - 1)
        case rel => exact ⟨k + 1, by omega, by go_num, HN, rfl⟩
        case measure => omega
      · by_cases h10 : s[k] = 10
        · have t1 : ((s[k].toNat : Int) == 32) = false := byte_ne (d := 32) h32
          have t2 : ((s[k].toNat : Int) == 10) = true := byte_on h10
          have HN : Hid (skip false (s.data.toList.drop (k + 1)) = R) := Lib.hid (by rw [← HR.out, hd, skip_blank (.inr h10)])
          clear hd h32 h10
          go_wp2
          go_roundg (gk - 1)
          case rel => exact ⟨k + 1, by omega, by go_num, HN, rfl⟩
          case measure => omega
        · by_cases h35 : s[k] = 35
          · have t1 : ((s[k].toNat : Int) == 32) = false := byte_ne (d := 32) h32
            have t2 : ((s[k].toNat : Int) == 10) = false := byte_ne (d := 10) h10
            have t3 : ((s[k].toNat : Int) == 35) = true := byte_on h35
            have HN : Hid (skip true (s.data.toList.drop k) = R) := Lib.hid (by rw [← HR.out, hd, skip_hash h35])
            clear hd h32 h10 h35
            go_wp2
            obtain ⟨wo, rfl⟩ : ∃ wo : World, wo = wr := ⟨_, rfl⟩
            obtain ⟨G, rfl⟩ : ∃ G : Nat, G = gk := ⟨_, rfl⟩
            go_loopg [1] (s.size - k) (fun g i wx => ∃ j : Nat, k ≤ j ∧ j + g = s.size ∧ j < s.size ∧ i = .int .i64 j ∧ Hid (skip true (s.data.toList.drop j) = R) ∧ wx = wo)
            case atStart => exact ⟨k, by omega, by omega, by omega, rfl, HN, rfl⟩
            case round =>
              clear HN t1 t2 t3
              obtain ⟨j, hkj, hj, hjl, rfl, HJ, rfl⟩ := hrel
              have hd := data_drop s j hjl
              by_cases h10 : s[j] = 10
              · have t1 : ((s[j].toNat : Int) != 10) = false := byte_bne (d := 10) h10
                have HM : Hid (skip false (s.data.toList.drop (j + 1)) = R) := Lib.hid (by rw [← HJ.out, hd, skip_line h10, skip_blank (.inr h10)])
                clear hd h10
                go_wp2
                go_roundg (G - (j + 1 - k))
                case rel => exact ⟨j + 1, by omega, by go_num, HM, rfl⟩
                case measure => omega
              · have t1 : ((s[j].toNat : Int) != 10) = true := byte_nbne (d := 10) h10
                have HM : Hid (skip true (s.data.toList.drop (j + 1)) = R) := Lib.hid (by rw [← HJ.out, hd, skip_in h10])
                clear hd h10
                by_cases hend : j + 1 = s.size
                · have t2 : ((j : Int) + 1 == (s.size : Int)) = true := by simp only [beq_iff_eq]; omega
                  go_wp2
                  rw [Exit.noGoto_ret]
                  go_ret
                  exact ⟨ret_int (by rw [HE.out, ← HM.out, List.drop_eq_nil_of_le (by simp; omega), skip_nil]; simp; omega), rfl⟩
                · have t2 : ((j : Int) + 1 == (s.size : Int)) = false := by simp only [beq_eq_false_iff_ne, ne_eq]; omega
                  go_wp2
                  go_roundg (gk - 1)
                  case rel => exact ⟨j + 1, by omega, by omega, by omega, by go_num, HM, rfl⟩
                  case measure => omega
          · have t1 : ((s[k].toNat : Int) == 32) = false := byte_ne (d := 32) h32
            have t2 : ((s[k].toNat : Int) == 10) = false := byte_ne (d := 10) h10
            have t3 : ((s[k].toNat : Int) == 35) = false := byte_ne (d := 35) h35
            have hst : R = s.data.toList.drop k := by rw [← HR.out, hd, skip_stop h32 h10 h35]
            have HX : Hid (skE s a = k) := Lib.hid (by rw [HE.out, hst, dlen]; omega)
            clear hd h32 h10 h35 hst
            go_wp2
            rw [Exit.noGoto_ret]
            go_ret
            exact ⟨ret_int (by rw [HX.out]), rfl⟩
    · have HX : Hid (skE s a = k) := Lib.hid (by rw [HE.out, skip_done HR.out (by omega)]; simp; omega)
      go_wp2
      rw [Exit.noGoto_ret]
      go_ret
      exact ⟨ret_int (by rw [HX.out]), rfl⟩
theorem tw_list {p : UInt8 → Bool} : ∀ (l : List UInt8) (k : Nat), k ≤ l.length → (∀ j (hj : j < l.length), j < k → p l[j] = true) → (∀ hk : k < l.length, p l[k] = false) → l.takeWhile p = l.take k := by
  intro l
  induction l with
  | nil => intro k hk _ _; simp
  | cons c r ih =>
    intro k hk h he
    cases k with
    | zero => have := he (by simp); simp at this; simp [this]
    | succ k =>
      have h0 := h 0 (by simp) (by omega)
      simp only [List.getElem_cons_zero] at h0
      rw [List.takeWhile_cons, if_pos h0, List.take_succ_cons]
      rw [ih k (by simpa using hk) (fun j hj hjk => by have := h (j + 1) (by simpa using hj) (by omega); rwa [List.getElem_cons_succ] at this) (fun hk' => by have := he (by simpa using hk'); rwa [List.getElem_cons_succ] at this)]
theorem tw {p : UInt8 → Bool} {s : ByteArray} {k : Nat} (hk : k ≤ s.size) (h : ∀ j (hj : j < s.size), j < k → p s[j] = true) (he : ∀ hk : k < s.size, p s[k] = false) : s.data.toList.takeWhile p = s.data.toList.take k :=
  tw_list _ k (by simpa using hk) (fun j hj hjk => h j (by simpa using hj) hjk) (fun hk' => he (by simpa using hk'))
theorem tw_len {p : UInt8 → Bool} {s : ByteArray} {k : Nat} (hk : k ≤ s.size) (h : ∀ j (hj : j < s.size), j < k → p s[j] = true) (he : ∀ hk : k < s.size, p s[k] = false) : (s.data.toList.takeWhile p).length = k := by
  rw [tw hk h he, List.length_take]; simp; omega
set_option maxRecDepth 100000 in
set_option maxHeartbeats 400000 in
theorem iNumSize_any (s : ByteArray) (hs : s.size ≤ 1048576) (w : World) :
    Calls Tryz.prog 106 #[.string s] w fun e w' => e = .returned (.int .i64 (dgLen s.data.toList)) ∧ w = w' := by
  go_enter Tryz.func106, Tryz.ntmps106
  go_wp2
  go_loop [3] (fun i => ∃ k : Nat, k ≤ s.size ∧ i = .int .i64 k ∧ Hid (∀ j (h : j < s.size), j < k → digB s[j] = true)) (fun i => s.size - (intOf i).toNat)
  case atStart => exact ⟨0, by omega, rfl, Lib.hid (fun _ _ h => by omega)⟩
  case round =>
    obtain ⟨k, hk, rfl, HR⟩ := hrel
    by_cases hlt : k < s.size
    · cases ht : digB s[k]
      · have HT := Lib.hid ht
        clear ht
        go_wp2_with (go_at_call 105; refine (iDigB_any _ _).mono ?_; rw [HT.out]; rintro e w' ⟨rfl, rfl⟩)
        go_ret
        exact ⟨ret_int (by unfold dgLen; rw [tw_len hk HR.out (fun _ => HT.out)]), rfl⟩
      · have HT := Lib.hid ht
        clear ht
        go_wp2_with (go_at_call 105; refine (iDigB_any _ _).mono ?_; rw [HT.out]; rintro e w' ⟨rfl, rfl⟩)
        go_round
        case rel => exact ⟨k + 1, by omega, by go_num, Lib.hid (fun j h hj => if he : j < k then HR.out j h he else by
               obtain rfl : j = k := by omega
               exact HT.out)⟩
        case measure => simp [intOf]; omega
    · go_wp2
      go_ret
      exact ⟨ret_int (by unfold dgLen; rw [tw_len hk HR.out (fun h => absurd h hlt)]), rfl⟩
set_option maxRecDepth 100000 in
set_option maxHeartbeats 400000 in
theorem iNameSize_any (s : ByteArray) (hs : s.size ≤ 1048576) (w : World) :
    Calls Tryz.prog 104 #[.string s] w fun e w' => e = .returned (.int .i64 (nmLen s.data.toList)) ∧ w = w' := by
  go_enter Tryz.func104, Tryz.ntmps104
  go_wp2
  go_loop [3] (fun i => ∃ k : Nat, k ≤ s.size ∧ i = .int .i64 k ∧ Hid (∀ j (h : j < s.size), j < k → nbB s[j] = true)) (fun i => s.size - (intOf i).toNat)
  case atStart => exact ⟨0, by omega, rfl, Lib.hid (fun _ _ h => by omega)⟩
  case round =>
    obtain ⟨k, hk, rfl, HR⟩ := hrel
    by_cases hlt : k < s.size
    · cases ht : nbB s[k]
      · have HT := Lib.hid ht
        clear ht
        have HE : Hid ((Lib.trimRightB (s.data.toList.take k) 45).length = nmLen s.data.toList) := Lib.hid (by
          unfold nmLen; rw [tw hk HR.out (fun _ => HT.out)])
        go_wp2_with (first
          | (go_at_call 135; refine (iNb_any _ _).mono ?_; rw [HT.out]; rintro e w' ⟨rfl, rfl⟩)
          | (go_at_call 136; refine (Tryz.strings_TrimRight_one (s.extract 0 k) 45 (by decide) _ (by simp; omega)).mono ?_; rintro e w' ⟨rfl, rfl⟩))
        go_ret
        exact ⟨ret_int (by rw [HE.out]), rfl⟩
      · have HT := Lib.hid ht
        clear ht
        go_wp2_with (go_at_call 135; refine (iNb_any _ _).mono ?_; rw [HT.out]; rintro e w' ⟨rfl, rfl⟩)
        go_round
        case rel => exact ⟨k + 1, by omega, by go_num, Lib.hid (fun j h hj => if he : j < k then HR.out j h he else by
               obtain rfl : j = k := by omega
               exact HT.out)⟩
        case measure => simp [intOf]; omega
    · have HE : Hid ((Lib.trimRightB (s.data.toList.take k) 45).length = nmLen s.data.toList) := Lib.hid (by
        unfold nmLen; rw [tw hk HR.out (fun h => absurd h hlt)])
      go_wp2_with (go_at_call 136; refine (Tryz.strings_TrimRight_one (s.extract 0 k) 45 (by decide) _ (by simp; omega)).mono ?_; rintro e w' ⟨rfl, rfl⟩)
      go_ret
      exact ⟨ret_int (by rw [HE.out]), rfl⟩
theorem indexByte_ge (l : List UInt8) (c : UInt8) : Lib.indexByte l c = -1 ∨ 0 ≤ Lib.indexByte l c := by
  induction l with
  | nil => exact .inl rfl
  | cons b r ih =>
    unfold Lib.indexByte
    split
    · omega
    · split
      · exact .inl rfl
      · rename_i h1 h2
        simp only [beq_iff_eq] at h2
        omega
theorem indexByte_has (l : List UInt8) (c : UInt8) : (l.contains c = true ∧ 0 ≤ Lib.indexByte l c) ∨ (l.contains c = false ∧ Lib.indexByte l c = -1) := by
  induction l with
  | nil => exact .inr ⟨rfl, rfl⟩
  | cons b r ih =>
    unfold Lib.indexByte
    by_cases h : b = c
    · subst h; exact .inl ⟨by simp, by simp⟩
    · have h1 : (b == c) = false := by simpa using h
      have h2 : (c == b) = false := by simpa using fun e => h e.symm
      rw [h1, List.contains_cons, h2, Bool.false_or]
      rcases ih with ⟨i1, i2⟩ | ⟨i1, i2⟩
      · refine .inl ⟨i1, ?_⟩
        have h3 : (Lib.indexByte r c == -1) = false := by simp; omega
        rw [h3]
        have e : (if false = true then (0 : Int) else if false = true then -1 else Lib.indexByte r c + 1) = Lib.indexByte r c + 1 := by simp
        omega
      · exact .inr ⟨i1, by rw [i2]; rfl⟩
theorem mk2_short {l : List UInt8} (h : l.length < 2) : mk2 l = false := by
  match l, h with
  | [], _ => rfl
  | [_], _ => rfl
theorem mkLen_one {c : UInt8} {r : List UInt8} (h : mk2 (c :: r) = false) : mkLen (c :: r) = if marks1.contains c = true then 1 else 0 := by
  unfold mkLen; rw [h]; rfl
theorem mkLen_two {l : List UInt8} (h : mk2 l = true) : mkLen l = 2 := by unfold mkLen; rw [if_pos h]
theorem mk_yes {s : ByteArray} (h0 : 0 < s.size) (hm : mk2 s.data.toList = false) (h : 0 ≤ Lib.indexByte [123, 125, 59, 91, 93, 40, 41, 60, 62, 61, 43, 45, 47, 124, 46, 44, 36, 58] s[0]) : (1 : Int) = (mkLen s.data.toList : Nat) := by
  rw [data_cons s h0] at hm ⊢
  rw [mkLen_one hm]
  rcases indexByte_has marks1 s[0] with ⟨i1, _⟩ | ⟨_, i2⟩
  · rw [i1]; rfl
  · unfold marks1 at i2; omega
theorem mk_no {s : ByteArray} (h0 : 0 < s.size) (hm : mk2 s.data.toList = false) (h : Lib.indexByte [123, 125, 59, 91, 93, 40, 41, 60, 62, 61, 43, 45, 47, 124, 46, 44, 36, 58] s[0] < 0) : (0 : Int) = (mkLen s.data.toList : Nat) := by
  rw [data_cons s h0] at hm ⊢
  rw [mkLen_one hm]
  rcases indexByte_has marks1 s[0] with ⟨_, i2⟩ | ⟨i1, _⟩
  · unfold marks1 at i2; omega
  · rw [i1]; rfl
theorem mk2_ex {s : ByteArray} (h : 2 ≤ s.size) : mk2 s.data.toList = ((s.extract 0 2).toList == [33, 61] || (s.extract 0 2).toList == [60, 61] || (s.extract 0 2).toList == [62, 61] || (s.extract 0 2).toList == [46, 46]) := by
  rw [Lib.toList_data, Lib.extract_data]
  have hl : s.data.toList.length = s.size := by simp
  match s.data.toList, hl with
  | [], hl => simp at hl; omega
  | [_], hl => simp at hl; omega
  | c :: d :: r, _ =>
    have e : ∀ a b : UInt8, ([c, d] == [a, b]) = (c == a && d == b) := fun a b => by
      rw [Bool.eq_iff_iff]; simp
    simp only [List.drop_zero, Nat.sub_zero, List.take_succ_cons, List.take_zero, e]
    rfl
set_option maxRecDepth 100000 in
set_option maxHeartbeats 1000000 in
theorem iMark_any (s : ByteArray) (hs : s.size ≤ 1048576) (h0 : 0 < s.size) (w : World) :
    Calls Tryz.prog 108 #[.string s] w fun e w' => e = .returned (.int .i64 (mkLen s.data.toList)) ∧ w = w' := by
  by_cases h2 : 2 ≤ s.size
  · have hx := mk2_ex h2
    have fin : mk2 s.data.toList = true → (2 : Int) = (mkLen s.data.toList : Nat) := fun h => by rw [mkLen_two h]; rfl
    cases h1 : ((s.extract 0 2).toList == [33, 61])
    · cases h2 : ((s.extract 0 2).toList == [60, 61])
      · cases h3 : ((s.extract 0 2).toList == [62, 61])
        · cases h4 : ((s.extract 0 2).toList == [46, 46])
          · rw [h1, h2, h3, h4] at hx
            have HX : Hid (mk2 s.data.toList = false) := Lib.hid hx
            clear fin hx
            go_enter Tryz.func108, Tryz.ntmps108
            go_wp2_with (go_at_call 137; refine (Tryz.strings_IndexByte _ _ _).mono ?_; rintro e w' ⟨rfl, rfl⟩)
            all_goals
              go_ret
              exact ⟨ret_int (by first | exact mk_yes h0 HX.out (by assumption) | exact mk_no h0 HX.out (by assumption)), rfl⟩
          · rw [h1, h2, h3, h4] at hx
            have HX := Lib.hid (fin hx)
            clear fin hx
            go_enter Tryz.func108, Tryz.ntmps108
            go_wp2
            go_ret
            exact ⟨ret_int HX.out, rfl⟩
        · rw [h1, h2, h3] at hx
          have HX := Lib.hid (fin hx)
          clear fin hx
          go_enter Tryz.func108, Tryz.ntmps108
          go_wp2
          go_ret
          exact ⟨ret_int HX.out, rfl⟩
      · rw [h1, h2] at hx
        have HX := Lib.hid (fin hx)
        clear fin hx
        go_enter Tryz.func108, Tryz.ntmps108
        go_wp2
        go_ret
        exact ⟨ret_int HX.out, rfl⟩
    · rw [h1] at hx
      have HX := Lib.hid (fin hx)
      clear fin hx
      go_enter Tryz.func108, Tryz.ntmps108
      go_wp2
      go_ret
      exact ⟨ret_int HX.out, rfl⟩
  · have hm := Lib.hid (mk2_short (l := s.data.toList) (by simp; omega))
    go_enter Tryz.func108, Tryz.ntmps108
    go_wp2_with (go_at_call 137; refine (Tryz.strings_IndexByte _ _ _).mono ?_; rintro e w' ⟨rfl, rfl⟩)
    all_goals
      go_ret
      exact ⟨ret_int (by first | exact mk_yes h0 hm.out (by assumption) | exact mk_no h0 hm.out (by assumption)), rfl⟩
end Go.Proofs.YtkifdbeklagelaaGreatDoor

/- CHAPTER 3, impl: readToken. -/
namespace Go.Proofs.YtkifdbeklagelaaGreatDoor
open Go.RowKit

theorem box3f {w w1 : World} {v0 v1 v2 : Value} {t : TypeId} (h : Below (w.alloc (.cells #[v0, v1, v2] t)).heap.size (w.alloc (.cells #[v0, v1, v2] t)) w1) :
    (w1.cell? ⟨w.heap.size, 0, none⟩ = some v0 ∧ w1.cell? ⟨w.heap.size, 1, none⟩ = some v1 ∧ w1.cell? ⟨w.heap.size, 2, none⟩ = some v2) ∧
    w1.frozen? ⟨w.heap.size, 0, none⟩ = false ∧ w1.frozen? ⟨w.heap.size, 1, none⟩ = false ∧ w1.frozen? ⟨w.heap.size, 2, none⟩ = false := by
  have hl : w.heap.size < (w.alloc (.cells #[v0, v1, v2] t)).heap.size := by simp
  have hf : ∀ j, w1.frozen? ⟨w.heap.size, j, none⟩ = false := fun j => by
    rw [h.frozen (p := ⟨w.heap.size, j, none⟩) hl]
    unfold World.frozen?
    dsimp only
    rw [heap_alloc_new]
    simp
  exact ⟨box3 h, hf 0, hf 1, hf 2⟩
set_option maxRecDepth 100000 in
set_option maxHeartbeats 1000000 in
theorem iTok_some (s : ByteArray) (hs : s.size ≤ 1048576) (a : Nat) (ha : a < s.size) (k : Int) (t : List UInt8) (z : Nat) (h : tokL (s.data.toList.drop a) = some (k, t, z)) (w : World) :
    Calls Tryz.prog 72 #[.string s, .int .i64 a] w fun e w' => e = .returned (.tuple #[.agg #[.int .i64 k, .string ⟨t.toArray⟩, .int .i64 a], .int .i64 z]) ∧ Below w.heap.size w w' := by
  have hr : (s.extract a s.size).data.toList = s.data.toList.drop a := Lib.extract_to_end s a
  have hz : (s.extract a s.size).size = s.size - a := by simp
  have h0 : 0 < (s.extract a s.size).size := by omega
  have hc := data_cons _ h0
  have h' := h
  rw [← hr, hc] at h'
  have hle : (s.extract a s.size).size ≤ 1048576 := by omega
  cases h1 : letB (s.extract a s.size)[0]
  · cases h2 : digB (s.extract a s.size)[0]
    · by_cases h3 : (s.extract a s.size)[0] = 34
      · have t3 : (((s.extract a s.size)[0].toNat : Int) == 34) = true := byte_on h3
        rw [tokL_quo h3] at h'
        have C := iReadQ_any _ hle
        rw [quotedAt_is h0 h3] at C
        cases hq : rdq ((s.extract a s.size).data.toList.drop 1) with
        | none => rw [hq] at h'; cases h'
        | some p =>
          rw [show (0 : Nat) + 1 = 1 from rfl, hq] at C
          rw [hq] at h'
          cases h'
          have hsh := rdq_short _ _ p.1 p.2 (Nat.le_refl _) hq
          rw [hr, List.drop_drop, dlen] at hsh
          have e0 : ((s.extract a s.size).data.toList.drop 1).length + 1 - p.2.length = s.size - a - p.2.length := by rw [hr, List.drop_drop, dlen]; omega
          rw [e0]
          simp only [Option.map_some, readV, hz] at C
          generalize s.size - a - p.2.length = n at C ⊢
          clear hq hr hc h e0 h3
          go_enter Tryz.func72, Tryz.ntmps72
          go_wp2_with (first
            | (go_at_call 103; refine (iLet_any _ _).mono ?_; rw [h1]; rintro e w' ⟨rfl, rfl⟩)
            | (go_at_call 105; refine (iDigB_any _ _).mono ?_; rw [h2]; rintro e w' ⟨rfl, rfl⟩)
            | (go_at_call 107; refine (C _).mono ?_; rintro e w' ⟨rfl, hb⟩; obtain ⟨⟨c0, c1, c2⟩, f0, f1, f2⟩ := box3f hb))
          exact bodyPost_ret (v := .tuple #[.agg #[.int .i64 3, .string ⟨p.1.toArray⟩, .int .i64 a], .int .i64 n]) (by simp [results, Tryz.results72, go_sem, c0, c1, c2]) rfl ⟨rfl, (((below_step (below_al (Below.refl _ _) _) hb).setCell (Nat.le_refl _) _).setCell (Nat.le_refl _) _).setCell (Nat.le_refl _) _⟩
      · have t3 : (((s.extract a s.size)[0].toNat : Int) == 34) = false := byte_ne (d := 34) h3
        by_cases h4 : mkLen ((s.extract a s.size)[0] :: (s.extract a s.size).data.toList.drop 1) = 0
        · rw [tokL_non h1 h2 h3 h4] at h'; cases h'
        · rw [tokL_mrk h1 h2 h3 h4, ← hc, hr] at h'
          cases h'
          have C := iMark_any _ hle h0
          rw [hr] at C
          have hnl := mkLen_le (s.data.toList.drop a)
          rw [dlen] at hnl
          have ht : Hid (∀ n, (s.extract a s.size).extract 0 n = ⟨((s.data.toList.drop a).take n).toArray⟩) := Lib.hid fun n => ba_of (by rw [Lib.extract_data, hr]; simp)
          clear hr hc h h3 h4
          generalize mkLen (s.data.toList.drop a) = n at C hnl ⊢
          go_enter Tryz.func72, Tryz.ntmps72
          go_wp2_with (first
            | (go_at_call 103; refine (iLet_any _ _).mono ?_; rw [h1]; rintro e w' ⟨rfl, rfl⟩)
            | (go_at_call 105; refine (iDigB_any _ _).mono ?_; rw [h2]; rintro e w' ⟨rfl, rfl⟩)
            | (go_at_call 108; refine (C _).mono ?_; rintro e w' ⟨rfl, rfl⟩))
          exact bodyPost_ret (v := .tuple #[.agg #[.int .i64 4, .string ((s.extract a s.size).extract 0 n), .int .i64 a], .int .i64 n]) (by simp [results, Tryz.results72, go_sem]) rfl ⟨by rw [ht.out], below_al (Below.refl _ _) _⟩
    · rw [tokL_dig h1 h2, ← hc, hr] at h'
      cases h'
      have C := iNumSize_any _ hle
      rw [hr] at C
      have hnl := dgLen_le (s.data.toList.drop a)
      rw [dlen] at hnl
      have ht : Hid (∀ n, (s.extract a s.size).extract 0 n = ⟨((s.data.toList.drop a).take n).toArray⟩) := Lib.hid fun n => ba_of (by rw [Lib.extract_data, hr]; simp)
      clear hr hc h
      generalize dgLen (s.data.toList.drop a) = n at C hnl ⊢
      go_enter Tryz.func72, Tryz.ntmps72
      go_wp2_with (first
        | (go_at_call 103; refine (iLet_any _ _).mono ?_; rw [h1]; rintro e w' ⟨rfl, rfl⟩)
        | (go_at_call 105; refine (iDigB_any _ _).mono ?_; rw [h2]; rintro e w' ⟨rfl, rfl⟩)
        | (go_at_call 106; refine (C _).mono ?_; rintro e w' ⟨rfl, rfl⟩))
      exact bodyPost_ret (v := .tuple #[.agg #[.int .i64 2, .string ((s.extract a s.size).extract 0 n), .int .i64 a], .int .i64 n]) (by simp [results, Tryz.results72, go_sem]) rfl ⟨by rw [ht.out], below_al (Below.refl _ _) _⟩
  · rw [tokL_let h1, ← hc, hr] at h'
    cases h'
    have C := iNameSize_any _ hle
    rw [hr] at C
    have hnl := nmLen_le (s.data.toList.drop a)
    rw [dlen] at hnl
    have ht : Hid (∀ n, (s.extract a s.size).extract 0 n = ⟨((s.data.toList.drop a).take n).toArray⟩) := Lib.hid fun n => ba_of (by rw [Lib.extract_data, hr]; simp)
    clear hr hc h
    generalize nmLen (s.data.toList.drop a) = n at C hnl ⊢
    go_enter Tryz.func72, Tryz.ntmps72
    go_wp2_with (first
      | (go_at_call 103; refine (iLet_any _ _).mono ?_; rw [h1]; rintro e w' ⟨rfl, rfl⟩)
      | (go_at_call 104; refine (C _).mono ?_; rintro e w' ⟨rfl, rfl⟩))
    exact bodyPost_ret (v := .tuple #[.agg #[.int .i64 1, .string ((s.extract a s.size).extract 0 n), .int .i64 a], .int .i64 n]) (by simp [results, Tryz.results72, go_sem]) rfl ⟨by rw [ht.out], below_al (Below.refl _ _) _⟩
set_option maxRecDepth 100000 in
set_option maxHeartbeats 1000000 in
theorem iTok_none (s : ByteArray) (hs : s.size ≤ 1048576) (a : Nat) (ha : a < s.size) (h : tokL (s.data.toList.drop a) = none) (w : World) :
    Calls Tryz.prog 72 #[.string s, .int .i64 a] w fun e w' => (∃ (k : Int) (t : ByteArray), e = .returned (.tuple #[.agg #[.int .i64 k, .string t, .int .i64 a], .int .i64 0])) ∧ Below w.heap.size w w' := by
  have hr : (s.extract a s.size).data.toList = s.data.toList.drop a := Lib.extract_to_end s a
  have hz : (s.extract a s.size).size = s.size - a := by simp
  have h0 : 0 < (s.extract a s.size).size := by omega
  have hc := data_cons _ h0
  have h' := h
  rw [← hr, hc] at h'
  have hle : (s.extract a s.size).size ≤ 1048576 := by omega
  cases h1 : letB (s.extract a s.size)[0]
  · cases h2 : digB (s.extract a s.size)[0]
    · by_cases h3 : (s.extract a s.size)[0] = 34
      · have t3 : (((s.extract a s.size)[0].toNat : Int) == 34) = true := byte_on h3
        rw [tokL_quo h3] at h'
        have C := iReadQ_any _ hle
        rw [quotedAt_is h0 h3] at C
        cases hq : rdq ((s.extract a s.size).data.toList.drop 1) with
        | some p => rw [hq] at h'; cases h'
        | none =>
          rw [show (0 : Nat) + 1 = 1 from rfl, hq] at C
          simp only [Option.map_none, readV] at C
          clear hq hr hc h h3 h'
          go_enter Tryz.func72, Tryz.ntmps72
          go_wp2_with (first
            | (go_at_call 103; refine (iLet_any _ _).mono ?_; rw [h1]; rintro e w' ⟨rfl, rfl⟩)
            | (go_at_call 105; refine (iDigB_any _ _).mono ?_; rw [h2]; rintro e w' ⟨rfl, rfl⟩)
            | (go_at_call 107; refine (C _).mono ?_; rintro e w' ⟨rfl, hb⟩; obtain ⟨⟨c0, c1, c2⟩, f0, f1, f2⟩ := box3f hb))
          exact bodyPost_ret (v := .tuple #[.agg #[.int .i64 3, .string ⟨#[]⟩, .int .i64 a], .int .i64 0]) (by simp [results, Tryz.results72, go_sem, c0, c1, c2]) rfl ⟨⟨_, _, rfl⟩, (((below_step (below_al (Below.refl _ _) _) hb).setCell (Nat.le_refl _) _).setCell (Nat.le_refl _) _).setCell (Nat.le_refl _) _⟩
      · have t3 : (((s.extract a s.size)[0].toNat : Int) == 34) = false := byte_ne (d := 34) h3
        by_cases h4 : mkLen ((s.extract a s.size)[0] :: (s.extract a s.size).data.toList.drop 1) = 0
        · have C := iMark_any _ hle h0
          rw [hc, h4] at C
          clear hr hc h h3 h4 h'
          go_enter Tryz.func72, Tryz.ntmps72
          go_wp2_with (first
            | (go_at_call 103; refine (iLet_any _ _).mono ?_; rw [h1]; rintro e w' ⟨rfl, rfl⟩)
            | (go_at_call 105; refine (iDigB_any _ _).mono ?_; rw [h2]; rintro e w' ⟨rfl, rfl⟩)
            | (go_at_call 108; refine (C _).mono ?_; rintro e w' ⟨rfl, rfl⟩))
          exact bodyPost_ret (v := .tuple #[.agg #[.int .i64 4, .string ((s.extract a s.size).extract 0 0), .int .i64 a], .int .i64 0]) (by simp [results, Tryz.results72, go_sem]) rfl ⟨⟨_, _, rfl⟩, below_al (Below.refl _ _) _⟩
        · rw [tokL_mrk h1 h2 h3 h4] at h'; cases h'
    · rw [tokL_dig h1 h2] at h'; cases h'
  · rw [tokL_let h1] at h'; cases h'
end Go.Proofs.YtkifdbeklagelaaGreatDoor

/- CHAPTER 3, impl: Lex. -/
namespace Go.Proofs.YtkifdbeklagelaaGreatDoor
open Go.RowKit

theorem heap_new1' (w : World) (o1 o2 : Obj) : ((w.alloc o1).alloc o2).heap[w.heap.size + 1]? = some o2 := by
  have h := heap_alloc_new (w.alloc o1) o2
  have e : (w.alloc o1).heap.size = w.heap.size + 1 := by simp
  rwa [e] at h
theorem iSkip_add (s : ByteArray) (hs : s.size ≤ 1048576) (a z : Nat) (ha : a + z ≤ s.size) (w : World) :
    Calls Tryz.prog 71 #[.string s, .int .i64 ((a : Int) + (z : Int))] w fun e w' => e = .returned (.int .i64 (skE s (a + z))) ∧ w = w' := by
  have h := iSkip_any s hs (a + z) ha w
  rwa [Int.natCast_add] at h
set_option maxRecDepth 100000 in
set_option maxHeartbeats 1000000 in
theorem iLex_any (s : ByteArray) (hs : s.size ≤ 1048576) (T : List Tok) (e : Option Nat) (hL : Lx s.size s.data.toList T e) (w : World) :
    Calls Tryz.prog 36 #[.string s] w fun en w' => ∃ v, en = .returned (.tuple #[v, .int .i64 (lexI e)]) ∧ RowT w.heap.size w' v (lexT T e) ∧ Below w.heap.size w w' := by
  have H0 := Lib.hid (Sf.past (Nat.zero_le _) (Sf.start hL))
  have HS0 := Lib.hid (skE_stop (s := s) (Nat.zero_le _))
  have hk0 := skE_le s 0
  clear hL
  have C0 := iSkip_any s hs 0 (Nat.zero_le _)
  generalize skE s 0 = k0 at H0 HS0 hk0 C0
  go_enter Tryz.func36, Tryz.ntmps36
  go_wp2_with (go_at_call 71; refine (C0 _).mono ?_; rintro e w' ⟨rfl, rfl⟩)
  go_loopw [4, 5] (fun v i wr => ∃ (k g c n : Nat) (acc T' : List Tok), k ≤ s.size ∧ n ≤ k ∧ i = .int .i64 k ∧ v = .slice (some ⟨g, 0, none⟩) n c ∧ RowT w.heap.size wr (.slice (some ⟨g, 0, none⟩) n c) acc ∧ Hid (skip false (s.data.toList.drop k) = s.data.toList.drop k) ∧ Hid (Sf s k acc T' T e) ∧ Below w.heap.size w wr) (fun _ i _ => s.size - (intOf i).toNat)
  case atStart => exact ⟨k0, w.heap.size, 0, 0, [], T, hk0, Nat.zero_le _, rfl, rfl, rowR_empty (heap_alloc_new w _) (Nat.le_refl _), HS0, H0, below_al (Below.refl _ _) _⟩
  case round =>
    clear H0 HS0 hk0 C0
    obtain ⟨k, g, c, n, acc, T', hk, hnk, rfl, rfl, hrow, HS, HF, hbel⟩ := hrel
    by_cases hlt : k < s.size
    · rcases HF.out.parts hlt HS.out with ⟨h1, rfl, rfl⟩ | ⟨kd, t, z, T2, h1, hz0, hz1, ht, h2⟩
      · have C := iTok_none s hs k hlt h1
        clear h1 HF
        go_wp2_with (go_at_call 72; refine (C _).mono ?_; rintro e w1 ⟨⟨kd, t, rfl⟩, hb1⟩)
        go_ret2
        have hbel1 := below_step hbel hb1
        exact ⟨_, rfl, rowR_empty (heap_new1' _ _ _) (Nat.le_trans hbel1.size (Nat.le_succ _)), below_al (below_al hbel1 _) _⟩
      · have C := iTok_some s hs k hlt kd t z h1
        have D := iSkip_add s hs k z hz1
        have hne : ((z : Int) == 0) = false := by simp only [beq_eq_false_iff_ne, ne_eq]; omega
        have hle := skE_le s (k + z)
        have hge := skE_ge (s := s) hz1
        have HS2 := Lib.hid (skE_stop (s := s) hz1)
        have HF2 := Lib.hid (Sf.past hz1 h2)
        generalize skE s (k + z) = k2 at D hle hge HS2 HF2
        clear h1 HF h2
        go_wp2_with (first
          | (go_at_call 72; refine (C _).mono ?_; rintro e w1 ⟨rfl, hb1⟩; have hrow1 := RowR.alloc (RowR.below hrow hb1) (.cells #[.int .i64 kd, .string ⟨t.toArray⟩, .int .i64 k] 106); have hbel1 := below_al (below_step hbel hb1) (.cells #[.int .i64 kd, .string ⟨t.toArray⟩, .int .i64 k] 106); have hgB := (RowR.lt hrow rfl).1; clear hrow hb1)
          | (at_builtin; refine wpList_tok_append rfl _ _ rfl w.heap.size g n c _ rfl hrow1 ⟨kd, ⟨t.toArray⟩, k⟩ _ rfl (by simp) (by omega) hbel1.size (n + 1) rfl ?_; clear hrow1; intro g' c'' w2 hrow2 hg2)
          | (go_at_call 71; refine (D _).mono ?_; rintro e w' ⟨rfl, rfl⟩))
        go_roundw
        case rel => exact ⟨k2, g', c'', n + 1, _, T2, hle, by omega, rfl, rfl, hrow2, HS2, HF2, (below_al hbel1 _).grown hg2 (below_al hbel1 _).size (fun _ h => by cases h; exact hgB)⟩
        case measure => simp [intOf]; omega
    · obtain ⟨rfl, rfl⟩ := HF.out.done (by omega)
      go_wp2
      go_ret2
      exact ⟨_, rfl, hrow, hbel⟩
end Go.Proofs.YtkifdbeklagelaaGreatDoor
