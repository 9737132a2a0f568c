/- CHAPTER 5, spec: the reader's state, l5Next, l5Char, l5Any. -/
import Derived.Test.YtnpgeneahjlkpaaPatI
import Derived.Test.YtnpgeneahjlkpaaPatB
import Derived.Test.YtnpgeneahjlkpaaLet
import Derived.ChangeAlike
import Derived.RegionTactic
set_option linter.unusedVariables false
set_option linter.unusedSimpArgs false
namespace Go.Proofs.Ytnpgeneahjlkpaa
open Go.RowKit

/-- block b is a reader of the text s, at the place i -/
def PS (w : World) (b : Nat) (s : ByteArray) (i : Nat) (bad : Bool) : Prop := w.heap[b]? = some (.cells #[.string s, .int .i64 (i : Int), .bool bad] 151 (0, 0))
section
variable {w w' : World} {b : Nat} {s : ByteArray} {i : Nat} {bad : Bool}
theorem PS.lt (h : PS w b s i bad) : b < w.heap.size := (Array.getElem?_eq_some_iff.1 h).1
theorem PS.cells (h : PS w b s i bad) : (w.cell? ⟨b, 0, none⟩ = some (.string s) ∧ w.cell? ⟨b, 1, none⟩ = some (.int .i64 (i : Int)) ∧ w.cell? ⟨b, 2, none⟩ = some (.bool bad)) ∧ w.frozen? ⟨b, 1, none⟩ = false ∧ w.frozen? ⟨b, 2, none⟩ = false :=
  ⟨⟨by rw [cell_of_row w b 0 _ _ _ h]; rfl, by rw [cell_of_row w b 1 _ _ _ h]; rfl, by rw [cell_of_row w b 2 _ _ _ h]; rfl⟩, by unfold PS at h; simp [World.frozen?, h], by unfold PS at h; simp [World.frozen?, h]⟩
theorem PS.below (h : PS w b s i bad) (hb : Below w.heap.size w w') : PS w' b s i bad := (hb.block b h.lt).trans h
theorem PS.drewN (h : PS w b s i bad) (q : Nat) : PS (w.drewN q) b s i bad := h
theorem PS.set1 (h : PS w b s i bad) (j : Nat) : PS (w.setCell ⟨b, 1, none⟩ (.int .i64 (j : Int))) b s j bad := by
  unfold PS; rw [heap_setCell_same w b 1 _ _ _ h]; rfl
theorem PS.set2 (h : PS w b s i bad) (c : Bool) : PS (w.setCell ⟨b, 2, none⟩ (.bool c)) b s i c := by
  unfold PS; rw [heap_setCell_same w b 2 _ _ _ h]; rfl
theorem turns_drewN {S : Nat → Prop} (w : World) (q : Nat) : TurnsAt S w (w.drewN q) := ⟨rfl, rfl, rfl, Nat.le_refl _, fun _ _ _ => rfl⟩
theorem turns_set {S : Nat → Prop} (w : World) (b j : Nat) (u : Value) (h : S b) : TurnsAt S w (w.setCell ⟨b, j, none⟩ u) :=
  ⟨rfl, rfl, rfl, by simp [World.setCell], fun q _ hq => Below.heap_setCell w ⟨b, j, none⟩ u q (fun e => hq (by rw [e]; exact h))⟩
end
/-- what turns while the reader in block b works -/
abbrev RT (b : Nat) (w w' : World) : Prop := TurnsAt (fun q => q = b) w w'
/-- nothing else stands there -/
def NoNext (s : ByteArray) (i : Nat) (bad : Bool) (c : UInt8) : Prop := bad = true ∨ ∀ h : i < s.size, s[i] ≠ c
set_option maxRecDepth 100000 in
set_option maxHeartbeats 1000000 in
theorem next_no (b : Nat) (s : ByteArray) (hs : s.size ≤ maxLen) (i : Nat) (bad : Bool) (c : UInt8) (x : Int) (hx : x = (c.toNat : Int)) (w : World) (h : PS w b s i bad) (hn : NoNext s i bad c) :
    Calls Try.prog 128 #[.pointer (some ⟨b, 0, none⟩), .int .u8 x] w fun e w' => e = .returned (.bool false) ∧ PS w' b s i bad ∧ RT b w w' := by
  subst hx
  unfold maxLen at hs
  obtain ⟨⟨c0, c1, c2⟩, f1, f2⟩ := h.cells
  have HP := Lib.hid h
  cases bad with
  | true =>
    clear h hn
    go_enter Try.func128, Try.ntmps128
    go_wp2
    go_quiet (fail)
    go_wp2
    go_ret
    exact ⟨rfl, HP.out.drewN _, turns_drewN _ _⟩
  | false =>
    by_cases hlt : i < s.size
    · have hne : s[i] ≠ c := (hn.resolve_left (by decide)) hlt
      have hq : ((s[i].toNat : Int) == (c.toNat : Int)) = false := byte_ne hne
      have hq1 : decide ((i : Int) < (s.size : Int)) = true := by simp; omega
      have hq2 : (i : Int) < (s.size : Int) := by omega
      have HNE := Lib.hid hne
      clear h hn hne
      go_enter Try.func128, Try.ntmps128
      go_wp2
      go_quiet (fail)
      go_wp2
      go_ret
      exact ⟨rfl, HP.out.drewN _, turns_drewN _ _⟩
    · have hq1 : decide ((i : Int) < (s.size : Int)) = false := by simp; omega
      have hq2 : ¬ (i : Int) < (s.size : Int) := by omega
      clear h hn
      go_enter Try.func128, Try.ntmps128
      go_wp2
      go_quiet (fail)
      go_wp2
      go_ret
      exact ⟨rfl, HP.out.drewN _, turns_drewN _ _⟩
set_option maxRecDepth 100000 in
set_option maxHeartbeats 1000000 in
theorem next_yes (b : Nat) (s : ByteArray) (hs : s.size ≤ maxLen) (i : Nat) (c : UInt8) (x : Int) (hx : x = (c.toNat : Int)) (w : World) (h : PS w b s i false) (hlt : i < s.size) (he : s[i] = c) :
    Calls Try.prog 128 #[.pointer (some ⟨b, 0, none⟩), .int .u8 x] w fun e w' => e = .returned (.bool true) ∧ PS w' b s (i + 1) false ∧ RT b w w' := by
  subst hx
  unfold maxLen at hs
  obtain ⟨⟨c0, c1, c2⟩, f1, f2⟩ := h.cells
  have HP := Lib.hid h
  have hq : ((s[i].toNat : Int) == (c.toNat : Int)) = true := by rw [he]; simp
  have hq1 : decide ((i : Int) < (s.size : Int)) = true := by simp; omega
  have hq2 : (i : Int) < (s.size : Int) := by omega
  have HE := Lib.hid he
  clear h he
  go_enter Try.func128, Try.ntmps128
  go_wp2
  go_quiet (fail)
  go_wp2
  go_ret
  exact ⟨rfl, (HP.out.drewN _).set1 (i + 1), (turns_drewN _ _).trans (turns_set _ _ _ _ rfl)⟩
set_option maxRecDepth 100000 in
theorem sChar_any (c : UInt8) (w : World) : Calls Try.prog 161 #[.int .u8 c.toNat] w fun e w' => e = .returned (.bool (pcB c)) ∧ w = w' := by
  obtain ⟨bl, hl⟩ : ∃ x, letB c = x := ⟨_, rfl⟩
  obtain ⟨bd, hd⟩ : ∃ x, digB c = x := ⟨_, rfl⟩
  have e45 : (c == 45) = ((c.toNat : Int) == 45) := (byte_beq c 45).symm
  have e95 : (c == 95) = ((c.toNat : Int) == 95) := (byte_beq c 95).symm
  have e46 : (c == 46) = ((c.toNat : Int) == 46) := (byte_beq c 46).symm
  have HP : Hid (pcB c = (bl || bd || ((c.toNat : Int) == 45) || ((c.toNat : Int) == 95) || ((c.toNat : Int) == 46))) := Lib.hid (by
    unfold pcB nbB; rw [hl, hd, e45, e95, e46])
  have HL := Lib.hid hl
  have HD := Lib.hid hd
  clear hl hd e45 e95 e46
  obtain ⟨x, hx⟩ : ∃ x : Int, x = (c.toNat : Int) := ⟨_, rfl⟩
  rw [← hx] at HP
  cases bl
  · cases bd
    · cases h1 : ((c.toNat : Int) == 95)
      · cases h2 : ((c.toNat : Int) == 45)
        · rw [hx, h1, h2] at HP
          have HX := Lib.hid hx
          clear hx
          go_enter Try.func161, Try.ntmps161
          go_wp2_with (first
      | (go_at_call 155; ((with_reducible refine (s3Let_any _ _).mono ?_); rw [HL.out]; rintro e w' ⟨rfl, rfl⟩))
      | (go_at_call 156; ((with_reducible refine (s3Dig_any _ _).mono ?_); rw [HD.out]; rintro e w' ⟨rfl, rfl⟩)))
          go_ret
          exact ⟨ret_bool (by rw [HP.out]; rfl), rfl⟩
        · rw [hx, h1, h2] at HP
          have HX := Lib.hid hx
          clear hx
          go_enter Try.func161, Try.ntmps161
          go_wp2_with (first
      | (go_at_call 155; ((with_reducible refine (s3Let_any _ _).mono ?_); rw [HL.out]; rintro e w' ⟨rfl, rfl⟩))
      | (go_at_call 156; ((with_reducible refine (s3Dig_any _ _).mono ?_); rw [HD.out]; rintro e w' ⟨rfl, rfl⟩)))
          go_ret
          exact ⟨ret_bool (by rw [HP.out]; rfl), rfl⟩
      · rw [hx, h1] at HP
        have HX := Lib.hid hx
        clear hx
        go_enter Try.func161, Try.ntmps161
        go_wp2_with (first
      | (go_at_call 155; ((with_reducible refine (s3Let_any _ _).mono ?_); rw [HL.out]; rintro e w' ⟨rfl, rfl⟩))
      | (go_at_call 156; ((with_reducible refine (s3Dig_any _ _).mono ?_); rw [HD.out]; rintro e w' ⟨rfl, rfl⟩)))
        go_ret
        exact ⟨ret_bool (by rw [HP.out]; simp), rfl⟩
    · have HX := Lib.hid hx
      clear hx
      go_enter Try.func161, Try.ntmps161
      go_wp2_with (first
      | (go_at_call 155; ((with_reducible refine (s3Let_any _ _).mono ?_); rw [HL.out]; rintro e w' ⟨rfl, rfl⟩))
      | (go_at_call 156; ((with_reducible refine (s3Dig_any _ _).mono ?_); rw [HD.out]; rintro e w' ⟨rfl, rfl⟩)))
      go_ret
      exact ⟨ret_bool (by rw [HP.out]; simp), rfl⟩
  · have HX := Lib.hid hx
    clear hx
    go_enter Try.func161, Try.ntmps161
    go_wp2_with (first
      | (go_at_call 155; ((with_reducible refine (s3Let_any _ _).mono ?_); rw [HL.out]; rintro e w' ⟨rfl, rfl⟩))
      | (go_at_call 156; ((with_reducible refine (s3Dig_any _ _).mono ?_); rw [HD.out]; rintro e w' ⟨rfl, rfl⟩)))
    go_ret
    exact ⟨ret_bool (by rw [HP.out]; simp), rfl⟩
set_option maxRecDepth 100000 in
theorem sAny_any (w : World) : Calls Try.prog 154 #[] w fun e w' => e = .returned (.string ⟨anyL.toArray⟩) ∧ Below w.heap.size w w' := by
  have hb0 : Buf w.heap.size (.slice (some ⟨w.heap.size, 0, none⟩) 0 0) [] w (w.alloc (.cells #[] 5)) := buf_none (Below.refl _ _)
  have HT : Hid (∀ k, k < 95 → anyL.take (k + 1) = anyL.take k ++ [UInt8.ofNat (32 + k)]) := Lib.hid fun k hk => by
    rw [List.take_succ_eq_append_getElem (by simpa [anyL] using hk)]
    simp [anyL]
  have HN : Hid (anyL.length = 95) := Lib.hid (by simp [anyL])
  generalize anyL = L at HT HN ⊢
  go_enter Try.func154, Try.ntmps154
  go_wp2
  go_loopw [1, 2] (fun v i wr => ∃ k : Nat, k ≤ 95 ∧ i = .int .i64 (32 + (k : Int)) ∧ Buf w.heap.size v (L.take k) w wr) (fun _ i _ => 127 - (intOf i).toNat)
  case atStart => exact ⟨0, by omega, rfl, by rw [List.take_zero]; exact hb0⟩
  case round =>
    obtain ⟨k, hk, rfl, hb⟩ := hrel
    clear hb0
    by_cases hlt : k < 95
    · have hlt2 : 32 + (k : Int) < 127 := by omega
      have hcv : (((UInt8.ofNat (32 + k)).toNat : Nat) : Int) = 32 + (k : Int) := by
        simp only [UInt8.toNat_ofNat']; omega
      have hlen : (L.take k).length ≤ 300 := by rw [List.length_take]; omega
      have HCV := Lib.hid hcv
      have HNX := Lib.hid (HT.out k hlt)
      clear hcv
      go_wp2_with (at_builtin; refine buf_append rfl _ _ rfl _ _ _ rfl _ _ _ hb rfl (UInt8.ofNat (32 + k)) (HCV.out) (by omega) ?_; clear hb; intro v1 w1 hb)
      go_roundw
      case rel => exact ⟨k + 1, by omega, by go_num, by rw [HNX.out]; exact hb⟩
      case measure => simp [intOf]; omega
    · have hge : ¬ 32 + (k : Int) < 127 := by omega
      have hcv := buf_str hb
      rw [List.take_of_length_le (by have := HN.out; omega)] at hcv
      go_wp2
      go_ret
      exact ⟨rfl, hb.below⟩
end Go.Proofs.Ytnpgeneahjlkpaa
