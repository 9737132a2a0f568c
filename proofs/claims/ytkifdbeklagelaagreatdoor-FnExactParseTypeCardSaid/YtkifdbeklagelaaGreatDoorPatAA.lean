/- MERGED for a claim: Let PatS PatT PatU PatW PatY PatZ PatX PatV PatAA. -/
import Derived.Test.YtkifdbeklagelaaGreatDoorNameB
import Derived.Test.YtkifdbeklagelaaGreatDoorPatK
import Derived.ChangeAlike
import Derived.RegionTactic
import Derived.StillTailTactics
import Derived.IntWalk
import Derived.Deep.LoopGhost
import Derived.Test.YtkifdbeklagelaaGreatDoorPatF
import Derived.Deep.RegionHeld3
import Derived.Deep.RegionLaw
set_option linter.unusedVariables false
set_option linter.unusedSimpArgs false
/- spec's l3Letter, l3Digit. -/
namespace Go.Proofs.YtkifdbeklagelaaGreatDoor
open Go.RowKit

set_option maxRecDepth 100000 in
theorem s3Let_any (c : UInt8) (w : World) : Calls Tryz.prog 95 #[.int .u8 c.toNat] w fun e w' => e = .returned (.bool (letB c)) ∧ w = w' := by
  have hby : (c.toNat : Int) ≤ 255 := by have := c.toNat_lt; omega
  have h : ∀ w, Calls Tryz.prog 55 #[.int .i64 c.toNat, .int .i64 97, .int .i64 122] w fun e w' => e = .returned (.bool (letB c)) ∧ w = w' := fun w =>
    (sIn_any _ _ _ w).mono fun _ _ ⟨he, hw⟩ => ⟨by rw [he]; exact ret_bool (by unfold letB; congr 1; exact propext ⟨fun h => by omega, fun h => by omega⟩), hw⟩
  go_enter Tryz.func95, Tryz.ntmps95
  go_wp2_with (go_at_call 55; refine (h _).mono ?_; rintro e w' ⟨rfl, rfl⟩)
  go_ret
  exact ⟨rfl, rfl⟩
set_option maxRecDepth 100000 in
theorem s3Dig_any (c : UInt8) (w : World) : Calls Tryz.prog 97 #[.int .u8 c.toNat] w fun e w' => e = .returned (.bool (digB c)) ∧ w = w' := by
  have hby : (c.toNat : Int) ≤ 255 := by have := c.toNat_lt; omega
  have h : ∀ w, Calls Tryz.prog 55 #[.int .i64 c.toNat, .int .i64 48, .int .i64 57] w fun e w' => e = .returned (.bool (digB c)) ∧ w = w' := fun w =>
    (sIn_any _ _ _ w).mono fun _ _ ⟨he, hw⟩ => ⟨by rw [he]; exact ret_bool (by unfold digB; congr 1; exact propext ⟨fun h => by omega, fun h => by omega⟩), hw⟩
  go_enter Tryz.func97, Tryz.ntmps97
  go_wp2_with (go_at_call 55; refine (h _).mono ?_; rintro e w' ⟨rfl, rfl⟩)
  go_ret
  exact ⟨rfl, rfl⟩
end Go.Proofs.YtkifdbeklagelaaGreatDoor

/- CHAPTER 5, spec: the reader's state, l5Next, l5Char, l5Any. -/
namespace Go.Proofs.YtkifdbeklagelaaGreatDoor
open Go.RowKit

/-- block b is a reader of the text s, at the place i -/
def PS (w : World) (b : Nat) (s : ByteArray) (i : Nat) (bad : Bool) : Prop := w.heap[b]? = some (.cells #[.string s, .int .i64 (i : Int), .bool bad] 152 (0, 0))
section
variable {w w' : World} {b : Nat} {s : ByteArray} {i : Nat} {bad : Bool}
theorem PS.lt (h : PS w b s i bad) : b < w.heap.size := (Array.getElem?_eq_some_iff.1 h).1
theorem PS.cells (h : PS w b s i bad) : (w.cell? ⟨b, 0, none⟩ = some (.string s) ∧ w.cell? ⟨b, 1, none⟩ = some (.int .i64 (i : Int)) ∧ w.cell? ⟨b, 2, none⟩ = some (.bool bad)) ∧ w.frozen? ⟨b, 1, none⟩ = false ∧ w.frozen? ⟨b, 2, none⟩ = false :=
  ⟨⟨by rw [cell_of_row w b 0 _ _ _ h]; rfl, by rw [cell_of_row w b 1 _ _ _ h]; rfl, by rw [cell_of_row w b 2 _ _ _ h]; rfl⟩, by unfold PS at h; simp [World.frozen?, h], by unfold PS at h; simp [World.frozen?, h]⟩
theorem PS.below (h : PS w b s i bad) (hb : Below w.heap.size w w') : PS w' b s i bad := (hb.block b h.lt).trans h
theorem PS.drewN (h : PS w b s i bad) (q : Nat) : PS (w.drewN q) b s i bad := h
theorem PS.set1 (h : PS w b s i bad) (j : Nat) : PS (w.setCell ⟨b, 1, none⟩ (.int .i64 (j : Int))) b s j bad := by
  unfold PS; rw [heap_setCell_same w b 1 _ _ _ h]; rfl
theorem PS.set2 (h : PS w b s i bad) (c : Bool) : PS (w.setCell ⟨b, 2, none⟩ (.bool c)) b s i c := by
  unfold PS; rw [heap_setCell_same w b 2 _ _ _ h]; rfl
theorem turns_drewN {S : Nat → Prop} (w : World) (q : Nat) : TurnsAt S w (w.drewN q) := ⟨rfl, rfl, rfl, Nat.le_refl _, fun _ _ _ => rfl⟩
theorem turns_set {S : Nat → Prop} (w : World) (b j : Nat) (u : Value) (h : S b) : TurnsAt S w (w.setCell ⟨b, j, none⟩ u) :=
  ⟨rfl, rfl, rfl, by simp [World.setCell], fun q _ hq => Below.heap_setCell w ⟨b, j, none⟩ u q (fun e => hq (by rw [e]; exact h))⟩
end
/-- what turns while the reader in block b works -/
abbrev RT (b : Nat) (w w' : World) : Prop := TurnsAt (fun q => q = b) w w'
/-- nothing else stands there -/
def NoNext (s : ByteArray) (i : Nat) (bad : Bool) (c : UInt8) : Prop := bad = true ∨ ∀ h : i < s.size, s[i] ≠ c
set_option maxRecDepth 100000 in
set_option maxHeartbeats 1000000 in
theorem next_no (b : Nat) (s : ByteArray) (hs : s.size ≤ maxLen) (i : Nat) (bad : Bool) (c : UInt8) (x : Int) (hx : x = (c.toNat : Int)) (w : World) (h : PS w b s i bad) (hn : NoNext s i bad c) :
    Calls Tryz.prog 154 #[.pointer (some ⟨b, 0, none⟩), .int .u8 x] w fun e w' => e = .returned (.bool false) ∧ PS w' b s i bad ∧ RT b w w' := by
  subst hx
  unfold maxLen at hs
  obtain ⟨⟨c0, c1, c2⟩, f1, f2⟩ := h.cells
  have HP := Lib.hid h
  cases bad with
  | true =>
    clear h hn
    go_enter Tryz.func154, Tryz.ntmps154
    go_wp2
    go_quiet (fail)
    go_wp2
    go_ret
    exact ⟨rfl, HP.out.drewN _, turns_drewN _ _⟩
  | false =>
    by_cases hlt : i < s.size
    · have hne : s[i] ≠ c := (hn.resolve_left (by decide)) hlt
      have hq : ((s[i].toNat : Int) == (c.toNat : Int)) = false := byte_ne hne
      have hq1 : decide ((i : Int) < (s.size : Int)) = true := by simp; omega
      have hq2 : (i : Int) < (s.size : Int) := by omega
      have HNE := Lib.hid hne
      clear h hn hne
      go_enter Tryz.func154, Tryz.ntmps154
      go_wp2
      go_quiet (fail)
      go_wp2
      go_ret
      exact ⟨rfl, HP.out.drewN _, turns_drewN _ _⟩
    · have hq1 : decide ((i : Int) < (s.size : Int)) = false := by simp; omega
      have hq2 : ¬ (i : Int) < (s.size : Int) := by omega
      clear h hn
      go_enter Tryz.func154, Tryz.ntmps154
      go_wp2
      go_quiet (fail)
      go_wp2
      go_ret
      exact ⟨rfl, HP.out.drewN _, turns_drewN _ _⟩
set_option maxRecDepth 100000 in
set_option maxHeartbeats 1000000 in
theorem next_yes (b : Nat) (s : ByteArray) (hs : s.size ≤ maxLen) (i : Nat) (c : UInt8) (x : Int) (hx : x = (c.toNat : Int)) (w : World) (h : PS w b s i false) (hlt : i < s.size) (he : s[i] = c) :
    Calls Tryz.prog 154 #[.pointer (some ⟨b, 0, none⟩), .int .u8 x] w fun e w' => e = .returned (.bool true) ∧ PS w' b s (i + 1) false ∧ RT b w w' := by
  subst hx
  unfold maxLen at hs
  obtain ⟨⟨c0, c1, c2⟩, f1, f2⟩ := h.cells
  have HP := Lib.hid h
  have hq : ((s[i].toNat : Int) == (c.toNat : Int)) = true := by rw [he]; simp
  have hq1 : decide ((i : Int) < (s.size : Int)) = true := by simp; omega
  have hq2 : (i : Int) < (s.size : Int) := by omega
  have HE := Lib.hid he
  clear h he
  go_enter Tryz.func154, Tryz.ntmps154
  go_wp2
  go_quiet (fail)
  go_wp2
  go_ret
  exact ⟨rfl, (HP.out.drewN _).set1 (i + 1), (turns_drewN _ _).trans (turns_set _ _ _ _ rfl)⟩
set_option maxRecDepth 100000 in
theorem sChar_any (c : UInt8) (w : World) : Calls Tryz.prog 198 #[.int .u8 c.toNat] w fun e w' => e = .returned (.bool (pcB c)) ∧ w = w' := by
  obtain ⟨bl, hl⟩ : ∃ x, letB c = x := ⟨_, rfl⟩
  obtain ⟨bd, hd⟩ : ∃ x, digB c = x := ⟨_, rfl⟩
  have e45 : (c == 45) = ((c.toNat : Int) == 45) := (byte_beq c 45).symm
  have e95 : (c == 95) = ((c.toNat : Int) == 95) := (byte_beq c 95).symm
  have e46 : (c == 46) = ((c.toNat : Int) == 46) := (byte_beq c 46).symm
  have HP : Hid (pcB c = (bl || bd || ((c.toNat : Int) == 45) || ((c.toNat : Int) == 95) || ((c.toNat : Int) == 46))) := Lib.hid (by
    unfold pcB nbB; rw [hl, hd, e45, e95, e46])
  have HL := Lib.hid hl
  have HD := Lib.hid hd
  clear hl hd e45 e95 e46
  obtain ⟨x, hx⟩ : ∃ x : Int, x = (c.toNat : Int) := ⟨_, rfl⟩
  rw [← hx] at HP
  cases bl
  · cases bd
    · cases h1 : ((c.toNat : Int) == 95)
      · cases h2 : ((c.toNat : Int) == 45)
        · rw [hx, h1, h2] at HP
          have HX := Lib.hid hx
          clear hx
          go_enter Tryz.func198, Tryz.ntmps198
          go_wp2_with (first
      | (go_at_call 95; ((with_reducible refine (s3Let_any _ _).mono ?_); rw [HL.out]; rintro e w' ⟨rfl, rfl⟩))
      | (go_at_call 97; ((with_reducible refine (s3Dig_any _ _).mono ?_); rw [HD.out]; rintro e w' ⟨rfl, rfl⟩)))
          go_ret
          exact ⟨ret_bool (by rw [HP.out]; rfl), rfl⟩
        · rw [hx, h1, h2] at HP
          have HX := Lib.hid hx
          clear hx
          go_enter Tryz.func198, Tryz.ntmps198
          go_wp2_with (first
      | (go_at_call 95; ((with_reducible refine (s3Let_any _ _).mono ?_); rw [HL.out]; rintro e w' ⟨rfl, rfl⟩))
      | (go_at_call 97; ((with_reducible refine (s3Dig_any _ _).mono ?_); rw [HD.out]; rintro e w' ⟨rfl, rfl⟩)))
          go_ret
          exact ⟨ret_bool (by rw [HP.out]; rfl), rfl⟩
      · rw [hx, h1] at HP
        have HX := Lib.hid hx
        clear hx
        go_enter Tryz.func198, Tryz.ntmps198
        go_wp2_with (first
      | (go_at_call 95; ((with_reducible refine (s3Let_any _ _).mono ?_); rw [HL.out]; rintro e w' ⟨rfl, rfl⟩))
      | (go_at_call 97; ((with_reducible refine (s3Dig_any _ _).mono ?_); rw [HD.out]; rintro e w' ⟨rfl, rfl⟩)))
        go_ret
        exact ⟨ret_bool (by rw [HP.out]; simp), rfl⟩
    · have HX := Lib.hid hx
      clear hx
      go_enter Tryz.func198, Tryz.ntmps198
      go_wp2_with (first
      | (go_at_call 95; ((with_reducible refine (s3Let_any _ _).mono ?_); rw [HL.out]; rintro e w' ⟨rfl, rfl⟩))
      | (go_at_call 97; ((with_reducible refine (s3Dig_any _ _).mono ?_); rw [HD.out]; rintro e w' ⟨rfl, rfl⟩)))
      go_ret
      exact ⟨ret_bool (by rw [HP.out]; simp), rfl⟩
  · have HX := Lib.hid hx
    clear hx
    go_enter Tryz.func198, Tryz.ntmps198
    go_wp2_with (first
      | (go_at_call 95; ((with_reducible refine (s3Let_any _ _).mono ?_); rw [HL.out]; rintro e w' ⟨rfl, rfl⟩))
      | (go_at_call 97; ((with_reducible refine (s3Dig_any _ _).mono ?_); rw [HD.out]; rintro e w' ⟨rfl, rfl⟩)))
    go_ret
    exact ⟨ret_bool (by rw [HP.out]; simp), rfl⟩
set_option maxRecDepth 100000 in
theorem sAny_any (w : World) : Calls Tryz.prog 186 #[] w fun e w' => e = .returned (.string ⟨anyL.toArray⟩) ∧ Below w.heap.size w w' := by
  have hb0 : Buf w.heap.size (.slice (some ⟨w.heap.size, 0, none⟩) 0 0) [] w (w.alloc (.cells #[] 5)) := buf_none (Below.refl _ _)
  have HT : Hid (∀ k, k < 95 → anyL.take (k + 1) = anyL.take k ++ [UInt8.ofNat (32 + k)]) := Lib.hid fun k hk => by
    rw [List.take_succ_eq_append_getElem (by simpa [anyL] using hk)]
    simp [anyL]
  have HN : Hid (anyL.length = 95) := Lib.hid (by simp [anyL])
  generalize anyL = L at HT HN ⊢
  go_enter Tryz.func186, Tryz.ntmps186
  go_wp2
  go_loopw [1, 2] (fun v i wr => ∃ k : Nat, k ≤ 95 ∧ i = .int .i64 (32 + (k : Int)) ∧ Buf w.heap.size v (L.take k) w wr) (fun _ i _ => 127 - (intOf i).toNat)
  case atStart => exact ⟨0, by omega, rfl, by rw [List.take_zero]; exact hb0⟩
  case round =>
    obtain ⟨k, hk, rfl, hb⟩ := hrel
    clear hb0
    by_cases hlt : k < 95
    · have hlt2 : 32 + (k : Int) < 127 := by omega
      have hcv : (((UInt8.ofNat (32 + k)).toNat : Nat) : Int) = 32 + (k : Int) := by
        simp only [UInt8.toNat_ofNat']; omega
      have hlen : (L.take k).length ≤ 300 := by rw [List.length_take]; omega
      have HCV := Lib.hid hcv
      have HNX := Lib.hid (HT.out k hlt)
      clear hcv
      go_wp2_with (at_builtin; refine buf_append rfl _ _ rfl _ _ _ rfl _ _ _ hb rfl (UInt8.ofNat (32 + k)) (HCV.out) (by omega) ?_; clear hb; intro v1 w1 hb)
      go_roundw
      case rel => exact ⟨k + 1, by omega, by go_num, by rw [HNX.out]; exact hb⟩
      case measure => simp [intOf]; omega
    · have hge : ¬ 32 + (k : Int) < 127 := by omega
      have hcv := buf_str hb
      rw [List.take_of_length_le (by have := HN.out; omega)] at hcv
      go_wp2
      go_ret
      exact ⟨rfl, hb.below⟩
end Go.Proofs.YtkifdbeklagelaaGreatDoor

/- CHAPTER 5, spec: what the readers leave; l5Atom (the class and the alternative are asked for as premises). -/
namespace Go.Proofs.YtkifdbeklagelaaGreatDoor
open Go.RowKit

section
variable {S : Nat → Prop} {w w1 : World} {o : Obj}
theorem turns_al (h : TurnsAt S w w1) (o : Obj) : TurnsAt S w (w1.alloc o) := h.trans (below_turns (below_al (Below.refl _ _) o))
theorem turns_of_al (h : TurnsAt S (w.alloc o) w1) : TurnsAt S w w1 := (below_turns (below_al (Below.refl _ _) o)).trans h
theorem turns_new {b j : Nat} {u : Value} (h : TurnsAt S w w1) (hb : w.heap.size ≤ b) : TurnsAt S w (w1.setCell ⟨b, j, none⟩ u) :=
  ⟨h.os, h.tape, h.output, by simpa [World.setCell] using h.size, fun q hq hs => (Below.heap_setCell w1 ⟨b, j, none⟩ u q (fun e => by simp at e; omega)).trans (h.block q hq hs)⟩
/-- a struct variable of three cells, while the reader works -/
theorem box3t {b : Nat} {v0 v1 v2 : Value} {t : TypeId} (h : RT b (w.alloc (.cells #[v0, v1, v2] t)) w1) (hb : b < w.heap.size) :
    (w1.cell? ⟨w.heap.size, 0, none⟩ = some v0 ∧ w1.cell? ⟨w.heap.size, 1, none⟩ = some v1 ∧ w1.cell? ⟨w.heap.size, 2, none⟩ = some v2) ∧ (w1.frozen? ⟨w.heap.size, 0, none⟩ = false ∧ w1.frozen? ⟨w.heap.size, 1, none⟩ = false ∧ w1.frozen? ⟨w.heap.size, 2, none⟩ = false) ∧ w.heap.size < w1.heap.size := by
  have hl : w.heap.size < (w.alloc (.cells #[v0, v1, v2] t)).heap.size := by simp
  have hq : w1.heap[w.heap.size]? = some (.cells #[v0, v1, v2] t (0, 0)) := (h.block _ hl (by show ¬ w.heap.size = b; omega)).trans (heap_alloc_new w _)
  refine ⟨⟨?_, ?_, ?_⟩, ⟨?_, ?_, ?_⟩, Nat.lt_of_lt_of_le hl h.size⟩
  · rw [cell_of_row _ w.heap.size 0 _ _ _ hq]; rfl
  · rw [cell_of_row _ w.heap.size 1 _ _ _ hq]; rfl
  · rw [cell_of_row _ w.heap.size 2 _ _ _ hq]; rfl
  all_goals simp [World.frozen?, hq]
theorem PS.al {b : Nat} {s : ByteArray} {i : Nat} {bad : Bool} (h : PS w b s i bad) (o : Obj) : PS (w.alloc o) b s i bad := h.below (below_al (Below.refl _ _) _)
theorem PS.setNew {b c j : Nat} {s : ByteArray} {i : Nat} {bad : Bool} {u : Value} (h : PS w b s i bad) (hc : c ≠ b) : PS (w.setCell ⟨c, j, none⟩ u) b s i bad := (Below.heap_setCell w ⟨c, j, none⟩ u b (fun e => hc e.symm)).trans h
end
theorem ch40 : (40 : Int) = ((40 : UInt8).toNat : Int) := rfl
theorem ch41 : (41 : Int) = ((41 : UInt8).toNat : Int) := rfl
theorem ch42 : (42 : Int) = ((42 : UInt8).toNat : Int) := rfl
theorem ch43 : (43 : Int) = ((43 : UInt8).toNat : Int) := rfl
theorem ch46 : (46 : Int) = ((46 : UInt8).toNat : Int) := rfl
theorem ch63 : (63 : Int) = ((63 : UInt8).toNat : Int) := rfl
theorem ch91 : (91 : Int) = ((91 : UInt8).toNat : Int) := rfl
theorem ch93 : (93 : Int) = ((93 : UInt8).toNat : Int) := rfl
theorem ch124 : (124 : Int) = ((124 : UInt8).toNat : Int) := rfl
theorem ch126 : (126 : Int) = ((126 : UInt8).toNat : Int) := rfl
/-- where a sequence may end -/
def okR : List UInt8 → Bool
  | [] => true
  | c :: _ => c == 124 || c == 41
/-- what a reader of spec leaves -/
def SOut (d : Nat) (o : Option (Pat × List UInt8)) (b : Nat) (s : ByteArray) (w : World) (e : Ending) (w' : World) : Prop := match o with
  | none => ∃ (op : Int) (text : ByteArray) (A : Option Addr) (m c i : Nat), e = .returned (.agg #[.int .i64 op, .string text, .slice A m c]) ∧ PS w' b s i true ∧ RT b w w'
  | some (p, r) => ∃ (A : Option Addr) (c : Nat) (S : Nat → Prop), e = .returned (.agg #[.int .i64 p.x.op, .string p.x.text, .slice A p.kids.length c]) ∧ OwN patK d w.heap.size w' ⟨p.x.op, p.x.text, .slice A p.kids.length c⟩ p S ∧ PS w' b s (s.size - r.length) false ∧ RT b w w'
def SAtomC (n : Nat) : Prop := ∀ (b : Nat) (s : ByteArray) (i : Nat) (w : World), PS w b s i false → s.size ≤ 30 → i ≤ s.size → s.size - i ≤ n → Calls Tryz.prog 171 #[.pointer (some ⟨b, 0, none⟩)] w (SOut (4 * n) (atomF n (s.data.toList.drop i)) b s w)
def SSeqC (n : Nat) : Prop := ∀ (b : Nat) (s : ByteArray) (i : Nat) (w : World), PS w b s i false → s.size ≤ 30 → i ≤ s.size → s.size - i ≤ n → Calls Tryz.prog 153 #[.pointer (some ⟨b, 0, none⟩)] w (SOut (4 * n + 3) (if okR (seqP (atomF n) (s.data.toList.drop i)).2 = true then some (seqP (atomF n) (s.data.toList.drop i)) else none) b s w)
def SAltC (n : Nat) : Prop := ∀ (b : Nat) (s : ByteArray) (i : Nat) (w : World), PS w b s i false → s.size ≤ 30 → i ≤ s.size → s.size - i ≤ n → Calls Tryz.prog 123 #[.pointer (some ⟨b, 0, none⟩)] w (SOut (4 * n + 4) (if okR (altP (atomF n) (s.data.toList.drop i)).2 = true then some (altP (atomF n) (s.data.toList.drop i)) else none) b s w)
def SClassC : Prop := ∀ (b : Nat) (s : ByteArray) (i : Nat) (w : World), PS w b s i false → s.size ≤ 30 → i ≤ s.size → Calls Tryz.prog 185 #[.pointer (some ⟨b, 0, none⟩)] w (SOut 0 (classL (s.data.toList.drop i)) b s w)
section
variable {d k b : Nat} {p : Pat} {r : List UInt8} {s : ByteArray} {w w1 : World} {o : Obj} {A : Option Addr} {c : Nat} {S : Nat → Prop} {x0 x1 x2 : Value}
theorem s_some (ho : OwN patK d (w.alloc o).heap.size w1 ⟨p.x.op, p.x.text, .slice A p.kids.length c⟩ p S) (hP : PS w1 b s k false) (hk : s.size - r.length = k) (ht : RT b (w.alloc o) w1) (hb : b < w.heap.size) {e : Nat} (he : d ≤ e) :
    SOut e (some (p, r)) b s w (.returned (.agg #[.int .i64 p.x.op, .string p.x.text, .slice A p.kids.length c])) (((w1.setCell ⟨w.heap.size, 0, none⟩ x0).setCell ⟨w.heap.size, 1, none⟩ x1).setCell ⟨w.heap.size, 2, none⟩ x2) :=
  ⟨A, c, S, rfl, ((((OwN.set ho (by simp)).set (by simp)).set (by simp)).mono (by simp)).to he, by rw [hk]; exact ((hP.setNew (by omega)).setNew (by omega)).setNew (by omega), turns_new (turns_new (turns_new (turns_of_al ht) (Nat.le_refl _)) (Nat.le_refl _)) (Nat.le_refl _)⟩
theorem s_none {op : Int} {text : ByteArray} {m i : Nat} (hP : PS w1 b s i true) (ht : RT b (w.alloc o) w1) (hb : b < w.heap.size) :
    SOut d none b s w (.returned (.agg #[.int .i64 op, .string text, .slice A m c])) (((w1.setCell ⟨w.heap.size, 0, none⟩ x0).setCell ⟨w.heap.size, 1, none⟩ x1).setCell ⟨w.heap.size, 2, none⟩ x2) :=
  ⟨op, text, A, m, c, i, rfl, ((hP.setNew (by omega)).setNew (by omega)).setNew (by omega), turns_new (turns_new (turns_new (turns_of_al ht) (Nat.le_refl _)) (Nat.le_refl _)) (Nat.le_refl _)⟩
end
theorem no_bad (s : ByteArray) (i : Nat) (d : UInt8) : NoNext s i true d := .inl rfl
theorem no_head {s : ByteArray} {i : Nat} {c d : UInt8} (h : ∀ h : i < s.size, s[i] = c) (hne : c ≠ d) : NoNext s i false d := .inr fun hl e => hne ((h hl).symm.trans e)
theorem no_end {s : ByteArray} {i : Nat} {d : UInt8} {bad : Bool} (h : ¬ i < s.size) : NoNext s i bad d := .inr fun hl => absurd hl h
/-- behind '(': the alternative and what is left -/
def innerR (x : Pat × List UInt8) : Option (Pat × List UInt8) := match x.2 with
  | [] => none
  | d :: r' => if d = 41 then some (x.1, r') else none
theorem innerR_bad {p : Pat} {r : List UInt8} (h : okR r = false) : innerR (p, r) = none := by
  cases r with
  | nil => rfl
  | cons d r' =>
    simp only [okR, Bool.or_eq_false_iff, beq_eq_false_iff_ne] at h
    exact if_neg h.2
theorem innerR_ne {p : Pat} {r : List UInt8} (h : ∀ d r', r = d :: r' → d ≠ 41) : innerR (p, r) = none := by
  cases r with
  | nil => rfl
  | cons d r' => exact if_neg (h d r' rfl)
theorem s3Let_q (c : UInt8) (b : Bool) (h : letB c = b) (w : World) : Calls Tryz.prog 95 #[.int .u8 c.toNat] w fun e w' => e = .returned (.bool b) ∧ w' = w :=
  (s3Let_any c w).mono fun _ _ ⟨he, hw⟩ => ⟨by rw [he, h], hw.symm⟩
theorem s3Dig_q (c : UInt8) (b : Bool) (h : digB c = b) (w : World) : Calls Tryz.prog 97 #[.int .u8 c.toNat] w fun e w' => e = .returned (.bool b) ∧ w' = w :=
  (s3Dig_any c w).mono fun _ _ ⟨he, hw⟩ => ⟨by rw [he, h], hw.symm⟩
set_option maxRecDepth 100000 in
set_option maxHeartbeats 1000000 in
theorem satom_end (d b : Nat) (s : ByteArray) (i : Nat) (w : World) (hP : PS w b s i false) (h30 : s.size ≤ 30) (hlt : ¬ i < s.size) : Calls Tryz.prog 171 #[.pointer (some ⟨b, 0, none⟩)] w (SOut d none b s w) := by
  have hbl := hP.lt
  have hnb : ¬ w.heap.size = b := by omega
  have hnb' : ¬ b = w.heap.size := by omega
  have hs : s.size ≤ maxLen := by unfold maxLen; omega
  have hs9 : s.size ≤ 9223372036854775807 := by omega
  have hP0 := hP.al (.cells #[.int .i64 0, .string ⟨#[]⟩, .slice none 0 0] 124)
  have n40 : NoNext s i false 40 := no_end hlt
  have n91 : NoNext s i false 91 := no_end hlt
  have n46 : NoNext s i false 46 := no_end hlt
  have hq1 : decide ((i : Int) < (s.size : Int)) = false := by simp; omega
  have hq2 : ¬ (i : Int) < (s.size : Int) := by omega
  clear hP h30
  go_enter Tryz.func171, Tryz.ntmps171
  go_wp2_with (first
    | (go_at_call 154; ((with_reducible refine (next_no b s hs i false 40 40 ch40 _ hP0 n40).mono ?_); rintro e wa ⟨rfl, hPa, hTa⟩; clear hP0))
    | (go_at_call 154; ((with_reducible refine (next_no b s hs i false 91 91 ch91 _ hPa n91).mono ?_); rintro e wb ⟨rfl, hPb, hTb⟩; clear hPa))
    | (go_at_call 154; ((with_reducible refine (next_no b s hs i false 46 46 ch46 _ hPb n46).mono ?_); rintro e w3 ⟨rfl, hP3, hTc⟩; have hT03 : RT b (w.alloc (.cells #[.int .i64 0, .string ⟨#[]⟩, .slice none 0 0] 124)) w3 := (hTa.trans hTb).trans hTc; obtain ⟨⟨b0, b1, b2⟩, ⟨f0, f1, f2⟩, hz3⟩ := box3t hT03 hbl; obtain ⟨⟨p0, p1, p2⟩, g1, g2⟩ := hP3.cells; clear hPb)))
  go_quiet (fail)
  go_wp2
  refine bodyPost_ret (v := .agg #[.int .i64 0, .string ⟨#[]⟩, .slice none 0 0]) (by simp [results, Tryz.results171, go_sem, b0, b1, b2, hz3, hnb, hnb']) rfl ?_
  exact s_none ((hP3.drewN _).set2 true) ((hT03.trans (turns_drewN _ _)).trans (turns_set _ _ _ _ rfl)) hbl
theorem satom_0 : SAtomC 0 := by
  intro b s i w hP h30 hi hn
  exact satom_end _ b s i w hP h30 (by omega)
set_option maxRecDepth 100000 in
set_option maxHeartbeats 2000000 in
theorem satom_of {n : Nat} (hA : SAltC n) (hK : SClassC) : SAtomC (n + 1) := by
  intro b s i w hP h30 hi hn
  have hbl := hP.lt
  have hnb : ¬ w.heap.size = b := by omega
  have hnb' : ¬ b = w.heap.size := by omega
  have hs : s.size ≤ maxLen := by unfold maxLen; omega
  have hs9 : s.size ≤ 9223372036854775807 := by omega
  have hP0 := hP.al (.cells #[.int .i64 0, .string ⟨#[]⟩, .slice none 0 0] 124)
  have hT0 := TurnsAt.refl (fun q => q = b) (w.alloc (.cells #[.int .i64 0, .string ⟨#[]⟩, .slice none 0 0] 124))
  by_cases hlt : i < s.size
  · obtain ⟨c, hc⟩ : ∃ c, c = s[i] := ⟨_, rfl⟩
    have hd : s.data.toList.drop i = c :: s.data.toList.drop (i + 1) := by rw [data_drop s i hlt, hc]
    have HX : Hid (atomF (n + 1) (s.data.toList.drop i) = atomL (altP (atomF n)) (c :: s.data.toList.drop (i + 1))) := Lib.hid (by rw [← hd]; rfl)
    rw [HX.out]
    have hcc : ∀ h : i < s.size, s[i] = c := fun _ => hc.symm
    by_cases h40 : c = 40
    · have he : s[i] = 40 := by rw [← hc, h40]
      have e : atomL (altP (atomF n)) (c :: s.data.toList.drop (i + 1)) = innerL n (s.data.toList.drop (i + 1)) := by rw [h40]; rfl
      rw [e]
      have hC := fun w hP => hA b s (i + 1) w hP h30 (by omega) (by omega)
      rw [show innerL n (s.data.toList.drop (i + 1)) = innerR (altP (atomF n) (s.data.toList.drop (i + 1))) from rfl]
      have hsuf := altP_suf (atomF_sh n) (s.data.toList.drop (i + 1))
      obtain ⟨⟨p, r⟩, hpr⟩ : ∃ x, x = altP (atomF n) (s.data.toList.drop (i + 1)) := ⟨_, rfl⟩
      rw [← hpr] at hC hsuf ⊢
      have hr := hsuf.drop
      have hrl := hsuf.len
      have hlen : (s.data.toList.drop (i + 1)).length = s.size - (i + 1) := by simp
      simp only [hlen] at hr hrl hC ⊢
      rw [List.drop_drop] at hr
      have hkk : i + 1 + (s.size - (i + 1) - r.length) = s.size - r.length := by omega
      rw [hkk] at hr
      obtain ⟨k, hk⟩ : ∃ k, s.size - r.length = k := ⟨_, rfl⟩
      rw [hk] at hr
      have HK := Lib.hid hk
      have HE := Lib.hid he
      cases hok : okR r with
      | false =>
        rw [hok, if_neg (by decide)] at hC
        have HC := Lib.hid hC
        have en := innerR_bad (p := p) hok
        rw [en]
        clear hC hA hK h30 hi hn HX hP hd hcc hc h40 e hpr hsuf hr hrl hlen hkk hk hok en he
        go_enter Tryz.func171, Tryz.ntmps171
        go_wp2_with (first
          | (go_at_call 154; ((with_reducible refine (next_yes b s hs i 40 40 ch40 _ hP0 hlt HE.out).mono ?_); rintro e w1 ⟨rfl, hP1, hT1⟩; clear hP0))
          | (go_at_call 123; ((refine (HC.out _ hP1).mono ?_); rintro e w2 ⟨op, text, A, m, cc, j, rfl, hP2, hT2⟩; have hT12 := hT1.trans hT2; clear hP1 hT1 hT2; have hb2 : b < w2.heap.size := hP2.lt; have hP2' := hP2.al (.cells #[.int .i64 op, .string text, .slice A m cc] 124); clear hP2))
          | (go_at_call 154; ((with_reducible refine (next_no b s hs j true 41 41 ch41 _ hP2' (no_bad s j 41)).mono ?_); rintro e w3 ⟨rfl, hP3, hT3⟩; obtain ⟨⟨a0, a1, a2⟩, _, hz2⟩ := box3t hT3 hb2; have hT03 : RT b _ w3 := hT12.trans (turns_of_al hT3); obtain ⟨⟨b0, b1, b2⟩, ⟨f0, f1, f2⟩, hz3⟩ := box3t hT03 hbl; obtain ⟨⟨p0, p1, p2⟩, g1, g2⟩ := hP3.cells)))
        refine bodyPost_ret (v := .agg #[.int .i64 op, .string text, .slice A m cc]) (by simp [results, Tryz.results171, go_sem, b0, b1, b2, hz3, hnb, hnb']) rfl ?_
        exact s_none (hP3.set2 true) (hT03.trans (turns_set _ _ _ _ rfl)) hbl
      | true =>
        rw [hok, if_pos rfl] at hC
        have HC : Hid (∀ w, PS w b s (i + 1) false → Calls Tryz.prog 123 #[.pointer (some ⟨b, 0, none⟩)] w fun e w' => ∃ (A : Option Addr) (c : Nat) (S : Nat → Prop), e = .returned (.agg #[.int .i64 p.x.op, .string p.x.text, .slice A p.kids.length c]) ∧ OwN patK (4 * n + 4) w.heap.size w' ⟨p.x.op, p.x.text, .slice A p.kids.length c⟩ p S ∧ PS w' b s k false ∧ RT b w w') := Lib.hid (by rw [← hk]; exact hC)
        by_cases h41 : ∃ h : k < s.size, s[k] = 41
        · obtain ⟨hlk, hk41⟩ := h41
          have hr2 : r = 41 :: s.data.toList.drop (k + 1) := by rw [hr, data_drop s k hlk, hk41]
          have en : innerR (p, r) = some (p, s.data.toList.drop (k + 1)) := by rw [hr2]; rfl
          rw [en]
          have HK2 : Hid (s.size - (s.data.toList.drop (k + 1)).length = k + 1) := Lib.hid (by simp; omega)
          have HE2 := Lib.hid hk41
          clear hC hA hK h30 hi hn HX hP hd hcc hc h40 e hpr hsuf hr hrl hlen hkk hk hok en he hr2 hk41
          go_enter Tryz.func171, Tryz.ntmps171
          go_wp2_with (first
            | (go_at_call 154; ((with_reducible refine (next_yes b s hs i 40 40 ch40 _ hP0 hlt HE.out).mono ?_); rintro e w1 ⟨rfl, hP1, hT1⟩; clear hP0))
            | (go_at_call 123; ((refine (HC.out _ hP1).mono ?_); rintro e w2 ⟨A, cc, S, rfl, ho, hP2, hT2⟩; have ho0 := ho.mono hT1.size; have hT12 := hT1.trans hT2; clear hP1 hT2 ho; have hb2 : b < w2.heap.size := hP2.lt; have hP2' := hP2.al (.cells #[.int .i64 p.x.op, .string p.x.text, .slice A p.kids.length cc] 124); clear hP2))
            | (go_at_call 154; ((with_reducible refine (next_yes b s hs k 41 41 ch41 _ hP2' hlk HE2.out).mono ?_); rintro e w3 ⟨rfl, hP3, hT3⟩; obtain ⟨⟨a0, a1, a2⟩, _, hz2⟩ := box3t hT3 hb2; have hT03 : RT b _ w3 := hT12.trans (turns_of_al hT3); obtain ⟨⟨b0, b1, b2⟩, ⟨f0, f1, f2⟩, hz3⟩ := box3t hT03 hbl)))
          refine bodyPost_ret (v := .agg #[.int .i64 p.x.op, .string p.x.text, .slice A p.kids.length cc]) (by simp [results, Tryz.results171, go_sem, b0, b1, b2, hz3, hnb, hnb']) rfl ?_
          exact s_some (ho0.apart (turns_of_al hT3) (fun q hq e => by have := (ho0.lt q hq).1; simp at this; omega)) hP3 HK2.out hT03 hbl (by omega)
        · have en : innerR (p, r) = none := innerR_ne (fun d r' e41 => by
            rw [e41] at hr
            obtain ⟨hlk, hd2, _⟩ := drop_head hr
            intro e2
            exact h41 ⟨hlk, hd2.trans e2⟩)
          rw [en]
          have hNo : NoNext s k false 41 := .inr fun h e2 => h41 ⟨h, e2⟩
          clear hC hA hK h30 hi hn HX hP hd hcc hc h40 e hpr hsuf hr hrl hlen hkk hk hok en he h41
          go_enter Tryz.func171, Tryz.ntmps171
          go_wp2_with (first
            | (go_at_call 154; ((with_reducible refine (next_yes b s hs i 40 40 ch40 _ hP0 hlt HE.out).mono ?_); rintro e w1 ⟨rfl, hP1, hT1⟩; clear hP0))
            | (go_at_call 123; ((refine (HC.out _ hP1).mono ?_); rintro e w2 ⟨A, cc, S, rfl, ho, hP2, hT2⟩; have hT12 := hT1.trans hT2; clear hP1 hT2 ho; have hb2 : b < w2.heap.size := hP2.lt; have hP2' := hP2.al (.cells #[.int .i64 p.x.op, .string p.x.text, .slice A p.kids.length cc] 124); clear hP2))
            | (go_at_call 154; ((with_reducible refine (next_no b s hs k false 41 41 ch41 _ hP2' hNo).mono ?_); rintro e w3 ⟨rfl, hP3, hT3⟩; obtain ⟨⟨a0, a1, a2⟩, _, hz2⟩ := box3t hT3 hb2; have hT03 : RT b _ w3 := hT12.trans (turns_of_al hT3); obtain ⟨⟨b0, b1, b2⟩, ⟨f0, f1, f2⟩, hz3⟩ := box3t hT03 hbl; obtain ⟨⟨p0, p1, p2⟩, g1, g2⟩ := hP3.cells)))
          refine bodyPost_ret (v := .agg #[.int .i64 p.x.op, .string p.x.text, .slice A p.kids.length cc]) (by simp [results, Tryz.results171, go_sem, b0, b1, b2, hz3, hnb, hnb']) rfl ?_
          exact s_none (hP3.set2 true) (hT03.trans (turns_set _ _ _ _ rfl)) hbl
    · have n40 : NoNext s i false 40 := no_head hcc h40
      by_cases h91 : c = 91
      · have HE : Hid (s[i] = 91) := Lib.hid (by rw [← hc, h91])
        have e : atomL (altP (atomF n)) (c :: s.data.toList.drop (i + 1)) = classL (s.data.toList.drop (i + 1)) := by rw [h91]; rfl
        rw [e]
        have HC := Lib.hid (fun w hP => hK b s (i + 1) w hP h30 (by omega))
        generalize classL (s.data.toList.drop (i + 1)) = o at HC
        clear hA hK h30 hi hn HX hP hd hcc hc h40 h91 e
        cases o with
        | none =>
          go_enter Tryz.func171, Tryz.ntmps171
          go_wp2_with (first
            | (go_at_call 154; ((with_reducible refine (next_no b s hs i false 40 40 ch40 _ hP0 n40).mono ?_); rintro e wa ⟨rfl, hPa, hTa⟩; clear hP0))
            | (go_at_call 154; ((with_reducible refine (next_yes b s hs i 91 91 ch91 _ hPa hlt HE.out).mono ?_); rintro e wb ⟨rfl, hPb, hTb⟩; clear hPa))
            | (go_at_call 185; ((refine (HC.out _ hPb).mono ?_); rintro e w3 ⟨op, text, A, m, cc, j, rfl, hP3, hTc⟩; have hT03 : RT b _ w3 := (hTa.trans hTb).trans hTc; obtain ⟨⟨b0, b1, b2⟩, ⟨f0, f1, f2⟩, hz3⟩ := box3t hT03 hbl)))
          refine bodyPost_ret (v := .agg #[.int .i64 op, .string text, .slice A m cc]) (by simp [results, Tryz.results171, go_sem, b0, b1, b2, hz3, hnb, hnb']) rfl ?_
          exact s_none hP3 hT03 hbl
        | some x =>
          obtain ⟨p, r⟩ := x
          go_enter Tryz.func171, Tryz.ntmps171
          go_wp2_with (first
            | (go_at_call 154; ((with_reducible refine (next_no b s hs i false 40 40 ch40 _ hP0 n40).mono ?_); rintro e wa ⟨rfl, hPa, hTa⟩; clear hP0))
            | (go_at_call 154; ((with_reducible refine (next_yes b s hs i 91 91 ch91 _ hPa hlt HE.out).mono ?_); rintro e wb ⟨rfl, hPb, hTb⟩; clear hPa))
            | (go_at_call 185; ((refine (HC.out _ hPb).mono ?_); rintro e w3 ⟨A, cc, S, rfl, ho, hP3, hTc⟩; have hT02 : RT b _ wb := hTa.trans hTb; have hT03 : RT b _ w3 := hT02.trans hTc; have ho0 := ho.mono hT02.size; obtain ⟨⟨b0, b1, b2⟩, ⟨f0, f1, f2⟩, hz3⟩ := box3t hT03 hbl)))
          refine bodyPost_ret (v := .agg #[.int .i64 p.x.op, .string p.x.text, .slice A p.kids.length cc]) (by simp [results, Tryz.results171, go_sem, b0, b1, b2, hz3, hnb, hnb']) rfl ?_
          exact s_some ho0 hP3 rfl hT03 hbl (by omega)
      · have n91 : NoNext s i false 91 := no_head hcc h91
        by_cases h46 : c = 46
        · have HE : Hid (s[i] = 46) := Lib.hid (by rw [← hc, h46])
          have e : atomL (altP (atomF n)) (c :: s.data.toList.drop (i + 1)) = some (charsP anyL, s.data.toList.drop (i + 1)) := by rw [h46]; rfl
          rw [e]
          have HK : Hid (s.size - (s.data.toList.drop (i + 1)).length = i + 1) := Lib.hid (by simp; omega)
          clear hA hK h30 hi hn HX hP hd hcc hc h40 h91 h46 e
          go_enter Tryz.func171, Tryz.ntmps171
          go_wp2_with (first
            | (go_at_call 154; ((with_reducible refine (next_no b s hs i false 40 40 ch40 _ hP0 n40).mono ?_); rintro e wa ⟨rfl, hPa, hTa⟩; clear hP0))
            | (go_at_call 154; ((with_reducible refine (next_no b s hs i false 91 91 ch91 _ hPa n91).mono ?_); rintro e wb ⟨rfl, hPb, hTb⟩; clear hPa))
            | (go_at_call 154; ((with_reducible refine (next_yes b s hs i 46 46 ch46 _ hPb hlt HE.out).mono ?_); rintro e wc ⟨rfl, hPc, hTc⟩; clear hPb))
            | (go_at_call 186; ((refine (sAny_any _).mono ?_); rintro e w3 ⟨rfl, hb3⟩; have hP3 := hPc.below hb3; have hT03 : RT b _ w3 := ((hTa.trans hTb).trans hTc).trans (below_turns hb3); obtain ⟨⟨b0, b1, b2⟩, ⟨f0, f1, f2⟩, hz3⟩ := box3t hT03 hbl)))
          refine bodyPost_ret (v := .agg #[.int .i64 1, .string ⟨anyL.toArray⟩, .slice none 0 0]) (by simp [results, Tryz.results171, go_sem, b0, b1, b2, hz3, hnb, hnb']) rfl ?_
          exact s_some (p := charsP anyL) (d := 0) (owN_leaf _ _ _ _ _) hP3 HK.out hT03 hbl (by omega)
        · have n46 : NoNext s i false 46 := no_head hcc h46
          have hlt1 : (i : Int) < (s.size : Int) := by omega
          have hq1 : decide ((i : Int) < (s.size : Int)) = true := by simp; omega
          cases hnbc : nbB c
          · have e : atomL (altP (atomF n)) (c :: s.data.toList.drop (i + 1)) = none := by simp [atomL, h40, h91, h46, hnbc]
            rw [e]
            have hnbs : nbB s[i] = false := by rw [← hc]; exact hnbc
            have hl1 : letB s[i] = false := by unfold nbB at hnbs; simp at hnbs; exact hnbs.1.1
            have hl2 : digB s[i] = false := by unfold nbB at hnbs; simp at hnbs; exact hnbs.1.2
            have hl3 : s[i] ≠ 45 := by unfold nbB at hnbs; simp at hnbs; exact hnbs.2
            have hq3 : ((s[i].toNat : Int) == 45) = false := byte_ne (d := 45) hl3
            have H1 := Lib.hid hl1
            have H2 := Lib.hid hl2
            clear hA hK h30 hi hn HX hP hd hcc hc h40 h91 h46 e hnbs hl1 hl2 hl3 hnbc
            go_enter Tryz.func171, Tryz.ntmps171
            go_wp2_with (first
              | (go_at_call 154; ((with_reducible refine (next_no b s hs i false 40 40 ch40 _ hP0 n40).mono ?_); rintro e wa ⟨rfl, hPa, hTa⟩; clear hP0))
              | (go_at_call 154; ((with_reducible refine (next_no b s hs i false 91 91 ch91 _ hPa n91).mono ?_); rintro e wb ⟨rfl, hPb, hTb⟩; clear hPa))
              | (go_at_call 154; ((with_reducible refine (next_no b s hs i false 46 46 ch46 _ hPb n46).mono ?_); rintro e w3 ⟨rfl, hP3, hTc⟩; have hT03 : RT b _ w3 := (hTa.trans hTb).trans hTc; obtain ⟨⟨b0, b1, b2⟩, ⟨f0, f1, f2⟩, hz3⟩ := box3t hT03 hbl; obtain ⟨⟨p0, p1, p2⟩, g1, g2⟩ := hP3.cells; clear hPb)))
            go_quiet ((first | (go_at_call 95; exact Calls.quiet_of_same (s3Let_q _ false H1.out _)) | (go_at_call 97; exact Calls.quiet_of_same (s3Dig_q _ false H2.out _))))
            go_wp2
            refine bodyPost_ret (v := .agg #[.int .i64 0, .string ⟨#[]⟩, .slice none 0 0]) (by simp [results, Tryz.results171, go_sem, b0, b1, b2, hz3, hnb, hnb']) rfl ?_
            exact s_none ((hP3.drewN _).set2 true) ((hT03.trans (turns_drewN _ _)).trans (turns_set _ _ _ _ rfl)) hbl
          · have e : atomL (altP (atomF n)) (c :: s.data.toList.drop (i + 1)) = some (charsP [c], s.data.toList.drop (i + 1)) := by simp [atomL, h40, h91, h46, hnbc]
            rw [e]
            have hnbs : nbB s[i] = true := by rw [← hc]; exact hnbc
            have HK : Hid (s.size - (s.data.toList.drop (i + 1)).length = i + 1) := Lib.hid (by simp; omega)
            have HX1 : Hid (s.extract i (i + 1) = ⟨[c].toArray⟩) := Lib.hid (by
              apply ByteArray.ext; apply Array.toList_inj.1
              rw [Lib.extract_data, hd]; simp)
            obtain ⟨v1, hv1⟩ : ∃ x, letB s[i] = x := ⟨_, rfl⟩
            obtain ⟨v2, hv2⟩ : ∃ x, digB s[i] = x := ⟨_, rfl⟩
            have hv3 : v1 = false → v2 = false → ((s[i].toNat : Int) == 45) = true := fun h1 h2 => by
              unfold nbB at hnbs; rw [hv1, hv2, h1, h2] at hnbs; simp at hnbs; rw [hnbs]; rfl
            have H1 := Lib.hid hv1
            have H2 := Lib.hid hv2
            have hi9 : (i : Int) + 1 ≤ (s.size : Int) := by omega
            clear hA hK h30 hi hn HX hP hd hcc hc h40 h91 h46 e hnbs hnbc hv1 hv2
            cases v1
            · cases v2
              · have hq3 := hv3 rfl rfl
                clear hv3
                go_enter Tryz.func171, Tryz.ntmps171
                go_wp2_with (first
                  | (go_at_call 154; ((with_reducible refine (next_no b s hs i false 40 40 ch40 _ hP0 n40).mono ?_); rintro e wa ⟨rfl, hPa, hTa⟩; clear hP0))
                  | (go_at_call 154; ((with_reducible refine (next_no b s hs i false 91 91 ch91 _ hPa n91).mono ?_); rintro e wb ⟨rfl, hPb, hTb⟩; clear hPa))
                  | (go_at_call 154; ((with_reducible refine (next_no b s hs i false 46 46 ch46 _ hPb n46).mono ?_); rintro e w3 ⟨rfl, hP3, hTc⟩; have hT03 : RT b _ w3 := (hTa.trans hTb).trans hTc; obtain ⟨⟨b0, b1, b2⟩, ⟨f0, f1, f2⟩, hz3⟩ := box3t hT03 hbl; obtain ⟨⟨p0, p1, p2⟩, g1, g2⟩ := hP3.cells; clear hPb)))
                go_quiet ((first | (go_at_call 95; exact Calls.quiet_of_same (s3Let_q _ _ H1.out _)) | (go_at_call 97; exact Calls.quiet_of_same (s3Dig_q _ _ H2.out _))))
                go_wp2
                have hP4 : PS ((w3.drewN nq).setCell ⟨b, 1, none⟩ (.int .i64 ((i : Int) + 1))) b s (i + 1) false := (hP3.drewN nq).set1 (i + 1)
                have hT04 : RT b (w.alloc (.cells #[.int .i64 0, .string ⟨#[]⟩, .slice none 0 0] 124)) ((w3.drewN nq).setCell ⟨b, 1, none⟩ (.int .i64 ((i : Int) + 1))) := (hT03.trans (turns_drewN _ _)).trans (turns_set _ _ _ _ rfl)
                generalize (w3.drewN nq).setCell ⟨b, 1, none⟩ (.int .i64 ((i : Int) + 1)) = W0 at hP4 hT04 ⊢
                obtain ⟨⟨k0, k1', k2⟩, _, _⟩ := hP4.cells
                have k1 : W0.cell? ⟨b, 1, none⟩ = some (.int .i64 ((i : Int) + 1)) := k1'
                clear k1' b0 b1 b2 f0 f1 f2 hz3 p0 p1 p2 g1 g2 hP3 hT03 hTa hTb hTc
                have q0 : (0 : Int) ≤ (i : Int) := by omega
                have q3 : (i : Int) ≤ (i : Int) + 1 := by omega
                have q4 : ((i : Int) + 1).toNat = i + 1 := by omega
                have q1 : IntKind.i64.wrap ((i : Int) + 1 - 1) = (i : Int) := by rw [show (i : Int) + 1 - 1 = (i : Int) by omega]; exact IntWalk.i64_in _ (by omega)
                go_still_tail 13, (by kernel_rfl)
                repeat still_step
                change wpList _ _ _ _ _ W0.drew
                have hP5 : PS W0.drew b s (i + 1) false := hP4
                have hT05 : RT b (w.alloc (.cells #[.int .i64 0, .string ⟨#[]⟩, .slice none 0 0] 124)) W0.drew := hT04.trans (turns_drewN W0 1)
                generalize W0.drew = W1 at hP5 hT05 ⊢
                obtain ⟨⟨b0, b1, b2⟩, ⟨f0, f1, f2⟩, hz3⟩ := box3t hT05 hbl
                go_wp2
                refine bodyPost_ret (v := .agg #[.int .i64 1, .string (s.extract i (i + 1)), .slice none 0 0]) (by simp [results, Tryz.results171, go_sem, b0, b1, b2, hz3, hnb, hnb']) rfl ?_
                rw [HX1.out]
                exact s_some (p := charsP [c]) (d := 0) (owN_leaf _ _ _ _ _) hP5 HK.out hT05 hbl (by omega)
              · clear hv3
                go_enter Tryz.func171, Tryz.ntmps171
                go_wp2_with (first
                  | (go_at_call 154; ((with_reducible refine (next_no b s hs i false 40 40 ch40 _ hP0 n40).mono ?_); rintro e wa ⟨rfl, hPa, hTa⟩; clear hP0))
                  | (go_at_call 154; ((with_reducible refine (next_no b s hs i false 91 91 ch91 _ hPa n91).mono ?_); rintro e wb ⟨rfl, hPb, hTb⟩; clear hPa))
                  | (go_at_call 154; ((with_reducible refine (next_no b s hs i false 46 46 ch46 _ hPb n46).mono ?_); rintro e w3 ⟨rfl, hP3, hTc⟩; have hT03 : RT b _ w3 := (hTa.trans hTb).trans hTc; obtain ⟨⟨b0, b1, b2⟩, ⟨f0, f1, f2⟩, hz3⟩ := box3t hT03 hbl; obtain ⟨⟨p0, p1, p2⟩, g1, g2⟩ := hP3.cells; clear hPb)))
                go_quiet ((first | (go_at_call 95; exact Calls.quiet_of_same (s3Let_q _ _ H1.out _)) | (go_at_call 97; exact Calls.quiet_of_same (s3Dig_q _ _ H2.out _))))
                go_wp2
                have hP4 : PS ((w3.drewN nq).setCell ⟨b, 1, none⟩ (.int .i64 ((i : Int) + 1))) b s (i + 1) false := (hP3.drewN nq).set1 (i + 1)
                have hT04 : RT b (w.alloc (.cells #[.int .i64 0, .string ⟨#[]⟩, .slice none 0 0] 124)) ((w3.drewN nq).setCell ⟨b, 1, none⟩ (.int .i64 ((i : Int) + 1))) := (hT03.trans (turns_drewN _ _)).trans (turns_set _ _ _ _ rfl)
                generalize (w3.drewN nq).setCell ⟨b, 1, none⟩ (.int .i64 ((i : Int) + 1)) = W0 at hP4 hT04 ⊢
                obtain ⟨⟨k0, k1', k2⟩, _, _⟩ := hP4.cells
                have k1 : W0.cell? ⟨b, 1, none⟩ = some (.int .i64 ((i : Int) + 1)) := k1'
                clear k1' b0 b1 b2 f0 f1 f2 hz3 p0 p1 p2 g1 g2 hP3 hT03 hTa hTb hTc
                have q0 : (0 : Int) ≤ (i : Int) := by omega
                have q3 : (i : Int) ≤ (i : Int) + 1 := by omega
                have q4 : ((i : Int) + 1).toNat = i + 1 := by omega
                have q1 : IntKind.i64.wrap ((i : Int) + 1 - 1) = (i : Int) := by rw [show (i : Int) + 1 - 1 = (i : Int) by omega]; exact IntWalk.i64_in _ (by omega)
                go_still_tail 13, (by kernel_rfl)
                repeat still_step
                change wpList _ _ _ _ _ W0.drew
                have hP5 : PS W0.drew b s (i + 1) false := hP4
                have hT05 : RT b (w.alloc (.cells #[.int .i64 0, .string ⟨#[]⟩, .slice none 0 0] 124)) W0.drew := hT04.trans (turns_drewN W0 1)
                generalize W0.drew = W1 at hP5 hT05 ⊢
                obtain ⟨⟨b0, b1, b2⟩, ⟨f0, f1, f2⟩, hz3⟩ := box3t hT05 hbl
                go_wp2
                refine bodyPost_ret (v := .agg #[.int .i64 1, .string (s.extract i (i + 1)), .slice none 0 0]) (by simp [results, Tryz.results171, go_sem, b0, b1, b2, hz3, hnb, hnb']) rfl ?_
                rw [HX1.out]
                exact s_some (p := charsP [c]) (d := 0) (owN_leaf _ _ _ _ _) hP5 HK.out hT05 hbl (by omega)
            · clear hv3
              go_enter Tryz.func171, Tryz.ntmps171
              go_wp2_with (first
                | (go_at_call 154; ((with_reducible refine (next_no b s hs i false 40 40 ch40 _ hP0 n40).mono ?_); rintro e wa ⟨rfl, hPa, hTa⟩; clear hP0))
                | (go_at_call 154; ((with_reducible refine (next_no b s hs i false 91 91 ch91 _ hPa n91).mono ?_); rintro e wb ⟨rfl, hPb, hTb⟩; clear hPa))
                | (go_at_call 154; ((with_reducible refine (next_no b s hs i false 46 46 ch46 _ hPb n46).mono ?_); rintro e w3 ⟨rfl, hP3, hTc⟩; have hT03 : RT b _ w3 := (hTa.trans hTb).trans hTc; obtain ⟨⟨b0, b1, b2⟩, ⟨f0, f1, f2⟩, hz3⟩ := box3t hT03 hbl; obtain ⟨⟨p0, p1, p2⟩, g1, g2⟩ := hP3.cells; clear hPb)))
              go_quiet ((first | (go_at_call 95; exact Calls.quiet_of_same (s3Let_q _ _ H1.out _)) | (go_at_call 97; exact Calls.quiet_of_same (s3Dig_q _ _ H2.out _))))
              go_wp2
              have hP4 : PS ((w3.drewN nq).setCell ⟨b, 1, none⟩ (.int .i64 ((i : Int) + 1))) b s (i + 1) false := (hP3.drewN nq).set1 (i + 1)
              have hT04 : RT b (w.alloc (.cells #[.int .i64 0, .string ⟨#[]⟩, .slice none 0 0] 124)) ((w3.drewN nq).setCell ⟨b, 1, none⟩ (.int .i64 ((i : Int) + 1))) := (hT03.trans (turns_drewN _ _)).trans (turns_set _ _ _ _ rfl)
              generalize (w3.drewN nq).setCell ⟨b, 1, none⟩ (.int .i64 ((i : Int) + 1)) = W0 at hP4 hT04 ⊢
              obtain ⟨⟨k0, k1', k2⟩, _, _⟩ := hP4.cells
              have k1 : W0.cell? ⟨b, 1, none⟩ = some (.int .i64 ((i : Int) + 1)) := k1'
              clear k1' b0 b1 b2 f0 f1 f2 hz3 p0 p1 p2 g1 g2 hP3 hT03 hTa hTb hTc
              have q0 : (0 : Int) ≤ (i : Int) := by omega
              have q3 : (i : Int) ≤ (i : Int) + 1 := by omega
              have q4 : ((i : Int) + 1).toNat = i + 1 := by omega
              have q1 : IntKind.i64.wrap ((i : Int) + 1 - 1) = (i : Int) := by rw [show (i : Int) + 1 - 1 = (i : Int) by omega]; exact IntWalk.i64_in _ (by omega)
              go_still_tail 13, (by kernel_rfl)
              repeat still_step
              change wpList _ _ _ _ _ W0.drew
              have hP5 : PS W0.drew b s (i + 1) false := hP4
              have hT05 : RT b (w.alloc (.cells #[.int .i64 0, .string ⟨#[]⟩, .slice none 0 0] 124)) W0.drew := hT04.trans (turns_drewN W0 1)
              generalize W0.drew = W1 at hP5 hT05 ⊢
              obtain ⟨⟨b0, b1, b2⟩, ⟨f0, f1, f2⟩, hz3⟩ := box3t hT05 hbl
              go_wp2
              refine bodyPost_ret (v := .agg #[.int .i64 1, .string (s.extract i (i + 1)), .slice none 0 0]) (by simp [results, Tryz.results171, go_sem, b0, b1, b2, hz3, hnb, hnb']) rfl ?_
              rw [HX1.out]
              exact s_some (p := charsP [c]) (d := 0) (owN_leaf _ _ _ _ _) hP5 HK.out hT05 hbl (by omega)
  · rw [show atomF (n + 1) (s.data.toList.drop i) = none by rw [List.drop_eq_nil_of_le (by simp; omega)]; rfl]
    exact satom_end _ b s i w hP h30 hlt
end Go.Proofs.YtkifdbeklagelaaGreatDoor

/- CHAPTER 5, spec: l5Alt (the sequence is asked for as a premise). -/
namespace Go.Proofs.YtkifdbeklagelaaGreatDoor
open Go.RowKit

theorem PS.grown {w w' : World} {b g : Nat} {s : ByteArray} {i : Nat} {bad : Bool} (h : PS w b s i bad) (hg : w.grownBy w' (some g)) (hne : g ≠ b) : PS w' b s i bad :=
  (hg.block b h.lt (fun e => hne (Option.some.inj e).symm)).trans h
theorem turns_grown {S : Nat → Prop} {W w w' : World} {g : Nat} (h : TurnsAt S W w) (hg : w.grownBy w' (some g)) (hn : W.heap.size ≤ g) : TurnsAt S W w' :=
  ⟨hg.os.trans h.os, hg.tape.trans h.tape, hg.output.trans h.output, Nat.le_trans h.size hg.size, fun q hq hs => (hg.block q (Nat.lt_of_lt_of_le hq h.size) (fun e => by have := Option.some.inj e; omega)).trans (h.block q hq hs)⟩
theorem grown_al {w : World} (o : Obj) (g : Nat) : w.grownBy (w.alloc o) (some g) := World.grownBy_alloc w o _
/-- every record's kids are a slice -/
def Slc (R : List PatR) : Prop := ∀ r ∈ R, ∃ A m c, r.kv = .slice A m c
theorem slc_snoc {R : List PatR} (h : Slc R) (op : Int) (t : ByteArray) (A : Option Addr) (m c : Nat) : Slc (R ++ [⟨op, t, .slice A m c⟩]) := fun r hr => by
  rcases List.mem_append.1 hr with hr | hr
  · exact h r hr
  · rw [List.mem_singleton.1 hr]; exact ⟨A, m, c, rfl⟩
theorem slc_own {d B : Nat} {w : World} {R : List PatR} {l : List Pat} {K : Nat → Nat → Prop} (hl : R.length = l.length) (h : ∀ i (h : i < R.length) (h' : i < l.length), OwN patK d B w (R[i] : PatR) l[i] (K i)) : Slc R := fun r hr => by
  obtain ⟨i, hi, rfl⟩ := List.getElem_of_mem hr
  obtain ⟨A, c, e⟩ := OwN.slice (h i hi (by rw [← hl]; exact hi))
  exact ⟨A, _, c, by rw [e]⟩
/-- the cells of the first record -/
theorem RowP.first {B g n c : Nat} {w : World} {R : List PatR} (h : RowP B w (.slice (some ⟨g, 0, none⟩) n c) R) (hR : 0 < R.length) : w.cell? ⟨g, 0, none⟩ = some (.int .i64 R[0].op) ∧ w.cell? ⟨g, 1, none⟩ = some (.string R[0].text) ∧ w.cell? ⟨g, 2, none⟩ = some R[0].kv := by
  have hz : ∀ r : PatR, r.enc.length = 3 := fun _ => rfl
  refine ⟨?_, ?_, ?_⟩
  · have := RowR.cell hz h hR (j := 0) (x := .int .i64 R[0].op) rfl; simpa using this
  · have := RowR.cell hz h hR (j := 1) (x := .string R[0].text) rfl; simpa using this
  · have := RowR.cell hz h hR (j := 2) (x := R[0].kv) rfl; simpa using this
/-- the list that a reader of spec collects: all is well so far, or not -/
def Col (d b : Nat) (s : ByteArray) (w0 : World) (ok : Nat → List Pat → Prop) (bad : Prop) (g n c G : Nat) (w : World) : Prop :=
  (∃ (k : Nat) (lk : List Pat) (S : Nat → Prop), k ≤ s.size ∧ n = lk.length ∧ n ≤ k + 1 ∧ G = s.size - k + 1 ∧ PS w b s k false ∧ OwL patK (d + 1) (w0.heap.size + 1) w (.slice (some ⟨g, 0, none⟩) n c) lk S ∧ ok k lk) ∨
  (∃ (j : Nat) (R : List PatR), G = 0 ∧ PS w b s j true ∧ RowP (w0.heap.size + 1) w (.slice (some ⟨g, 0, none⟩) n c) R ∧ R.length = n ∧ Slc R ∧ bad)
/-- one more tree -/
theorem col_good {d b g n c k' : Nat} {s : ByteArray} {w0 wr w1 w2 : World} {ok : Nat → List Pat → Prop} {bad : Prop} {lk : List Pat} {S Sp : Nat → Prop} {p : Pat} {A : Option Addr} {cc : Nat}
    (hO : OwL patK (d + 1) (w0.heap.size + 1) wr (.slice (some ⟨g, 0, none⟩) n c) lk S) (hn : n = lk.length) (hbl : b < w0.heap.size) (h01 : w0.heap.size + 1 ≤ w1.heap.size) (hr1 : wr.heap.size ≤ w1.heap.size) (ht : RT b wr w2)
    (hp : OwN patK d w1.heap.size w2 ⟨p.x.op, p.x.text, .slice A p.kids.length cc⟩ p Sp) (hP : PS w2 b s k' false) (hk : k' ≤ s.size) (hnk : n ≤ k') (hok : ok k' (lk ++ [p])) :
    ∃ R : List PatR, RowP (w0.heap.size + 1) w2 (.slice (some ⟨g, 0, none⟩) n c) R ∧ w0.heap.size + 1 ≤ g ∧ (∀ g' c' w4 o, RowP (w0.heap.size + 1) w4 (.slice (some ⟨g', 0, none⟩) (n + 1) c') (R ++ [⟨p.x.op, p.x.text, .slice A p.kids.length cc⟩]) → (w2.alloc o).grownBy w4 (some g) → (g' = g ∨ w2.heap.size < g') → Col d b s w0 ok bad g' (n + 1) c' (s.size - k' + 1) w4) := by
  have hO2 := hO.apart ht (fun q hq e => by have := (hO.lt q hq).1; omega)
  obtain ⟨R, hrow, hRl, hgrow⟩ := hO2.grow
  have hgB : w0.heap.size + 1 ≤ g := (hrow.lt (k := g) rfl).1
  refine ⟨R, hrow, hgB, fun g' c' w4 o h1 h2 h3 => ?_⟩
  obtain ⟨S', hS'⟩ := own_append hgrow (hp.mono h01) (fun q h1 h2 => absurd (hO.lt q h1).2 (Nat.not_lt.2 (Nat.le_trans hr1 (hp.lt q h2).1))) h1 h2 h3
  exact .inl ⟨k', lk ++ [p], S', hk, by rw [List.length_append, ← hn]; rfl, by omega, rfl, (hP.al o).grown h2 (by omega), hS', hok⟩
/-- one more record, and all is not well -/
theorem col_bad {d b g n c j : Nat} {s : ByteArray} {w0 wr w2 : World} {ok : Nat → List Pat → Prop} {bad : Prop} {lk : List Pat} {S : Nat → Prop} {op : Int} {text : ByteArray} {A : Option Addr} {m cc : Nat}
    (hO : OwL patK (d + 1) (w0.heap.size + 1) wr (.slice (some ⟨g, 0, none⟩) n c) lk S) (hn : n = lk.length) (hbl : b < w0.heap.size) (ht : RT b wr w2) (hP : PS w2 b s j true) (hbad : bad) :
    ∃ R : List PatR, RowP (w0.heap.size + 1) w2 (.slice (some ⟨g, 0, none⟩) n c) R ∧ w0.heap.size + 1 ≤ g ∧ (∀ g' c' w4 o, RowP (w0.heap.size + 1) w4 (.slice (some ⟨g', 0, none⟩) (n + 1) c') (R ++ [⟨op, text, .slice A m cc⟩]) → (w2.alloc o).grownBy w4 (some g) → Col d b s w0 ok bad g' (n + 1) c' 0 w4) := by
  have hO2 := hO.apart ht (fun q hq e => by have := (hO.lt q hq).1; omega)
  obtain ⟨R, K, hrow, hRl, hK, _⟩ := OwP.parts hO2
  have hgB : w0.heap.size + 1 ≤ g := (hrow.lt (k := g) rfl).1
  refine ⟨R, hrow, hgB, fun g' c' w4 o h1 h2 => .inr ⟨j, _, rfl, (hP.al o).grown h2 (by omega), h1, ?_, slc_snoc (slc_own hRl hK) _ _ _ _ _, hbad⟩⟩
  rw [List.length_append, hRl, ← hn]; rfl
set_option maxRecDepth 100000 in
set_option maxHeartbeats 4000000 in
theorem salt_of {n : Nat} (hS : SSeqC n) : SAltC n := by
  intro b s i w hP h30 hi hn
  have hbl := hP.lt
  have hnb : ¬ w.heap.size = b := by omega
  have hnb' : ¬ b = w.heap.size := by omega
  have hs : s.size ≤ maxLen := by unfold maxLen; omega
  have hs9 : s.size ≤ 9223372036854775807 := by omega
  have hP0 := hP.al (.cells #[.int .i64 0, .string ⟨#[]⟩, .slice none 0 0] 124)
  have hlen : ∀ k, (s.data.toList.drop k).length = s.size - k := fun k => by simp
  obtain ⟨l0, hl0⟩ : ∃ l0, l0 = s.data.toList.drop i := ⟨_, rfl⟩
  rw [← hl0]
  have hm : l0.length = s.size - i := by rw [hl0]; exact hlen i
  obtain ⟨okA, hokA⟩ : ∃ okA : Nat → List Pat → Prop, okA = fun k lk => i ≤ k ∧ okR (s.data.toList.drop k) = true ∧ altL (atomF n) l0.length l0 = (lk ++ (contL (atomF n) l0.length (s.data.toList.drop k)).1, (contL (atomF n) l0.length (s.data.toList.drop k)).2) := ⟨_, rfl⟩
  obtain ⟨badA, hbadA⟩ : ∃ badA : Prop, badA = (okR (altP (atomF n) l0).2 = false) := ⟨_, rfl⟩
  -- a sequence read at the place k, and what it makes of the alternative
  have hseq : ∀ (k : Nat) (lk : List Pat), i ≤ k → k ≤ s.size → altL (atomF n) l0.length l0 = (lk ++ (altL (atomF n) l0.length (s.data.toList.drop k)).1, (altL (atomF n) l0.length (s.data.toList.drop k)).2) →
      ∃ (p : Pat) (k' : Nat), k ≤ k' ∧ k' ≤ s.size ∧ ((okR (s.data.toList.drop k') = true ∧ okA k' (lk ++ [p]) ∧ ∀ w, PS w b s k false → Calls Tryz.prog 153 #[.pointer (some ⟨b, 0, none⟩)] w fun e w' => ∃ (A : Option Addr) (c : Nat) (S : Nat → Prop), e = .returned (.agg #[.int .i64 p.x.op, .string p.x.text, .slice A p.kids.length c]) ∧ OwN patK (4 * n + 3) w.heap.size w' ⟨p.x.op, p.x.text, .slice A p.kids.length c⟩ p S ∧ PS w' b s k' false ∧ RT b w w') ∨
        (badA ∧ ∀ w, PS w b s k false → Calls Tryz.prog 153 #[.pointer (some ⟨b, 0, none⟩)] w fun e w' => ∃ (op : Int) (text : ByteArray) (A : Option Addr) (m c j : Nat), e = .returned (.agg #[.int .i64 op, .string text, .slice A m c]) ∧ PS w' b s j true ∧ RT b w w')) := by
    intro k lk hik hks halt
    have hun := alt_unroll (atomF_sh n) (m := l0.length) (l := s.data.toList.drop k) (by rw [hlen, hm]; omega)
    have hsuf := seqP_suf (atomF_sh n) (s.data.toList.drop k)
    have hC := fun w hP => hS b s k w hP h30 hks (by omega)
    obtain ⟨⟨p, r⟩, hpr⟩ : ∃ x, x = seqP (atomF n) (s.data.toList.drop k) := ⟨_, rfl⟩
    rw [← hpr] at hun hsuf hC
    have hr := hsuf.drop
    have hrl := hsuf.len
    simp only [hlen] at hr hrl hC
    rw [List.drop_drop] at hr
    have hkk : k + (s.size - k - r.length) = s.size - r.length := by omega
    rw [hkk] at hr
    refine ⟨p, s.size - r.length, by omega, by omega, ?_⟩
    rw [hun] at halt
    cases hok : okR r with
    | true =>
      refine .inl ⟨by rw [← hr]; exact hok, ?_, ?_⟩
      · rw [hokA]; exact ⟨by omega, by rw [← hr]; exact hok, by rw [halt, ← hr]; simp⟩
      · intro w hP
        have := hC w hP
        rw [hok, if_pos rfl] at this
        exact this
    | false =>
      refine .inr ⟨?_, ?_⟩
      · rw [hbadA]
        show okR (altL (atomF n) l0.length l0).2 = false
        rw [halt]
        cases r with
        | nil => cases hok
        | cons c r' =>
          have h124 : c ≠ 124 := by rintro rfl; simp [okR] at hok
          show okR (contL (atomF n) l0.length (c :: r')).2 = false
          rw [show contL (atomF n) l0.length (c :: r') = ([], c :: r') from if_neg h124]
          exact hok
      · intro w hP
        have := hC w hP
        rw [hok, if_neg (by decide)] at this
        exact this
  obtain ⟨O, hO⟩ : ∃ O, O = (if okR (altP (atomF n) l0).2 = true then some (altP (atomF n) l0) else none) := ⟨_, rfl⟩
  rw [← hO]
  have HBAD : Hid (badA → O = none) := Lib.hid (by rw [hbadA, hO]; intro h; rw [h]; rfl)
  have hcont : ∀ k, NoNext s k false 124 → contL (atomF n) l0.length (s.data.toList.drop k) = ([], s.data.toList.drop k) := by
    intro k hk
    have hk' : ∀ h : k < s.size, s[k] ≠ 124 := by rcases hk with h | h; · cases h
                                                  · exact h
    by_cases hlt : k < s.size
    · rw [data_drop s k hlt]
      exact if_neg (hk' hlt)
    · rw [List.drop_eq_nil_of_le (by simp; omega)]; rfl
  have HGOOD : Hid (∀ k lk, okA k lk → NoNext s k false 124 → O = some (joinP 3 lk, s.data.toList.drop k)) := Lib.hid (by
    intro k lk hok hk
    rw [hokA] at hok
    obtain ⟨_, h2, h3⟩ := hok
    rw [hcont k hk] at h3
    have h4 : altP (atomF n) l0 = (joinP 3 lk, s.data.toList.drop k) := by unfold altP; rw [h3]; simp
    rw [hO, h4]
    exact if_pos h2)
  have HMORE : Hid (∀ k lk, okA k lk → ∀ h : k < s.size, s[k] = 124 → i ≤ k ∧ altL (atomF n) l0.length l0 = (lk ++ (altL (atomF n) l0.length (s.data.toList.drop (k + 1))).1, (altL (atomF n) l0.length (s.data.toList.drop (k + 1))).2)) := Lib.hid (by
    intro k lk hok hlt h124
    rw [hokA] at hok
    obtain ⟨h1, _, h3⟩ := hok
    have hd : s.data.toList.drop k = 124 :: s.data.toList.drop (k + 1) := by rw [data_drop s k hlt, h124]
    rw [h3, hd]
    exact ⟨h1, rfl⟩)
  have HSEQ := Lib.hid hseq
  have HOKA := Lib.hid hokA
  have HBADA := Lib.hid hbadA
  have HLEN := Lib.hid hlen
  have H30 := Lib.hid h30
  have HI := Lib.hid hi
  clear hseq hS hokA hbadA hlen hm hn h30 hi hP hcont hO
  -- the first sequence
  have HF : Hid (∀ w1, PS w1 b s i false → RT b (w.alloc (.cells #[.int .i64 0, .string ⟨#[]⟩, .slice none 0 0] 124)) w1 → Calls Tryz.prog 153 #[.pointer (some ⟨b, 0, none⟩)] w1 fun e w2 => ∃ (op : Int) (text : ByteArray) (A : Option Addr) (m c G : Nat), e = .returned (.agg #[.int .i64 op, .string text, .slice A m c]) ∧ RT b (w.alloc (.cells #[.int .i64 0, .string ⟨#[]⟩, .slice none 0 0] 124)) w2 ∧ Hid (Col (4 * n + 3) b s w okA badA w2.heap.size 1 1 G (w2.alloc (.cells #[.int .i64 op, .string text, .slice A m c] 124)))) := Lib.hid (by
    intro w1 hP1 hT1
    obtain ⟨p, k', hk1, hk2, hcase⟩ := HSEQ.out i [] (Nat.le_refl _) HI.out (by rw [← hl0]; simp)
    have hw1 : w.heap.size + 1 ≤ w1.heap.size := by have := hT1.size; simp at this; omega
    rcases hcase with ⟨_, hok, hC⟩ | ⟨hbad, hC⟩
    · refine (hC w1 hP1).mono ?_
      rintro e w2 ⟨A, c, S, rfl, ho, hP2, hT2⟩
      refine ⟨_, _, A, _, c, s.size - k' + 1, rfl, hT1.trans hT2, Lib.hid <| .inl ⟨k', [p], _, hk2, rfl, by omega, rfl, hP2.al _, owL_one (ho.mono hw1) (by have := hT2.size; omega) (by decide) (pat_cells _ _ _ _ _), hok⟩⟩
    · refine (hC w1 hP1).mono ?_
      rintro e w2 ⟨op, text, A, m, c, j, rfl, hP2, hT2⟩
      refine ⟨op, text, A, m, c, 0, rfl, hT1.trans hT2, Lib.hid <| .inr ⟨j, [⟨op, text, .slice A m c⟩], rfl, hP2.al _, ⟨by simp [PatR.enc], .inr ⟨w2.heap.size, 1, #[.int .i64 op, .string text, .slice A m c], rfl, by have := hT2.size; omega, heap_alloc_new w2 _, by simp, by unfold maxLen; omega, by simp, by simp [PatR.enc]⟩⟩, rfl, ?_, hbad⟩⟩
      intro r hr
      rw [List.mem_singleton.1 hr]; exact ⟨A, m, c, rfl⟩)
  have hTr := TurnsAt.refl (fun q => q = b) (w.alloc (.cells #[.int .i64 0, .string ⟨#[]⟩, .slice none 0 0] 124))
  go_enter Tryz.func123, Tryz.ntmps123
  go_wp2_with (go_at_call 153; ((refine (HF.out _ hP0 hTr).mono ?_); rintro e w2 ⟨op, text, A, m, c, G0, rfl, hT2, HC0⟩))
  have hTa := turns_al hT2 (.cells #[.int .i64 op, .string text, .slice A m c] 124)
  clear hT2
  go_loopg [3] G0 (fun G u wr => ∃ (g m c : Nat), u = .slice (some ⟨g, 0, none⟩) m c ∧ Hid (Col (4 * n + 3) b s w okA badA g m c G wr) ∧ RT b (w.alloc (.cells #[.int .i64 0, .string ⟨#[]⟩, .slice none 0 0] 124)) wr) 
  case atStart => exact ⟨w2.heap.size, 1, 1, rfl, HC0, hTa⟩
  case round =>
    clear HC0 hTa
    obtain ⟨g, m, c, rfl, HC, hT⟩ := hrel
    have hwr : w.heap.size + 1 ≤ wr.heap.size := by have := hT.size; simp at this; omega
    have key : Hid (∃ k, PS wr b s k false ∧ (∃ h : k < s.size, s[k] = 124) ∧ m + 1 ≤ 1048576 ∧
        (∀ w3, PS w3 b s (k + 1) false → RT b wr w3 → Calls Tryz.prog 153 #[.pointer (some ⟨b, 0, none⟩)] w3 fun e w4 => ∃ (op : Int) (text : ByteArray) (A : Option Addr) (m2 c2 G' : Nat), e = .returned (.agg #[.int .i64 op, .string text, .slice A m2 c2]) ∧ G' < gk ∧ RT b w3 w4 ∧ Hid (∃ R : List PatR, RowP (w.heap.size + 1) w4 (.slice (some ⟨g, 0, none⟩) m c) R ∧ w.heap.size + 1 ≤ g ∧
          ∀ g' c' w5 o, RowP (w.heap.size + 1) w5 (.slice (some ⟨g', 0, none⟩) (m + 1) c') (R ++ [⟨op, text, .slice A m2 c2⟩]) → (w4.alloc o).grownBy w5 (some g) → (g' = g ∨ w4.heap.size < g') → Col (4 * n + 3) b s w okA badA g' (m + 1) c' G' w5))) ∨
      Hid (∃ k bad, PS wr b s k bad ∧ NoNext s k bad 124 ∧
        (m = 1 → ∀ w3, PS w3 b s k bad → RT b wr w3 → ∃ (op : Int) (text : ByteArray) (A : Option Addr) (m2 c2 : Nat), w3.cell? ⟨g, 0, none⟩ = some (.int .i64 op) ∧ w3.cell? ⟨g, 1, none⟩ = some (.string text) ∧ w3.cell? ⟨g, 2, none⟩ = some (.slice A m2 c2) ∧
          ∀ x0 x1 x2, SOut (4 * n + 4) O b s w (.returned (.agg #[.int .i64 op, .string text, .slice A m2 c2])) (((w3.setCell ⟨w.heap.size, 0, none⟩ x0).setCell ⟨w.heap.size, 1, none⟩ x1).setCell ⟨w.heap.size, 2, none⟩ x2)) ∧
        (m ≠ 1 → ∀ w3, PS w3 b s k bad → RT b wr w3 → ∀ x0 x1 x2, SOut (4 * n + 4) O b s w (.returned (.agg #[.int .i64 3, .string ⟨#[]⟩, .slice (some ⟨g, 0, none⟩) m c])) (((w3.setCell ⟨w.heap.size, 0, none⟩ x0).setCell ⟨w.heap.size, 1, none⟩ x1).setCell ⟨w.heap.size, 2, none⟩ x2))) := by
      rcases HC.out with ⟨k, lk, S, hk, hn, hnk, hG, hP, hO, hok⟩ | ⟨j, R, hG, hP, hrow, hRl, hslc, hbad⟩
      · by_cases hgo : ∃ h : k < s.size, s[k] = 124
        · refine .inl (Lib.hid ⟨k, hP, hgo, by have := H30.out; omega, ?_⟩)
          intro w3 hP3 hT3
          obtain ⟨hlt, h124⟩ := hgo
          obtain ⟨hik, hal⟩ := HMORE.out k lk hok hlt h124
          obtain ⟨p, k', hk1, hk2, hcase⟩ := HSEQ.out (k + 1) lk (by omega) (by omega) hal
          have hr1 : wr.heap.size ≤ w3.heap.size := hT3.size
          rcases hcase with ⟨_, hok', hCs⟩ | ⟨hbad, hCs⟩
          · refine (hCs w3 hP3).mono ?_
            rintro e w4 ⟨A, c2, S2, rfl, ho, hP4, hT4⟩
            exact ⟨_, _, A, _, c2, s.size - k' + 1, rfl, by omega, hT4, Lib.hid (col_good hO hn hbl (by omega) hr1 (hT3.trans hT4) ho hP4 hk2 (by omega) hok')⟩
          · refine (hCs w3 hP3).mono ?_
            rintro e w4 ⟨op, text, A, m2, c2, j, rfl, hP4, hT4⟩
            obtain ⟨R, h1, h2, h3⟩ := col_bad (op := op) (text := text) (A := A) (m := m2) (cc := c2) hO hn hbl (hT3.trans hT4) hP4 hbad
            exact ⟨op, text, A, m2, c2, 0, rfl, by omega, hT4, Lib.hid ⟨R, h1, h2, fun g' c' w5 o a1 a2 _ => h3 g' c' w5 o a1 a2⟩⟩
        · have hno : NoNext s k false 124 := .inr fun h e => hgo ⟨h, e⟩
          have hOe := HGOOD.out k lk hok hno
          have hkl : s.size - (s.data.toList.drop k).length = k := by rw [HLEN.out]; omega
          refine .inr (Lib.hid ⟨k, false, hP, hno, ?_, ?_⟩)
          · intro hm1 w3 hP3 hT3
            have hO3 := hO.apart hT3 (fun q hq e => by have := (hO.lt q hq).1; omega)
            obtain ⟨R, K, hrow, hRl, hK, _⟩ := OwP.parts hO3
            obtain ⟨x, rfl⟩ : ∃ x, lk = [x] := List.length_eq_one_iff.1 (by omega)
            obtain ⟨r, rfl⟩ : ∃ r, R = [r] := List.length_eq_one_iff.1 hRl
            have hx : OwN patK (4 * n + 3) (w.heap.size + 1) w3 r x (K 0) := hK 0 (by simp) (by simp)
            obtain ⟨A, c2, rfl⟩ := OwN.slice hx
            obtain ⟨f0, f1, f2⟩ := RowP.first hrow (by simp)
            refine ⟨_, _, A, _, c2, f0, f1, f2, fun x0 x1 x2 => ?_⟩
            rw [hOe]
            exact s_some (o := .cells #[.int .i64 0, .string ⟨#[]⟩, .slice none 0 0] 124) (hx.mono (by simp)) hP3 hkl (hT.trans hT3) hbl (by omega)
          · intro hm1 w3 hP3 hT3 x0 x1 x2
            have hO3 := hO.apart hT3 (fun q hq e => by have := (hO.lt q hq).1; omega)
            rw [hOe, join_op 3 (by omega)]
            rw [hn] at hO3 ⊢
            exact s_some (p := opP 3 lk) (o := .cells #[.int .i64 0, .string ⟨#[]⟩, .slice none 0 0] 124) ((owN_of hO3).mono (by simp)) hP3 hkl (hT.trans hT3) hbl (Nat.le_refl _)
      · refine .inr (Lib.hid ⟨j, true, hP, .inl rfl, ?_, ?_⟩)
        · intro hm1 w3 hP3 hT3
          have hrow3 := rowR_apart hrow hT3 (fun q hq e => by have := (hrow.lt hq).1; omega)
          obtain ⟨r, rfl⟩ : ∃ r, R = [r] := List.length_eq_one_iff.1 (by omega)
          obtain ⟨f0, f1, f2⟩ := RowP.first hrow3 (by simp)
          obtain ⟨A, m2, c2, hkv⟩ := hslc r (by simp)
          refine ⟨_, _, A, m2, c2, f0, f1, by rw [f2]; exact congrArg some hkv, fun x0 x1 x2 => ?_⟩
          rw [HBAD.out hbad]
          exact s_none (o := .cells #[.int .i64 0, .string ⟨#[]⟩, .slice none 0 0] 124) hP3 (hT.trans hT3) hbl
        · intro hm1 w3 hP3 hT3 x0 x1 x2
          rw [HBAD.out hbad]
          exact s_none (o := .cells #[.int .i64 0, .string ⟨#[]⟩, .slice none 0 0] 124) hP3 (hT.trans hT3) hbl
    clear HC HSEQ HF
    rcases key with key | key
    · obtain ⟨k, hP, hgo, hm1, hCs⟩ := key.out
      obtain ⟨hlt, h124⟩ := hgo
      have HCS := Lib.hid hCs
      have HP := Lib.hid hP
      have HE := Lib.hid h124
      clear hCs hP h124 key
      go_wp2_with (first
        | (go_at_call 154; ((refine (next_yes b s hs k 124 _ rfl _ HP.out hlt HE.out).mono ?_); rintro e w3 ⟨rfl, hP3, hT3⟩; have hTn := hT.trans hT3; have HP3 := Lib.hid hP3; have HT3 := Lib.hid hT3; clear hT hP3 hT3))
        | (go_at_call 153; ((refine (HCS.out _ HP3.out HT3.out).mono ?_); rintro e w4 ⟨op2, text2, A2, m2, c2, G2, rfl, hG2, hT4, HR⟩; obtain ⟨R, hrow, hgB, hF⟩ := HR.out; have HF := Lib.hid hF; have HG2 := Lib.hid hG2; have hTx := hTn.trans hT4; clear hTn hT4 hF HR hG2))
        | (at_builtin; refine wpList_pat_append rfl _ _ rfl (w.heap.size + 1) g m c R rfl hrow op2 text2 A2 m2 c2 w4.heap.size rfl rfl hm1 (by have := hTx.size; simp at this; omega) (m + 1) rfl ?_; intro g' c' w5 hrow5 hg5 hg5'))
      go_roundg G2
      case rel => exact ⟨g', m + 1, c', by go_num, Lib.hid (HF.out g' c' w5 _ hrow5 hg5 hg5'), turns_grown (turns_al hTx _) hg5 (by simpa using hgB)⟩
      case measure => exact HG2.out
    · obtain ⟨k, bad, hP, hno, h1, h2⟩ := key.out
      have HP := Lib.hid hP
      have HNO := Lib.hid hno
      have H1 := Lib.hid h1
      have H2 := Lib.hid h2
      clear hP hno h1 h2 key
      by_cases hm1 : m = 1
      · have hq : ((m : Int) == 1) = true := by rw [hm1]; rfl
        have HM := Lib.hid hm1
        have hpos : (0 : Int) < (m : Int) := by omega
        clear hm1
        go_wp2_with (go_at_call 154; ((refine (next_no b s hs k bad 124 _ rfl _ HP.out HNO.out).mono ?_); rintro e w3 ⟨rfl, hP3, hT3⟩; obtain ⟨op, text, A, m2, c2, f0, f1, f2, hF⟩ := H1.out HM.out w3 hP3 hT3; have HF := Lib.hid hF; have hTn := hT.trans hT3; obtain ⟨⟨b0, b1, b2⟩, ⟨z0, z1, z2⟩, hz⟩ := box3t hTn hbl; clear hF hT hP3 hT3))
        refine bodyPost_ret (v := .agg #[.int .i64 op, .string text, .slice A m2 c2]) (by simp [results, Tryz.results123, go_sem, b0, b1, b2, hz, hnb, hnb']) rfl ?_
        exact HF.out _ _ _
      · have hq : ((m : Int) == 1) = false := by simp; omega
        have HM := Lib.hid hm1
        clear hm1
        go_wp2_with (go_at_call 154; ((refine (next_no b s hs k bad 124 _ rfl _ HP.out HNO.out).mono ?_); rintro e w3 ⟨rfl, hP3, hT3⟩; have hF := H2.out HM.out w3 hP3 hT3; have HF := Lib.hid hF; have hTn := hT.trans hT3; obtain ⟨⟨b0, b1, b2⟩, ⟨z0, z1, z2⟩, hz⟩ := box3t hTn hbl; clear hF hT hP3 hT3))
        refine bodyPost_ret (v := .agg #[.int .i64 3, .string ⟨#[]⟩, .slice (some ⟨g, 0, none⟩) m c]) (by simp [results, Tryz.results123, go_sem, b0, b1, b2, hz, hnb, hnb']) rfl ?_
        exact HF.out _ _ _
end Go.Proofs.YtkifdbeklagelaaGreatDoor

/- CHAPTER 5, spec: what l5Seq's walk needs (the walk itself: wip/open/XPatX.lean.tpl). -/
namespace Go.Proofs.YtkifdbeklagelaaGreatDoor
open Go.RowKit

/-- what one more record makes of the list -/
def More (d b : Nat) (s : ByteArray) (w0 : World) (ok : Nat → List Pat → Prop) (bad : Prop) (g m c : Nat) (w4 : World) (op : Int) (text : ByteArray) (A : Option Addr) (m2 c2 G : Nat) : Prop :=
  ∃ R : List PatR, RowP (w0.heap.size + 1) w4 (.slice (some ⟨g, 0, none⟩) m c) R ∧ w0.heap.size + 1 ≤ g ∧
    ∀ g' c' w5 o, RowP (w0.heap.size + 1) w5 (.slice (some ⟨g', 0, none⟩) (m + 1) c') (R ++ [⟨op, text, .slice A m2 c2⟩]) → (w4.alloc o).grownBy w5 (some g) → (g' = g ∨ w4.heap.size < g') → Col d b s w0 ok bad g' (m + 1) c' G w5
/-- a tree's copy -/
def STwinC : Prop := ∀ (d : Nat) (r : PatR) (t : Pat) (w : World), RdN patK d w r t → Few d t.kids → Calls Tryz.prog 172 #[.agg #[.int .i64 r.op, .string r.text, r.kv]] w fun e w' => ∃ (A : Option Addr) (c : Nat) (S : Nat → Prop), e = .returned (.agg #[.int .i64 t.x.op, .string t.x.text, .slice A t.kids.length c]) ∧ OwN patK d w.heap.size w' ⟨t.x.op, t.x.text, .slice A t.kids.length c⟩ t S ∧ Below w.heap.size w w'
theorem atomF_stop (n : Nat) (c : UInt8) (l : List UInt8) (h : c = 124 ∨ c = 41) : atomF n (c :: l) = none := by
  cases n with
  | zero => rfl
  | succ n => rcases h with rfl | rfl <;> rfl
theorem neq_byte {c d : UInt8} (h : c ≠ d) : ((c.toNat : Int) != (d.toNat : Int)) = true := by rw [bne, byte_ne h]; rfl
theorem OwN.setOff {d B b j : Nat} {w : World} {r : PatR} {t : Pat} {S : Nat → Prop} {u : Value} (h : OwN patK d B w r t S) (hn : ¬ S b) : OwN patK d B (w.setCell ⟨b, j, none⟩ u) r t S := h.frame fun q hq => Below.heap_setCell w ⟨b, j, none⟩ u q (fun e => hn (by simp at e; rw [← e]; exact hq))
/-- a sign's record in the box of the atom -/
theorem sign_own {d B b k k' g m c : Nat} {s : ByteArray} {wr w1 w2 : World} {p : Pat} {A : Option Addr} {cc : Nat} {S : Nat → Prop} {o1 : Obj} (op : Int) (ho : OwN patK d B w1 ⟨p.x.op, p.x.text, .slice A p.kids.length cc⟩ p S) (hB : B ≤ w1.heap.size) (hb : b < B) (hrB : wr.heap.size ≤ w1.heap.size) (hT1 : RT b wr w1) (hT2 : RT b (w1.alloc o1) w2) (hP : PS w2 b s k false) (x0 x1 x2 : Value) :
    ∃ S', OwN patK (d + 1) B ((((w2.setCell ⟨w1.heap.size, 0, none⟩ x0).setCell ⟨w1.heap.size, 1, none⟩ x1).setCell ⟨w1.heap.size, 2, none⟩ x2).alloc (.cells #[.int .i64 p.x.op, .string p.x.text, .slice A p.kids.length cc] 124)) ⟨op, ⟨#[]⟩, .slice (some ⟨w2.heap.size, 0, none⟩) 1 1⟩ (opP op [p]) S' ∧
      PS ((((w2.setCell ⟨w1.heap.size, 0, none⟩ x0).setCell ⟨w1.heap.size, 1, none⟩ x1).setCell ⟨w1.heap.size, 2, none⟩ x2).alloc (.cells #[.int .i64 p.x.op, .string p.x.text, .slice A p.kids.length cc] 124)) b s k false ∧ RT b wr ((((w2.setCell ⟨w1.heap.size, 0, none⟩ x0).setCell ⟨w1.heap.size, 1, none⟩ x1).setCell ⟨w1.heap.size, 2, none⟩ x2).alloc (.cells #[.int .i64 p.x.op, .string p.x.text, .slice A p.kids.length cc] 124)) := by
  have hz2 : w1.heap.size + 1 ≤ w2.heap.size := by have := hT2.size; simpa using this
  have hn : ¬ S w1.heap.size := fun h => absurd (ho.lt _ h).2 (by omega)
  have ho2 : OwN patK d B w2 ⟨p.x.op, p.x.text, .slice A p.kids.length cc⟩ p S := (ho.al o1).apart hT2 (fun q hq e => by have := (ho.lt q hq).1; omega)
  have ho3 := ((ho2.setOff (j := 0) (u := x0) hn).setOff (j := 1) (u := x1) hn).setOff (j := 2) (u := x2) hn
  have h1 := owL_one ho3 (by simp; omega) (by decide) (pat_cells _ _ _ _ _)
  have h2 : OwL patK (d + 1) B ((((w2.setCell ⟨w1.heap.size, 0, none⟩ x0).setCell ⟨w1.heap.size, 1, none⟩ x1).setCell ⟨w1.heap.size, 2, none⟩ x2).alloc (.cells #[.int .i64 p.x.op, .string p.x.text, .slice A p.kids.length cc] 124)) (.slice (some ⟨w2.heap.size, 0, none⟩) 1 1) [p] (fun b => b = w2.heap.size ∨ S b) := by simpa [patK, PatR.enc] using h1
  exact ⟨_, owN_of (op := op) (text := ⟨#[]⟩) h2, (((hP.setNew (by omega)).setNew (by omega)).setNew (by omega)).al _, turns_al (turns_new (turns_new (turns_new (hT1.trans (turns_of_al hT2)) hrB) hrB) hrB) _⟩
end Go.Proofs.YtkifdbeklagelaaGreatDoor

/- CHAPTER 5, spec: l5Twin (the copy of a tree). -/
namespace Go.Proofs.YtkifdbeklagelaaGreatDoor
open Go.RowKit

/-- 'own = append(own, x)' of a pattern at a step of a region that draws its order; own may be nil -/
theorem step_pat_append {w : World} {ops : Array Oper} {o : Oper} {a : Act} {K : Act → World → Prop} {Q : Exit → Act → World → Prop} {E : Prop} (hgd : o.guard = none) (s x : Operand)
    (ho : o.op = .call { callee := .builtin .append, args := #[s, x], argTypes := #[122, 122] })
    (B n : Nat) (v : Value) (L : List PatR) (hs : a.eval s = v) (hrow : RowP B w v L) (hn : L.length = n)
    (y : PatR) (ad : Addr) (c' : Nat) (hx : a.eval x = .slice (some ad) 1 c') (hnews : ∀ j u, y.enc[j]? = some u → w.cell? (ad.add j) = some u) (hy : ∀ u ∈ y.enc, u.oneCell' = true)
    (hlen : n + 1 ≤ 1048576) (hbase : B ≤ w.heap.size) (q : Nat) (hq : q = n + 1)
    (h : ∀ g' c'' w', RowP B w' (.slice (some ⟨g', 0, none⟩) q c'') (L ++ [y]) → w.grownBy w' v.ownBlock → (some g' = v.ownBlock ∨ g' = w.heap.size) → K (a.put o.dst (.slice (some ⟨g', 0, none⟩) q c'')) w') :
    if Region.wanted o (yielded ops a.tmps) = true then Oper.wp Tryz.prog o a w K Q else E := by
  have hw : Region.wanted o (yielded ops a.tmps) = true := by simp [Region.wanted, hgd]
  rw [if_pos hw]
  obtain ⟨i0, hi, hz0, hz1, hz2⟩ := info_parts infoPat
  subst hn
  subst hq
  obtain ⟨v', w', hr, h2, h3, h4, h5⟩ := run_append_own_at (P := Tryz.prog) w B 122 o.type 124 i0 (.agg #[.int .i64 0, .string ⟨#[]⟩, .slice none 0 0]) 3 48 Tryz.underlying122 hi hz0 hz1 hz2 rfl (by decide) v L.length (L.flatMap PatR.enc) hrow ad 1 c' y.enc rfl hnews hy (by unfold maxLen; omega) (by omega) hbase
  unfold Oper.wp execOp
  simp only [ho, resolve, invoke, builtin, Sem.run_bind, Sem.run_pure, Result.andThen_ok, List.map_toArray, List.map_cons, List.map_nil, hs, hx, hr]
  rcases h2.2 with ⟨_, h6⟩ | ⟨g', cap', cur, h6, _⟩
  · omega
  · subst h6
    refine h g' cap' w' ?_ h3 ?_
    · unfold RowP RowR
      rw [List.length_append, List.flatMap_append, List.flatMap_singleton]
      exact h2
    · rcases h5 with h6 | h6
      · exact .inl h6
      · exact .inr (Option.some.inj h6)
theorem news_pat (w : World) (y : PatR) (t : TypeId) : ∀ j u, y.enc[j]? = some u → (w.alloc (.cells #[.int .i64 y.op, .string y.text, y.kv] t)).cell? ((⟨w.heap.size, 0, none⟩ : Addr).add j) = some u := World.news_of_block (heap_alloc_new w _)
/-- the copy's variables, while a call works -/
theorem tw_below {b3 b1 : Nat} {p : Addr} {v kv : Value} {x : PatR} {W3 w1 w2 : World} (k : Below w1.heap.size w1 w2) (h : (w1.cell? ⟨b3, 2, none⟩ = some v ∧ w1.cell? ⟨b1, 2, none⟩ = some kv) ∧ (w1.cell? p = some (.int .i64 x.op) ∧ w1.cell? ⟨p.block, p.off + 1, none⟩ = some (.string x.text) ∧ w1.cell? ⟨p.block, p.off + 2, none⟩ = some x.kv) ∧ RT b3 W3 w1)
    (h3 : b3 < W3.heap.size) (h1 : b1 < W3.heap.size) (hp : p.block < W3.heap.size) :
    (w2.cell? ⟨b3, 2, none⟩ = some v ∧ w2.cell? ⟨b1, 2, none⟩ = some kv) ∧ (w2.cell? p = some (.int .i64 x.op) ∧ w2.cell? ⟨p.block, p.off + 1, none⟩ = some (.string x.text) ∧ w2.cell? ⟨p.block, p.off + 2, none⟩ = some x.kv) ∧ RT b3 W3 w2 := by
  obtain ⟨⟨a1, a2⟩, a3, ht⟩ := h
  have e3 : b3 < w1.heap.size := Nat.lt_of_lt_of_le h3 ht.size
  have e1 : b1 < w1.heap.size := Nat.lt_of_lt_of_le h1 ht.size
  have ep : p.block < w1.heap.size := Nat.lt_of_lt_of_le hp ht.size
  exact ⟨⟨by rw [k.cell (p := ⟨b3, 2, none⟩) e3]; exact a1, by rw [k.cell (p := ⟨b1, 2, none⟩) e1]; exact a2⟩, Pk.below a3 k ep, ht.trans (below_turns k)⟩
theorem tw_grown {b3 b1 : Nat} {p : Addr} {v kv : Value} {x : PatR} {W3 w1 w2 : World} {j : Option Nat} (k : w1.grownBy w2 j) (hj : ∀ g, j = some g → W3.heap.size ≤ g) (h : (w1.cell? ⟨b3, 2, none⟩ = some v ∧ w1.cell? ⟨b1, 2, none⟩ = some kv) ∧ (w1.cell? p = some (.int .i64 x.op) ∧ w1.cell? ⟨p.block, p.off + 1, none⟩ = some (.string x.text) ∧ w1.cell? ⟨p.block, p.off + 2, none⟩ = some x.kv) ∧ RT b3 W3 w1)
    (h3 : b3 < W3.heap.size) (h1 : b1 < W3.heap.size) (hp : p.block < W3.heap.size) :
    (w2.cell? ⟨b3, 2, none⟩ = some v ∧ w2.cell? ⟨b1, 2, none⟩ = some kv) ∧ (w2.cell? p = some (.int .i64 x.op) ∧ w2.cell? ⟨p.block, p.off + 1, none⟩ = some (.string x.text) ∧ w2.cell? ⟨p.block, p.off + 2, none⟩ = some x.kv) ∧ RT b3 W3 w2 := by
  obtain ⟨⟨a1, a2⟩, ⟨a3, a4, a5⟩, ht⟩ := h
  have hc : ∀ q : Addr, q.block < W3.heap.size → w2.cell? q = w1.cell? q := fun q hq => by
    have hb := k.block q.block (Nat.lt_of_lt_of_le hq ht.size) (fun e => absurd (hj _ e.symm) (Nat.not_le.2 hq))
    unfold World.cell?; rw [hb]
  exact ⟨⟨by rw [hc _ h3]; exact a1, by rw [hc _ h1]; exact a2⟩, ⟨by rw [hc _ hp]; exact a3, by rw [hc ⟨p.block, p.off + 1, none⟩ hp]; exact a4, by rw [hc ⟨p.block, p.off + 2, none⟩ hp]; exact a5⟩,
    ⟨k.os.trans ht.os, k.tape.trans ht.tape, k.output.trans ht.output, Nat.le_trans ht.size k.size, fun q hq hs => (k.block q (Nat.lt_of_lt_of_le hq ht.size) (fun e => absurd (hj _ e.symm) (Nat.not_le.2 hq))).trans (ht.block q hq hs)⟩⟩
theorem turns_grown' {S : Nat → Prop} {W w w' : World} {j : Option Nat} (h : TurnsAt S W w) (hg : w.grownBy w' j) (hn : ∀ g, j = some g → W.heap.size ≤ g) : TurnsAt S W w' :=
  ⟨hg.os.trans h.os, hg.tape.trans h.tape, hg.output.trans h.output, Nat.le_trans h.size hg.size, fun q hq hs => (hg.block q (Nat.lt_of_lt_of_le hq h.size) (fun e => absurd (hn _ e.symm) (Nat.not_le.2 hq))).trans (h.block q hq hs)⟩
/-- one more tree in the copy's list -/
theorem tw_round {d B n : Nat} {wr w2 : World} {v : Value} {lk : List Pat} {t : Pat} {A : Option Addr} {c : Nat} {S S' : Nat → Prop} (hO : OwL patK (d + 1) B wr v lk S) (hn : n = lk.length) (hb : Below wr.heap.size wr w2) (hB : B ≤ wr.heap.size) (hp : OwN patK d wr.heap.size w2 ⟨t.x.op, t.x.text, .slice A t.kids.length c⟩ t S') :
    ∃ R : List PatR, RowP B w2 v R ∧ R.length = n ∧ (∀ g, v.ownBlock = some g → B ≤ g ∧ g < wr.heap.size) ∧ ∀ g' c' w4 o, RowP B w4 (.slice (some ⟨g', 0, none⟩) (n + 1) c') (R ++ [⟨t.x.op, t.x.text, .slice A t.kids.length c⟩]) → (w2.alloc o).grownBy w4 v.ownBlock → (some g' = v.ownBlock ∨ g' = (w2.alloc o).heap.size) → ∃ S'', OwL patK (d + 1) B w4 (.slice (some ⟨g', 0, none⟩) (n + 1) c') (lk ++ [t]) S'' := by
  have hO2 := hO.below hb
  obtain ⟨R, hrow, hRl, hgrow⟩ := hO2.grow
  refine ⟨R, hrow, hRl.trans hn.symm, fun g hg => ?_, fun g' c' w4 o h1 h2 h3 => ?_⟩
  · rcases hO.form with ⟨rfl, _⟩ | ⟨g2, cap, rfl, h1, h2⟩
    · cases hg
    · obtain rfl : g2 = g := Option.some.inj hg
      exact ⟨h1, h2⟩
  · refine ⟨_, hgrow (hp.mono hB) (fun q h1 h2 => absurd (hO.lt q h1).2 (Nat.not_lt.2 (hp.lt q h2).1)) h1 ((World.grownBy_alloc w2 o _).trans h2) ?_⟩
    rcases h3 with h3 | h3
    · exact .inl h3
    · exact .inr ⟨g', rfl, by rw [h3]; simp⟩
/-- what a copy's call leaves -/
def TwOut (d : Nat) (t : Pat) (w : World) (e : Ending) (w' : World) : Prop := ∃ (A : Option Addr) (c : Nat) (S : Nat → Prop), e = .returned (.agg #[.int .i64 t.x.op, .string t.x.text, .slice A t.kids.length c]) ∧ OwN patK d w.heap.size w' ⟨t.x.op, t.x.text, .slice A t.kids.length c⟩ t S ∧ Below w.heap.size w w'
def TwinD (d : Nat) : Prop := ∀ (r : PatR) (t : Pat) (w : World), RdN patK d w r t → Few d t.kids → Calls Tryz.prog 172 #[.agg #[.int .i64 r.op, .string r.text, r.kv]] w (TwOut d t w)
set_option maxRecDepth 100000 in
set_option maxHeartbeats 2000000 in
theorem twin_of {d : Nat} (ih : TwinD d) : TwinD (d + 1) := by
  rintro ⟨op, text, kv⟩ ⟨⟨xo, xt⟩, l⟩ w ⟨⟨h1, h2⟩, hk⟩ hf
  obtain rfl : op = xo := h1
  obtain rfl : text = xt := h2
  obtain ⟨R, ⟨A, cap, hkv, hn', hc⟩, hRl, hRk⟩ := hk
  obtain rfl : kv = .slice A R.length cap := hkv
  obtain ⟨hf1, hf2⟩ := hf
  obtain ⟨n, hnn⟩ : ∃ n, n = l.length := ⟨_, rfl⟩
  have HN : Hid (n = l.length) := Lib.hid hnn
  have hn31 : n ≤ 31 := by rw [hnn]; exact hf1
  have HRL : Hid (R.length = n) := Lib.hid (hRl.trans hnn.symm)
  rw [HRL.out]
  rw [show patK.enc = PatR.enc from rfl, show patK.z = 3 from rfl] at hc
  have HC : ∀ i, i < n → ∃ (a : Addr) (x : PatR) (t : Pat), A = some a ∧ (a.add (i * 3)).block < w.heap.size ∧ Pk w (a.add (i * 3)) x ∧ Hid (l.take (i + 1) = l.take i ++ [t]) ∧ ∀ W, Below w.heap.size w W → Calls Tryz.prog 172 #[.agg #[.int .i64 x.op, .string x.text, x.kv]] W (TwOut d t W) := fun i hi => by
    have h1 : i < R.length := by rw [HRL.out]; exact hi
    obtain ⟨a, e1, e2, e3⟩ := HasP.pk hc i h1
    have hl : i < l.length := by rw [← hnn]; exact hi
    exact ⟨a, R[i], l[i], e1, e2, e3, Lib.hid (List.take_succ_eq_append_getElem hl), fun W hb => ih _ _ W (RdN.below (hRk i h1 hl) hb) (hf2 _ (List.getElem_mem hl))⟩
  clear hc hRk hRl hnn hf1 hf2 ih hn'
  have HO0 : Hid (∀ W, OwL patK (d + 1) (w.heap.size + 3) W (.slice none 0 0) (l.take 0) (fun _ => False)) := Lib.hid fun W => owL_nil patK (d + 1) _ W
  have hW : Hid (∀ W3, W3 = (((w.alloc (.cells #[.int .i64 op, .string text, .slice A n cap] 124)).alloc (.cells #[.int .i64 0, .string ⟨#[]⟩, .slice none 0 0] 124)).alloc (.cells #[.int .i64 op, .string text, .slice none 0 0] 124)) → W3.heap.size = w.heap.size + 3 ∧ Below w.heap.size w W3 ∧ W3.heap[w.heap.size]? = some (.cells #[.int .i64 op, .string text, .slice A n cap] 124 (0, 0)) ∧ W3.heap[w.heap.size + 1]? = some (.cells #[.int .i64 0, .string ⟨#[]⟩, .slice none 0 0] 124 (0, 0)) ∧ W3.heap[w.heap.size + 1 + 1]? = some (.cells #[.int .i64 op, .string text, .slice none 0 0] 124 (0, 0))) := Lib.hid (by
    rintro W3 rfl
    have a1 := heap_alloc_new w (.cells #[.int .i64 op, .string text, .slice A n cap] 124)
    have a2 := heap_alloc_new (w.alloc (.cells #[.int .i64 op, .string text, .slice A n cap] 124)) (.cells #[.int .i64 0, .string ⟨#[]⟩, .slice none 0 0] 124)
    have a3 := heap_alloc_new ((w.alloc (.cells #[.int .i64 op, .string text, .slice A n cap] 124)).alloc (.cells #[.int .i64 0, .string ⟨#[]⟩, .slice none 0 0] 124)) (.cells #[.int .i64 op, .string text, .slice none 0 0] 124)
    refine ⟨by simp, ((below_al (below_al (below_al (Below.refl w.heap.size w) _) _) _)), ?_, ?_, ?_⟩
    · exact ((below_al (below_al (Below.refl _ _) _) _).block _ (by simp)).trans a1
    · exact ((below_al (Below.refl _ _) _).block _ (by simp)).trans (by simpa using a2)
    · simpa using a3)
  go_enter Tryz.func172, Tryz.ntmps172
  go_wp2
  obtain ⟨W3, hW3⟩ : ∃ W3, W3 = (((w.alloc (.cells #[.int .i64 op, .string text, .slice A n cap] 124)).alloc (.cells #[.int .i64 0, .string ⟨#[]⟩, .slice none 0 0] 124)).alloc (.cells #[.int .i64 op, .string text, .slice none 0 0] 124)) := ⟨_, rfl⟩
  have HW3 := Lib.hid (hW.out W3 hW3)
  rw [← hW3]
  clear hW3 hW
  go_loopw [4] (fun i wr => ∃ (k : Nat) (v : Value) (S : Nat → Prop), k ≤ n ∧ i = .int .i64 k ∧ Hid (OwL patK (d + 1) (w.heap.size + 3) wr v (l.take k) S) ∧ wr.heap[w.heap.size + 1 + 1]? = some (.cells #[.int .i64 op, .string text, v] 124 (0, 0)) ∧ RT (w.heap.size + 1 + 1) W3 wr) (fun i _ => n - (intOf i).toNat)
  case atStart => exact ⟨0, .slice none 0 0, _, Nat.zero_le _, rfl, Lib.hid (HO0.out W3), HW3.out.2.2.2.2, TurnsAt.refl _ _⟩
  case round =>
    obtain ⟨k, v, S, hk, rfl, HO, hX, hT⟩ := hrel
    obtain ⟨hs3, hb3, hq1, hq2, _⟩ := HW3.out
    have hbel : Below w.heap.size w wr := hb3.trans (hT.below (by omega) (by rintro _ rfl; omega))
    have hr1 : wr.heap[w.heap.size]? = some (.cells #[.int .i64 op, .string text, .slice A n cap] 124 (0, 0)) := (hT.block _ (by omega) (by omega)).trans hq1
    have d2 : wr.cell? ⟨w.heap.size, 2, none⟩ = some (.slice A n cap) := by rw [cell_of_row _ w.heap.size 2 _ _ _ hr1]; rfl
    have e0 : wr.cell? ⟨w.heap.size + 1 + 1, 0, none⟩ = some (.int .i64 op) := by rw [cell_of_row _ (w.heap.size + 1 + 1) 0 _ _ _ hX]; rfl
    have e1 : wr.cell? ⟨w.heap.size + 1 + 1, 1, none⟩ = some (.string text) := by rw [cell_of_row _ (w.heap.size + 1 + 1) 1 _ _ _ hX]; rfl
    have e2 : wr.cell? ⟨w.heap.size + 1 + 1, 2, none⟩ = some v := by rw [cell_of_row _ (w.heap.size + 1 + 1) 2 _ _ _ hX]; rfl
    have f2 : wr.frozen? ⟨w.heap.size + 1 + 1, 2, none⟩ = false := by simp [World.frozen?, hX]
    have hwr3 : w.heap.size + 3 ≤ wr.heap.size := by have := hT.size; omega
    have HX := Lib.hid hX
    have HB := Lib.hid hbel
    have HT := Lib.hid hT
    clear hb3 hq1 hr1 hX HO0
    by_cases hlt : k < n
    · obtain ⟨a, x, t, rfl, hab, hx, HTK, hcall⟩ := HC k hlt
      obtain ⟨c0, c1, c2⟩ := hx.below hbel hab
      have HCALL := Lib.hid hcall
      have HSZ := Lib.hid hs3
      have HS3 : Hid (w.heap.size + 1 + 1 < W3.heap.size ∧ w.heap.size < W3.heap.size ∧ (a.add (k * 3)).block < W3.heap.size) := Lib.hid ⟨by omega, by omega, by omega⟩
      have HLK : Hid (k = (l.take k).length) := Lib.hid (by rw [List.length_take]; have := HN.out; omega)
      clear hx hcall hbel hq2 hs3 HC hT
      go_wp2
      go_region_law (first
          | (refine step_pat_append rfl _ _ (by rfl) (w.heap.size + 3) k v RR (by rfl) (RowR.alloc hrow _) hRRl ⟨t.x.op, t.x.text, .slice A' t.kids.length c'⟩ ⟨w2.heap.size, 0, none⟩ 1 (by rfl) (news_pat _ _ _) (pat_cells _ _ _ _ _) (by omega) (by have := hbm.size; simp at this ⊢; omega) (k + 1) rfl ?_
             intro g' c4 w4 hrow4 hg4 hp4
             have hX4 : w4.heap[w.heap.size + 1 + 1]? = some (.cells #[.int .i64 op, .string text, v] 124 (0, 0)) := (hg4.block _ (by have := hbm.size; simp at this ⊢; omega) (fun e => by have h1 := (hgB _ e.symm).1; omega)).trans ((((Below.refl wr.heap.size wr).drew.trans hbm).trans (by exact (below_al (Below.refl _ _) _).mono (by have := hbm.size; simpa using this))).block _ (by omega) |>.trans HX.out)
             have f4 : w4.frozen? ⟨w.heap.size + 1 + 1, 2, none⟩ = false := by simp [World.frozen?, hX4]
             have e4 : w4.cell? ⟨w.heap.size + 1 + 1, 2, none⟩ = some v := by rw [cell_of_row _ (w.heap.size + 1 + 1) 2 _ _ _ hX4]; rfl)
          | (go_simp; go_at_call 172; refine (HCALL.out _ (by first | exact HB.out.drew | exact HB.out)).mono ?_; rintro e w2 ⟨A', c', S', rfl, ho, hbm⟩; obtain ⟨RR, hrow, hRRl, hgB, hF⟩ := tw_round HO.out HLK.out (by first | exact hbm | exact ((Below.refl wr.heap.size wr).drew.trans hbm)) hwr3 ho; have HF := Lib.hid hF; clear hF ho; have hX2 : w2.heap[w.heap.size + 1 + 1]? = some (.cells #[.int .i64 op, .string text, v] 124 (0, 0)) := (((Below.refl wr.heap.size wr).drew.trans hbm).block _ (by omega)).trans HX.out; have e5 : w2.cell? ⟨w.heap.size + 1 + 1, 2, none⟩ = some v := (by rw [cell_of_row _ (w.heap.size + 1 + 1) 2 _ _ _ hX2]; rfl); have hz5 : w.heap.size + 1 + 1 < w2.heap.size := (Array.getElem?_eq_some_iff.1 hX2).1))
      all_goals
        have HR : Hid (∃ S'', Hid (OwL patK (d + 1) (w.heap.size + 3) (w4.setCell ⟨w.heap.size + 1 + 1, 2, none⟩ (.slice (some ⟨g', 0, none⟩) (k + 1) c4)) (.slice (some ⟨g', 0, none⟩) (k + 1) c4) (l.take (k + 1)) S'') ∧ (w4.setCell ⟨w.heap.size + 1 + 1, 2, none⟩ (.slice (some ⟨g', 0, none⟩) (k + 1) c4)).heap[w.heap.size + 1 + 1]? = some (.cells #[.int .i64 op, .string text, .slice (some ⟨g', 0, none⟩) (k + 1) c4] 124 (0, 0)) ∧ RT (w.heap.size + 1 + 1) W3 (w4.setCell ⟨w.heap.size + 1 + 1, 2, none⟩ (.slice (some ⟨g', 0, none⟩) (k + 1) c4))) := Lib.hid (by
          obtain ⟨S'', hS''⟩ := HF.out g' c4 w4 _ hrow4 hg4 hp4
          rw [← HTK.out] at hS''
          refine ⟨S'', Lib.hid (OwL.set hS'' (by omega)), by rw [heap_setCell_same w4 (w.heap.size + 1 + 1) 2 _ _ _ hX4]; rfl, TurnsAt.trans ?_ (turns_set _ _ _ _ rfl)⟩
          refine turns_grown' (turns_al (HT.out.trans (below_turns ((Below.refl wr.heap.size wr).drew.trans hbm))) _) hg4 (fun g hg => ?_)
          have h1 := (hgB g hg).1
          have h2 := HSZ.out
          omega)
        clear hrow4 hg4 hp4 hX4 f4 e4 hbm hrow hRRl hgB HF
        go_wp2
        go_roundw
        case rel =>
          obtain ⟨S'', h1, h2, h3⟩ := HR.out
          exact ⟨k + 1, _, S'', by omega, by go_num, h1, h2, h3⟩
        case measure => simp [intOf]; omega
    · have hkn : k = n := by omega
      have hr2 : wr.heap[w.heap.size + 1]? = some (.cells #[.int .i64 0, .string ⟨#[]⟩, .slice none 0 0] 124 (0, 0)) := (HT.out.block _ (by omega) (by omega)).trans hq2
      have g0 : wr.cell? ⟨w.heap.size + 1, 0, none⟩ = some (.int .i64 0) := by rw [cell_of_row _ (w.heap.size + 1) 0 _ _ _ hr2]; rfl
      have g1 : wr.cell? ⟨w.heap.size + 1, 1, none⟩ = some (.string ⟨#[]⟩) := by rw [cell_of_row _ (w.heap.size + 1) 1 _ _ _ hr2]; rfl
      have g2 : wr.cell? ⟨w.heap.size + 1, 2, none⟩ = some (.slice none 0 0) := by rw [cell_of_row _ (w.heap.size + 1) 2 _ _ _ hr2]; rfl
      have i0 : wr.frozen? ⟨w.heap.size + 1, 0, none⟩ = false := by simp [World.frozen?, hr2]
      have i1 : wr.frozen? ⟨w.heap.size + 1, 1, none⟩ = false := by simp [World.frozen?, hr2]
      have i2 : wr.frozen? ⟨w.heap.size + 1, 2, none⟩ = false := by simp [World.frozen?, hr2]
      have hll : l.take k = l := List.take_of_length_le (by have := HN.out; omega)
      rw [hll] at HO
      obtain ⟨A', c', rfl⟩ := (HO.out.rd).form
      have HLL : Hid (∀ x0 x1 x2, TwOut (d + 1) (.mk ⟨op, text⟩ l) w (.returned (.agg #[.int .i64 op, .string text, .slice A' l.length c'])) (((wr.setCell ⟨w.heap.size + 1, 0, none⟩ x0).setCell ⟨w.heap.size + 1, 1, none⟩ x1).setCell ⟨w.heap.size + 1, 2, none⟩ x2)) := Lib.hid fun x0 x1 x2 =>
        ⟨A', c', S, rfl, owN_of ((((OwL.set HO.out (by omega)).set (by omega)).set (by omega)).mono (by omega)), below_set (below_set (below_set hbel (by omega)) (by omega)) (by omega)⟩
      clear hr2 hq2 hs3 hkn hll HC hbel hT
      go_wp2
      refine bodyPost_ret (v := .agg #[.int .i64 op, .string text, .slice A' l.length c']) (by simp [results, Tryz.results172, go_sem, g0, g1, g2]) rfl ?_
      exact HLL.out _ _ _
set_option maxRecDepth 100000 in
set_option maxHeartbeats 1000000 in
theorem twin_0 : TwinD 0 := by
  rintro ⟨op, text, kv⟩ ⟨⟨xo, xt⟩, l⟩ w ⟨⟨h1, h2⟩, hl, A, cap, hkv, _⟩ hf
  obtain rfl : op = xo := h1
  obtain rfl : text = xt := h2
  obtain rfl : l = [] := hl
  obtain rfl : kv = .slice A 0 cap := hkv
  have HLL : Hid (∀ W, Below w.heap.size w W → TwOut 0 (.mk ⟨op, text⟩ []) w (.returned (.agg #[.int .i64 op, .string text, .slice none 0 0])) W) := Lib.hid fun W hb =>
    ⟨none, 0, fun _ => False, rfl, owN_leaf _ _ _ _ _, hb⟩
  clear hf
  have HB : Hid (Below w.heap.size w (((w.alloc (.cells #[.int .i64 op, .string text, .slice A 0 cap] 124)).alloc (.cells #[.int .i64 0, .string ⟨#[]⟩, .slice none 0 0] 124)).alloc (.cells #[.int .i64 op, .string text, .slice none 0 0] 124))) := Lib.hid (below_al (below_al (below_al (Below.refl w.heap.size w) _) _) _)
  go_enter Tryz.func172, Tryz.ntmps172
  go_wp2
  go_loopw [4] (fun i wr => i = .int .i64 0 ∧ wr = ((w.alloc (.cells #[.int .i64 op, .string text, .slice A 0 cap] 124)).alloc (.cells #[.int .i64 0, .string ⟨#[]⟩, .slice none 0 0] 124)).alloc (.cells #[.int .i64 op, .string text, .slice none 0 0] 124)) (fun _ _ => 0)
  case atStart => exact ⟨rfl, rfl⟩
  case round =>
    obtain ⟨rfl, rfl⟩ := hrel
    go_wp2
    refine bodyPost_ret (v := .agg #[.int .i64 op, .string text, .slice none 0 0]) (by simp [results, Tryz.results172, go_sem]) rfl ?_
    refine HLL.out _ ?_
    first | exact below_set (below_set (below_set HB.out (by simp)) (by simp)) (by simp) | exact below_al (below_al (below_al (Below.refl w.heap.size w) _) _) _
theorem twin_any : ∀ d, TwinD d
  | 0 => twin_0
  | d + 1 => twin_of (twin_any d)
theorem stwin : STwinC := fun d r t w h hf => twin_any d r t w h hf
end Go.Proofs.YtkifdbeklagelaaGreatDoor

/- CHAPTER 5, spec: l5Class (a class in brackets). -/
namespace Go.Proofs.YtkifdbeklagelaaGreatDoor
open Go.RowKit

def bE (b : Bool) : List Value := [.bool b]
theorem bE_len : ∀ b, (bE b).length = 1 := fun _ => rfl
abbrev RowB (B : Nat) (w : World) (v : Value) (l : List Bool) : Prop := RowR bE 1 4 B w v l
theorem infoBool : (Tryz.prog.info? 4).map (fun i => (i.zero, i.size, i.bytes)) = some (some (.bool false), 1, 1) := by kernel_rfl
/-- which of the 256 bytes stand in l -/
def hasL (l : List UInt8) : List Bool := (List.range 256).map fun x => l.contains (UInt8.ofNat x)
theorem hasL_len (l : List UInt8) : (hasL l).length = 256 := by unfold hasL; rw [List.length_map, List.length_range]
theorem hasL_get (l : List UInt8) {x : Nat} (h : x < (hasL l).length) : (hasL l)[x] = l.contains (UInt8.ofNat x) := by simp [hasL]
theorem hasL_nil : hasL [] = List.replicate 256 false := by
  apply List.ext_getElem
  · rw [hasL_len, List.length_replicate]
  · intro i h1 h2; rw [List.getElem_replicate, hasL_get]; rfl
theorem hasL_set (l : List UInt8) (x : Nat) (hx : x < 256) : (hasL l).set x true = hasL (l ++ [UInt8.ofNat x]) := by
  apply List.ext_getElem
  · simp [hasL]
  · intro i h1 h2
    have hi : i < 256 := by simpa [hasL] using h2
    rw [List.getElem_set, hasL_get]
    by_cases e : x = i
    · subst e
      rw [if_pos rfl, hasL_get]; simp
    · rw [if_neg e, hasL_get]
      have hne : (UInt8.ofNat i == UInt8.ofNat x) = false := by
        rw [beq_eq_false_iff_ne]; intro e2
        have := congrArg UInt8.toNat e2
        simp only [UInt8.toNat_ofNat'] at this
        omega
      rw [List.contains_eq_any_beq, List.contains_eq_any_beq, List.any_append]
      simp [hne]
theorem betw_upto (a b : UInt8) (x : Nat) (h1 : a.toNat ≤ x) (h2 : x ≤ b.toNat) : (betw a b).take (x + 1 - a.toNat) = (betw a b).take (x - a.toNat) ++ [UInt8.ofNat x] := by
  have hl2 : (betw a b).length = b.toNat - a.toNat + 1 := by simp [betw]
  have hl : x - a.toNat < (betw a b).length := by omega
  rw [show x + 1 - a.toNat = (x - a.toNat) + 1 by omega, List.take_succ_eq_append_getElem hl]
  congr 2
  simp only [betw, List.getElem_map, List.getElem_range]
  rw [show a.toNat + (x - a.toNat) = x by omega]
theorem betw_all (a b : UInt8) (h : a.toNat ≤ b.toNat) : (betw a b).take (b.toNat + 1 - a.toNat) = betw a b := List.take_of_length_le (by simp [betw]; omega)
theorem betw_self (a : UInt8) : betw a a = [a] := by simp [betw]
theorem RowB.at {B g n cap x : Nat} {w : World} {l : List Bool} (h : RowB B w (.slice (some ⟨g, 0, none⟩) n cap) l) (hx : x < l.length) : w.cell? ⟨g, x, none⟩ = some (.bool l[x]) := by
  have := RowR.cell bE_len h hx (j := 0) (x := .bool l[x]) rfl
  simpa using this
theorem RowB.put {B g n cap x : Nat} {w : World} {l : List Bool} (h : RowB B w (.slice (some ⟨g, 0, none⟩) n cap) l) (hx : x < l.length) (u : Bool) : RowB B (w.setCell ⟨g, x, none⟩ (.bool u)) (.slice (some ⟨g, 0, none⟩) n cap) (l.set x u) ∧ w.grownBy (w.setCell ⟨g, x, none⟩ (.bool u)) (some g) := by
  have := RowR.set1 bE_len h hx 0 (by omega) (.bool u) u rfl
  simpa using this
/-- the bytes below x that stand in l -/
def lowL (l : List UInt8) (x : Nat) : List UInt8 := ((List.range x).map UInt8.ofNat).filter fun c => l.contains c
theorem lowL_succ (l : List UInt8) (x : Nat) : lowL l (x + 1) = lowL l x ++ (if l.contains (UInt8.ofNat x) then [UInt8.ofNat x] else []) := by
  unfold lowL
  rw [List.range_succ, List.map_append, List.filter_append]
  simp only [List.map_cons, List.map_nil, List.filter_cons, List.filter_nil]
theorem lowL_len (l : List UInt8) (x : Nat) : (lowL l x).length ≤ x := by
  unfold lowL
  refine Nat.le_trans (List.length_filter_le _ _) ?_
  simp
theorem lowL_all (l : List UInt8) : lowL l 256 = clsL l := rfl
/-- read so far: the bytes cs, at the place k -/
def OkC (s : ByteArray) (i k : Nat) (cs : List UInt8) : Prop := i ≤ k ∧ k ≤ s.size ∧ (cs = [] ↔ k = i) ∧
  spansL (s.data.toList.drop i).length (s.data.toList.drop i) = (cs ++ (spansL (s.data.toList.drop i).length (s.data.toList.drop k)).1, (spansL (s.data.toList.drop i).length (s.data.toList.drop k)).2)
theorem OkC.start (s : ByteArray) (i : Nat) (hi : i ≤ s.size) : OkC s i i [] := ⟨Nat.le_refl _, hi, by simp, by simp⟩
theorem spansL_none {m : Nat} {l : List UInt8} (h : spanL l = none) : spansL m l = ([], l) := by
  cases m with
  | zero => rfl
  | succ m => rw [spansL, h]
theorem spansL_some {m : Nat} {l b r : List UInt8} (hm : l.length ≤ m) (h : spanL l = some (b, r)) : spansL m l = (b ++ (spansL m r).1, (spansL m r).2) := by
  have hl := (spanL_suf h).2.1
  obtain ⟨q, rfl⟩ : ∃ q, m = q + 1 := ⟨m - 1, by omega⟩
  rw [spansL_more (q + 1) (q + 1) r (by omega) (by omega), spansL, h]
  simp only
  rw [spansL_more q (q + 1) r (by omega) (by omega)]
theorem OkC.step {s : ByteArray} {i k k' : Nat} {cs b : List UInt8} (h : OkC s i k cs) (hk : k < k') (hk' : k' ≤ s.size) (hs : spanL (s.data.toList.drop k) = some (b, s.data.toList.drop k')) : OkC s i k' (cs ++ b) := by
  obtain ⟨h1, h2, h3, h4⟩ := h
  have hb := (spanL_suf hs).2.2
  refine ⟨by omega, hk', ⟨fun e => absurd (List.append_eq_nil_iff.1 e).2 hb, fun e => by omega⟩, ?_⟩
  rw [h4, spansL_some (by simp; omega) hs]
  simp
theorem OkC.stop {s : ByteArray} {i k : Nat} {cs : List UInt8} (h : OkC s i k cs) (hs : spanL (s.data.toList.drop k) = none) (hne : ∀ h : k < s.size, s[k] ≠ 93) : classL (s.data.toList.drop i) = none := by
  obtain ⟨h1, h2, h3, h4⟩ := h
  rw [spansL_none hs] at h4
  unfold classL
  rw [h4]
  by_cases hk : k < s.size
  · rw [data_drop s k hk]
    show (if s[k] = 93 ∧ _ then _ else _) = _
    rw [if_neg (fun e => hne hk e.1)]
  · rw [List.drop_eq_nil_of_le (by simp; omega)]
theorem OkC.close {s : ByteArray} {i k : Nat} {cs : List UInt8} (h : OkC s i k cs) (hk : k < s.size) (he : s[k] = 93) : classL (s.data.toList.drop i) = if k = i then none else some (charsP (clsL cs), s.data.toList.drop (k + 1)) := by
  obtain ⟨h1, h2, h3, h4⟩ := h
  have hd := data_drop s k hk
  rw [he] at hd
  have hsp : spanL (s.data.toList.drop k) = none := by rw [hd]; rfl
  rw [spansL_none hsp, hd] at h4
  unfold classL
  rw [h4]
  simp only [List.append_nil]
  by_cases e : k = i
  · rw [if_pos e, if_neg (fun x => x.2 (h3.2 e))]
  · rw [if_neg e, if_pos ⟨by first | rfl | trivial, fun x => e (h3.1 x)⟩]
theorem sChar_q (c : UInt8) (b : Bool) (h : pcB c = b) (w : World) : Calls Tryz.prog 198 #[.int .u8 c.toNat] w fun e w' => e = .returned (.bool b) ∧ w' = w :=
  (sChar_any c w).mono fun _ _ ⟨he, hw⟩ => ⟨by rw [he, h], hw.symm⟩
set_option maxRecDepth 100000 in
set_option maxHeartbeats 8000000 in
theorem sclass : SClassC := by
  intro b s i w hP h30 hi
  have hbl := hP.lt
  have hnb : ¬ w.heap.size = b := by omega
  have hnb' : ¬ b = w.heap.size := by omega
  have hs : s.size ≤ maxLen := by unfold maxLen; omega
  have hs9 : s.size ≤ 9223372036854775807 := by omega
  obtain ⟨i0, hi0, hz0, hz1, hz2⟩ := info_parts infoBool
  have hP0 := hP.al (.cells #[.int .i64 0, .string ⟨#[]⟩, .slice none 0 0] 124)
  have HOK := Lib.hid (OkC.start s i hi)
  obtain ⟨O, hO⟩ : ∃ O, O = classL (s.data.toList.drop i) := ⟨_, rfl⟩
  rw [← hO]
  have HO := Lib.hid hO
  have H30 := Lib.hid h30
  have hi30 : (i : Int) ≤ 30 := by omega
  have hi00 : (0 : Int) ≤ (i : Int) := by omega
  have hb2 : i0.bytes * 256 ≤ 281474976710656 := by rw [hz2]; omega
  have hb3 : 256 ≤ maxLen := by unfold maxLen; omega
  clear hO hP h30 hz2
  go_enter Tryz.func185, Tryz.ntmps185
  go_wp2_with (at_make; refine wpList_make_full _ rfl _ _ 217 rfl (w.heap.size + 1) 4 i0 (.bool false) 1 Tryz.underlying217 hi0 hz0 hz1 _ _ _ _ 256 rfl rfl rfl rfl hb2 hb3 (by simp) ?_; intro w1 hown1 hg1; have hP1 : PS w1 b s i false := (hg1.block b hP0.lt (by simp)).trans hP0; obtain ⟨⟨c0, c1, c2⟩, z1, z2⟩ := hP1.cells)
  have hT1 : RT b (w.alloc (.cells #[.int .i64 0, .string ⟨#[]⟩, .slice none 0 0] 124)) w1 := turns_grown' (TurnsAt.refl _ _) hg1 (by intro g h; cases h)
  have hrow1 : RowB (w.heap.size + 1) w1 (.slice (some ⟨w.heap.size + 1, 0, none⟩) 256 256) (hasL []) := by
    have := hown1
    rw [show (madeCells (Value.bool false).cells (256 * 1)).toList = (List.replicate 256 false).flatMap bE from made_flat bE_len (by omega) _ false rfl 256, ← hasL_nil] at this
    unfold RowB RowR
    rw [hasL_len]
    simpa using this
  clear hown1 hg1 c0 c1 c2 z1 z2 hP0
  go_loopg [5] (s.size + 1 - i) (fun G f wr => ∃ (k : Nat) (cs : List UInt8), G = s.size + 1 - k ∧ Hid (OkC s i k cs) ∧ PS wr b s k false ∧ Hid (RowB (w.heap.size + 1) wr (.slice (some ⟨w.heap.size + 1, 0, none⟩) 256 256) (hasL cs)) ∧ RT b (w.alloc (.cells #[.int .i64 0, .string ⟨#[]⟩, .slice none 0 0] 124)) wr)
  case atStart => exact ⟨i, [], rfl, HOK, hP1, Lib.hid hrow1, hT1⟩
  case round =>
    clear hP1 hrow1 hT1 HOK
    obtain ⟨k, cs, HG, HOK, hP, HROW, hT⟩ := hrel
    obtain ⟨hik, hks, _⟩ := HOK.out
    have hgk : gk = s.size + 1 - k := HG
    obtain ⟨⟨c0, c1, c2⟩, z1, z2⟩ := hP.cells
    by_cases hlt : k < s.size
    · by_cases h93 : s[k] = 93
      · have HE : Hid (s[k] = 93) := Lib.hid h93
        have hcl := HOK.out.close hlt h93
        obtain ⟨k1, hk1⟩ : ∃ q, q = k + 1 := ⟨_, rfl⟩
        have HK1 := Lib.hid hk1
        have HKK : Hid (s.size - (s.data.toList.drop (k + 1)).length = k1) := Lib.hid (by rw [hk1]; simp; omega)
        have HRW0 : Hid (∀ W, RT b wr W → RowB (w.heap.size + 1) W (.slice (some ⟨w.heap.size + 1, 0, none⟩) 256 256) (hasL cs)) := Lib.hid fun W h => rowR_apart HROW.out h (fun q hq e => by have := Option.some.inj hq; simp at this; omega)
        by_cases hki : k = i
        ·
          rw [if_pos hki] at hcl
          have HN : Hid (O = none) := Lib.hid (by rw [HO.out]; exact hcl)
          have hq : ((k1 : Int) == (i : Int) + 1) = true := by rw [beq_iff_eq]; omega
          clear hcl h93 hk1 hki HROW HOK HO HG hgk hik
          go_wp2_with (go_at_call 154; ((with_reducible refine (next_yes b s hs k 93 93 ch93 _ hP hlt HE.out).mono ?_); rintro e w3 ⟨rfl, hP3, hT3⟩; rw [← HK1.out] at hP3; have hT03 := hT.trans hT3; obtain ⟨⟨p0, p1, p2⟩, g1, g2⟩ := hP3.cells))
          have hPW := hP3.set2 true
          have HTW : Hid (RT b (w.alloc (.cells #[.int .i64 0, .string ⟨#[]⟩, .slice none 0 0] 124)) (w3.setCell ⟨b, 2, none⟩ (.bool true))) := Lib.hid (hT03.trans (turns_set _ _ _ _ rfl))
          have HRW := Lib.hid (HRW0.out _ (hT3.trans (turns_set w3 b 2 (.bool true) rfl)))
          have HSZ : Hid ((w3.setCell ⟨b, 2, none⟩ (.bool true)).heap.size = w3.heap.size) := Lib.hid (by simp)
          generalize w3.setCell ⟨b, 2, none⟩ (.bool true) = W at hPW HTW HRW HSZ ⊢
          clear p0 p1 p2 g1 g2 hP3 hT03 hT3 c0 c1 c2 z1 z2 hP hT HRW0
          have hP5 : PS W b s k1 true := hPW
          go_wp2
          go_loopw [8, 9] (fun v x wr => ∃ X : Nat, X ≤ 256 ∧ x = .int .i64 X ∧ Buf W.heap.size v (lowL cs X) W wr) (fun _ x _ => 256 - (intOf x).toNat)
          case atStart => exact ⟨0, by omega, rfl, by first | exact buf_none (Below.refl _ _) | (rw [← HSZ.out]; exact buf_none (Below.refl _ _))⟩
          case round =>
            obtain ⟨X, hX, rfl, hbuf⟩ := hrel
            by_cases hltX : X < 256
            · have hXz : (X : Int) < 256 := by omega
              have hcell := RowB.at (RowR.below HRW.out hbuf.below) (x := X) (by rw [hasL_len]; exact hltX)
              rw [hasL_get] at hcell
              have hcv : (((UInt8.ofNat X).toNat : Nat) : Int) = X := by simp only [UInt8.toNat_ofNat']; omega
              have HCV := Lib.hid hcv
              have hlen := lowL_len cs X
              have HLN := Lib.hid hlen
              have HNX := Lib.hid (lowL_succ cs X)
              clear hcv hlen
              cases hcon : cs.contains (UInt8.ofNat X)
              · rw [hcon] at hcell HNX
                clear hcon
                go_wp2
                go_roundw
                case rel => exact ⟨X + 1, by omega, by go_num, by rw [HNX.out]; simpa using hbuf⟩
                case measure => simp [intOf]; omega
              · rw [hcon] at hcell HNX
                clear hcon
                go_wp2_with (at_builtin; refine buf_append rfl _ _ rfl _ _ _ rfl _ _ _ hbuf rfl (UInt8.ofNat X) (HCV.out) (by have := HLN.out; omega) ?_; clear hbuf; intro v1 w1 hbuf)
                go_roundw
                case rel => exact ⟨X + 1, by omega, by go_num, by rw [HNX.out]; simpa using hbuf⟩
                case measure => simp [intOf]; omega
            · obtain rfl : X = 256 := by omega
              have hcv := buf_str hbuf
              rw [lowL_all] at hcv
              have hTe : RT b (w.alloc (.cells #[.int .i64 0, .string ⟨#[]⟩, .slice none 0 0] 124)) wr := HTW.out.trans (below_turns hbuf.below)
              have hPe : PS wr b s k1 true := hP5.below hbuf.below
              obtain ⟨⟨b0, b1, b2⟩, ⟨f0, f1, f2⟩, hz3⟩ := box3t hTe hbl
              clear hbuf hP5 hPW
              go_wp2
              refine bodyPost_ret (v := .agg #[.int .i64 1, .string ⟨(clsL cs).toArray⟩, .slice none 0 0]) (by simp [results, Tryz.results185, go_sem, b0, b1, b2, hz3, hnb, hnb']) rfl ?_
              rw [HN.out]
              exact s_none hPe hTe hbl
          
        ·
          rw [if_neg hki] at hcl
          have HN : Hid (O = some (charsP (clsL cs), s.data.toList.drop (k + 1))) := Lib.hid (by rw [HO.out]; exact hcl)
          have hq : ((k1 : Int) == (i : Int) + 1) = false := by rw [beq_eq_false_iff_ne]; omega
          clear hcl h93 hk1 hki HROW HOK HO HG hgk hik
          go_wp2_with (go_at_call 154; ((with_reducible refine (next_yes b s hs k 93 93 ch93 _ hP hlt HE.out).mono ?_); rintro e w3 ⟨rfl, hP3, hT3⟩; rw [← HK1.out] at hP3; have hT03 := hT.trans hT3; obtain ⟨⟨p0, p1, p2⟩, g1, g2⟩ := hP3.cells))
          have hPW := hP3
          have HTW : Hid (RT b (w.alloc (.cells #[.int .i64 0, .string ⟨#[]⟩, .slice none 0 0] 124)) w3) := Lib.hid hT03
          have HRW := Lib.hid (HRW0.out _ hT3)
          obtain ⟨W, hW⟩ : ∃ W, W = w3 := ⟨_, rfl⟩
          have HSZ : Hid (W.heap.size = w3.heap.size) := Lib.hid (by rw [hW])
          rw [← hW] at hPW HTW HRW
          subst hW
          clear p0 p1 p2 g1 g2 hP3 hT03 hT3 c0 c1 c2 z1 z2 hP hT HRW0
          have hP5 : PS W b s k1 false := hPW
          go_wp2
          go_loopw [8, 9] (fun v x wr => ∃ X : Nat, X ≤ 256 ∧ x = .int .i64 X ∧ Buf W.heap.size v (lowL cs X) W wr) (fun _ x _ => 256 - (intOf x).toNat)
          case atStart => exact ⟨0, by omega, rfl, by first | exact buf_none (Below.refl _ _) | (rw [← HSZ.out]; exact buf_none (Below.refl _ _))⟩
          case round =>
            obtain ⟨X, hX, rfl, hbuf⟩ := hrel
            by_cases hltX : X < 256
            · have hXz : (X : Int) < 256 := by omega
              have hcell := RowB.at (RowR.below HRW.out hbuf.below) (x := X) (by rw [hasL_len]; exact hltX)
              rw [hasL_get] at hcell
              have hcv : (((UInt8.ofNat X).toNat : Nat) : Int) = X := by simp only [UInt8.toNat_ofNat']; omega
              have HCV := Lib.hid hcv
              have hlen := lowL_len cs X
              have HLN := Lib.hid hlen
              have HNX := Lib.hid (lowL_succ cs X)
              clear hcv hlen
              cases hcon : cs.contains (UInt8.ofNat X)
              · rw [hcon] at hcell HNX
                clear hcon
                go_wp2
                go_roundw
                case rel => exact ⟨X + 1, by omega, by go_num, by rw [HNX.out]; simpa using hbuf⟩
                case measure => simp [intOf]; omega
              · rw [hcon] at hcell HNX
                clear hcon
                go_wp2_with (at_builtin; refine buf_append rfl _ _ rfl _ _ _ rfl _ _ _ hbuf rfl (UInt8.ofNat X) (HCV.out) (by have := HLN.out; omega) ?_; clear hbuf; intro v1 w1 hbuf)
                go_roundw
                case rel => exact ⟨X + 1, by omega, by go_num, by rw [HNX.out]; simpa using hbuf⟩
                case measure => simp [intOf]; omega
            · obtain rfl : X = 256 := by omega
              have hcv := buf_str hbuf
              rw [lowL_all] at hcv
              have hTe : RT b (w.alloc (.cells #[.int .i64 0, .string ⟨#[]⟩, .slice none 0 0] 124)) wr := HTW.out.trans (below_turns hbuf.below)
              have hPe : PS wr b s k1 false := hP5.below hbuf.below
              obtain ⟨⟨b0, b1, b2⟩, ⟨f0, f1, f2⟩, hz3⟩ := box3t hTe hbl
              clear hbuf hP5 hPW
              go_wp2
              refine bodyPost_ret (v := .agg #[.int .i64 1, .string ⟨(clsL cs).toArray⟩, .slice none 0 0]) (by simp [results, Tryz.results185, go_sem, b0, b1, b2, hz3, hnb, hnb']) rfl ?_
              rw [HN.out]
              exact s_some (p := charsP (clsL cs)) (d := 0) (owN_leaf _ _ _ _ _) hPe HKK.out hTe hbl (Nat.le_refl _)
          
      · have n93 : NoNext s k false 93 := .inr fun _ => h93
        obtain ⟨c, hc⟩ : ∃ c, c = s[k] := ⟨_, rfl⟩
        have hd : s.data.toList.drop k = c :: s.data.toList.drop (k + 1) := by rw [data_drop s k hlt, hc]
        have hge1 : decide (s.size ≤ k) = false := by simp; omega
        have hge2 : ¬ (s.size : Int) ≤ (k : Int) := by omega
        have hltz : (k : Int) < (s.size : Int) := by omega
        cases hpc : pcB c
        ·
          have HN : Hid (O = none) := Lib.hid (by rw [HO.out]; exact HOK.out.stop (by rw [hd]; unfold spanL; simp [hpc]) (fun _ => h93))
          have HPC : Hid (pcB s[k] = false) := Lib.hid (by rw [← hc]; exact hpc)
          clear hc hd hpc h93 HROW HOK HO
          go_wp2_with (go_at_call 154; ((with_reducible refine (next_no b s hs k false 93 93 ch93 _ hP n93).mono ?_); rintro e w3 ⟨rfl, hP3, hT3⟩; have hT03 := hT.trans hT3; obtain ⟨⟨b0, b1, b2⟩, ⟨f0, f1, f2⟩, hz3⟩ := box3t hT03 hbl; obtain ⟨⟨p0, p1, p2⟩, g1, g2⟩ := hP3.cells))
          go_quiet ((go_at_call 198; exact Calls.quiet_of_same (sChar_q _ _ HPC.out _)))
          go_wp2
          refine bodyPost_ret (v := .agg #[.int .i64 0, .string ⟨#[]⟩, .slice none 0 0]) (by simp [results, Tryz.results185, go_sem, b0, b1, b2, hz3, hnb, hnb']) rfl ?_
          rw [HN.out]
          exact s_none ((hP3.drewN _).set2 true) ((hT03.trans (turns_drewN _ _)).trans (turns_set _ _ _ _ rfl)) hbl
        · have hsk : spanL (s.data.toList.drop k) = spanL (c :: s.data.toList.drop (k + 1)) := by rw [hd]
          have HPC : Hid (pcB s[k] = true) := Lib.hid (by rw [← hc]; exact hpc)
          have hneq : ∀ h : k < s.size, s[k] ≠ 93 := fun _ => h93
          have hstop := fun h => (HO.out).trans (HOK.out.stop h hneq)
          have HSTOP := Lib.hid hstop
          have hP3x : ∀ w', RT b wr w' → RT b (w.alloc (.cells #[.int .i64 0, .string ⟨#[]⟩, .slice none 0 0] 124)) w' := fun w' h => hT.trans h
          have HTR := Lib.hid hP3x
          clear hstop hP3x HO hneq
          go_wp2_with (go_at_call 154; ((with_reducible refine (next_no b s hs k false 93 93 ch93 _ hP n93).mono ?_); rintro e w3 ⟨rfl, hP3, hT3⟩; obtain ⟨⟨p0, p1, p2⟩, g1, g2⟩ := hP3.cells))
          go_quiet ((go_at_call 198; exact Calls.quiet_of_same (sChar_q _ _ HPC.out _)))
          have hP4 := hP3.drewN nq
          have hT4 : RT b wr (w3.drewN nq) := hT3.trans (turns_drewN w3 nq)
          generalize w3.drewN nq = w4 at hP4 hT4 ⊢
          clear p0 p1 p2 g1 g2 hP3 hT3 c0 c1 c2 z1 z2 nq
          obtain ⟨⟨p0, p1, p2⟩, g1, g2⟩ := hP4.cells
          go_wp2
          go_quiet (fail)
          have hP5 := hP4.drewN nq
          have hT5 : RT b wr (w4.drewN nq) := hT4.trans (turns_drewN w4 nq)
          generalize w4.drewN nq = w5 at hP5 hT5 ⊢
          clear p0 p1 p2 g1 g2 hP4 hT4 nq
          obtain ⟨⟨p0, p1, p2⟩, g1, g2⟩ := hP5.cells
          obtain ⟨k1, hk1⟩ : ∃ q, q = k + 1 := ⟨_, rfl⟩
          have hP6 : PS (w5.setCell ⟨b, 1, none⟩ (.int .i64 ((k : Int) + 1))) b s k1 false := by rw [hk1]; exact hP5.set1 (k + 1)
          have hT6 : RT b wr (w5.setCell ⟨b, 1, none⟩ (.int .i64 ((k : Int) + 1))) := hT5.trans (turns_set _ _ _ _ rfl)
          by_cases h126 : ∃ h : k1 < s.size, s[k1] = 126
          · obtain ⟨hl1, he1⟩ := h126
            have HE1 := Lib.hid he1
            obtain ⟨k2, hk2⟩ : ∃ q, q = k1 + 1 := ⟨_, rfl⟩
            have hd1 : s.data.toList.drop (k + 1) = 126 :: s.data.toList.drop k2 := by rw [← hk1, data_drop s k1 hl1, he1, hk2]
            have HK2 := Lib.hid hk2
            rw [hd1] at hsk
            by_cases hl2 : k2 < s.size
            · obtain ⟨e, he⟩ : ∃ e, e = s[k2] := ⟨_, rfl⟩
              have hd2 : s.data.toList.drop k2 = e :: s.data.toList.drop (k2 + 1) := by rw [data_drop s k2 hl2, he]
              rw [hd2] at hsk
              have hge3 : decide (s.size ≤ k2) = false := by simp; omega
              have hge4 : ¬ (s.size : Int) ≤ (k2 : Int) := by omega
              have hltz2 : (k2 : Int) < (s.size : Int) := by omega
              cases hpe : pcB e
              ·
                have HN : Hid (O = none) := Lib.hid (HSTOP.out (by rw [hsk]; simp [spanL, hpc, hpe]))
                have HPD : Hid (pcB s[k2] = false) := Lib.hid (by rw [← he]; exact hpe)
                clear hsk hd1 hd2 hd he hpe hc hk1 hk2 he1 HSTOP HOK HROW h93 HG hgk
                go_wp2_with (go_at_call 154; ((with_reducible refine (next_yes b s hs k1 126 126 ch126 _ hP6 hl1 HE1.out).mono ?_); rintro e w7 ⟨rfl, hP7, hT7⟩; have hP8 : PS w7 b s k2 false := by rw [HK2.out]; exact hP7))
                have hT08 : RT b (w.alloc (.cells #[.int .i64 0, .string ⟨#[]⟩, .slice none 0 0] 124)) w7 := HTR.out _ (hT6.trans hT7)
                obtain ⟨⟨b0, b1, b2⟩, ⟨f0, f1, f2⟩, hz3⟩ := box3t hT08 hbl
                clear p0 p1 p2 g1 g2
                obtain ⟨⟨p0, p1, p2⟩, g1, g2⟩ := hP8.cells
                go_quiet ((go_at_call 198; exact Calls.quiet_of_same (sChar_q _ _ HPD.out _)))
                go_wp2
                refine bodyPost_ret (v := .agg #[.int .i64 0, .string ⟨#[]⟩, .slice none 0 0]) (by simp [results, Tryz.results185, go_sem, b0, b1, b2, hz3, hnb, hnb']) rfl ?_
                rw [HN.out]
                exact s_none ((hP8.drewN _).set2 true) ((hT08.trans (turns_drewN _ _)).trans (turns_set _ _ _ _ rfl)) hbl
              · have HPD : Hid (pcB s[k2] = true) := Lib.hid (by rw [← he]; exact hpe)
                by_cases hce : c.toNat ≤ e.toNat
                ·
                  have hq5 : decide ((s[k2].toNat : Int) < (s[k].toNat : Int)) = false := by rw [← he, ← hc]; simp; omega
                  have hq6 : ¬ (s[k2].toNat : Int) < (s[k].toNat : Int) := by rw [← he, ← hc]; omega
                  have HSPK : Hid (spanL (s.data.toList.drop k) = some (betw c e, s.data.toList.drop (k2 + 1))) := Lib.hid (by rw [hsk]; simp only [spanL, hpc, if_true]; rw [if_pos ⟨hpe, hce⟩])
                  have HLH0 : Hid (c.toNat ≤ e.toNat) := Lib.hid hce
                  have HK1 := Lib.hid hk1
                  have HC1 := Lib.hid hc
                  have HC2 := Lib.hid he
                  clear hsk hd1 hd2 hd he hpe hc hk1 hk2 he1 HSTOP h93 HG hce hpc
                  go_wp2_with (go_at_call 154; ((with_reducible refine (next_yes b s hs k1 126 126 ch126 _ hP6 hl1 HE1.out).mono ?_); rintro e w7 ⟨rfl, hP7, hT7⟩; have hP8 : PS w7 b s k2 false := by rw [HK2.out]; exact hP7))
                  have hT08 : RT b (w.alloc (.cells #[.int .i64 0, .string ⟨#[]⟩, .slice none 0 0] 124)) w7 := HTR.out _ (hT6.trans hT7)
                  obtain ⟨⟨b0, b1, b2⟩, ⟨f0, f1, f2⟩, hz3⟩ := box3t hT08 hbl
                  clear p0 p1 p2 g1 g2
                  obtain ⟨⟨p0, p1, p2⟩, g1, g2⟩ := hP8.cells
                  go_quiet ((go_at_call 198; exact Calls.quiet_of_same (sChar_q _ _ HPD.out _)))
                  have hP9 := hP8.drewN nq
                  have hT9 : RT b wr (w7.drewN nq) := (hT6.trans hT7).trans (turns_drewN w7 nq)
                  generalize w7.drewN nq = w9 at hP9 hT9 ⊢
                  clear p0 p1 p2 g1 g2 hP8 hT08 hT7 hT6 nq b0 b1 b2 f0 f1 f2 hz3 hP7 hP6
                  obtain ⟨⟨p0, p1, p2⟩, g1, g2⟩ := hP9.cells
                  go_wp2
                  go_quiet (fail)
                  have hPa := hP9.drewN nq
                  have hTa : RT b wr (w9.drewN nq) := hT9.trans (turns_drewN w9 nq)
                  generalize w9.drewN nq = wa at hPa hTa ⊢
                  clear p0 p1 p2 g1 g2 hP9 hT9 nq
                  obtain ⟨⟨p0, p1, p2⟩, g1, g2⟩ := hPa.cells
                  obtain ⟨kk, hkk0⟩ : ∃ q, q = k2 + 1 := ⟨_, rfl⟩
                  have hkk : k < kk := by have h1 := HK2.out; have h2 := HK1.out; omega
                  have hkks : kk ≤ s.size := by omega
                  have HSP : Hid (spanL (s.data.toList.drop k) = some (betw s[k] s[k2], s.data.toList.drop kk)) := Lib.hid (by rw [hkk0, ← HC1.out, ← HC2.out]; exact HSPK.out)
                  have HLH : Hid (s[k].toNat ≤ s[k2].toNat) := Lib.hid (by rw [← HC1.out, ← HC2.out]; exact HLH0.out)
                  obtain ⟨W7, hW7⟩ : ∃ W, W = wa.setCell ⟨b, 1, none⟩ (.int .i64 ((k2 : Int) + 1)) := ⟨_, rfl⟩
                  have hP7 : PS W7 b s kk false := by rw [hW7, hkk0]; exact hPa.set1 (k2 + 1)
                  have hTw : RT b wr W7 := by rw [hW7]; exact hTa.trans (turns_set _ _ _ _ rfl)
                  have hT7 := HTR.out _ hTw
                  have HW7 := Lib.hid hW7
                  clear hPa hTa hkk0 hW7 hge1 hge2 hge3 hge4 hq5 hq6 n93 HPC HPD HTR
                  have HRW7 : Hid (RowB (w.heap.size + 1) W7 (.slice (some ⟨w.heap.size + 1, 0, none⟩) 256 256) (hasL cs)) := Lib.hid (rowR_apart HROW.out hTw (fun q hq e => by have := Option.some.inj hq; simp at this; omega))
                  have hlo : s[k].toNat < 256 := s[k].toNat_lt
                  have hhi : s[k2].toNat < 256 := s[k2].toNat_lt
                  have HOK2 := Lib.hid (HOK.out.step hkk hkks HSP.out)
                  clear hTw HROW HSP
                  go_wp2
                  go_loopw [7] (fun x wr => ∃ X : Nat, x = .int .i64 X ∧ s[k].toNat ≤ X ∧ X ≤ s[k2].toNat + 1 ∧ Hid (RowB (w.heap.size + 1) wr (.slice (some ⟨w.heap.size + 1, 0, none⟩) 256 256) (hasL (cs ++ (betw s[k] s[k2]).take (X - s[k].toNat)))) ∧ PS wr b s kk false ∧ RT b (w.alloc (.cells #[.int .i64 0, .string ⟨#[]⟩, .slice none 0 0] 124)) wr) (fun x _ => s[k2].toNat + 1 - (intOf x).toNat)
                  case atStart => first | (rw [← HW7.out]; exact ⟨s[k].toNat, rfl, Nat.le_refl _, by omega, Lib.hid (by rw [Nat.sub_self, List.take_zero, List.append_nil]; exact HRW7.out), hP7, hT7⟩) | exact ⟨s[k].toNat, rfl, Nat.le_refl _, by omega, Lib.hid (by rw [Nat.sub_self, List.take_zero, List.append_nil]; exact HRW7.out), hP7, hT7⟩
                  case round =>
                    clear hP7 hT7 HRW7
                    obtain ⟨X, rfl, hX1, hX2, HRX, hPX, hTX⟩ := hrel
                    by_cases hXl : X ≤ s[k2].toNat
                    · have hXz : (X : Int) ≤ (s[k2].toNat : Int) := by omega
                      have hX256 : (X : Int) < 256 := by omega
                      have hXn : X < 256 := by omega
                      have hXL : X < (hasL (cs ++ (betw s[k] s[k2]).take (X - s[k].toNat))).length := by rw [hasL_len]; omega
                      obtain ⟨vb, hcell⟩ : ∃ vb, wr.cell? ⟨w.heap.size + 1, X, none⟩ = some (.bool vb) := ⟨_, RowB.at HRX.out hXL⟩
                      have hfz := RowR.frozen HRX.out X
                      have HPUT := Lib.hid (RowB.put HRX.out hXL true)
                      have HPX := Lib.hid (hPX.setNew (c := w.heap.size + 1) (j := X) (u := .bool true) (by omega))
                      have HTX := Lib.hid (turns_new (b := w.heap.size + 1) (j := X) (u := .bool true) hTX (by simp))
                      have HST : Hid ((hasL (cs ++ (betw s[k] s[k2]).take (X - s[k].toNat))).set X true = hasL (cs ++ (betw s[k] s[k2]).take (X + 1 - s[k].toNat))) := Lib.hid (by rw [hasL_set _ _ hXn, betw_upto s[k] s[k2] X hX1 hXl, List.append_assoc])
                      clear HRX hPX hTX hXL
                      go_wp2
                      go_roundw
                      case rel => exact ⟨X + 1, by go_num, by omega, by omega, Lib.hid (by rw [← HST.out]; exact HPUT.out.1), HPX.out, HTX.out⟩
                      case measure => simp [intOf]; omega
                    · obtain rfl : X = s[k2].toNat + 1 := by omega
                      have hXz : ¬ ((s[k2].toNat + 1 : Nat) : Int) ≤ (s[k2].toNat : Int) := by omega
                      have HRE : Hid (RowB (w.heap.size + 1) wr (.slice (some ⟨w.heap.size + 1, 0, none⟩) 256 256) (hasL (cs ++ betw s[k] s[k2]))) := Lib.hid (by have := HRX.out; rwa [betw_all s[k] s[k2] HLH.out] at this)
                      clear HRX
                      go_wp2
                      go_roundg (s.size + 1 - kk)
                      case rel => exact ⟨kk, cs ++ betw s[k] s[k2], rfl, HOK2, hPX, HRE, hTX⟩
                      case measure => omega
                ·
                  have hq5 : decide ((s[k2].toNat : Int) < (s[k].toNat : Int)) = true := by rw [← he, ← hc]; simp; omega
                  have hq6 : (s[k2].toNat : Int) < (s[k].toNat : Int) := by rw [← he, ← hc]; omega
                  have HN : Hid (O = none) := Lib.hid (HSTOP.out (by rw [hsk]; simp only [spanL, hpc, if_true]; rw [if_neg (fun x => hce x.2)]))
                  clear hsk hd1 hd2 hd he hpe hc hk1 hk2 he1 HSTOP HOK HROW h93 HG hgk hce
                  go_wp2_with (go_at_call 154; ((with_reducible refine (next_yes b s hs k1 126 126 ch126 _ hP6 hl1 HE1.out).mono ?_); rintro e w7 ⟨rfl, hP7, hT7⟩; have hP8 : PS w7 b s k2 false := by rw [HK2.out]; exact hP7))
                  have hT08 : RT b (w.alloc (.cells #[.int .i64 0, .string ⟨#[]⟩, .slice none 0 0] 124)) w7 := HTR.out _ (hT6.trans hT7)
                  obtain ⟨⟨b0, b1, b2⟩, ⟨f0, f1, f2⟩, hz3⟩ := box3t hT08 hbl
                  clear p0 p1 p2 g1 g2
                  obtain ⟨⟨p0, p1, p2⟩, g1, g2⟩ := hP8.cells
                  go_quiet ((go_at_call 198; exact Calls.quiet_of_same (sChar_q _ _ HPD.out _)))
                  go_wp2
                  refine bodyPost_ret (v := .agg #[.int .i64 0, .string ⟨#[]⟩, .slice none 0 0]) (by simp [results, Tryz.results185, go_sem, b0, b1, b2, hz3, hnb, hnb']) rfl ?_
                  rw [HN.out]
                  exact s_none ((hP8.drewN _).set2 true) ((hT08.trans (turns_drewN _ _)).trans (turns_set _ _ _ _ rfl)) hbl
            ·
              have HN : Hid (O = none) := Lib.hid (HSTOP.out (by rw [hsk, List.drop_eq_nil_of_le (show s.data.toList.length ≤ k2 by simp; omega)]; simp [spanL, hpc]))
              have hge3 : decide (s.size ≤ k2) = true := by simp; omega
              have hge4 : (s.size : Int) ≤ (k2 : Int) := by omega
              clear hsk hd1 hd hc hk1 hk2 he1 HSTOP HOK HROW h93 HG hgk
              go_wp2_with (go_at_call 154; ((with_reducible refine (next_yes b s hs k1 126 126 ch126 _ hP6 hl1 HE1.out).mono ?_); rintro e w7 ⟨rfl, hP7, hT7⟩; have hP8 : PS w7 b s k2 false := by rw [HK2.out]; exact hP7))
              have hT08 : RT b (w.alloc (.cells #[.int .i64 0, .string ⟨#[]⟩, .slice none 0 0] 124)) w7 := HTR.out _ (hT6.trans hT7)
              obtain ⟨⟨b0, b1, b2⟩, ⟨f0, f1, f2⟩, hz3⟩ := box3t hT08 hbl
              clear p0 p1 p2 g1 g2
              obtain ⟨⟨p0, p1, p2⟩, g1, g2⟩ := hP8.cells
              go_quiet (fail)
              go_wp2
              refine bodyPost_ret (v := .agg #[.int .i64 0, .string ⟨#[]⟩, .slice none 0 0]) (by simp [results, Tryz.results185, go_sem, b0, b1, b2, hz3, hnb, hnb']) rfl ?_
              rw [HN.out]
              exact s_none ((hP8.drewN _).set2 true) ((hT08.trans (turns_drewN _ _)).trans (turns_set _ _ _ _ rfl)) hbl
          ·
            have n126 : NoNext s k1 false 126 := .inr fun h e => h126 ⟨h, e⟩
            obtain ⟨kk, hkk0⟩ : ∃ q, q = k1 := ⟨_, rfl⟩
            have hkk : k < kk := by omega
            have hkks : kk ≤ s.size := by omega
            have HSP : Hid (spanL (s.data.toList.drop k) = some (betw s[k] s[k], s.data.toList.drop kk)) := Lib.hid (by
              rw [hsk, hkk0, betw_self, ← hc, hk1]
              by_cases hl1 : k + 1 < s.size
              · have hne : s[k + 1] ≠ 126 := fun e => h126 ⟨by omega, by simpa [hk1] using e⟩
                rw [data_drop s (k + 1) hl1]
                simp [spanL, hpc, hne]
              · rw [List.drop_eq_nil_of_le (show s.data.toList.length ≤ k + 1 by simp; omega)]
                simp [spanL, hpc])
            have HLH : Hid (s[k].toNat ≤ s[k].toNat) := Lib.hid (Nat.le_refl _)
            have HKK0 := Lib.hid hkk0
            clear hsk hd hc hk1 HSTOP h93 HG hpc hkk0 h126 n93 HPC hge1 hge2
            have hlo0 : s[k].toNat < 256 := s[k].toNat_lt
            have hlo1 : (s[k].toNat : Int) < 256 := by omega
            go_wp2_with (go_at_call 154; ((with_reducible refine (next_no b s hs k1 false 126 126 ch126 _ hP6 n126).mono ?_); rintro e W7 ⟨rfl, hP8, hT7a⟩; have hP7 : PS W7 b s kk false := (by rw [HKK0.out]; exact hP8); have hTw : RT b wr W7 := hT6.trans hT7a; have hT7 := HTR.out _ hTw; clear hP8 hP6 hT6 hT7a HTR p0 p1 p2 g1 g2 hP5 hT5))
            have HRW7 : Hid (RowB (w.heap.size + 1) W7 (.slice (some ⟨w.heap.size + 1, 0, none⟩) 256 256) (hasL cs)) := Lib.hid (rowR_apart HROW.out hTw (fun q hq e => by have := Option.some.inj hq; simp at this; omega))
            have hlo : s[k].toNat < 256 := s[k].toNat_lt
            have HOK2 := Lib.hid (HOK.out.step hkk hkks HSP.out)
            clear hTw HROW HSP
            go_loopw [7] (fun x wr => ∃ X : Nat, x = .int .i64 X ∧ s[k].toNat ≤ X ∧ X ≤ s[k].toNat + 1 ∧ Hid (RowB (w.heap.size + 1) wr (.slice (some ⟨w.heap.size + 1, 0, none⟩) 256 256) (hasL (cs ++ (betw s[k] s[k]).take (X - s[k].toNat)))) ∧ PS wr b s kk false ∧ RT b (w.alloc (.cells #[.int .i64 0, .string ⟨#[]⟩, .slice none 0 0] 124)) wr) (fun x _ => s[k].toNat + 1 - (intOf x).toNat)
            case atStart => exact ⟨s[k].toNat, rfl, Nat.le_refl _, by omega, Lib.hid (by rw [Nat.sub_self, List.take_zero, List.append_nil]; exact HRW7.out), hP7, hT7⟩
            case round =>
              clear hP7 hT7 HRW7
              obtain ⟨X, rfl, hX1, hX2, HRX, hPX, hTX⟩ := hrel
              by_cases hXl : X ≤ s[k].toNat
              · have hXz : (X : Int) ≤ (s[k].toNat : Int) := by omega
                have hX256 : (X : Int) < 256 := by omega
                have hXn : X < 256 := by omega
                have hXL : X < (hasL (cs ++ (betw s[k] s[k]).take (X - s[k].toNat))).length := by rw [hasL_len]; omega
                obtain ⟨vb, hcell⟩ : ∃ vb, wr.cell? ⟨w.heap.size + 1, X, none⟩ = some (.bool vb) := ⟨_, RowB.at HRX.out hXL⟩
                have hfz := RowR.frozen HRX.out X
                have HPUT := Lib.hid (RowB.put HRX.out hXL true)
                have HPX := Lib.hid (hPX.setNew (c := w.heap.size + 1) (j := X) (u := .bool true) (by omega))
                have HTX := Lib.hid (turns_new (b := w.heap.size + 1) (j := X) (u := .bool true) hTX (by simp))
                have HST : Hid ((hasL (cs ++ (betw s[k] s[k]).take (X - s[k].toNat))).set X true = hasL (cs ++ (betw s[k] s[k]).take (X + 1 - s[k].toNat))) := Lib.hid (by rw [hasL_set _ _ hXn, betw_upto s[k] s[k] X hX1 hXl, List.append_assoc])
                clear HRX hPX hTX hXL
                go_wp2
                go_roundw
                case rel => exact ⟨X + 1, by go_num, by omega, by omega, Lib.hid (by rw [← HST.out]; exact HPUT.out.1), HPX.out, HTX.out⟩
                case measure => simp [intOf]; omega
              · obtain rfl : X = s[k].toNat + 1 := by omega
                have hXz : ¬ ((s[k].toNat + 1 : Nat) : Int) ≤ (s[k].toNat : Int) := by omega
                have HRE : Hid (RowB (w.heap.size + 1) wr (.slice (some ⟨w.heap.size + 1, 0, none⟩) 256 256) (hasL (cs ++ betw s[k] s[k]))) := Lib.hid (by have := HRX.out; rwa [betw_all s[k] s[k] HLH.out] at this)
                clear HRX
                go_wp2
                go_roundg (s.size + 1 - kk)
                case rel => exact ⟨kk, cs ++ betw s[k] s[k], rfl, HOK2, hPX, HRE, hTX⟩
                case measure => omega
    ·
      have HN : Hid (O = none) := Lib.hid (by rw [HO.out]; exact HOK.out.stop (by rw [List.drop_eq_nil_of_le (by simp; omega)]; rfl) (fun h => absurd h hlt))
      have n93 : NoNext s k false 93 := no_end hlt
      have hge1 : decide (s.size ≤ k) = true := by simp; omega
      have hge2 : (s.size : Int) ≤ (k : Int) := by omega
      clear HROW HOK HO HG hgk
      go_wp2_with (go_at_call 154; ((with_reducible refine (next_no b s hs k false 93 93 ch93 _ hP n93).mono ?_); rintro e w3 ⟨rfl, hP3, hT3⟩; have hT03 := hT.trans hT3; obtain ⟨⟨b0, b1, b2⟩, ⟨f0, f1, f2⟩, hz3⟩ := box3t hT03 hbl; obtain ⟨⟨p0, p1, p2⟩, g1, g2⟩ := hP3.cells))
      go_quiet (fail)
      go_wp2
      refine bodyPost_ret (v := .agg #[.int .i64 0, .string ⟨#[]⟩, .slice none 0 0]) (by simp [results, Tryz.results185, go_sem, b0, b1, b2, hz3, hnb, hnb']) rfl ?_
      rw [HN.out]
      exact s_none ((hP3.drewN _).set2 true) ((hT03.trans (turns_drewN _ _)).trans (turns_set _ _ _ _ rfl)) hbl
end Go.Proofs.YtkifdbeklagelaaGreatDoor

/- CHAPTER 5, spec: l5Seq (the atom and the twin are asked for as premises). -/
namespace Go.Proofs.YtkifdbeklagelaaGreatDoor
open Go.RowKit

theorem held_box {B q : Nat} {w2 wx w3 : World} {v0 v1 v2 : Value} (hbm : Below wx.heap.size wx w3) (h : ((wx.cell? ⟨q, 0, none⟩ = some v0 ∧ wx.cell? ⟨q, 1, none⟩ = some v1 ∧ wx.cell? ⟨q, 2, none⟩ = some v2) ∧ wx.frozen? ⟨q, 0, none⟩ = false ∧ wx.frozen? ⟨q, 1, none⟩ = false ∧ wx.frozen? ⟨q, 2, none⟩ = false) ∧ Below B w2 wx) (hq : q < w2.heap.size) (hB : B = w2.heap.size := by rfl) : ((w3.cell? ⟨q, 0, none⟩ = some v0 ∧ w3.cell? ⟨q, 1, none⟩ = some v1 ∧ w3.cell? ⟨q, 2, none⟩ = some v2) ∧ w3.frozen? ⟨q, 0, none⟩ = false ∧ w3.frozen? ⟨q, 1, none⟩ = false ∧ w3.frozen? ⟨q, 2, none⟩ = false) ∧ Below B w2 w3 := by
  subst hB
  have hl := Nat.lt_of_lt_of_le hq h.2.size
  obtain ⟨⟨⟨h0, h1, h2⟩, h3, h4, h5⟩, hb⟩ := h
  have hbl := hbm.block q hl
  refine ⟨⟨⟨?_, ?_, ?_⟩, ?_, ?_, ?_⟩, below_step hb hbm⟩
  · rw [hbm.cell (p := ⟨q, 0, none⟩) hl]; exact h0
  · rw [hbm.cell (p := ⟨q, 1, none⟩) hl]; exact h1
  · rw [hbm.cell (p := ⟨q, 2, none⟩) hl]; exact h2
  · unfold World.frozen? at h3 ⊢; rw [hbl]; exact h3
  · unfold World.frozen? at h4 ⊢; rw [hbl]; exact h4
  · unfold World.frozen? at h5 ⊢; rw [hbl]; exact h5
theorem held_box_al {B q : Nat} {w2 wx : World} {v0 v1 v2 : Value} (h : ((wx.cell? ⟨q, 0, none⟩ = some v0 ∧ wx.cell? ⟨q, 1, none⟩ = some v1 ∧ wx.cell? ⟨q, 2, none⟩ = some v2) ∧ wx.frozen? ⟨q, 0, none⟩ = false ∧ wx.frozen? ⟨q, 1, none⟩ = false ∧ wx.frozen? ⟨q, 2, none⟩ = false) ∧ Below B w2 wx) (hq : q < w2.heap.size) (o : Obj) (hB : B = w2.heap.size := by rfl) : (((wx.alloc o).cell? ⟨q, 0, none⟩ = some v0 ∧ (wx.alloc o).cell? ⟨q, 1, none⟩ = some v1 ∧ (wx.alloc o).cell? ⟨q, 2, none⟩ = some v2) ∧ (wx.alloc o).frozen? ⟨q, 0, none⟩ = false ∧ (wx.alloc o).frozen? ⟨q, 1, none⟩ = false ∧ (wx.alloc o).frozen? ⟨q, 2, none⟩ = false) ∧ Below B w2 (wx.alloc o) :=
  held_box (below_al (Below.refl _ _) o) h hq hB
theorem sign2_own {d B b k : Nat} {s : ByteArray} {wr w1 w2 w3 : World} {p : Pat} {A A3 : Option Addr} {cc c3 : Nat} {S S3 : Nat → Prop} {o1 : Obj} (ho : OwN patK d B w1 ⟨p.x.op, p.x.text, .slice A p.kids.length cc⟩ p S) (hB : B ≤ w1.heap.size) (hb : b < B) (hrB : wr.heap.size ≤ w1.heap.size) (hT1 : RT b wr w1) (hT2 : RT b (w1.alloc o1) w2) (hP : PS w2 b s k false) (h3 : Below w2.heap.size w2 w3) (ho3 : OwN patK d w2.heap.size w3 ⟨p.x.op, p.x.text, .slice A3 p.kids.length c3⟩ p S3) (x0 x1 x2 : Value) :
    ∃ S', OwN patK (d + 2) B (((((w3.setCell ⟨w1.heap.size, 0, none⟩ x0).setCell ⟨w1.heap.size, 1, none⟩ x1).setCell ⟨w1.heap.size, 2, none⟩ x2).alloc (.cells #[.int .i64 p.x.op, .string p.x.text, .slice A3 p.kids.length c3] 124)).alloc (.cells #[.int .i64 p.x.op, .string p.x.text, .slice A p.kids.length cc, .int .i64 4, .string ⟨#[]⟩, .slice (some ⟨w3.heap.size, 0, none⟩) 1 1] 124)) ⟨2, ⟨#[]⟩, .slice (some ⟨w3.heap.size + 1, 0, none⟩) 2 2⟩ (opP 2 [p, opP 4 [p]]) S' ∧ PS (((((w3.setCell ⟨w1.heap.size, 0, none⟩ x0).setCell ⟨w1.heap.size, 1, none⟩ x1).setCell ⟨w1.heap.size, 2, none⟩ x2).alloc (.cells #[.int .i64 p.x.op, .string p.x.text, .slice A3 p.kids.length c3] 124)).alloc (.cells #[.int .i64 p.x.op, .string p.x.text, .slice A p.kids.length cc, .int .i64 4, .string ⟨#[]⟩, .slice (some ⟨w3.heap.size, 0, none⟩) 1 1] 124)) b s k false ∧ RT b wr (((((w3.setCell ⟨w1.heap.size, 0, none⟩ x0).setCell ⟨w1.heap.size, 1, none⟩ x1).setCell ⟨w1.heap.size, 2, none⟩ x2).alloc (.cells #[.int .i64 p.x.op, .string p.x.text, .slice A3 p.kids.length c3] 124)).alloc (.cells #[.int .i64 p.x.op, .string p.x.text, .slice A p.kids.length cc, .int .i64 4, .string ⟨#[]⟩, .slice (some ⟨w3.heap.size, 0, none⟩) 1 1] 124)) := by
  have hz2 : w1.heap.size + 1 ≤ w2.heap.size := by have := hT2.size; simpa using this
  have hz3 := h3.size
  have hx2 : OwN patK d B w2 ⟨p.x.op, p.x.text, .slice A p.kids.length cc⟩ p S := (ho.al o1).apart hT2 (fun q hq e => by have := (ho.lt q hq).1; omega)
  have hn1 : ¬ S w1.heap.size := fun h => absurd (ho.lt _ h).2 (by omega)
  have hn3 : ¬ S3 w1.heap.size := fun h => by have := (ho3.lt _ h).1; omega
  have hx3 := (((hx2.below h3).setOff (j := 0) (u := x0) hn1).setOff (j := 1) (u := x1) hn1).setOff (j := 2) (u := x2) hn1
  have hy3 := ((ho3.setOff (j := 0) (u := x0) hn3).setOff (j := 1) (u := x1) hn3).setOff (j := 2) (u := x2) hn3
  have hP3 := (((hP.below h3).setNew (c := w1.heap.size) (j := 0) (u := x0) (by omega)).setNew (c := w1.heap.size) (j := 1) (u := x1) (by omega)).setNew (c := w1.heap.size) (j := 2) (u := x2) (by omega)
  have hT3 : RT b wr (((w3.setCell ⟨w1.heap.size, 0, none⟩ x0).setCell ⟨w1.heap.size, 1, none⟩ x1).setCell ⟨w1.heap.size, 2, none⟩ x2) := turns_new (turns_new (turns_new ((hT1.trans (turns_of_al hT2)).trans (below_turns h3)) hrB) hrB) hrB
  have hzw : (((w3.setCell ⟨w1.heap.size, 0, none⟩ x0).setCell ⟨w1.heap.size, 1, none⟩ x1).setCell ⟨w1.heap.size, 2, none⟩ x2).heap.size = w3.heap.size := by simp [World.setCell]
  generalize (((w3.setCell ⟨w1.heap.size, 0, none⟩ x0).setCell ⟨w1.heap.size, 1, none⟩ x1).setCell ⟨w1.heap.size, 2, none⟩ x2) = V at hx3 hy3 hP3 hT3 hzw ⊢
  rw [← hzw]
  have hzw' : V.heap.size = w3.heap.size := hzw
  have s1 := owL_one (hy3.mono (show B ≤ w2.heap.size by omega)) (by omega) (by decide) (pat_cells _ _ _ _ _)
  have s2 : OwL patK (d + 1) B (V.alloc (.cells #[.int .i64 p.x.op, .string p.x.text, .slice A3 p.kids.length c3] 124)) (.slice (some ⟨V.heap.size, 0, none⟩) 1 1) [p] (fun b => b = V.heap.size ∨ S3 b) := by simpa [patK, PatR.enc] using s1
  have s3 := owN_of (op := 4) (text := ⟨#[]⟩) s2
  have t1 := owL_two ((hx3.al (.cells #[.int .i64 p.x.op, .string p.x.text, .slice A3 p.kids.length c3] 124)).to (Nat.le_succ d)) s3 (fun q h1 h2 => by
    have := (ho.lt q h1).2
    rcases h2 with h2 | h2
    · omega
    · have := (ho3.lt q h2).1; omega) (by simp; omega)
  have t2 : OwL patK (d + 2) B ((V.alloc (.cells #[.int .i64 p.x.op, .string p.x.text, .slice A3 p.kids.length c3] 124)).alloc (.cells #[.int .i64 p.x.op, .string p.x.text, .slice A p.kids.length cc, .int .i64 4, .string ⟨#[]⟩, .slice (some ⟨V.heap.size, 0, none⟩) 1 1] 124)) (.slice (some ⟨V.heap.size + 1, 0, none⟩) 2 2) [p, opP 4 [p]] (fun b => b = V.heap.size + 1 ∨ S b ∨ (b = V.heap.size ∨ S3 b)) := by simpa [patK, PatR.enc, opP] using t1
  exact ⟨_, owN_of (op := 2) (text := ⟨#[]⟩) t2, (hP3.al _).al _, turns_al (turns_al hT3 _) _⟩
set_option maxRecDepth 100000 in
set_option maxHeartbeats 8000000 in
theorem sseq_of {n : Nat} (hA : SAtomC n) (hTw : STwinC) : SSeqC n := by
  intro b s i w hP h30 hi hn
  have hbl := hP.lt
  have hnb : ¬ w.heap.size = b := by omega
  have hnb' : ¬ b = w.heap.size := by omega
  have hs : s.size ≤ maxLen := by unfold maxLen; omega
  have hs9 : s.size ≤ 9223372036854775807 := by omega
  have hP0 := hP.al (.cells #[.int .i64 0, .string ⟨#[]⟩, .slice none 0 0] 124)
  have hlen : ∀ k, (s.data.toList.drop k).length = s.size - k := fun k => by simp
  obtain ⟨l0, hl0⟩ : ∃ l0, l0 = s.data.toList.drop i := ⟨_, rfl⟩
  rw [← hl0]
  have hm : l0.length = s.size - i := by rw [hl0]; exact hlen i
  obtain ⟨okS, hokS⟩ : ∃ okS : Nat → List Pat → Prop, okS = fun k lk => i ≤ k ∧ seqL (atomF n) l0.length l0 = (lk ++ (seqL (atomF n) (s.size - k) (s.data.toList.drop k)).1, (seqL (atomF n) (s.size - k) (s.data.toList.drop k)).2) := ⟨_, rfl⟩
  obtain ⟨badS, hbadS⟩ : ∃ badS : Prop, badS = (okR (seqP (atomF n) l0).2 = false) := ⟨_, rfl⟩
  obtain ⟨O, hO⟩ : ∃ O, O = (if okR (seqP (atomF n) l0).2 = true then some (seqP (atomF n) l0) else none) := ⟨_, rfl⟩
  rw [← hO]
  have HBAD : Hid (badS → O = none) := Lib.hid (by rw [hbadS, hO]; intro h; rw [h]; rfl)
  have hdone : ∀ k lk, okS k lk → atomF n (s.data.toList.drop k) = none → seqP (atomF n) l0 = (joinP 2 lk, s.data.toList.drop k) := by
    intro k lk hok hnone
    rw [hokS] at hok
    obtain ⟨_, h3⟩ := hok
    have hd : repL (atomF n) (s.data.toList.drop k) = none := by unfold repL; rw [hnone]; rfl
    rw [seq_done hd] at h3
    unfold seqP; rw [h3]; simp
  have HSTOP : Hid (∀ k lk, okS k lk → (∀ h : k < s.size, s[k] = 124 ∨ s[k] = 41) → O = some (joinP 2 lk, s.data.toList.drop k)) := Lib.hid (by
    intro k lk hok hk
    have h2 : atomF n (s.data.toList.drop k) = none ∧ okR (s.data.toList.drop k) = true := by
      by_cases hlt : k < s.size
      · rw [data_drop s k hlt]
        refine ⟨atomF_stop n _ _ (hk hlt), ?_⟩
        rcases hk hlt with h | h <;> rw [h] <;> rfl
      · rw [List.drop_eq_nil_of_le (by simp; omega)]; exact ⟨atomF_nil n, rfl⟩
    have h4 := hdone k lk hok h2.1
    rw [hO, h4]
    exact if_pos h2.2)
  have HNONE : Hid (∀ k lk, okS k lk → ∀ h : k < s.size, s[k] ≠ 124 → s[k] ≠ 41 → atomF n (s.data.toList.drop k) = none → badS) := Lib.hid (by
    intro k lk hok hlt h1 h2 hnone
    have h4 := hdone k lk hok hnone
    rw [hbadS, h4]
    show okR (s.data.toList.drop k) = false
    rw [data_drop s k hlt]
    show (s[k] == 124 || s[k] == 41) = false
    simp [h1, h2])
  have HSOME : Hid (∀ k lk, okS k lk → k ≤ s.size → ∀ p0 r0 p r, atomF n (s.data.toList.drop k) = some (p0, r0) → repT p0 r0 = (p, r) → okS (s.size - r.length) (lk ++ [p]) ∧ k < s.size - r.length) := Lib.hid (by
    intro k lk hok hks p0 r0 p r h1 h2
    have hrep : repL (atomF n) (s.data.toList.drop k) = some (p, r) := by unfold repL; rw [h1]; exact congrArg some h2
    have hsh := repL_sh (atomF_sh n) _ p r hrep
    have hr := hsh.1.drop
    have hrl := hsh.2
    rw [hlen] at hr hrl
    rw [List.drop_drop, show k + (s.size - k - r.length) = s.size - r.length by omega] at hr
    rw [hokS] at hok ⊢
    obtain ⟨h3, h4⟩ := hok
    rw [seq_step (atomF_sh n) (atomF_nil n) (Nat.le_of_eq (hlen k)) hrep (m' := s.size - (s.size - r.length)) (by omega)] at h4
    refine ⟨⟨by omega, ?_⟩, by omega⟩
    rw [← hr, h4]; simp)
  have HA := Lib.hid (fun (k : Nat) (w' : World) (hP : PS w' b s k false) (hk : k ≤ s.size) (hik : i ≤ k) => hA b s k w' hP h30 hk (by omega))
  have HI1 : Hid (∀ k lk, okS k lk → i ≤ k) := Lib.hid (fun k lk h => by rw [hokS] at h; exact h.1)
  have HLEN := Lib.hid hlen
  have H30 := Lib.hid h30
  have HTW := Lib.hid hTw
  have HC0 : Hid (Col (4 * n + 2) b s w okS badS (w.heap.size + 1) 0 0 (s.size - i + 1) ((w.alloc (.cells #[.int .i64 0, .string ⟨#[]⟩, .slice none 0 0] 124)).alloc (.cells #[] 124))) := Lib.hid (by
    have h0 := owL_new patK (4 * n + 3) (w.heap.size + 1) (w.alloc (.cells #[.int .i64 0, .string ⟨#[]⟩, .slice none 0 0] 124)) (by simp)
    have h1 : OwL patK (4 * n + 3) (w.heap.size + 1) ((w.alloc (.cells #[.int .i64 0, .string ⟨#[]⟩, .slice none 0 0] 124)).alloc (.cells #[] 124)) (.slice (some ⟨w.heap.size + 1, 0, none⟩) 0 0) [] (fun b => b = w.heap.size + 1) := by simpa [patK] using h0
    exact .inl ⟨i, [], _, hi, rfl, by omega, rfl, hP0.al _, h1, by rw [hokS]; exact ⟨Nat.le_refl _, by rw [← hl0, ← hm]; simp⟩⟩)
  have hTa := turns_al (TurnsAt.refl (fun q => q = b) (w.alloc (.cells #[.int .i64 0, .string ⟨#[]⟩, .slice none 0 0] 124))) (.cells #[] 124)
  clear hA hTw hokS hbadS hlen hm hn h30 hi hP hO hdone hP0
  go_enter Tryz.func153, Tryz.ntmps153
  go_wp2
  go_loopg [3] (s.size - i + 1) (fun G u wr => ∃ (g m c : Nat), u = .slice (some ⟨g, 0, none⟩) m c ∧ Hid (Col (4 * n + 2) b s w okS badS g m c G wr) ∧ RT b (w.alloc (.cells #[.int .i64 0, .string ⟨#[]⟩, .slice none 0 0] 124)) wr)
  case atStart => exact ⟨w.heap.size + 1, 0, 0, rfl, HC0, hTa⟩
  case round =>
    clear HC0 hTa
    obtain ⟨g, m, c, rfl, HC, hT⟩ := hrel
    have hwr : w.heap.size + 1 ≤ wr.heap.size := by have := hT.size; simp at this; omega
    have key : (∃ k lk, PS wr b s k false ∧ (∃ h : k < s.size, s[k] ≠ 124 ∧ s[k] ≠ 41) ∧ Hid (okS k lk) ∧ m + 1 ≤ 1048576 ∧
        Hid (∀ op text A m2 c2 w4 j, RT b wr w4 → PS w4 b s j true → badS → More (4 * n + 2) b s w okS badS g m c w4 op text A m2 c2 0) ∧
        Hid (∀ (p : Pat) A c2 S w4 k', RT b wr w4 → OwN patK (4 * n + 2) wr.heap.size w4 ⟨p.x.op, p.x.text, .slice A p.kids.length c2⟩ p S → PS w4 b s k' false → k' ≤ s.size → k < k' → okS k' (lk ++ [p]) → More (4 * n + 2) b s w okS badS g m c w4 p.x.op p.x.text A p.kids.length c2 (s.size - k' + 1)) ∧ gk = s.size - k + 1) ∨
      (∃ k bad, PS wr b s k bad ∧ (bad = true ∨ (bad = false ∧ ∀ h : k < s.size, s[k] = 124 ∨ s[k] = 41)) ∧
        Hid (m = 1 → ∀ w3, PS w3 b s k bad → RT b wr w3 → ∃ (op : Int) (text : ByteArray) (A : Option Addr) (m2 c2 : Nat), w3.cell? ⟨g, 0, none⟩ = some (.int .i64 op) ∧ w3.cell? ⟨g, 1, none⟩ = some (.string text) ∧ w3.cell? ⟨g, 2, none⟩ = some (.slice A m2 c2) ∧
          ∀ x0 x1 x2, SOut (4 * n + 3) O b s w (.returned (.agg #[.int .i64 op, .string text, .slice A m2 c2])) (((w3.setCell ⟨w.heap.size, 0, none⟩ x0).setCell ⟨w.heap.size, 1, none⟩ x1).setCell ⟨w.heap.size, 2, none⟩ x2)) ∧
        Hid (m ≠ 1 → ∀ w3, PS w3 b s k bad → RT b wr w3 → ∀ x0 x1 x2, SOut (4 * n + 3) O b s w (.returned (.agg #[.int .i64 2, .string ⟨#[]⟩, .slice (some ⟨g, 0, none⟩) m c])) (((w3.setCell ⟨w.heap.size, 0, none⟩ x0).setCell ⟨w.heap.size, 1, none⟩ x1).setCell ⟨w.heap.size, 2, none⟩ x2))) := by
      rcases HC.out with ⟨k, lk, S, hk, hn, hnk, hG, hP, hO, hok⟩ | ⟨j, R, hG, hP, hrow, hRl, hslc, hbad⟩
      · by_cases hgo : ∃ h : k < s.size, s[k] ≠ 124 ∧ s[k] ≠ 41
        · refine .inl ⟨k, lk, hP, hgo, Lib.hid hok, by have := H30.out; omega, Lib.hid ?_, Lib.hid ?_, hG⟩
          · intro op text A m2 c2 w4 j hT4 hP4 hbad
            obtain ⟨R, h1, h2, h3⟩ := col_bad (op := op) (text := text) (A := A) (m := m2) (cc := c2) hO hn hbl hT4 hP4 hbad
            exact ⟨R, h1, h2, fun g' c' w5 o a1 a2 _ => h3 g' c' w5 o a1 a2⟩
          · intro p A c2 S2 w4 k' hT4 ho hP4 hk' hkk hok'
            exact col_good (w1 := wr) hO hn hbl hwr (Nat.le_refl _) hT4 ho hP4 hk' (by omega) hok'
        · have hno : ∀ h : k < s.size, s[k] = 124 ∨ s[k] = 41 := fun h => Classical.byContradiction fun e => hgo ⟨h, fun e1 => e (.inl e1), fun e1 => e (.inr e1)⟩
          have hOe := HSTOP.out k lk hok hno
          have hkl : s.size - (s.data.toList.drop k).length = k := by rw [HLEN.out]; omega
          refine .inr ⟨k, false, hP, .inr ⟨rfl, hno⟩, Lib.hid ?_, Lib.hid ?_⟩
          · intro hm1 w3 hP3 hT3
            have hO3 := hO.apart hT3 (fun q hq e => by have := (hO.lt q hq).1; omega)
            obtain ⟨R, K, hrow, hRl, hK, _⟩ := OwP.parts hO3
            obtain ⟨x, rfl⟩ : ∃ x, lk = [x] := List.length_eq_one_iff.1 (by omega)
            obtain ⟨r, rfl⟩ : ∃ r, R = [r] := List.length_eq_one_iff.1 hRl
            have hx : OwN patK (4 * n + 2) (w.heap.size + 1) w3 r x (K 0) := hK 0 (by simp) (by simp)
            obtain ⟨A, c2, rfl⟩ := OwN.slice hx
            obtain ⟨f0, f1, f2⟩ := RowP.first hrow (by simp)
            refine ⟨_, _, A, _, c2, f0, f1, f2, fun x0 x1 x2 => ?_⟩
            rw [hOe]
            exact s_some (o := (.cells #[.int .i64 0, .string ⟨#[]⟩, .slice none 0 0] 124)) (hx.mono (by simp)) hP3 hkl (hT.trans hT3) hbl (by omega)
          · intro hm1 w3 hP3 hT3 x0 x1 x2
            have hO3 := hO.apart hT3 (fun q hq e => by have := (hO.lt q hq).1; omega)
            rw [hOe, join_op 2 (by omega)]
            rw [hn] at hO3 ⊢
            exact s_some (p := opP 2 lk) (o := (.cells #[.int .i64 0, .string ⟨#[]⟩, .slice none 0 0] 124)) ((owN_of hO3).mono (by simp)) hP3 hkl (hT.trans hT3) hbl (Nat.le_refl _)
      · refine .inr ⟨j, true, hP, .inl rfl, Lib.hid ?_, Lib.hid ?_⟩
        · intro hm1 w3 hP3 hT3
          have hrow3 := rowR_apart hrow hT3 (fun q hq e => by have := (hrow.lt hq).1; omega)
          obtain ⟨r, rfl⟩ : ∃ r, R = [r] := List.length_eq_one_iff.1 (by omega)
          obtain ⟨f0, f1, f2⟩ := RowP.first hrow3 (by simp)
          obtain ⟨A, m2, c2, hkv⟩ := hslc r (by simp)
          refine ⟨_, _, A, m2, c2, f0, f1, by rw [f2]; exact congrArg some hkv, fun x0 x1 x2 => ?_⟩
          rw [HBAD.out hbad]
          exact s_none (o := (.cells #[.int .i64 0, .string ⟨#[]⟩, .slice none 0 0] 124)) hP3 (hT.trans hT3) hbl
        · intro hm1 w3 hP3 hT3 x0 x1 x2
          rw [HBAD.out hbad]
          exact s_none (o := (.cells #[.int .i64 0, .string ⟨#[]⟩, .slice none 0 0] 124)) hP3 (hT.trans hT3) hbl
    clear HC
    rcases key with ⟨k, lk, hP, ⟨hlt, h124, h41⟩, HOK, hm1, HB, HG, hgk⟩ | ⟨k, bad, hP, hstop, H1, H2⟩
    · obtain ⟨⟨c0, c1, c2⟩, z1, z2⟩ := hP.cells
      have HP := Lib.hid hP
      have hq1 : decide ((k : Int) < (s.size : Int)) = true := by simp; omega
      have hq2 : (k : Int) < (s.size : Int) := by omega
      have hq3 : ((s[k].toNat : Int) != 124) = true := neq_byte (d := 124) h124
      have hq4 : ((s[k].toNat : Int) != 41) = true := neq_byte (d := 41) h41
      have hB := hP.lt
      have hki := HI1.out k lk HOK.out
      have hCs := fun w' hP => HA.out k w' hP (by omega) hki
      have hbad := HNONE.out k lk HOK.out hlt h124 h41
      have hgood := HSOME.out k lk HOK.out (by omega)
      have hsh := atomF_sh n (s.data.toList.drop k)
      have HGK := Lib.hid hgk
      clear HA HI1 HNONE HSOME HSTOP h124 h41 hP hki HOK hgk
      cases hat : atomF n (s.data.toList.drop k) with
      | none =>
        rw [hat] at hCs
        have HBD := Lib.hid (hbad hat)
        have HA := Lib.hid hCs
        clear hCs hgood hbad hat hsh
        go_wp2
        go_quiet (fail)
        have hPq := HP.out.drewN nq
        have hTq : RT b wr (wr.drewN nq) := turns_drewN wr nq
        clear c0 c1 c2 z1 z2
        go_wp2_with (first
          | (go_at_call 171; ((refine (HA.out _ hPq).mono ?_); rintro e w1 ⟨op, text, A, m2, c2, j, rfl, hP1, hT1⟩; have hb1 : b < w1.heap.size := hP1.lt; have hPx := hP1.al (.cells #[.int .i64 op, .string text, .slice A m2 c2] 124); clear hP1 hPq))
          | (go_at_call 154; ((with_reducible refine (next_no b s hs j true 42 42 ch42 _ hPx (no_bad s j 42)).mono ?_); rintro e w2 ⟨rfl, hP2, hT2⟩; clear hPx))
          | (go_at_call 154; ((with_reducible refine (next_no b s hs j true 43 43 ch43 _ hP2 (no_bad s j 43)).mono ?_); rintro e w3 ⟨rfl, hP3, hT3⟩; clear hP2))
          | (go_at_call 154; ((with_reducible refine (next_no b s hs j true 63 63 ch63 _ hP3 (no_bad s j 63)).mono ?_); rintro e w4 ⟨rfl, hP4, hT4⟩; have hTx := (hT2.trans hT3).trans hT4; obtain ⟨⟨b0, b1, b2⟩, ⟨f0, f1, f2⟩, hz⟩ := box3t hTx hb1; have hT04 : RT b wr w4 := hTq.trans (hT1.trans (turns_of_al hTx)); obtain ⟨R, hrow, hgB, hF⟩ := HB.out op text A m2 c2 w4 j hT04 hP4 HBD.out; have HF := Lib.hid hF; have HT04 := Lib.hid hT04; have hw4 : w.heap.size + 1 ≤ w4.heap.size := Nat.le_trans hwr hT04.size; clear hF hT2 hT3 hT4 hT1 hTq hTx hT04 hP4 hP3))
          | (at_builtin; refine wpList_pat_append rfl _ _ rfl (w.heap.size + 1) g m c R rfl hrow op text A m2 c2 w4.heap.size rfl rfl hm1 hw4 (m + 1) rfl ?_; intro g' c' w5 hrow5 hg5 hg5'))
        go_roundg 0
        case rel => exact ⟨g', m + 1, c', by go_num, Lib.hid (HF.out g' c' w5 _ hrow5 hg5 hg5'), turns_grown (turns_al (hT.trans HT04.out) _) hg5 (by simpa using hgB)⟩
        case measure => have := HGK.out; omega
      | some x =>
        obtain ⟨p0, r0⟩ := x
        rw [hat] at hCs
        have hs0 := (hsh p0 r0 hat).1.drop
        have hl0' := (hsh p0 r0 hat).2
        rw [HLEN.out] at hs0 hl0'
        rw [List.drop_drop, show k + (s.size - k - r0.length) = s.size - r0.length by omega] at hs0
        obtain ⟨k0, hk0⟩ : ∃ k0, s.size - r0.length = k0 := ⟨_, rfl⟩
        rw [hk0] at hs0
        have HA : Hid (∀ w', PS w' b s k false → Calls Tryz.prog 171 #[.pointer (some ⟨b, 0, none⟩)] w' fun e w'' => ∃ (A : Option Addr) (c : Nat) (S : Nat → Prop), e = .returned (.agg #[.int .i64 p0.x.op, .string p0.x.text, .slice A p0.kids.length c]) ∧ OwN patK (4 * n) w'.heap.size w'' ⟨p0.x.op, p0.x.text, .slice A p0.kids.length c⟩ p0 S ∧ PS w'' b s k0 false ∧ RT b w' w'') := Lib.hid (by rw [← hk0]; exact hCs)
        have hk00 : k0 ≤ s.size := by omega
        have HFEW : Hid (Few (4 * n) p0.kids) := Lib.hid (few_atomF n _ p0 r0 hat (by rw [HLEN.out]; have := H30.out; omega))
        have HOKG : Hid (∀ p j, k0 ≤ j → j ≤ s.size → repT p0 (s.data.toList.drop k0) = (p, s.data.toList.drop j) → okS j (lk ++ [p]) ∧ k < j) := Lib.hid (by
          intro p j h1 h2 h3
          have h4 := hgood p0 r0 p (s.data.toList.drop j) hat (by rw [← h3, ← hs0])
          rw [HLEN.out, show s.size - (s.size - j) = j by omega] at h4
          exact h4)
        clear hCs hgood hbad hat hsh hs0 hl0' hk0
        by_cases h42 : ∃ h : k0 < s.size, s[k0] = 42
        · obtain ⟨hlt0, e42⟩ := h42
          have hrt : repT p0 (s.data.toList.drop k0) = (opP 4 [p0], s.data.toList.drop (k0 + 1)) := by rw [data_drop s k0 hlt0, e42]; rfl
          have HOK2 := Lib.hid (HOKG.out _ (k0 + 1) (by omega) (by omega) hrt)
          have HE := Lib.hid e42
          have hk01 : k0 + 1 ≤ s.size := hlt0
          clear HOKG hrt e42
          go_wp2
          go_quiet (fail)
          have hPq := HP.out.drewN nq
          have hTq : RT b wr (wr.drewN nq) := turns_drewN wr nq
          clear c0 c1 c2 z1 z2
          go_wp2_with (first
            | (go_at_call 171; ((refine (HA.out _ hPq).mono ?_); rintro e w1 ⟨A, c2, S, rfl, ho, hP1, hT1⟩; have hb1 : b < w1.heap.size := hP1.lt; have hPx := hP1.al (.cells #[.int .i64 p0.x.op, .string p0.x.text, .slice A p0.kids.length c2] 124); clear hP1 hPq))
            | (go_at_call 154; ((with_reducible refine (next_yes b s hs k0 42 42 ch42 _ hPx hlt0 HE.out).mono ?_); rintro e w2 ⟨rfl, hP2, hT2⟩; obtain ⟨⟨b0, b1, b2⟩, ⟨f0, f1, f2⟩, hz⟩ := box3t hT2 hb1; have HS := Lib.hid (fun x0 x1 x2 => sign_own (wr := wr) (k := k0 + 1) (k' := 0) (g := 0) (m := 0) (c := 0) 4 (ho.mono (show wr.heap.size ≤ (wr.drewN nq).heap.size from Nat.le_refl _)) hT1.size hB hT1.size (hTq.trans hT1) hT2 hP2 x0 x1 x2); clear hPx hP2))
            | (at_builtin; obtain ⟨S', h1, h2, h3⟩ := HS.out (.int .i64 4) (.string ⟨#[]⟩) (.slice (some ⟨w2.heap.size, 0, none⟩) 1 1); obtain ⟨R, hrow, hgB, hF⟩ := HG.out (opP 4 [p0]) _ _ _ _ (k0 + 1) h3 (h1.to (by omega)) h2 hk01 HOK2.out.2 HOK2.out.1; refine wpList_pat_append rfl _ _ rfl (w.heap.size + 1) g m c R rfl hrow 4 ⟨#[]⟩ (some ⟨w2.heap.size, 0, none⟩) 1 1 _ rfl (by first | rfl | simp) hm1 (Nat.le_trans hwr h3.size) (m + 1) rfl ?_; intro g' c' w5 hrow5 hg5 hg5'))
          go_roundg (s.size - (k0 + 1) + 1)
          case rel => exact ⟨g', m + 1, c', by go_num, Lib.hid (hF g' c' w5 _ hrow5 hg5 hg5'), turns_grown (turns_al (hT.trans h3) _) hg5 (by simpa using hgB)⟩
          case measure => have := HGK.out; have := HOK2.out.2; omega
        · have n42 : NoNext s k0 false 42 := .inr fun h e => h42 ⟨h, e⟩
          by_cases h43 : ∃ h : k0 < s.size, s[k0] = 43
          · obtain ⟨hlt0, e43⟩ := h43
            have hrt : repT p0 (s.data.toList.drop k0) = (opP 2 [p0, opP 4 [p0]], s.data.toList.drop (k0 + 1)) := by rw [data_drop s k0 hlt0, e43]; rfl
            have HOK2 := Lib.hid (HOKG.out _ (k0 + 1) (by omega) (by omega) hrt)
            have HE := Lib.hid e43
            have hk01 : k0 + 1 ≤ s.size := hlt0
            clear HOKG hrt e43 h42
            go_wp2
            go_quiet (fail)
            have hPq := HP.out.drewN nq
            have hTq : RT b wr (wr.drewN nq) := turns_drewN wr nq
            clear c0 c1 c2 z1 z2
            go_wp2_with (first
              | (go_at_call 171; ((refine (HA.out _ hPq).mono ?_); rintro e w1 ⟨A, c2, S, rfl, ho, hP1, hT1⟩; have hb1 : b < w1.heap.size := hP1.lt; have hPx := hP1.al (.cells #[.int .i64 p0.x.op, .string p0.x.text, .slice A p0.kids.length c2] 124); clear hP1 hPq))
              | (go_at_call 154; ((with_reducible refine (next_no b s hs k0 false 42 42 ch42 _ hPx n42).mono ?_); rintro e wa ⟨rfl, hPa, hTa⟩; clear hPx))
              | (go_at_call 154; ((with_reducible refine (next_yes b s hs k0 43 43 ch43 _ hPa hlt0 HE.out).mono ?_); rintro e w2 ⟨rfl, hP2, hT4⟩; have hT2 := hTa.trans hT4; obtain ⟨⟨b0, b1, b2⟩, ⟨f0, f1, f2⟩, hz⟩ := box3t hT2 hb1; have HTx := Lib.hid (hTq.trans hT1); have HT2 := Lib.hid hT2; have HP2 := Lib.hid hP2; clear hPa hTa hT4)))
            have hoB := ho.mono (show wr.heap.size ≤ (wr.drewN nq).heap.size from Nat.le_refl _)
            have ho2 : OwN patK (4 * n) wr.heap.size w2 ⟨p0.x.op, p0.x.text, .slice A p0.kids.length c2⟩ p0 S := (hoB.al (.cells #[.int .i64 p0.x.op, .string p0.x.text, .slice A p0.kids.length c2] 124)).apart hT2 (fun q hq e => by have := (hoB.lt q hq).1; omega)
            have HTT : Hid (∀ w', Below w2.heap.size w2 w' → Calls Tryz.prog 172 #[.agg #[.int .i64 p0.x.op, .string p0.x.text, .slice A p0.kids.length c2]] w' fun e w'' => ∃ (A' : Option Addr) (c' : Nat) (S' : Nat → Prop), e = .returned (.agg #[.int .i64 p0.x.op, .string p0.x.text, .slice A' p0.kids.length c']) ∧ Hid (OwN patK (4 * n) w'.heap.size w'' ⟨p0.x.op, p0.x.text, .slice A' p0.kids.length c'⟩ p0 S') ∧ Below w'.heap.size w' w'') := Lib.hid (fun w' hb => (HTW.out (4 * n) ⟨p0.x.op, p0.x.text, .slice A p0.kids.length c2⟩ p0 w' (ho2.below hb).rd HFEW.out).mono (by rintro e w'' ⟨A', c', S', h1, h2, h3⟩; exact ⟨A', c', S', h1, Lib.hid h2, h3⟩))
            have HO2 := Lib.hid ho2
            have HBX : w1.heap.size < w2.heap.size := hz
            have HOB := Lib.hid hoB
            clear ho2 hoB
            go_region_with (first | (go_at_call 172; (refine (HTT.out _ (by first | exact (Below.refl _ _).drew | exact Below.refl _ _)).mono ?_; rintro e w3 ⟨A3, c3, S3, rfl, HO3, hbm⟩; obtain ⟨⟨⟨d0, d1, d2⟩, e0, e1, e2⟩, hb3⟩ := held_box (q := w1.heap.size) hbm ⟨⟨⟨b0, b1, b2⟩, f0, f1, f2⟩, (Below.refl _ _).drew⟩ HBX; have hz3 : w1.heap.size < w3.heap.size := Nat.lt_of_lt_of_le HBX hb3.size; have hz4 : w1.heap.size < w3.heap.size + 1 := Nat.lt_succ_of_lt hz3; have hz5 : w1.heap.size ≤ w3.heap.size := Nat.le_of_lt hz3; have hz6 : w1.heap.size < w3.heap.size + 1 + 1 := Nat.lt_succ_of_lt hz4; have hz7 : w1.heap.size ≤ w3.heap.size + 1 := Nat.le_of_lt hz4; have hz8 : ¬ w1.heap.size = w3.heap.size := Nat.ne_of_lt hz3; have hz9 : ¬ w1.heap.size = w3.heap.size + 1 := Nat.ne_of_lt hz4)))
            all_goals
              have HPL := Lib.hid (fun x0 x1 x2 => sign2_own (wr := wr) HOB.out hT1.size hB (show wr.heap.size ≤ w1.heap.size from hT1.size) HTx.out HT2.out HP2.out hb3 HO3.out x0 x1 x2)
              clear hT2 hP2 hT1 hTq hbm hb3
              go_wp2_with ((at_builtin; obtain ⟨S', h1, h2, h3⟩ := HPL.out (.int .i64 2) (.string ⟨#[]⟩) (.slice (some ⟨w3.heap.size + 1, 0, none⟩) 2 2); obtain ⟨R, hrow, hgB, hF⟩ := HG.out (opP 2 [p0, opP 4 [p0]]) _ _ _ _ (k0 + 1) h3 (h1.to (by omega)) h2 hk01 HOK2.out.2 HOK2.out.1; go_loud (refine wpList_pat_append rfl _ _ rfl (w.heap.size + 1) g m c R rfl hrow 2 ⟨#[]⟩ (some ⟨w3.heap.size + 1, 0, none⟩) 2 2 _ rfl (by first | rfl | simp) hm1 (Nat.le_trans hwr h3.size) (m + 1) rfl ?_); intro g' c' w5 hrow5 hg5 hg5'))
              go_roundg (s.size - (k0 + 1) + 1)
              case rel => exact ⟨g', m + 1, c', by go_num, Lib.hid (hF g' c' w5 _ hrow5 hg5 hg5'), turns_grown (turns_al (hT.trans h3) _) hg5 (by simpa using hgB)⟩
              case measure => have := HGK.out; have := HOK2.out.2; omega
          · have n43 : NoNext s k0 false 43 := .inr fun h e => h43 ⟨h, e⟩
            by_cases h63 : ∃ h : k0 < s.size, s[k0] = 63
            · obtain ⟨hlt0, e63⟩ := h63
              have hrt : repT p0 (s.data.toList.drop k0) = (opP 5 [p0], s.data.toList.drop (k0 + 1)) := by rw [data_drop s k0 hlt0, e63]; rfl
              have HOK2 := Lib.hid (HOKG.out _ (k0 + 1) (by omega) (by omega) hrt)
              have HE := Lib.hid e63
              have hk01 : k0 + 1 ≤ s.size := hlt0
              clear HOKG hrt e63 h42 h43
              go_wp2
              go_quiet (fail)
              have hPq := HP.out.drewN nq
              have hTq : RT b wr (wr.drewN nq) := turns_drewN wr nq
              clear c0 c1 c2 z1 z2
              go_wp2_with (first
                | (go_at_call 171; ((refine (HA.out _ hPq).mono ?_); rintro e w1 ⟨A, c2, S, rfl, ho, hP1, hT1⟩; have hb1 : b < w1.heap.size := hP1.lt; have hPx := hP1.al (.cells #[.int .i64 p0.x.op, .string p0.x.text, .slice A p0.kids.length c2] 124); clear hP1 hPq))
                | (go_at_call 154; ((with_reducible refine (next_no b s hs k0 false 42 42 ch42 _ hPx n42).mono ?_); rintro e wa ⟨rfl, hPa, hTa⟩; clear hPx))
                | (go_at_call 154; ((with_reducible refine (next_no b s hs k0 false 43 43 ch43 _ hPa n43).mono ?_); rintro e wb ⟨rfl, hP3, hTb⟩; clear hPa))
                | (go_at_call 154; ((with_reducible refine (next_yes b s hs k0 63 63 ch63 _ hP3 hlt0 HE.out).mono ?_); rintro e w2 ⟨rfl, hP2, hT4⟩; have hT2 := (hTa.trans hTb).trans hT4; obtain ⟨⟨b0, b1, b2⟩, ⟨f0, f1, f2⟩, hz⟩ := box3t hT2 hb1; have HS := Lib.hid (fun x0 x1 x2 => sign_own (wr := wr) (k := k0 + 1) (k' := 0) (g := 0) (m := 0) (c := 0) 5 (ho.mono (show wr.heap.size ≤ (wr.drewN nq).heap.size from Nat.le_refl _)) hT1.size hB hT1.size (hTq.trans hT1) hT2 hP2 x0 x1 x2); clear hP3 hP2))
                | (at_builtin; obtain ⟨S', h1, h2, h3⟩ := HS.out (.int .i64 5) (.string ⟨#[]⟩) (.slice (some ⟨w2.heap.size, 0, none⟩) 1 1); obtain ⟨R, hrow, hgB, hF⟩ := HG.out (opP 5 [p0]) _ _ _ _ (k0 + 1) h3 (h1.to (by omega)) h2 hk01 HOK2.out.2 HOK2.out.1; refine wpList_pat_append rfl _ _ rfl (w.heap.size + 1) g m c R rfl hrow 5 ⟨#[]⟩ (some ⟨w2.heap.size, 0, none⟩) 1 1 _ rfl (by first | rfl | simp) hm1 (Nat.le_trans hwr h3.size) (m + 1) rfl ?_; intro g' c' w5 hrow5 hg5 hg5'))
              go_roundg (s.size - (k0 + 1) + 1)
              case rel => exact ⟨g', m + 1, c', by go_num, Lib.hid (hF g' c' w5 _ hrow5 hg5 hg5'), turns_grown (turns_al (hT.trans h3) _) hg5 (by simpa using hgB)⟩
              case measure => have := HGK.out; have := HOK2.out.2; omega
            · have n63 : NoNext s k0 false 63 := .inr fun h e => h63 ⟨h, e⟩
              have hrt : repT p0 (s.data.toList.drop k0) = (p0, s.data.toList.drop k0) := by
                by_cases hlt0 : k0 < s.size
                · rw [data_drop s k0 hlt0]
                  have e1 : s[k0] ≠ 42 := fun e => h42 ⟨hlt0, e⟩
                  have e2 : s[k0] ≠ 43 := fun e => h43 ⟨hlt0, e⟩
                  have e3 : s[k0] ≠ 63 := fun e => h63 ⟨hlt0, e⟩
                  simp [repT, e1, e2, e3]
                · rw [List.drop_eq_nil_of_le (by simp; omega)]; rfl
              have HOK2 := Lib.hid (HOKG.out _ k0 (Nat.le_refl _) hk00 hrt)
              clear HOKG hrt h42 h43 h63
              go_wp2
              go_quiet (fail)
              have hPq := HP.out.drewN nq
              have hTq : RT b wr (wr.drewN nq) := turns_drewN wr nq
              clear c0 c1 c2 z1 z2
              go_wp2_with (first
                | (go_at_call 171; ((refine (HA.out _ hPq).mono ?_); rintro e w1 ⟨A, c2, S, rfl, ho, hP1, hT1⟩; have hb1 : b < w1.heap.size := hP1.lt; have hPx := hP1.al (.cells #[.int .i64 p0.x.op, .string p0.x.text, .slice A p0.kids.length c2] 124); clear hP1 hPq))
                | (go_at_call 154; ((with_reducible refine (next_no b s hs k0 false 42 42 ch42 _ hPx n42).mono ?_); rintro e wa ⟨rfl, hPa, hTa⟩; clear hPx))
                | (go_at_call 154; ((with_reducible refine (next_no b s hs k0 false 43 43 ch43 _ hPa n43).mono ?_); rintro e wb ⟨rfl, hP3, hTb⟩; clear hPa))
                | (go_at_call 154; ((with_reducible refine (next_no b s hs k0 false 63 63 ch63 _ hP3 n63).mono ?_); rintro e w2 ⟨rfl, hP2, hT4⟩; have hT2 := (hTa.trans hTb).trans hT4; obtain ⟨⟨b0, b1, b2⟩, ⟨f0, f1, f2⟩, hz⟩ := box3t hT2 hb1; have h3 : RT b wr w2 := (hTq.trans hT1).trans (turns_of_al hT2); have hw2 : w.heap.size + 1 ≤ w2.heap.size := Nat.le_trans hwr h3.size; have ho2 := ((ho.mono (show wr.heap.size ≤ (wr.drewN nq).heap.size from Nat.le_refl _)).al (.cells #[.int .i64 p0.x.op, .string p0.x.text, .slice A p0.kids.length c2] 124)).apart hT2 (fun q hq e => by have := (OwN.lt (ho.mono (show wr.heap.size ≤ (wr.drewN nq).heap.size from Nat.le_refl _)) q hq).1; omega); obtain ⟨R, hrow, hgB, hF⟩ := HG.out p0 _ _ _ _ k0 h3 (ho2.to (by omega)) hP2 hk00 HOK2.out.2 HOK2.out.1; clear hP3 hP2 ho2))
                | (at_builtin; refine wpList_pat_append rfl _ _ rfl (w.heap.size + 1) g m c R rfl hrow p0.x.op p0.x.text A p0.kids.length c2 w2.heap.size rfl rfl hm1 hw2 (m + 1) rfl ?_; intro g' c' w5 hrow5 hg5 hg5'))
              go_roundg (s.size - k0 + 1)
              case rel => exact ⟨g', m + 1, c', by go_num, Lib.hid (hF g' c' w5 _ hrow5 hg5 hg5'), turns_grown (turns_al (hT.trans h3) _) hg5 (by simpa using hgB)⟩
              case measure => have := HGK.out; have := HOK2.out.2; omega
    · obtain ⟨⟨c0, c1, c2⟩, z1, z2⟩ := hP.cells
      have HP := Lib.hid hP
      clear hP HSTOP HNONE HSOME HA HI1 HLEN HBAD HTW
      have hcase : (bad = true) ∨ (bad = false ∧ Hid (¬ k < s.size)) ∨ (∃ h : k < s.size, bad = false ∧ Hid (s[k] = 124)) ∨ (∃ h : k < s.size, bad = false ∧ Hid (s[k] = 41)) := by
        rcases hstop with h | ⟨h, hk⟩
        · exact .inl h
        · by_cases hlt : k < s.size
          · rcases hk hlt with e | e
            · exact .inr (.inr (.inl ⟨hlt, h, Lib.hid e⟩))
            · exact .inr (.inr (.inr ⟨hlt, h, Lib.hid e⟩))
          · exact .inr (.inl ⟨h, Lib.hid hlt⟩)
      clear hstop
      rcases hcase with rfl | ⟨rfl, hge⟩ | ⟨hlt, rfl, he⟩ | ⟨hlt, rfl, he⟩
      ·
        by_cases hm1 : m = 1
        · have hq : ((m : Int) == 1) = true := by rw [hm1]; rfl
          have HM := Lib.hid hm1
          have hpos : (0 : Int) < (m : Int) := by omega
          clear hm1
          go_wp2
          go_quiet (fail)
          obtain ⟨op, text, A, m2, c2, f0, f1, f2, hF⟩ := H1.out HM.out (wr.drewN nq) (HP.out.drewN nq) (turns_drewN wr nq)
          have HF := Lib.hid hF
          obtain ⟨⟨b0, b1, b2⟩, ⟨z0, z1, z2⟩, hz⟩ := box3t (hT.trans (turns_drewN wr nq)) hbl
          clear hF
          go_wp2
          refine bodyPost_ret (v := .agg #[.int .i64 op, .string text, .slice A m2 c2]) (by simp [results, Tryz.results153, go_sem, b0, b1, b2, hz, hnb, hnb']) rfl ?_
          exact HF.out _ _ _
        · have hq : ((m : Int) == 1) = false := by simp; omega
          have HM := Lib.hid hm1
          clear hm1
          go_wp2
          go_quiet (fail)
          have HF := Lib.hid (H2.out HM.out (wr.drewN nq) (HP.out.drewN nq) (turns_drewN wr nq))
          obtain ⟨⟨b0, b1, b2⟩, ⟨z0, z1, z2⟩, hz⟩ := box3t (hT.trans (turns_drewN wr nq)) hbl
          go_wp2
          refine bodyPost_ret (v := .agg #[.int .i64 2, .string ⟨#[]⟩, .slice (some ⟨g, 0, none⟩) m c]) (by simp [results, Tryz.results153, go_sem, b0, b1, b2, hz, hnb, hnb']) rfl ?_
          exact HF.out _ _ _
      ·
        have hq1 : decide ((k : Int) < (s.size : Int)) = false := by have := hge.out; simp; omega
        have hq2 : ¬ (k : Int) < (s.size : Int) := by have := hge.out; omega
        have hq5 : (s.size : Int) ≤ (k : Int) := by have := hge.out; omega
        have hq6 : ¬ k < s.size := hge.out
        by_cases hm1 : m = 1
        · have hq : ((m : Int) == 1) = true := by rw [hm1]; rfl
          have HM := Lib.hid hm1
          have hpos : (0 : Int) < (m : Int) := by omega
          clear hm1
          go_wp2
          go_quiet (fail)
          obtain ⟨op, text, A, m2, c2, f0, f1, f2, hF⟩ := H1.out HM.out (wr.drewN nq) (HP.out.drewN nq) (turns_drewN wr nq)
          have HF := Lib.hid hF
          obtain ⟨⟨b0, b1, b2⟩, ⟨z0, z1, z2⟩, hz⟩ := box3t (hT.trans (turns_drewN wr nq)) hbl
          clear hF
          go_wp2
          refine bodyPost_ret (v := .agg #[.int .i64 op, .string text, .slice A m2 c2]) (by simp [results, Tryz.results153, go_sem, b0, b1, b2, hz, hnb, hnb']) rfl ?_
          exact HF.out _ _ _
        · have hq : ((m : Int) == 1) = false := by simp; omega
          have HM := Lib.hid hm1
          clear hm1
          go_wp2
          go_quiet (fail)
          have HF := Lib.hid (H2.out HM.out (wr.drewN nq) (HP.out.drewN nq) (turns_drewN wr nq))
          obtain ⟨⟨b0, b1, b2⟩, ⟨z0, z1, z2⟩, hz⟩ := box3t (hT.trans (turns_drewN wr nq)) hbl
          go_wp2
          refine bodyPost_ret (v := .agg #[.int .i64 2, .string ⟨#[]⟩, .slice (some ⟨g, 0, none⟩) m c]) (by simp [results, Tryz.results153, go_sem, b0, b1, b2, hz, hnb, hnb']) rfl ?_
          exact HF.out _ _ _
      ·
        have hq1 : decide ((k : Int) < (s.size : Int)) = true := by simp; omega
        have hq2 : (k : Int) < (s.size : Int) := by omega
        have hq3 : ((s[k].toNat : Int) != 124) = false := by rw [he.out]; rfl
        by_cases hm1 : m = 1
        · have hq : ((m : Int) == 1) = true := by rw [hm1]; rfl
          have HM := Lib.hid hm1
          have hpos : (0 : Int) < (m : Int) := by omega
          clear hm1
          go_wp2
          go_quiet (fail)
          obtain ⟨op, text, A, m2, c2, f0, f1, f2, hF⟩ := H1.out HM.out (wr.drewN nq) (HP.out.drewN nq) (turns_drewN wr nq)
          have HF := Lib.hid hF
          obtain ⟨⟨b0, b1, b2⟩, ⟨z0, z1, z2⟩, hz⟩ := box3t (hT.trans (turns_drewN wr nq)) hbl
          clear hF
          go_wp2
          refine bodyPost_ret (v := .agg #[.int .i64 op, .string text, .slice A m2 c2]) (by simp [results, Tryz.results153, go_sem, b0, b1, b2, hz, hnb, hnb']) rfl ?_
          exact HF.out _ _ _
        · have hq : ((m : Int) == 1) = false := by simp; omega
          have HM := Lib.hid hm1
          clear hm1
          go_wp2
          go_quiet (fail)
          have HF := Lib.hid (H2.out HM.out (wr.drewN nq) (HP.out.drewN nq) (turns_drewN wr nq))
          obtain ⟨⟨b0, b1, b2⟩, ⟨z0, z1, z2⟩, hz⟩ := box3t (hT.trans (turns_drewN wr nq)) hbl
          go_wp2
          refine bodyPost_ret (v := .agg #[.int .i64 2, .string ⟨#[]⟩, .slice (some ⟨g, 0, none⟩) m c]) (by simp [results, Tryz.results153, go_sem, b0, b1, b2, hz, hnb, hnb']) rfl ?_
          exact HF.out _ _ _
      ·
        have hq1 : decide ((k : Int) < (s.size : Int)) = true := by simp; omega
        have hq2 : (k : Int) < (s.size : Int) := by omega
        have hq3 : ((s[k].toNat : Int) != 124) = true := by rw [he.out]; rfl
        have hq4 : ((s[k].toNat : Int) != 41) = false := by rw [he.out]; rfl
        by_cases hm1 : m = 1
        · have hq : ((m : Int) == 1) = true := by rw [hm1]; rfl
          have HM := Lib.hid hm1
          have hpos : (0 : Int) < (m : Int) := by omega
          clear hm1
          go_wp2
          go_quiet (fail)
          obtain ⟨op, text, A, m2, c2, f0, f1, f2, hF⟩ := H1.out HM.out (wr.drewN nq) (HP.out.drewN nq) (turns_drewN wr nq)
          have HF := Lib.hid hF
          obtain ⟨⟨b0, b1, b2⟩, ⟨z0, z1, z2⟩, hz⟩ := box3t (hT.trans (turns_drewN wr nq)) hbl
          clear hF
          go_wp2
          refine bodyPost_ret (v := .agg #[.int .i64 op, .string text, .slice A m2 c2]) (by simp [results, Tryz.results153, go_sem, b0, b1, b2, hz, hnb, hnb']) rfl ?_
          exact HF.out _ _ _
        · have hq : ((m : Int) == 1) = false := by simp; omega
          have HM := Lib.hid hm1
          clear hm1
          go_wp2
          go_quiet (fail)
          have HF := Lib.hid (H2.out HM.out (wr.drewN nq) (HP.out.drewN nq) (turns_drewN wr nq))
          obtain ⟨⟨b0, b1, b2⟩, ⟨z0, z1, z2⟩, hz⟩ := box3t (hT.trans (turns_drewN wr nq)) hbl
          go_wp2
          refine bodyPost_ret (v := .agg #[.int .i64 2, .string ⟨#[]⟩, .slice (some ⟨g, 0, none⟩) m c]) (by simp [results, Tryz.results153, go_sem, b0, b1, b2, hz, hnb, hnb']) rfl ?_
          exact HF.out _ _ _
end Go.Proofs.YtkifdbeklagelaaGreatDoor

/- CHAPTER 5, spec: ParsePattern, IsPattern (the alternative is asked for as a premise). -/
namespace Go.Proofs.YtkifdbeklagelaaGreatDoor
open Go.RowKit

set_option maxRecDepth 100000 in
set_option maxHeartbeats 1000000 in
theorem sParsePat_any (hA : ∀ n, SAltC n) (s : ByteArray) (hs : s.size ≤ maxLen) (w : World) : Calls Tryz.prog 88 #[.string s] w (ParseOut (patS s.data.toList) w) := by
  unfold maxLen at hs
  have hll : s.data.toList.length = s.size := by simp
  unfold patS
  rw [hll]
  by_cases h30 : 30 < s.size
  · rw [if_pos h30]
    have hq : decide ((30 : Int) < (s.size : Int)) = true := by simp; omega
    have hq' : (30 : Int) < (s.size : Int) := by omega
    clear h30 hll
    go_enter Tryz.func88, Tryz.ntmps88
    go_wp2
    refine bodyPost_ret (v := .tuple #[.agg #[.int .i64 0, .string ⟨#[]⟩, .slice none 0 0], .bool false]) (by simp [results, Tryz.results88, go_sem]) rfl ?_
    exact ⟨rfl, below_al (below_al (Below.refl _ _) _) _⟩
  · rw [if_neg h30]
    obtain ⟨W0, hW0⟩ : ∃ W0, W0 = (w.alloc (.cells #[.int .i64 0, .string ⟨#[]⟩, .slice none 0 0] 124)).alloc (.cells #[.string s, .int .i64 0, .bool false] 152) := ⟨_, rfl⟩
    have hP0 : PS W0 (w.heap.size + 1) s 0 false := by
      subst hW0
      have := heap_alloc_new (w.alloc (.cells #[.int .i64 0, .string ⟨#[]⟩, .slice none 0 0] 124)) (.cells #[.string s, .int .i64 0, .bool false] 152)
      rw [show (w.alloc (.cells #[.int .i64 0, .string ⟨#[]⟩, .slice none 0 0] 124)).heap.size = w.heap.size + 1 by simp] at this
      exact this
    have hB0 : Below w.heap.size w W0 := by rw [hW0]; exact below_al (below_al (Below.refl _ _) _) _
    have hC := hA s.size (w.heap.size + 1) s 0 W0 hP0 (by omega) (by omega) (by omega)
    rw [List.drop_zero] at hC
    obtain ⟨⟨p, r⟩, hpr⟩ : ∃ x, x = altP (atomF s.size) s.data.toList := ⟨_, rfl⟩
    rw [← hpr] at hC ⊢
    simp only at hC ⊢
    have hq : decide ((30 : Int) < (s.size : Int)) = false := by simp; omega
    have hq' : ¬ (30 : Int) < (s.size : Int) := by omega
    have hbox : ∀ w1, RT (w.heap.size + 1) W0 w1 → ((w1.cell? ⟨w.heap.size, 0, none⟩ = some (.int .i64 0) ∧ w1.cell? ⟨w.heap.size, 1, none⟩ = some (.string ⟨#[]⟩) ∧ w1.cell? ⟨w.heap.size, 2, none⟩ = some (.slice none 0 0)) ∧ (w1.frozen? ⟨w.heap.size, 0, none⟩ = false ∧ w1.frozen? ⟨w.heap.size, 1, none⟩ = false ∧ w1.frozen? ⟨w.heap.size, 2, none⟩ = false) ∧ w.heap.size < w1.heap.size) ∧ Below w.heap.size w w1 ∧ w.heap.size + 1 < w1.heap.size := fun w1 ht => by
      have hsz : W0.heap.size = w.heap.size + 2 := by rw [hW0]; simp
      have h0 : W0.heap[w.heap.size]? = some (.cells #[.int .i64 0, .string ⟨#[]⟩, .slice none 0 0] 124 (0, 0)) := by
        rw [hW0]
        rw [Below.heap_alloc _ _ w.heap.size (by simp)]
        exact heap_alloc_new w _
      have h1 := (ht.block w.heap.size (by omega) (by show ¬ w.heap.size = w.heap.size + 1; omega)).trans h0
      refine ⟨⟨⟨?_, ?_, ?_⟩, ⟨?_, ?_, ?_⟩, by have := ht.size; omega⟩, ?_⟩
      · rw [cell_of_row _ w.heap.size 0 _ _ _ h1]; rfl
      · rw [cell_of_row _ w.heap.size 1 _ _ _ h1]; rfl
      · rw [cell_of_row _ w.heap.size 2 _ _ _ h1]; rfl
      · simp [World.frozen?, h1]
      · simp [World.frozen?, h1]
      · simp [World.frozen?, h1]
      · exact ⟨hB0.trans (ht.below (by omega) (fun q hq => by rw [hq]; omega)), by have := ht.size; omega⟩
    have HBOX := Lib.hid hbox
    have H30 := Lib.hid h30
    cases hok : okR r with
    | false =>
      rw [hok, if_neg (by decide)] at hC
      have hr : r ≠ [] := by rintro rfl; cases hok
      rw [if_neg hr]
      have HC := Lib.hid hC
      clear hC hA hbox hok hr hpr h30 hll hP0 hB0
      go_enter Tryz.func88, Tryz.ntmps88
      go_wp2_with (go_at_call 123; (rw [← hW0]; (refine (HC.out).mono ?_); rintro e w1 ⟨op, text, A, m, c, i, rfl, hP1, hT1⟩; obtain ⟨⟨⟨b0, b1, b2⟩, ⟨f0, f1, f2⟩, hz⟩, hb1, hz1⟩ := HBOX.out w1 hT1; obtain ⟨⟨p0, p1, p2⟩, g1, g2⟩ := hP1.cells))
      refine bodyPost_ret (v := .tuple #[.agg #[.int .i64 0, .string ⟨#[]⟩, .slice none 0 0], .bool false]) (by simp [results, Tryz.results88, go_sem, b0, b1, b2, hz]) rfl ?_
      exact ⟨rfl, below_al (below_set (below_set (below_set hb1 (Nat.le_refl _)) (Nat.le_refl _)) (Nat.le_refl _)) _⟩
    | true =>
      rw [hok, if_pos rfl] at hC
      obtain ⟨k, hk⟩ : ∃ k, s.size - r.length = k := ⟨_, rfl⟩
      have HC : Hid (Calls Tryz.prog 123 #[.pointer (some ⟨w.heap.size + 1, 0, none⟩)] W0 fun e w' => ∃ (A : Option Addr) (c : Nat) (S : Nat → Prop), e = .returned (.agg #[.int .i64 p.x.op, .string p.x.text, .slice A p.kids.length c]) ∧ OwN patK (4 * s.size + 4) W0.heap.size w' ⟨p.x.op, p.x.text, .slice A p.kids.length c⟩ p S ∧ PS w' (w.heap.size + 1) s k false ∧ RT (w.heap.size + 1) W0 w') := Lib.hid (by rw [← hk]; exact hC)
      by_cases hr : r = []
      · rw [if_pos hr]
        have hks : k = s.size := by rw [hr] at hk; simpa using hk.symm
        have hq2 : ((k : Int) != (s.size : Int)) = false := by simp; omega
        have HKS := Lib.hid hks
        have HB0 := Lib.hid hB0
        clear hC hA hbox hok hr hpr h30 hll hP0 hB0 hk hks
        go_enter Tryz.func88, Tryz.ntmps88
        go_wp2_with (go_at_call 123; (rw [← hW0]; (refine (HC.out).mono ?_); rintro e w1 ⟨A, c, S, rfl, ho, hP1, hT1⟩; obtain ⟨⟨⟨b0, b1, b2⟩, ⟨f0, f1, f2⟩, hz⟩, hb1, hz1⟩ := HBOX.out w1 hT1; obtain ⟨⟨p0, p1, p2⟩, g1, g2⟩ := hP1.cells))
        refine bodyPost_ret (v := .tuple #[.agg #[.int .i64 p.x.op, .string p.x.text, .slice A p.kids.length c], .bool true]) (by simp [results, Tryz.results88, go_sem, b0, b1, b2, hz]) rfl ?_
        have hsz : W0.heap.size = w.heap.size + 2 := by rw [hW0]; simp
        exact ⟨A, c, S, rfl, (((((OwN.set ho (by omega)).set (by omega)).set (by omega)).al _).mono HB0.out.size).to (by have := H30.out; omega), below_al (below_set (below_set (below_set hb1 (Nat.le_refl _)) (Nat.le_refl _)) (Nat.le_refl _)) _⟩
      · rw [if_neg hr]
        have hks : k ≠ s.size := by
          have := List.length_pos_iff.2 hr
          have h30' := H30.out
          by_cases h0 : s.size = 0
          · have hs1 := (altP_suf (atomF_sh s.size) s.data.toList).len
            rw [← hpr, hll] at hs1
            simp only at hs1; omega
          · omega
        have hq2 : ((k : Int) != (s.size : Int)) = true := by simp; omega
        have HKS := Lib.hid hks
        clear hC hA hbox hok hr hpr h30 hll hP0 hB0 hk hks
        go_enter Tryz.func88, Tryz.ntmps88
        go_wp2_with (go_at_call 123; (rw [← hW0]; (refine (HC.out).mono ?_); rintro e w1 ⟨A, c, S, rfl, ho, hP1, hT1⟩; obtain ⟨⟨⟨b0, b1, b2⟩, ⟨f0, f1, f2⟩, hz⟩, hb1, hz1⟩ := HBOX.out w1 hT1; obtain ⟨⟨p0, p1, p2⟩, g1, g2⟩ := hP1.cells))
        refine bodyPost_ret (v := .tuple #[.agg #[.int .i64 0, .string ⟨#[]⟩, .slice none 0 0], .bool false]) (by simp [results, Tryz.results88, go_sem, b0, b1, b2, hz]) rfl ?_
        exact ⟨rfl, below_al (below_set (below_set (below_set hb1 (Nat.le_refl _)) (Nat.le_refl _)) (Nat.le_refl _)) _⟩
set_option maxRecDepth 100000 in
theorem sIsPat_any (hA : ∀ n, SAltC n) (s : ByteArray) (hs : s.size ≤ maxLen) (w : World) : Calls Tryz.prog 54 #[.string s] w fun e w' => e = .returned (.bool (patS s.data.toList).isSome) ∧ Below w.heap.size w w' := by
  have HC := Lib.hid (fun w => sParsePat_any hA s hs w)
  unfold maxLen at hs
  cases ho : patS s.data.toList with
  | none =>
    rw [ho] at HC
    clear ho
    go_enter Tryz.func54, Tryz.ntmps54
    go_wp2_with (go_at_call 88; ((refine (HC.out _).mono ?_); rintro e w1 ⟨rfl, hb⟩))
    go_ret
    exact ⟨rfl, below_al hb _⟩
  | some p =>
    rw [ho] at HC
    clear ho
    go_enter Tryz.func54, Tryz.ntmps54
    go_wp2_with (go_at_call 88; ((refine (HC.out _).mono ?_); rintro e w1 ⟨A, c, S, rfl, _, hb⟩))
    go_ret
    exact ⟨rfl, below_al hb _⟩
end Go.Proofs.YtkifdbeklagelaaGreatDoor

/- CHAPTER 5, spec: the readers together; ParsePattern, IsPattern. -/
namespace Go.Proofs.YtkifdbeklagelaaGreatDoor
open Go.RowKit

theorem salt_any : ∀ n, SAtomC n ∧ SSeqC n ∧ SAltC n
  | 0 => ⟨satom_0, sseq_of satom_0 stwin, salt_of (sseq_of satom_0 stwin)⟩
  | n + 1 => by
    have h := satom_of (salt_any n).2.2 sclass
    exact ⟨h, sseq_of h stwin, salt_of (sseq_of h stwin)⟩
end Go.Proofs.YtkifdbeklagelaaGreatDoor
