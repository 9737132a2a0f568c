/- CHAPTER 2, FIFTH PART: quoted texts, read. -/
import Derived.Test.YtdfapkceanicoaaDoorQuote
set_option linter.unusedVariables false
set_option linter.unusedSimpArgs false
namespace Go.Proofs.YtdfapkceanicoaaDoor
open Go.RowKit

/-- reading behind the first quote: what is meant, and what stands behind the last quote -/
def rdq : List UInt8 → Option (List UInt8 × List UInt8)
  | [] => none
  | c :: r => if c = 34 then some ([], r) else if c = 92 then
      match r with
      | [] => none
      | d :: r' => if escB d then (rdq r').map fun p => (d :: p.1, p.2) else none
    else (rdq r).map fun p => (c :: p.1, p.2)
theorem rdq_nil : rdq [] = none := by rw [rdq]
theorem rdq_end {c : UInt8} {r : List UInt8} (h : c = 34) : rdq (c :: r) = some ([], r) := by rw [rdq.eq_def]; simp [h]
theorem rdq_cut {c : UInt8} (h : c = 92) : rdq [c] = none := by rw [rdq.eq_def]; simp [h]
theorem rdq_esc {c d : UInt8} {r : List UInt8} (h : c = 92) (hd : escB d = true) : rdq (c :: d :: r) = (rdq r).map fun p => (d :: p.1, p.2) := by
  rw [rdq.eq_def]; simp [h, hd]
theorem rdq_bad {c d : UInt8} {r : List UInt8} (h : c = 92) (hd : escB d = false) : rdq (c :: d :: r) = none := by
  rw [rdq.eq_def]; simp [h, hd]
theorem rdq_on {c : UInt8} {r : List UInt8} (h : c ≠ 34) (h' : c ≠ 92) : rdq (c :: r) = (rdq r).map fun p => (c :: p.1, p.2) := by
  rw [rdq.eq_def]; simp [h, h']

/-- from place a on, reading has come to place k, and met the bytes l -/
def Rd (s : ByteArray) (a k : Nat) (l : List UInt8) : Prop := rdq (s.data.toList.drop a) = (rdq (s.data.toList.drop k)).map fun p => (l ++ p.1, p.2)
theorem Rd.start (s : ByteArray) (a : Nat) : Rd s a a [] := by
  unfold Rd
  cases rdq (s.data.toList.drop a) with
  | none => rfl
  | some p => rfl
theorem Rd.on {s : ByteArray} {a k : Nat} {l : List UInt8} (h : Rd s a k l) (hk : k < s.size) (h1 : s[k] ≠ 34) (h2 : s[k] ≠ 92) : Rd s a (k + 1) (l ++ [s[k]]) := by
  unfold Rd at h ⊢
  rw [h, data_drop s k hk, rdq_on h1 h2]
  cases rdq (s.data.toList.drop (k + 1)) with
  | none => rfl
  | some p => simp
theorem Rd.esc {s : ByteArray} {a k : Nat} {l : List UInt8} (h : Rd s a k l) (hk : k + 1 < s.size) (h1 : s[k] = 92) (h2 : escB s[k + 1] = true) : Rd s a (k + 2) (l ++ [s[k + 1]]) := by
  unfold Rd at h ⊢
  rw [h, data_drop s k (by omega), data_drop s (k + 1) hk, rdq_esc h1 h2]
  cases rdq (s.data.toList.drop (k + 1 + 1)) with
  | none => rfl
  | some p => simp
theorem Rd.done {s : ByteArray} {a k : Nat} {l : List UInt8} (h : Rd s a k l) (hk : k < s.size) (h1 : s[k] = 34) : rdq (s.data.toList.drop a) = some (l, s.data.toList.drop (k + 1)) := by
  unfold Rd at h
  rw [h, data_drop s k hk, rdq_end h1]; simp
theorem Rd.cut {s : ByteArray} {a k : Nat} {l : List UInt8} (h : Rd s a k l) (hk : s.size ≤ k) : rdq (s.data.toList.drop a) = none := by
  unfold Rd at h
  rw [h, List.drop_eq_nil_of_le (by simp; omega), rdq_nil]; rfl
theorem Rd.cut2 {s : ByteArray} {a k : Nat} {l : List UInt8} (h : Rd s a k l) (hk : k + 1 = s.size) (h1 : s[k] = 92) : rdq (s.data.toList.drop a) = none := by
  unfold Rd at h
  rw [h, data_drop s k (by omega), List.drop_eq_nil_of_le (by simp; omega), rdq_cut h1]; rfl
theorem Rd.bad {s : ByteArray} {a k : Nat} {l : List UInt8} (h : Rd s a k l) (hk : k + 1 < s.size) (h1 : s[k] = 92) (h2 : escB s[k + 1] = false) : rdq (s.data.toList.drop a) = none := by
  unfold Rd at h
  rw [h, data_drop s k (by omega), data_drop s (k + 1) hk, rdq_bad h1 h2]; rfl

/-- the quoted text that begins at place a (there stands its first quote): what it means, and the place behind it -/
def quotedAt (s : ByteArray) (a : Nat) : Option (List UInt8 × Nat) :=
  if s.data.toList[a]? = some 34 then (rdq (s.data.toList.drop (a + 1))).map fun p => (p.1, s.size - p.2.length) else none
theorem quotedAt_not {s : ByteArray} {a : Nat} (h : a < s.size) (h' : s[a] ≠ 34) : quotedAt s a = none := by
  unfold quotedAt; rw [if_neg]
  rw [List.getElem?_eq_getElem (by simpa using h)]
  intro e; exact h' (Option.some.inj e)
theorem quotedAt_is {s : ByteArray} {a : Nat} (h : a < s.size) (h' : s[a] = 34) : quotedAt s a = (rdq (s.data.toList.drop (a + 1))).map fun p => (p.1, s.size - p.2.length) := by
  unfold quotedAt; rw [if_pos]
  rw [List.getElem?_eq_getElem (by simpa using h)]
  exact congrArg some h'
/-- the same without asking for the first quote -/
def rdAt (s : ByteArray) (a : Nat) : Option (List UInt8 × Nat) := (rdq (s.data.toList.drop (a + 1))).map fun p => (p.1, s.size - p.2.length)
theorem rdAt_some {s : ByteArray} {a k : Nat} {l : List UInt8} (hr : rdq (s.data.toList.drop (a + 1)) = some (l, s.data.toList.drop k)) (hk : k ≤ s.size) : rdAt s a = some (l, k) := by
  unfold rdAt; rw [hr]; simp; omega
theorem rdAt_none {s : ByteArray} {a : Nat} (hr : rdq (s.data.toList.drop (a + 1)) = none) : rdAt s a = none := by
  unfold rdAt; rw [hr]; rfl
theorem quotedAt_empty : quotedAt ⟨#[]⟩ 0 = none := by rfl
theorem quotedAt_some {s : ByteArray} {a k : Nat} {l : List UInt8} (h : a < s.size) (h' : s[a] = 34) (hr : rdq (s.data.toList.drop (a + 1)) = some (l, s.data.toList.drop k)) (hk : k ≤ s.size) : quotedAt s a = some (l, k) := by
  rw [quotedAt_is h h', hr]; simp; omega
theorem quotedAt_none {s : ByteArray} {a : Nat} (h : a < s.size) (h' : s[a] = 34) (hr : rdq (s.data.toList.drop (a + 1)) = none) : quotedAt s a = none := by
  rw [quotedAt_is h h', hr]; rfl
/-- the text that a quoted text means, if it is one -/
def unqL (s : ByteArray) : Option (List UInt8) := (quotedAt s 0).bind fun p => if p.2 = s.size then some p.1 else none
def unqV : Option (List UInt8) → Value
  | none => .tuple #[.string ⟨#[]⟩, .bool false]
  | some l => .tuple #[.string ⟨l.toArray⟩, .bool true]
def readV : Option (List UInt8 × Nat) → Value
  | none => .tuple #[.string ⟨#[]⟩, .int .i64 0]
  | some p => .tuple #[.string ⟨p.1.toArray⟩, .int .i64 p.2]
def endV : Option (List UInt8 × Nat) → Value
  | none => .int .i64 (-1)
  | some p => .int .i64 p.2

theorem rdq_short : ∀ (n : Nat) (l t r : List UInt8), l.length ≤ n → rdq l = some (t, r) → r.length < l.length := by
  intro n
  induction n with
  | zero =>
    intro l t r hn h
    rw [List.length_eq_zero_iff.1 (Nat.le_zero.1 hn), rdq_nil] at h; cases h
  | succ n ih =>
    intro l t r hn h
    match l, hn, h with
    | [], _, h => rw [rdq_nil] at h; cases h
    | c :: r0, hn, h =>
      simp only [List.length_cons] at hn
      by_cases h1 : c = 34
      · rw [rdq_end h1] at h; cases h; simp
      · by_cases h2 : c = 92
        · match r0, hn, h with
          | [], _, h => rw [rdq_cut h2] at h; cases h
          | d :: r1, hn, h =>
            simp only [List.length_cons] at hn
            cases hd : escB d
            · rw [rdq_bad h2 hd] at h; cases h
            · rw [rdq_esc h2 hd] at h
              cases hr : rdq r1 with
              | none => rw [hr] at h; cases h
              | some p =>
                rw [hr] at h; cases h
                have := ih r1 p.1 p.2 (by omega) hr
                simp only [List.length_cons]; omega
        · rw [rdq_on h1 h2] at h
          cases hr : rdq r0 with
          | none => rw [hr] at h; cases h
          | some p =>
            rw [hr] at h; cases h
            have := ih r0 p.1 p.2 (by omega) hr
            simp only [List.length_cons]; omega
theorem quotedAt_bd {s : ByteArray} {a : Nat} {p : List UInt8 × Nat} (h : quotedAt s a = some p) : a + 1 < p.2 ∧ p.2 ≤ s.size ∧ a < s.size := by
  unfold quotedAt at h
  split at h
  · have ha := (List.getElem?_eq_some_iff.1 ‹_›).1
    have ha' : a < s.size := by simpa using ha
    cases hr : rdq (s.data.toList.drop (a + 1)) with
    | none => rw [hr] at h; cases h
    | some q =>
      rw [hr] at h; cases h
      have := rdq_short _ _ q.1 q.2 (Nat.le_refl _) hr
      simp only [List.length_drop, Array.length_toList] at this
      have e : s.data.size = s.size := rfl
      rw [e] at this
      exact ⟨by simp only; omega, by simp only; omega, ha'⟩
  · cases h

set_option maxRecDepth 100000 in
set_option maxHeartbeats 1000000 in
theorem iReadQ_any (s : ByteArray) (hs : s.size ≤ 1048576) (w : World) :
    Calls Tryd.prog 70 #[.string s] w fun e w' => e = .returned (readV (quotedAt s 0)) ∧ Below w.heap.size w w' := by
  by_cases h0 : s.size = 0
  · obtain rfl := str_empty h0
    go_enter Tryd.func70, Tryd.ntmps70
    go_wp2
    go_ret2
    exact ⟨ret_val (by rw [quotedAt_empty]; rfl), Below.refl _ _⟩
  · have hp : 0 < s.size := by omega
    have hne : s.toList.isEmpty = false := not_empty hp
    by_cases hq : s[0] = 34
    · have H1 : ((s[0].toNat : Int) != 34) = false := byte_bne hq
      have HQ := Lib.hid hq
      clear hq
      go_enter Tryd.func70, Tryd.ntmps70
      go_wp2
      go_loopw [4, 5] (fun v i wr => ∃ (k : Nat) (l : List UInt8), k ≤ s.size ∧ l.length + 1 ≤ k ∧ i = .int .i64 k ∧ Buf w.heap.size v l w wr ∧ Hid (Rd s 1 k l)) (fun _ i _ => s.size - (intOf i).toNat)
      case atStart => exact ⟨1, [], by omega, by simp, rfl, buf_none (Below.refl _ _), Lib.hid (Rd.start s 1)⟩
      case round =>
        obtain ⟨k, l, hk, hl, rfl, hb, HR⟩ := hrel
        by_cases hlt : k < s.size
        · by_cases h1 : s[k] = 34
          · have H2 : ((s[k].toNat : Int) == 34) = true := byte_is h1
            have HE := Lib.hid (quotedAt_some hp HQ.out (HR.out.done hlt h1) (by omega))
            clear h1
            have hcv := buf_str hb
            go_wp2
            go_ret2
            exact ⟨ret_val (by rw [HE.out]; rfl), hb.below⟩
          · have H2 : ((s[k].toNat : Int) == 34) = false := byte_ne (d := 34) h1
            by_cases h2 : s[k] = 92
            · have H3 : ((s[k].toNat : Int) == 92) = true := byte_is h2
              have HX := Lib.hid h2
              clear h1 h2
              by_cases hlt2 : k + 1 < s.size
              · cases hc : escB s[k + 1]
                · have HC := Lib.hid hc
                  have HE := Lib.hid (quotedAt_none hp HQ.out (HR.out.bad hlt2 HX.out hc))
                  clear hc
                  go_wp2_with (go_at_call 91; refine (iEsc_any _ _).mono ?_; rw [HC.out]; rintro e w' ⟨rfl, rfl⟩)
                  go_ret2
                  exact ⟨ret_val (by rw [HE.out]; rfl), hb.below⟩
                · have HC := Lib.hid hc
                  clear hc
                  go_wp2_with (first
                    | (go_at_call 91; refine (iEsc_any _ _).mono ?_; rw [HC.out]; rintro e w' ⟨rfl, rfl⟩)
                    | (at_builtin; refine buf_append rfl _ _ rfl _ _ _ rfl _ _ _ hb rfl s[k + 1] rfl (by omega) ?_; clear hb; intro v1 w1 hb))
                  go_roundw
                  case rel => exact ⟨k + 2, _, by omega, by simp; omega, by go_num, hb, Lib.hid (HR.out.esc hlt2 HX.out HC.out)⟩
                  case measure => simp [intOf]; omega
              · have HE := Lib.hid (quotedAt_none hp HQ.out (HR.out.cut2 (by omega) HX.out))
                have hk2 : ((k : Int) + 1 == (s.size : Int)) = true := by simp only [beq_iff_eq]; omega
                go_wp2
                go_ret2
                exact ⟨ret_val (by rw [HE.out]; rfl), hb.below⟩
            · have H3 : ((s[k].toNat : Int) == 92) = false := byte_ne (d := 92) h2
              have HX := Lib.hid h1
              have HY := Lib.hid h2
              clear h1 h2
              go_wp2_with (at_builtin; refine buf_append rfl _ _ rfl _ _ _ rfl _ _ _ hb rfl s[k] rfl (by omega) ?_; clear hb; intro v1 w1 hb)
              go_roundw
              case rel => exact ⟨k + 1, _, by omega, by simp; omega, by go_num, hb, Lib.hid (HR.out.on hlt HX.out HY.out)⟩
              case measure => simp [intOf]; omega
        · have HE := Lib.hid (quotedAt_none hp HQ.out (HR.out.cut (by omega)))
          go_wp2
          go_ret2
          exact ⟨ret_val (by rw [HE.out]; rfl), hb.below⟩
    · have H1 : ((s[0].toNat : Int) != 34) = true := byte_nbne (d := 34) hq
      have HE := Lib.hid (quotedAt_not hp hq)
      clear hq
      go_enter Tryd.func70, Tryd.ntmps70
      go_wp2
      go_ret2
      exact ⟨ret_val (by rw [HE.out]; rfl), Below.refl _ _⟩
end Go.Proofs.YtdfapkceanicoaaDoor
