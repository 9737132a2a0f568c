/- CHAPTER 3, PLAIN MATHEMATICS: what the tokens of a text are. No function is spoken of. -/
import Derived.Test.YtdfapkceanicoaaDoorUnq
import Derived.Test.YtdfapkceanicoaaDoorToks
import Derived.Lib.TrimByte
set_option linter.unusedVariables false
set_option linter.unusedSimpArgs false
namespace Go.Proofs.YtdfapkceanicoaaDoor
open Go.RowKit

/-- behind blanks and remarks; 'true': within a remark -/
def skip : Bool → List UInt8 → List UInt8
  | _, [] => []
  | true, c :: r => if c = 10 then skip false r else skip true r
  | false, c :: r => if c = 32 ∨ c = 10 then skip false r else if c = 35 then skip true r else c :: r
theorem skip_nil (b : Bool) : skip b [] = [] := by cases b <;> rfl
theorem skip_blank {c : UInt8} {r : List UInt8} (h : c = 32 ∨ c = 10) : skip false (c :: r) = skip false r := by rw [skip, if_pos h]
theorem skip_hash {c : UInt8} {r : List UInt8} (h : c = 35) : skip false (c :: r) = skip true (c :: r) := by subst h; rfl
theorem skip_stop {c : UInt8} {r : List UInt8} (h1 : c ≠ 32) (h2 : c ≠ 10) (h3 : c ≠ 35) : skip false (c :: r) = c :: r := by
  rw [skip, if_neg (by rintro (h | h) <;> contradiction), if_neg h3]
theorem skip_line {c : UInt8} {r : List UInt8} (h : c = 10) : skip true (c :: r) = skip false (c :: r) := by rw [skip, if_pos h, skip_blank (.inr h)]
theorem skip_in {c : UInt8} {r : List UInt8} (h : c ≠ 10) : skip true (c :: r) = skip true r := by rw [skip, if_neg h]
theorem skip_suffix : ∀ (l : List UInt8) (b : Bool), ∃ m, m ≤ l.length ∧ skip b l = l.drop m := by
  intro l
  induction l with
  | nil => intro b; exact ⟨0, Nat.le_refl _, by rw [skip_nil]; rfl⟩
  | cons c r ih =>
    have step : ∀ b b', skip b (c :: r) = skip b' r → ∃ m, m ≤ (c :: r).length ∧ skip b (c :: r) = (c :: r).drop m := fun b b' h => by
      obtain ⟨m, hm, e⟩ := ih b'
      exact ⟨m + 1, by simp; omega, by rw [h, e]; rfl⟩
    intro b
    cases b with
    | true =>
      by_cases h : c = 10
      · exact step _ false (by rw [skip, if_pos h])
      · exact step _ true (skip_in h)
    | false =>
      by_cases h : c = 32 ∨ c = 10
      · exact step _ false (skip_blank h)
      · by_cases h' : c = 35
        · exact step _ true (by rw [skip_hash h', skip_in (by rw [h']; decide)])
        · exact ⟨0, Nat.zero_le _, by rw [skip, if_neg h, if_neg h']; rfl⟩
theorem skip_head {l : List UInt8} {b : Bool} {c : UInt8} {r : List UInt8} (h : skip b l = c :: r) : c ≠ 32 ∧ c ≠ 10 ∧ c ≠ 35 := by
  induction l generalizing b with
  | nil => rw [skip_nil] at h; cases h
  | cons d t ih =>
    cases b with
    | true =>
      rw [skip] at h; split at h
      · exact ih h
      · exact ih h
    | false =>
      rw [skip] at h; split at h
      · exact ih h
      · split at h
        · exact ih h
        · rename_i h1 h2
          cases h
          exact ⟨fun e => h1 (.inl e), fun e => h1 (.inr e), h2⟩
/-- the place behind the blanks -/
def skE (s : ByteArray) (k : Nat) : Nat := s.size - (skip false (s.data.toList.drop k)).length
theorem skE_le (s : ByteArray) (k : Nat) : skE s k ≤ s.size := Nat.sub_le _ _
theorem dlen (s : ByteArray) (k : Nat) : (s.data.toList.drop k).length = s.size - k := by simp
theorem skE_drop {s : ByteArray} {k : Nat} (_hk : k ≤ s.size) : s.data.toList.drop (skE s k) = skip false (s.data.toList.drop k) := by
  obtain ⟨m, hm, e⟩ := skip_suffix (s.data.toList.drop k) false
  unfold skE
  rw [e, List.drop_drop, dlen]
  rw [dlen] at hm
  congr 1; omega

/-- the bytes that are marks -/
def marks1 : List UInt8 := [123, 125, 59, 91, 93, 40, 41, 60, 62, 61, 43, 45, 47, 124, 46, 44, 36, 58]
def mk2 : List UInt8 → Bool
  | c :: d :: _ => (c == 33 && d == 61) || (c == 60 && d == 61) || (c == 62 && d == 61) || (c == 46 && d == 46)
  | _ => false
def mkLen (l : List UInt8) : Nat := if mk2 l = true then 2 else match l with
  | c :: _ => if marks1.contains c = true then 1 else 0
  | [] => 0
def nmLen (l : List UInt8) : Nat := (Lib.trimRightB (l.takeWhile nbB) 45).length
def dgLen (l : List UInt8) : Nat := (l.takeWhile digB).length
/-- the token at the head of a list of bytes: its kind, its text, how many bytes it takes -/
def tokL : List UInt8 → Option (Int × List UInt8 × Nat)
  | [] => none
  | c :: r =>
    if letB c = true then some (1, (c :: r).take (nmLen (c :: r)), nmLen (c :: r))
    else if digB c = true then some (2, (c :: r).take (dgLen (c :: r)), dgLen (c :: r))
    else if c = 34 then (rdq r).map fun p => (3, p.1, r.length + 1 - p.2.length)
    else if mkLen (c :: r) = 0 then none
    else some (4, (c :: r).take (mkLen (c :: r)), mkLen (c :: r))
theorem tokL_let {c : UInt8} {r : List UInt8} (h : letB c = true) : tokL (c :: r) = some (1, (c :: r).take (nmLen (c :: r)), nmLen (c :: r)) := by rw [tokL, if_pos h]
theorem tokL_dig {c : UInt8} {r : List UInt8} (h : letB c = false) (h' : digB c = true) : tokL (c :: r) = some (2, (c :: r).take (dgLen (c :: r)), dgLen (c :: r)) := by
  rw [tokL, if_neg (by rw [h]; decide), if_pos h']
theorem tokL_quo {c : UInt8} {r : List UInt8} (h : c = 34) : tokL (c :: r) = (rdq r).map fun p => (3, p.1, r.length + 1 - p.2.length) := by
  subst h; rfl
theorem tokL_mrk {c : UInt8} {r : List UInt8} (h : letB c = false) (h' : digB c = false) (h'' : c ≠ 34) (h3 : mkLen (c :: r) ≠ 0) : tokL (c :: r) = some (4, (c :: r).take (mkLen (c :: r)), mkLen (c :: r)) := by
  rw [tokL, if_neg (by rw [h]; decide), if_neg (by rw [h']; decide), if_neg h'', if_neg h3]
theorem tokL_non {c : UInt8} {r : List UInt8} (h : letB c = false) (h' : digB c = false) (h'' : c ≠ 34) (h3 : mkLen (c :: r) = 0) : tokL (c :: r) = none := by
  rw [tokL, if_neg (by rw [h]; decide), if_neg (by rw [h']; decide), if_neg h'', if_pos h3]
theorem letB_nb {c : UInt8} (h : letB c = true) : nbB c = true := by unfold nbB; rw [h]; rfl
theorem letB_45 {c : UInt8} (h : letB c = true) : c ≠ 45 := by rintro rfl; revert h; decide
/-- cutting off '-' leaves the head where it is none -/
theorem trim_head {c : UInt8} {l : List UInt8} (h : c ≠ 45) : ∃ t, Lib.trimRightB (c :: l) 45 = c :: t := by
  unfold Lib.trimRightB
  rw [List.reverse_cons, List.dropWhile_append]
  split
  · refine ⟨[], ?_⟩
    have : (c == 45) = false := by simpa using h
    simp [List.dropWhile_cons, this]
  · exact ⟨(List.dropWhile (· == 45) l.reverse).reverse, by simp⟩
theorem nmLen_pos {c : UInt8} {r : List UInt8} (h : letB c = true) : 0 < nmLen (c :: r) := by
  unfold nmLen
  rw [List.takeWhile_cons, if_pos (letB_nb h)]
  obtain ⟨t, e⟩ := trim_head (l := r.takeWhile nbB) (letB_45 h)
  rw [e]; simp
theorem trim_len (l : List UInt8) : (Lib.trimRightB l 45).length ≤ l.length := by
  unfold Lib.trimRightB
  rw [List.length_reverse]
  have h : (List.dropWhile (fun x => x == 45) l.reverse).length ≤ l.reverse.length := (List.dropWhile_sublist _).length_le
  rwa [List.length_reverse] at h
theorem nmLen_le (l : List UInt8) : nmLen l ≤ l.length := Nat.le_trans (trim_len _) (List.takeWhile_sublist _).length_le
theorem dgLen_le (l : List UInt8) : dgLen l ≤ l.length := (List.takeWhile_sublist _).length_le
theorem dgLen_pos {c : UInt8} {r : List UInt8} (h : digB c = true) : 0 < dgLen (c :: r) := by
  unfold dgLen; rw [List.takeWhile_cons, if_pos h]; simp
theorem mkLen_le (l : List UInt8) : mkLen l ≤ l.length := by
  unfold mkLen
  split
  · rename_i h
    match l, h with
    | _ :: _ :: _, _ => simp
  · split
    · split <;> simp
    · simp
/-- what a quoted text takes, and that what stands behind it does not matter -/
theorem rdq_split : ∀ (n : Nat) (l t r : List UInt8), l.length ≤ n → rdq l = some (t, r) → ∃ u, l = u ++ r ∧ t.length < u.length ∧ ∀ r', rdq (u ++ r') = some (t, r') := by
  intro n
  induction n with
  | zero =>
    intro l t r hn h
    rw [List.length_eq_zero_iff.1 (Nat.le_zero.1 hn), rdq_nil] at h; cases h
  | succ n ih =>
    intro l t r hn h
    match l, hn, h with
    | [], _, h => rw [rdq_nil] at h; cases h
    | c :: r0, hn, h =>
      simp only [List.length_cons] at hn
      by_cases h1 : c = 34
      · rw [rdq_end h1] at h; cases h
        exact ⟨[c], rfl, by simp, fun r' => rdq_end h1⟩
      · by_cases h2 : c = 92
        · match r0, hn, h with
          | [], _, h => rw [rdq_cut h2] at h; cases h
          | d :: r1, hn, h =>
            simp only [List.length_cons] at hn
            cases hd : escB d
            · rw [rdq_bad h2 hd] at h; cases h
            · rw [rdq_esc h2 hd] at h
              cases hr : rdq r1 with
              | none => rw [hr] at h; cases h
              | some p =>
                rw [hr] at h; cases h
                obtain ⟨u, hu, hl, hx⟩ := ih r1 p.1 p.2 (by omega) hr
                exact ⟨c :: d :: u, by rw [hu]; simp, by simp; omega, fun r' => by rw [List.cons_append, List.cons_append, rdq_esc h2 hd, hx]; rfl⟩
        · rw [rdq_on h1 h2] at h
          cases hr : rdq r0 with
          | none => rw [hr] at h; cases h
          | some p =>
            rw [hr] at h; cases h
            obtain ⟨u, hu, hl, hx⟩ := ih r0 p.1 p.2 (by omega) hr
            exact ⟨c :: u, by rw [hu]; simp, by simp; omega, fun r' => by rw [List.cons_append, rdq_on h1 h2, hx]; rfl⟩
theorem rdq_meant (n : Nat) (l t r : List UInt8) (hn : l.length ≤ n) (h : rdq l = some (t, r)) : t.length + r.length < l.length := by
  obtain ⟨u, rfl, hl, _⟩ := rdq_split n l t r hn h
  rw [List.length_append]; omega
theorem tokL_bd {l : List UInt8} {k : Int} {t : List UInt8} {z : Nat} (h : tokL l = some (k, t, z)) : 0 < z ∧ z ≤ l.length ∧ t.length ≤ l.length ∧ 1 ≤ k ∧ k ≤ 4 := by
  cases l with
  | nil => cases h
  | cons c r =>
    cases h1 : letB c with
    | true =>
      rw [tokL_let h1] at h; cases h
      exact ⟨nmLen_pos h1, nmLen_le _, by rw [List.length_take]; omega, by omega, by omega⟩
    | false =>
      cases h2 : digB c with
      | true =>
        rw [tokL_dig h1 h2] at h; cases h
        exact ⟨dgLen_pos h2, dgLen_le _, by rw [List.length_take]; omega, by omega, by omega⟩
      | false =>
        by_cases h3 : c = 34
        · rw [tokL_quo h3] at h
          cases hr : rdq r with
          | none => rw [hr] at h; cases h
          | some p =>
            rw [hr] at h
            have hs := rdq_short r.length r p.1 p.2 (Nat.le_refl _) hr
            have hl := rdq_meant r.length r p.1 p.2 (Nat.le_refl _) hr
            cases h
            simp only [List.length_cons]
            omega
        · by_cases h4 : mkLen (c :: r) = 0
          · rw [tokL_non h1 h2 h3 h4] at h; cases h
          · rw [tokL_mrk h1 h2 h3 h4] at h; cases h
            exact ⟨by omega, mkLen_le _, by rw [List.length_take]; omega, by omega, by omega⟩

/-- the tokens of the bytes l, that are the last ones of N; the place at which none begins -/
inductive Lx (N : Nat) : List UInt8 → List Tok → Option Nat → Prop
  | fin {l : List UInt8} : skip false l = [] → Lx N l [] none
  | bad {l : List UInt8} {c : UInt8} {r : List UInt8} : skip false l = c :: r → tokL (c :: r) = none → Lx N l [] (some (N - (r.length + 1)))
  | tok {l : List UInt8} {c : UInt8} {r : List UInt8} {k : Int} {t : List UInt8} {z : Nat} {T : List Tok} {e : Option Nat} : skip false l = c :: r → tokL (c :: r) = some (k, t, z) → Lx N ((c :: r).drop z) T e → Lx N l (⟨k, ⟨t.toArray⟩, (N - (r.length + 1) : Nat)⟩ :: T) e
theorem Lx.exists (N : Nat) (l : List UInt8) : ∃ T e, Lx N l T e := by
  have h : ∀ n (l : List UInt8), l.length ≤ n → ∃ T e, Lx N l T e := by
    intro n
    induction n with
    | zero =>
      intro l hl
      obtain rfl := List.length_eq_zero_iff.1 (Nat.le_zero.1 hl)
      exact ⟨_, _, .fin (skip_nil _)⟩
    | succ n ih =>
      intro l hl
      cases hs : skip false l with
      | nil => exact ⟨_, _, .fin hs⟩
      | cons c r =>
        obtain ⟨m, hm, e⟩ := skip_suffix l false
        have hlen : (c :: r).length ≤ l.length := by rw [← hs, e, List.length_drop]; omega
        cases ht : tokL (c :: r) with
        | none => exact ⟨_, _, .bad hs ht⟩
        | some p =>
          obtain ⟨k, t, z⟩ := p
          have hb := tokL_bd ht
          obtain ⟨T, e, hx⟩ := ih ((c :: r).drop z) (by rw [List.length_drop]; omega)
          exact ⟨_, _, .tok hs ht hx⟩
  exact h _ l (Nat.le_refl _)
/-- blanks ahead of it do not count -/
theorem Lx.skip {N : Nat} {l l' : List UInt8} {T : List Tok} {e : Option Nat} (h : Lx N l T e) (hs : skip false l = skip false l') : Lx N l' T e := by
  cases h with
  | fin h => exact .fin (hs ▸ h)
  | bad h h' => exact .bad (hs ▸ h) h'
  | tok h h' h'' => exact .tok (hs ▸ h) h' h''
theorem Lx.bd {N : Nat} {l : List UInt8} {T : List Tok} {e : Option Nat} (h : Lx N l T e) : T.length ≤ l.length ∧ (∀ x ∈ T, x.t.size ≤ l.length ∧ 0 ≤ x.p ∧ x.p ≤ N ∧ 1 ≤ x.k ∧ x.k ≤ 4) ∧ ∀ p, e = some p → p ≤ N := by
  induction h with
  | fin h => exact ⟨by simp, by simp, by simp⟩
  | bad h h' => exact ⟨by simp, by simp, fun p hp => by cases hp; omega⟩
  | @tok l c r k t z T e h h' h'' ih =>
    obtain ⟨m, hm, e'⟩ := skip_suffix l false
    have hlen : (c :: r).length ≤ l.length := by rw [← h, e', List.length_drop]; omega
    have hb := tokL_bd h'
    have hd : ((c :: r).drop z).length = (c :: r).length - z := List.length_drop
    refine ⟨by rw [List.length_cons]; omega, fun x hx => ?_, ih.2.2⟩
    rcases List.mem_cons.1 hx with rfl | hx
    · have e1 : (⟨t.toArray⟩ : ByteArray).size = t.length := rfl
      dsimp only
      rw [e1]
      omega
    · have := ih.2.1 x hx
      omega
theorem skip_idem (l : List UInt8) : skip false (skip false l) = skip false l := by
  cases h : skip false l with
  | nil => rfl
  | cons c r =>
    obtain ⟨h1, h2, h3⟩ := skip_head h
    exact skip_stop h1 h2 h3
/-- how far reading has come: the tokens acc are read, T' are to come -/
def Sf (s : ByteArray) (k : Nat) (acc T' T : List Tok) (e : Option Nat) : Prop := Lx s.size (s.data.toList.drop k) T' e ∧ T = acc ++ T'
theorem Sf.start {s : ByteArray} {T : List Tok} {e : Option Nat} (h : Lx s.size s.data.toList T e) : Sf s 0 [] T T e := ⟨by simpa using h, rfl⟩
theorem Sf.past {s : ByteArray} {k : Nat} {acc T' T : List Tok} {e : Option Nat} (hk : k ≤ s.size) (h : Sf s k acc T' T e) : Sf s (skE s k) acc T' T e :=
  ⟨h.1.skip (by rw [skE_drop hk, skip_idem]), h.2⟩
/-- at a place at which neither a blank nor a remark begins -/
theorem Sf.parts {s : ByteArray} {k : Nat} {acc T' T : List Tok} {e : Option Nat} (h : Sf s k acc T' T e) (hk : k < s.size) (h0 : skip false (s.data.toList.drop k) = s.data.toList.drop k) :
    (tokL (s.data.toList.drop k) = none ∧ T' = [] ∧ e = some k) ∨ ∃ (kd : Int) (t : List UInt8) (z : Nat) (T2 : List Tok), tokL (s.data.toList.drop k) = some (kd, t, z) ∧ 0 < z ∧ k + z ≤ s.size ∧ t.length ≤ s.size ∧ Sf s (k + z) (acc ++ [⟨kd, ⟨t.toArray⟩, k⟩]) T2 T e := by
  obtain ⟨hl, rfl⟩ := h
  have hd := data_drop s k hk
  have hlen : (s.data.toList.drop (k + 1)).length + 1 = s.size - k := by rw [dlen]; omega
  cases hl with
  | fin h => rw [h0, hd] at h; cases h
  | @bad _ c r h h' =>
    rw [h0] at h
    have e0 : r.length + 1 = s.size - k := by rw [← dlen, h, List.length_cons]
    exact .inl ⟨by rw [h]; exact h', rfl, by rw [e0]; congr 1; omega⟩
  | @tok _ c r kd t z T2 _ h h' h'' =>
    rw [h0] at h
    have e0 : r.length + 1 = s.size - k := by rw [← dlen, h, List.length_cons]
    have hb := tokL_bd h'
    rw [List.length_cons, e0] at hb
    refine .inr ⟨kd, t, z, T2, by rw [h]; exact h', hb.1, by omega, by omega, ?_, ?_⟩
    · rw [← List.drop_drop, h]; exact h''
    · rw [e0, show s.size - (s.size - k) = k by omega]; simp
theorem Sf.done {s : ByteArray} {k : Nat} {acc T' T : List Tok} {e : Option Nat} (h : Sf s k acc T' T e) (hk : s.size ≤ k) : T = acc ∧ e = none := by
  obtain ⟨hl, rfl⟩ := h
  rw [List.drop_eq_nil_of_le (by simp; omega)] at hl
  cases hl with
  | fin h => exact ⟨by simp, rfl⟩
  | bad h h' => rw [skip_nil] at h; cases h
  | tok h h' h'' => rw [skip_nil] at h; cases h
theorem skE_stop {s : ByteArray} {k : Nat} (hk : k ≤ s.size) : skip false (s.data.toList.drop (skE s k)) = s.data.toList.drop (skE s k) := by rw [skE_drop hk, skip_idem]
theorem skE_ge {s : ByteArray} {k : Nat} (hk : k ≤ s.size) : k ≤ skE s k := by
  obtain ⟨m, hm, e⟩ := skip_suffix (s.data.toList.drop k) false
  unfold skE
  rw [e, List.length_drop, dlen]; omega
/-- the list of tokens that is returned, and the place -/
def lexT (T : List Tok) : Option Nat → List Tok
  | none => T
  | some _ => []
def lexI : Option Nat → Int
  | none => -1
  | some p => p
end Go.Proofs.YtdfapkceanicoaaDoor
