/- MERGED for a claim: NumPlain Dig. -/
import Derived.WalkKit
import Derived.Test.YthmjffijhlkgcaaBuf
set_option linter.unusedVariables false
set_option linter.unusedSimpArgs false
/- PLAIN MATHEMATICS OF CHAPTER 1: decimal digits of a natural number, the decimal form of an integer, reading digits. No program is spoken of. -/
namespace Go.Proofs.Ythmjffijhlkgcaa.NumP

/-- the decimal digits of a number, the greatest first -/
def dec (m : Nat) : List UInt8 := if m < 10 then [UInt8.ofNat (48 + m)] else dec (m / 10) ++ [UInt8.ofNat (48 + m % 10)]
termination_by m
decreasing_by omega

def ndig (m : Nat) : Nat := if m < 10 then 1 else ndig (m / 10) + 1
termination_by m
decreasing_by omega

theorem dec_small {m : Nat} (h : m < 10) : dec m = [UInt8.ofNat (48 + m)] := by rw [dec, if_pos h]
theorem dec_big {m : Nat} (h : 10 ≤ m) : dec m = dec (m / 10) ++ [UInt8.ofNat (48 + m % 10)] := by rw [dec, if_neg (by omega)]
theorem ndig_small {m : Nat} (h : m < 10) : ndig m = 1 := by rw [ndig, if_pos h]
theorem ndig_big {m : Nat} (h : 10 ≤ m) : ndig m = ndig (m / 10) + 1 := by rw [ndig, if_neg (by omega)]
theorem ndig_pos (m : Nat) : 1 ≤ ndig m := by rw [ndig]; split <;> omega
theorem ndig_le (k : Nat) : ∀ m : Nat, m < 10 ^ (k + 1) → ndig m ≤ k + 1 := by
  induction k with
  | zero => intro m h; rw [ndig_small (by simpa using h)]; omega
  | succ k ih =>
    intro m h
    by_cases hm : m < 10
    · rw [ndig_small hm]; omega
    · rw [ndig_big (by omega)]
      have := ih (m / 10) (by rw [Nat.pow_succ] at h; omega)
      omega
theorem ndig_le20 {m : Nat} (h : m < 18446744073709551616) : ndig m ≤ 20 :=
  ndig_le 19 m (by have : (10 : Nat) ^ (19 + 1) = 100000000000000000000 := by decide
                   omega)
theorem dec_length (m : Nat) : (dec m).length = ndig m := by
  induction m using Nat.strongRecOn with
  | _ m ih =>
    by_cases h : m < 10
    · rw [dec_small h, ndig_small h]; rfl
    · rw [dec_big (by omega), ndig_big (by omega), List.length_append, ih (m / 10) (by omega)]; rfl

/-- the last k digits of a number, with zeros ahead -/
def pad : Nat → Nat → List UInt8
  | 0, _ => []
  | k + 1, m => pad k (m / 10) ++ [UInt8.ofNat (48 + m % 10)]
theorem pad_length (k : Nat) : ∀ m, (pad k m).length = k := by
  induction k with
  | zero => intro m; rfl
  | succ k ih => intro m; simp [pad, ih]
theorem pad_ndig (m : Nat) : pad (ndig m) m = dec m := by
  induction m using Nat.strongRecOn with
  | _ m ih =>
    by_cases h : m < 10
    · rw [ndig_small h, dec_small h]; simp [pad, Nat.mod_eq_of_lt h]
    · rw [ndig_big (by omega), dec_big (by omega), pad, ih (m / 10) (by omega)]

/-- an integer in decimal: '-' ahead of the digits of a negative one -/
def fmtL (n : Int) : List UInt8 := if n < 0 then 45 :: dec n.natAbs else dec n.natAbs
def fmtS (n : Int) : ByteArray := ⟨(fmtL n).toArray⟩
theorem fmtS_neg {n : Int} (h : n < 0) : fmtS n = ⟨(45 :: dec n.natAbs).toArray⟩ := by unfold fmtS fmtL; rw [if_pos h]
theorem fmtS_pos {n : Int} (h : 0 ≤ n) : fmtS n = ⟨(dec n.natAbs).toArray⟩ := by unfold fmtS fmtL; rw [if_neg (by omega)]
theorem fmtL_length {n : Int} (h : -9223372036854775808 ≤ n) (h' : n ≤ 9223372036854775807) : 1 ≤ (fmtL n).length ∧ (fmtL n).length ≤ 21 := by
  have h1 := ndig_le20 (m := n.natAbs) (by omega)
  have h2 := ndig_pos n.natAbs
  unfold fmtL; split <;> simp only [List.length_cons, dec_length] <;> omega

/-- reading digits: what the rest l makes of n; none where a byte is no digit, or the number passes 1000000000 -/
def rdGo : Nat → List UInt8 → Option Nat
  | n, [] => some n
  | n, c :: r => if 48 ≤ c.toNat ∧ c.toNat ≤ 57 then (if n * 10 + (c.toNat - 48) ≤ 1000000000 then rdGo (n * 10 + (c.toNat - 48)) r else none) else none
def rdL (l : List UInt8) : Option Nat := if l = [] then none else rdGo 0 l
theorem rdGo_le : ∀ (l : List UInt8) (n m : Nat), n ≤ 1000000000 → rdGo n l = some m → m ≤ 1000000000 := by
  intro l
  induction l with
  | nil => intro n m h e; simp [rdGo] at e; omega
  | cons c r ih =>
    intro n m h e
    rw [rdGo] at e
    split at e
    · split at e
      · exact ih _ _ ‹_› e
      · cases e
    · cases e
theorem rdL_le {l : List UInt8} {m : Nat} (e : rdL l = some m) : m ≤ 1000000000 := by
  unfold rdL at e; split at e
  · cases e
  · exact rdGo_le l 0 m (by omega) e

/-- what stands behind a sign, if there is one -/
def unsign : List UInt8 → List UInt8
  | [] => []
  | c :: r => if c = 45 ∨ c = 43 then r else c :: r
def minus : List UInt8 → Bool
  | [] => false
  | c :: _ => c == 45
/-- ReadInt: the number, if one is read -/
def readL (l : List UInt8) : Option Int := (rdL (unsign l)).map fun m => if minus l then -(m : Int) else m
/-- ParseInt -/
def parseL (l : List UInt8) : Option Int := (readL l).bind fun n => if fmtL n = l then some n else none
theorem readL_bd {l : List UInt8} {n : Int} (e : readL l = some n) : -1000000000 ≤ n ∧ n ≤ 1000000000 := by
  unfold readL at e
  cases h : rdL (unsign l) with
  | none => rw [h] at e; cases e
  | some m =>
    have := rdL_le h
    rw [h] at e; simp at e; subst e; split <;> omega
theorem parseL_bd {l : List UInt8} {n : Int} (e : parseL l = some n) : -1000000000 ≤ n ∧ n ≤ 1000000000 := by
  unfold parseL at e
  cases h : readL l with
  | none => rw [h] at e; cases e
  | some m =>
    rw [h] at e; simp only [Option.bind_some] at e; split at e
    · cases e; exact readL_bd h
    · cases e

theorem dec_digit (m : Nat) : ∀ c ∈ dec m, 48 ≤ c.toNat ∧ c.toNat ≤ 57 := by
  induction m using Nat.strongRecOn with
  | _ m ih =>
    intro c hc
    by_cases h : m < 10
    · rw [dec_small h, List.mem_singleton] at hc; subst hc; simp only [UInt8.toNat_ofNat']; omega
    · rw [dec_big (by omega)] at hc
      rcases List.mem_append.1 hc with hc | hc
      · exact ih (m / 10) (by omega) c hc
      · rw [List.mem_singleton] at hc; subst hc; simp only [UInt8.toNat_ofNat']; omega
theorem dec_ne_nil (m : Nat) : dec m ≠ [] := by
  intro h; have := dec_length m; rw [h] at this; have := ndig_pos m; simp at *; omega
/-- a decimal form does not begin with '+' -/
theorem fmtL_plus (n : Int) (r : List UInt8) : fmtL n ≠ 43 :: r := by
  intro h
  unfold fmtL at h; split at h
  · simp at h
  · have := dec_digit n.natAbs 43 (by rw [h]; simp)
    simp at this

theorem rdGo_append : ∀ (a b : List UInt8) (n : Nat), rdGo n (a ++ b) = (rdGo n a).bind fun m => rdGo m b := by
  intro a
  induction a with
  | nil => intro b n; simp [rdGo]
  | cons c r ih =>
    intro b n
    simp only [List.cons_append, rdGo]
    split
    · split
      · exact ih b _
      · rfl
    · rfl
theorem rdGo_dec (m : Nat) (h : m ≤ 1000000000) : rdGo 0 (dec m) = some m := by
  induction m using Nat.strongRecOn with
  | _ m ih =>
    by_cases hm : m < 10
    · rw [dec_small hm]; simp only [rdGo, UInt8.toNat_ofNat']
      rw [if_pos (by omega), if_pos (by omega)]; congr 1; omega
    · rw [dec_big (by omega), rdGo_append, ih (m / 10) (by omega) (by omega)]
      simp only [Option.bind_some, rdGo, UInt8.toNat_ofNat']
      rw [if_pos (by omega), if_pos (by omega)]; congr 1; omega
theorem rdGo_dec_big (m : Nat) (h : 1000000000 < m) : rdGo 0 (dec m) = none := by
  induction m using Nat.strongRecOn with
  | _ m ih =>
    rw [dec_big (by omega), rdGo_append]
    by_cases hm : m / 10 ≤ 1000000000
    · rw [rdGo_dec _ hm]; simp only [Option.bind_some, rdGo, UInt8.toNat_ofNat']
      rw [if_pos (by omega), if_neg (by omega)]
    · rw [ih (m / 10) (by omega) (by omega)]; rfl
theorem rdL_dec {m : Nat} (h : m ≤ 1000000000) : rdL (dec m) = some m := by unfold rdL; rw [if_neg (dec_ne_nil m), rdGo_dec m h]
theorem rdL_dec_big {m : Nat} (h : 1000000000 < m) : rdL (dec m) = none := by unfold rdL; rw [if_neg (dec_ne_nil m), rdGo_dec_big m h]
theorem unsign_dec (m : Nat) : unsign (dec m) = dec m ∧ minus (dec m) = false := by
  have hd := dec_digit m
  cases h : dec m with
  | nil => exact ⟨rfl, rfl⟩
  | cons c r =>
    have := hd c (by rw [h]; simp)
    have c1 : c ≠ 45 := by rintro rfl; simp at this
    have c2 : c ≠ 43 := by rintro rfl; simp at this
    simp [unsign, minus, c1, c2]
theorem readL_fmt {n : Int} (h : -1000000000 ≤ n) (h' : n ≤ 1000000000) : readL (fmtL n) = some n := by
  unfold readL fmtL
  split
  · simp only [unsign, minus]; rw [if_pos (by simp), rdL_dec (by omega)]; simp; omega
  · rw [(unsign_dec _).1, (unsign_dec _).2, rdL_dec (by omega)]; simp; omega
theorem readL_fmt_none {n : Int} (h : n < -1000000000 ∨ 1000000000 < n) : readL (fmtL n) = none := by
  unfold readL fmtL
  split
  · simp only [unsign, minus]; rw [if_pos (by simp), rdL_dec_big (by omega)]; rfl
  · rw [(unsign_dec _).1, rdL_dec_big (by omega)]; rfl
theorem parseL_fmt {n : Int} (h : -1000000000 ≤ n) (h' : n ≤ 1000000000) : parseL (fmtL n) = some n := by
  unfold parseL; rw [readL_fmt h h']; simp
theorem parseL_fmt_none {n : Int} (h : n < -1000000000 ∨ 1000000000 < n) : parseL (fmtL n) = none := by
  unfold parseL; rw [readL_fmt_none h]; rfl

end Go.Proofs.Ythmjffijhlkgcaa.NumP

/- ONE DIGIT AFTER THE OTHER, AS A TEXT: 'string([]byte{b}) + out'. No function is spoken of. -/
namespace Go.Proofs.Ythmjffijhlkgcaa
open Go.RowKit NumP

theorem digit_byte (q : Nat) : (u8v (UInt8.ofNat (48 + q % 10))) = .int .u8 (48 + (q : Int) % 10) := by
  unfold u8v; congr 1; simp only [UInt8.toNat_ofNat']; omega
theorem sFmt_step {q m : Nat} {l : List UInt8} (hq : 0 < q) (h : dec q ++ l = dec m) :
    (q / 10 = 0 → UInt8.ofNat (48 + q % 10) :: l = dec m) ∧ (0 < q / 10 → dec (q / 10) ++ UInt8.ofNat (48 + q % 10) :: l = dec m) := by
  by_cases hs : q < 10
  · rw [dec_small hs] at h
    rw [Nat.mod_eq_of_lt hs]
    exact ⟨fun _ => h, fun h' => by omega⟩
  · rw [dec_big (by omega), List.append_assoc] at h
    exact ⟨fun h' => by omega, fun _ => h⟩
def SF (m q : Nat) (l : List UInt8) : Prop := (q = 0 → l = dec m) ∧ (0 < q → dec q ++ l = dec m)

/-- 'string([]byte{b})' -/
theorem conv_one (wr : World) (b : UInt8) : (convert 78 9 (.slice (some ⟨wr.heap.size, 0, none⟩) 1 1)).run Try.prog (wr.alloc (.cells #[u8v b] 5)) = .ok (.string ⟨#[b]⟩) (wr.alloc (.cells #[u8v b] 5)) := by
  have h := run_convert_bytes_back (P := Try.prog) (wr.alloc (.cells #[u8v b] 5)) 78 9 5 ⟨wr.heap.size, 0, none⟩ 1 [b] Try.underlying78 Try.underlying5 Try.underlying9 (fun j hj => by
    have hj0 : j = 0 := by simpa using hj
    subst hj0
    simp [go_sem, u8v, Addr.add])
  exact h
theorem SF_step {q m : Nat} {l : List UInt8} (hm : m < 18446744073709551616) (hq : 0 < q) (h : SF m q l) : SF m (q / 10) (UInt8.ofNat (48 + q % 10) :: l) ∧ (UInt8.ofNat (48 + q % 10) :: l).length ≤ 20 := by
  have h' := sFmt_step hq (h.2 hq)
  refine ⟨⟨h'.1, h'.2⟩, ?_⟩
  have e := congrArg List.length (h.2 hq)
  have := dec_length m
  have := ndig_le20 hm
  have := dec_length q
  have := ndig_pos q
  simp only [List.length_append] at e
  simp only [List.length_cons]
  omega
theorem str_cons (b : UInt8) (l : List UInt8) : (ByteArray.mk #[b] ++ ByteArray.mk l.toArray) = ByteArray.mk (b :: l).toArray := ByteArray.mk_append_mk [b] l
theorem val_str {a b : ByteArray} (h : a = b) : Value.string a = Value.string b := by rw [h]

end Go.Proofs.Ythmjffijhlkgcaa
