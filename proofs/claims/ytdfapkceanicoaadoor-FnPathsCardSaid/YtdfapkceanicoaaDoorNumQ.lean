/- MERGED for a claim: NumW Dig NumV NumU NumR NumQ. -/
import Derived.Test.YtdfapkceanicoaaDoorBase
import Derived.Test.YtdfapkceanicoaaDoorNumPlain
import Derived.Test.YtdfapkceanicoaaDoorIn
import Derived.Test.YtdfapkceanicoaaDoorBuf
import Derived.Lib.Strings
set_option linter.unusedVariables false
set_option linter.unusedSimpArgs false
/- CONTRACTS OF CHAPTER 1: what spec's and impl's functions on numbers return, and what becomes of the world. -/
namespace Go.Proofs.YtdfapkceanicoaaDoor
open Go.RowKit NumP

theorem u64_of_pos {n : Int} (h : 0 ≤ n) (hh : n ≤ 9223372036854775807) : IntKind.u64.wrap n = n.natAbs := by
  simp [IntKind.wrap, IntKind.signed, IntKind.bits]; omega
theorem u64_of_neg {n : Int} (h : n < 0) (hl : -9223372036854775808 ≤ n) : IntKind.u64.wrap (-(IntKind.u64.wrap n)) = n.natAbs := by
  simp [IntKind.wrap, IntKind.signed, IntKind.bits]; omega
end Go.Proofs.YtdfapkceanicoaaDoor

/- ONE DIGIT AFTER THE OTHER, AS A TEXT: 'string([]byte{b}) + out'. No function is spoken of. -/
namespace Go.Proofs.YtdfapkceanicoaaDoor
open Go.RowKit NumP

theorem digit_byte (q : Nat) : (u8v (UInt8.ofNat (48 + q % 10))) = .int .u8 (48 + (q : Int) % 10) := by
  unfold u8v; congr 1; simp only [UInt8.toNat_ofNat']; omega
theorem sFmt_step {q m : Nat} {l : List UInt8} (hq : 0 < q) (h : dec q ++ l = dec m) :
    (q / 10 = 0 → UInt8.ofNat (48 + q % 10) :: l = dec m) ∧ (0 < q / 10 → dec (q / 10) ++ UInt8.ofNat (48 + q % 10) :: l = dec m) := by
  by_cases hs : q < 10
  · rw [dec_small hs] at h
    rw [Nat.mod_eq_of_lt hs]
    exact ⟨fun _ => h, fun h' => by omega⟩
  · rw [dec_big (by omega), List.append_assoc] at h
    exact ⟨fun h' => by omega, fun _ => h⟩
def SF (m q : Nat) (l : List UInt8) : Prop := (q = 0 → l = dec m) ∧ (0 < q → dec q ++ l = dec m)

/-- 'string([]byte{b})' -/
theorem conv_one (wr : World) (b : UInt8) : (convert 22 9 (.slice (some ⟨wr.heap.size, 0, none⟩) 1 1)).run Tryd.prog (wr.alloc (.cells #[u8v b] 5)) = .ok (.string ⟨#[b]⟩) (wr.alloc (.cells #[u8v b] 5)) := by
  have h := run_convert_bytes_back (P := Tryd.prog) (wr.alloc (.cells #[u8v b] 5)) 22 9 5 ⟨wr.heap.size, 0, none⟩ 1 [b] Tryd.underlying22 Tryd.underlying5 Tryd.underlying9 (fun j hj => by
    have hj0 : j = 0 := by simpa using hj
    subst hj0
    simp [go_sem, u8v, Addr.add])
  exact h
theorem SF_step {q m : Nat} {l : List UInt8} (hm : m < 18446744073709551616) (hq : 0 < q) (h : SF m q l) : SF m (q / 10) (UInt8.ofNat (48 + q % 10) :: l) ∧ (UInt8.ofNat (48 + q % 10) :: l).length ≤ 20 := by
  have h' := sFmt_step hq (h.2 hq)
  refine ⟨⟨h'.1, h'.2⟩, ?_⟩
  have e := congrArg List.length (h.2 hq)
  have := dec_length m
  have := ndig_le20 hm
  have := dec_length q
  have := ndig_pos q
  simp only [List.length_append] at e
  simp only [List.length_cons]
  omega
theorem str_cons (b : UInt8) (l : List UInt8) : (ByteArray.mk #[b] ++ ByteArray.mk l.toArray) = ByteArray.mk (b :: l).toArray := ByteArray.mk_append_mk [b] l
theorem val_str {a b : ByteArray} (h : a = b) : Value.string a = Value.string b := by rw [h]

end Go.Proofs.YtdfapkceanicoaaDoor

/- CONTRACTS OF CHAPTER 1, SECOND PART: the functions that make a text. -/
namespace Go.Proofs.YtdfapkceanicoaaDoor
open Go.RowKit NumP

theorem drop_set_at {l : List UInt8} {j : Nat} {x : UInt8} (h : j < l.length) : (l.set j x).drop j = x :: l.drop (j + 1) := by
  rw [List.drop_eq_getElem_cons (by simpa using h), List.getElem_set_self, List.drop_set]
  simp
/-- the digits from place c - k on stand; the rest is to come -/
theorem fill_step {c k q m : Nat} {l : List UInt8} (hl : l.length = c) (hk : k < c) (h : pad (c - k) q ++ l.drop (c - k) = dec m) :
    (l.set (c - 1 - k) (UInt8.ofNat (48 + q % 10))).length = c ∧ pad (c - (k + 1)) (q / 10) ++ (l.set (c - 1 - k) (UInt8.ofNat (48 + q % 10))).drop (c - (k + 1)) = dec m := by
  refine ⟨by simpa using hl, ?_⟩
  rw [← h]
  have e1 : c - k = (c - (k + 1)) + 1 := by omega
  have e2 : c - 1 - k = c - (k + 1) := by omega
  rw [e1, pad, e2, drop_set_at (by omega), List.append_assoc]; rfl
theorem fill_done {c m q : Nat} {l : List UInt8} (h : pad (c - c) q ++ l.drop (c - c) = dec m) : l = dec m := by
  simpa [pad] using h
end Go.Proofs.YtdfapkceanicoaaDoor

/- CONTRACTS OF CHAPTER 1, THIRD PART: spec.FormatInt. -/
namespace Go.Proofs.YtdfapkceanicoaaDoor
open Go.RowKit NumP

theorem tdiv_neg (q : Nat) : (-(q : Int)).tdiv 10 = -((q / 10 : Nat) : Int) := by rw [Int.neg_tdiv]; rfl
theorem tmod_neg (q : Nat) : (-(q : Int)).tmod 10 = -((q % 10 : Nat) : Int) := by rw [Int.neg_tmod]; rfl
end Go.Proofs.YtdfapkceanicoaaDoor

/- CONTRACTS OF CHAPTER 1, FOURTH PART: the functions that read a text. -/
namespace Go.Proofs.YtdfapkceanicoaaDoor
open Go.RowKit NumP

/-- what a reader returns: the number and true; 0 and false where there is none -/
def tupI : Option Int → Value
  | none => .tuple #[.int .i64 0, .bool false]
  | some n => .tuple #[.int .i64 n, .bool true]
def tupN (o : Option Nat) : Value := tupI (o.map Int.ofNat)
theorem tupN_none {l : List UInt8} (h : rdL l = none) : tupN (rdL l) = .tuple #[.int .i64 0, .bool false] := by rw [h]; rfl
theorem tupN_some {l : List UInt8} {m : Nat} (h : rdL l = some m) : tupN (rdL l) = .tuple #[.int .i64 m, .bool true] := by rw [h]; rfl

theorem rdGo_dig {n : Nat} {c : UInt8} {r : List UInt8} (h1 : 48 ≤ c.toNat) (h2 : c.toNat ≤ 57) (h3 : n * 10 + (c.toNat - 48) ≤ 1000000000) : rdGo n (c :: r) = rdGo (n * 10 + (c.toNat - 48)) r := by
  rw [rdGo, if_pos ⟨h1, h2⟩, if_pos h3]
theorem rdGo_big {n : Nat} {c : UInt8} {r : List UInt8} (h3 : 1000000000 < n * 10 + (c.toNat - 48)) : rdGo n (c :: r) = none := by
  rw [rdGo]; split
  · rw [if_neg (by omega)]
  · rfl
theorem rdGo_bad {n : Nat} {c : UInt8} {r : List UInt8} (h : c.toNat < 48 ∨ 57 < c.toNat) : rdGo n (c :: r) = none := by
  rw [rdGo, if_neg (by omega)]
theorem rdL_of {l : List UInt8} {o : Option Nat} (h : l ≠ []) (e : rdGo 0 l = o) : rdL l = o := by unfold rdL; rw [if_neg h, e]
theorem end_none {l : List UInt8} (h : l ≠ []) (e : rdGo 0 l = none) : Value.tuple #[.int .i64 0, .bool false] = tupN (rdL l) := by rw [rdL_of h e]; rfl
theorem end_some {l : List UInt8} {m : Nat} (h : l ≠ []) (e : rdGo 0 l = some m) : Value.tuple #[.int .i64 m, .bool true] = tupN (rdL l) := by rw [rdL_of h e]; rfl

def unS (s : ByteArray) : ByteArray := ⟨(unsign s.data.toList).toArray⟩
theorem unS_data (s : ByteArray) : (unS s).data.toList = unsign s.data.toList := by simp [unS]
theorem unS_size (s : ByteArray) : (unS s).size ≤ s.size := by
  have e : (unS s).size = (unsign s.data.toList).length := by simp [unS, ByteArray.size]
  have e2 : s.size = s.data.toList.length := by simp
  rw [e, e2]
  cases s.data.toList with
  | nil => simp [unsign]
  | cons c r => simp only [unsign]; split <;> simp
theorem unS_sign {s : ByteArray} (h : 0 < s.size) (h' : s[0] = 45 ∨ s[0] = 43) : s.extract 1 s.size = unS s := by
  apply ByteArray.ext
  apply Array.toList_inj.1
  rw [unS_data, Lib.extract_data, data_cons s h, unsign, if_pos h']
  simp
  exact List.take_of_length_le (by simp)
theorem unS_plain {s : ByteArray} (h : 0 < s.size) (h' : ¬ (s[0] = 45 ∨ s[0] = 43)) : s = unS s := by
  apply ByteArray.ext
  apply Array.toList_inj.1
  rw [unS_data, data_cons s h, unsign, if_neg h']
theorem minus_of {s : ByteArray} (h : 0 < s.size) : minus s.data.toList = (s[0] == 45) := by rw [data_cons s h]; rfl
/-! the two readers at what stands behind the sign -/
theorem read_none {s : ByteArray} (h : rdL (unS s).data.toList = none) : Value.tuple #[.int .i64 0, .bool false] = tupI (readL s.data.toList) := by
  rw [unS_data] at h; unfold readL; rw [h]; rfl
theorem read_neg {s : ByteArray} {m : Nat} (h : rdL (unS s).data.toList = some m) (h0 : 0 < s.size) (h1 : s[0] = 45) : Value.tuple #[.int .i64 (-(m : Int)), .bool true] = tupI (readL s.data.toList) := by
  rw [unS_data] at h; unfold readL; rw [h, minus_of h0, h1]; rfl
theorem read_pos {s : ByteArray} {m : Nat} (h : rdL (unS s).data.toList = some m) (h0 : 0 < s.size) (h1 : s[0] ≠ 45) : Value.tuple #[.int .i64 (m : Int), .bool true] = tupI (readL s.data.toList) := by
  rw [unS_data] at h; unfold readL; rw [h, minus_of h0, beq_eq_false_iff_ne.2 h1]; rfl
theorem some_size {s : ByteArray} {m : Nat} (h : rdL (unS s).data.toList = some m) : 0 < s.size := by
  have := unS_size s
  have : (unS s).size ≠ 0 := by
    intro e
    have he : unS s = ⟨#[]⟩ := by apply ByteArray.ext; exact Array.eq_empty_of_size_eq_zero e
    rw [he] at h; simp [rdL] at h
  omega

end Go.Proofs.YtdfapkceanicoaaDoor

/- CONTRACTS OF CHAPTER 1, FIFTH PART: spec.ReadInt; ParseInt of both. -/
namespace Go.Proofs.YtdfapkceanicoaaDoor
open Go.RowKit NumP

theorem plain_data {s : ByteArray} (h : 0 < s.size) (h' : ¬ (s[0] = 45 ∨ s[0] = 43)) : unsign s.data.toList = s.data.toList := by
  rw [← unS_data, ← unS_plain h h']
theorem fmt_eq {n : Int} {s : ByteArray} (h : fmtL n = s.data.toList) : fmtS n = s := by
  apply ByteArray.ext; apply Array.toList_inj.1; simp [fmtS, h]
theorem fmt_ne {n : Int} {s : ByteArray} (h : fmtL n ≠ s.data.toList) : fmtS n ≠ s := by
  intro e; apply h; rw [← e]; simp [fmtS]
theorem fmt_neB {n : Int} {s : ByteArray} (h : fmtL n ≠ s.data.toList) : (!(fmtS n).toList == s.toList) = true := by
  rw [ByteArray.toList_eq, ByteArray.toList_eq]
  have : ((fmtS n).data.toList == s.data.toList) = false := beq_eq_false_iff_ne.2 (by simpa [fmtS] using h)
  rw [this]; rfl
theorem parse_ok {l : List UInt8} {n : Int} (h : readL l = some n) (hf : fmtL n = l) : Value.tuple #[.int .i64 n, .bool true] = tupI (parseL l) := by
  unfold parseL; rw [h]; simp only [Option.bind_some]; rw [if_pos hf]; rfl
theorem parse_fail {l : List UInt8} {n : Int} (h : readL l = some n) (hf : fmtL n ≠ l) : Value.tuple #[.int .i64 0, .bool false] = tupI (parseL l) := by
  unfold parseL; rw [h]; simp only [Option.bind_some]; rw [if_neg hf]; rfl
theorem parse_none {l : List UInt8} (h : readL l = none) : Value.tuple #[.int .i64 0, .bool false] = tupI (parseL l) := by
  unfold parseL; rw [h]; rfl
theorem str_none {s : ByteArray} (h : ¬ 0 < s.size) : s = ⟨#[]⟩ := by apply ByteArray.ext; exact Array.eq_empty_of_size_eq_zero (by show s.size = 0; omega)
theorem readL_neg {s : ByteArray} {m : Nat} (h : rdL (unS s).data.toList = some m) (h0 : 0 < s.size) (h1 : s[0] = 45) : readL s.data.toList = some (-(m : Int)) := by
  rw [unS_data] at h; unfold readL; rw [h, minus_of h0, h1]; rfl
theorem readL_pos {s : ByteArray} {m : Nat} (h : rdL s.data.toList = some m) (h0 : 0 < s.size) : s[0] ≠ 45 ∧ s[0] ≠ 43 ∧ readL s.data.toList = some (m : Int) := by
  have hd := data_cons s h0
  have hn : s[0] ≠ 45 ∧ s[0] ≠ 43 := by
    rw [hd] at h
    unfold rdL at h
    rw [if_neg (by simp), rdGo] at h
    split at h
    · rename_i hc
      constructor <;> intro e <;> rw [e] at hc <;> simp at hc
    · cases h
  refine ⟨hn.1, hn.2, ?_⟩
  unfold readL
  rw [plain_data h0 (by simp [hn.1, hn.2]), h, minus_of h0, beq_eq_false_iff_ne.2 hn.1]; rfl
theorem parse_bad {s : ByteArray} (h : rdL s.data.toList = none) (h0 : 0 < s.size) (h1 : s[0] ≠ 45) : Value.tuple #[.int .i64 0, .bool false] = tupI (parseL s.data.toList) := by
  by_cases h2 : s[0] = 43
  · cases hr : readL s.data.toList with
    | none => rw [← parse_none hr]
    | some n =>
      refine parse_fail hr ?_
      rw [data_cons s h0, h2]
      exact fmtL_plus n _
  · refine parse_none ?_
    unfold readL
    rw [plain_data h0 (by simp [h1, h2]), h]; rfl

end Go.Proofs.YtdfapkceanicoaaDoor
