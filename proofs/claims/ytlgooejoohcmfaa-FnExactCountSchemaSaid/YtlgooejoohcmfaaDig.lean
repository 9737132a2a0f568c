/- ONE DIGIT AFTER THE OTHER, AS A TEXT: 'string([]byte{b}) + out'. No function is spoken of. -/
import Derived.Test.YtlgooejoohcmfaaBuf
import Derived.Test.YtlgooejoohcmfaaNumPlain
set_option linter.unusedVariables false
set_option linter.unusedSimpArgs false
namespace Go.Proofs.Ytlgooejoohcmfaa
open Go.RowKit NumP

theorem digit_byte (q : Nat) : (u8v (UInt8.ofNat (48 + q % 10))) = .int .u8 (48 + (q : Int) % 10) := by
  unfold u8v; congr 1; simp only [UInt8.toNat_ofNat']; omega
theorem sFmt_step {q m : Nat} {l : List UInt8} (hq : 0 < q) (h : dec q ++ l = dec m) :
    (q / 10 = 0 → UInt8.ofNat (48 + q % 10) :: l = dec m) ∧ (0 < q / 10 → dec (q / 10) ++ UInt8.ofNat (48 + q % 10) :: l = dec m) := by
  by_cases hs : q < 10
  · rw [dec_small hs] at h
    rw [Nat.mod_eq_of_lt hs]
    exact ⟨fun _ => h, fun h' => by omega⟩
  · rw [dec_big (by omega), List.append_assoc] at h
    exact ⟨fun h' => by omega, fun _ => h⟩
def SF (m q : Nat) (l : List UInt8) : Prop := (q = 0 → l = dec m) ∧ (0 < q → dec q ++ l = dec m)

/-- 'string([]byte{b})' -/
theorem conv_one (wr : World) (b : UInt8) : (convert 93 9 (.slice (some ⟨wr.heap.size, 0, none⟩) 1 1)).run Try.prog (wr.alloc (.cells #[u8v b] 5)) = .ok (.string ⟨#[b]⟩) (wr.alloc (.cells #[u8v b] 5)) := by
  have h := run_convert_bytes_back (P := Try.prog) (wr.alloc (.cells #[u8v b] 5)) 93 9 5 ⟨wr.heap.size, 0, none⟩ 1 [b] Try.underlying93 Try.underlying5 Try.underlying9 (fun j hj => by
    have hj0 : j = 0 := by simpa using hj
    subst hj0
    simp [go_sem, u8v, Addr.add])
  exact h
theorem SF_step {q m : Nat} {l : List UInt8} (hm : m < 18446744073709551616) (hq : 0 < q) (h : SF m q l) : SF m (q / 10) (UInt8.ofNat (48 + q % 10) :: l) ∧ (UInt8.ofNat (48 + q % 10) :: l).length ≤ 20 := by
  have h' := sFmt_step hq (h.2 hq)
  refine ⟨⟨h'.1, h'.2⟩, ?_⟩
  have e := congrArg List.length (h.2 hq)
  have := dec_length m
  have := ndig_le20 hm
  have := dec_length q
  have := ndig_pos q
  simp only [List.length_append] at e
  simp only [List.length_cons]
  omega
theorem str_cons (b : UInt8) (l : List UInt8) : (ByteArray.mk #[b] ++ ByteArray.mk l.toArray) = ByteArray.mk (b :: l).toArray := ByteArray.mk_append_mk [b] l
theorem val_str {a b : ByteArray} (h : a = b) : Value.string a = Value.string b := by rw [h]

end Go.Proofs.Ytlgooejoohcmfaa
