/- CHAPTER 5, FnPatterns: what the answers have to do with each other. PRINTED by tools/gen_fnpat.py. -/
import Derived.Test.YtnpgeneahjlkpaaDrawP
import Derived.Test.YtnpgeneahjlkpaaMatH
import Derived.Test.YtnpgeneahjlkpaaMacO
set_option linter.unusedVariables false
set_option linter.unusedSimpArgs false
namespace Go.Proofs.Ytnpgeneahjlkpaa
open Go.RowKit Mac

theorem tru_text {p s : ByteArray} : textOfB p s = true ↔ TextOf p s := @decide_eq_true_iff _ (Classical.propDecidable _)
theorem add_add' (a : Addr) (k j : Nat) : (a.add k).add j = a.add (k + j) := by
  unfold Addr.add
  split
  · rename_i h; split <;> simp_all
  · rename_i h; split <;> simp_all [Nat.add_assoc]
theorem src_half {w : World} {A : Option Addr} {n : Nat} (h : Src w A n) (k c : Nat) (hk : k ≤ n) (hc : n ≤ c) (B : Option Addr) (hB : ∀ a, A = some a → B = (if c = k then some a else some (a.add k))) : Src w B (n - k) := by
  refine ⟨by have := h.1; omega, fun j hj => ?_⟩
  obtain ⟨a, x, h1, h2, h3, h4, h5⟩ := h.2 (k + j) (by omega)
  refine ⟨a.add k, x, ?_, by rw [add_block]; exact h2, h3, h4, by rw [add_add']; exact h5⟩
  rw [hB a h1, if_neg (by omega)]
def isP (p : ByteArray) : Bool := (patS p.data.toList).isSome
structure PF (p s q t : ByteArray) (ip iq a b io oS aq ir rS is sN sSS tS sST : Bool) : Prop where
  ip : ip = isP p
  iq : iq = isP q
  a : a = textOfB p s
  b : b = textOfB q t
  io : io = isP (⟨#[40]⟩ ++ p ++ ⟨#[41, 124, 40]⟩ ++ q ++ ⟨#[41]⟩)
  oS : oS = textOfB (⟨#[40]⟩ ++ p ++ ⟨#[41, 124, 40]⟩ ++ q ++ ⟨#[41]⟩) s
  aq : aq = textOfB q s
  ir : ir = isP (⟨#[40]⟩ ++ p ++ ⟨#[41, 40]⟩ ++ q ++ ⟨#[41]⟩)
  rS : rS = textOfB (⟨#[40]⟩ ++ p ++ ⟨#[41, 40]⟩ ++ q ++ ⟨#[41]⟩) (s ++ t)
  is : is = isP (⟨#[40]⟩ ++ p ++ ⟨#[41, 42]⟩)
  sN : sN = textOfB (⟨#[40]⟩ ++ p ++ ⟨#[41, 42]⟩) ⟨#[]⟩
  sSS : sSS = textOfB (⟨#[40]⟩ ++ p ++ ⟨#[41, 42]⟩) (s ++ s)
  tS : tS = textOfB (⟨#[40]⟩ ++ p ++ ⟨#[41, 42]⟩) t
  sST : sST = textOfB (⟨#[40]⟩ ++ p ++ ⟨#[41, 42]⟩) (s ++ t)
section
variable {p s q t : ByteArray} {ip iq a b io oS aq ir rS is sN sSS tS sST : Bool}
theorem orLx (p q : ByteArray) : (⟨#[40]⟩ ++ p ++ ⟨#[41, 124, 40]⟩ ++ q ++ ⟨#[41]⟩ : ByteArray).data.toList = 40 :: (p.data.toList ++ 41 :: 124 :: 40 :: (q.data.toList ++ [41])) := by simp [ByteArray.data_append]
theorem rowLx (p q : ByteArray) : (⟨#[40]⟩ ++ p ++ ⟨#[41, 40]⟩ ++ q ++ ⟨#[41]⟩ : ByteArray).data.toList = 40 :: (p.data.toList ++ 41 :: 40 :: (q.data.toList ++ [41])) := by simp [ByteArray.data_append]
theorem starLx (p : ByteArray) : (⟨#[40]⟩ ++ p ++ ⟨#[41, 42]⟩ : ByteArray).data.toList = 40 :: (p.data.toList ++ [41, 42]) := by simp [ByteArray.data_append]
theorem catLx (s t : ByteArray) : (s ++ t).data.toList = s.data.toList ++ t.data.toList := by simp [ByteArray.data_append]
theorem orSz (p q : ByteArray) : (⟨#[40]⟩ ++ p ++ ⟨#[41, 124, 40]⟩ ++ q ++ ⟨#[41]⟩ : ByteArray).size ≤ p.size + q.size + 5 := by
  rw [ByteArray.size_append, ByteArray.size_append, ByteArray.size_append, ByteArray.size_append, show (⟨#[40]⟩ : ByteArray).size = 1 from rfl, show (⟨#[41, 124, 40]⟩ : ByteArray).size = 3 from rfl, show (⟨#[41]⟩ : ByteArray).size = 1 from rfl]; omega
theorem rowSz (p q : ByteArray) : (⟨#[40]⟩ ++ p ++ ⟨#[41, 40]⟩ ++ q ++ ⟨#[41]⟩ : ByteArray).size ≤ p.size + q.size + 4 := by
  rw [ByteArray.size_append, ByteArray.size_append, ByteArray.size_append, ByteArray.size_append, show (⟨#[40]⟩ : ByteArray).size = 1 from rfl, show (⟨#[41, 40]⟩ : ByteArray).size = 2 from rfl, show (⟨#[41]⟩ : ByteArray).size = 1 from rfl]; omega
theorem starSz (p : ByteArray) : (⟨#[40]⟩ ++ p ++ ⟨#[41, 42]⟩ : ByteArray).size ≤ p.size + 3 := by
  rw [ByteArray.size_append, ByteArray.size_append, show (⟨#[40]⟩ : ByteArray).size = 1 from rfl, show (⟨#[41, 42]⟩ : ByteArray).size = 2 from rfl]; omega
theorem PF.noP (h : PF p s q t ip iq a b io oS aq ir rS is sN sSS tS sST) (h1 : ip = false) : a = false := by
  cases ha : a
  · rfl
  · have := text_pat (tru_text.1 (h.a.symm.trans ha)); rw [h.ip] at h1; unfold isP at h1; rw [h1] at this; cases this
theorem PF.noQ (h : PF p s q t ip iq a b io oS aq ir rS is sN sSS tS sST) (h1 : iq = false) : b = false := by
  cases ha : b
  · rfl
  · have := text_pat (tru_text.1 (h.b.symm.trans ha)); rw [h.iq] at h1; unfold isP at h1; rw [h1] at this; cases this
theorem PF.or (h : PF p s q t ip iq a b io oS aq ir rS is sN sSS tS sST) (h1 : ip = true) (h2 : iq = true) (h3 : io = true) : oS = (a || aq) := by
  rw [Bool.eq_iff_iff, h.oS, tru_text, text_or (orLx p q) (h.ip.symm.trans h1) (h.iq.symm.trans h2) (h.io.symm.trans h3), h.a, h.aq, Bool.or_eq_true, tru_text, tru_text]
theorem PF.row (h : PF p s q t ip iq a b io oS aq ir rS is sN sSS tS sST) (h3 : ir = true) (h4 : a = true) (h5 : b = true) : rS = true := by
  rw [h.rS, tru_text]; exact text_row (rowLx p q) (h.ir.symm.trans h3) (catLx s t) (tru_text.1 (h.a.symm.trans h4)) (tru_text.1 (h.b.symm.trans h5))
theorem PF.star0 (h : PF p s q t ip iq a b io oS aq ir rS is sN sSS tS sST) (h1 : ip = true) (h3 : is = true) : sN = true := by
  rw [h.sN, tru_text]; exact text_star_nil (starLx p) (h.ip.symm.trans h1) (h.is.symm.trans h3) rfl
theorem PF.star2 (h : PF p s q t ip iq a b io oS aq ir rS is sN sSS tS sST) (h3 : is = true) (h4 : a = true) : sSS = true := by
  rw [h.sSS, tru_text]; exact text_star_two (starLx p) (h.is.symm.trans h3) (catLx s s) (tru_text.1 (h.a.symm.trans h4))
theorem PF.star1 (h : PF p s q t ip iq a b io oS aq ir rS is sN sSS tS sST) (h3 : is = true) (h4 : a = true) (h5 : tS = true) : sST = true := by
  rw [h.sST, tru_text]; exact text_star_one (starLx p) (h.is.symm.trans h3) (catLx s t) (tru_text.1 (h.a.symm.trans h4)) (tru_text.1 (h.tS.symm.trans h5))
theorem PF.exists (p s q t : ByteArray) : ∃ ip iq a b io oS aq ir rS is sN sSS tS sST, PF p s q t ip iq a b io oS aq ir rS is sN sSS tS sST := ⟨_, _, _, _, _, _, _, _, _, _, _, _, _, _, ⟨rfl, rfl, rfl, rfl, rfl, rfl, rfl, rfl, rfl, rfl, rfl, rfl, rfl, rfl⟩⟩
end
theorem isI_any (p : ByteArray) (b : Bool) (hb : b = isP p) (hp : p.size ≤ maxLen) (w : World) : Calls Try.prog 32 #[.string p] w fun e w' => e = .returned (.bool b) ∧ Below w.heap.size w w' := by rw [hb]; exact iIs_any p hp w
theorem isS_any (p : ByteArray) (b : Bool) (hb : b = isP p) (hp : p.size ≤ maxLen) (w : World) : Calls Try.prog 33 #[.string p] w fun e w' => e = .returned (.bool b) ∧ Below w.heap.size w w' := by rw [hb]; exact sIsPat_any (fun n => (salt_any n).2.2) p hp w
theorem mtI_any (p s : ByteArray) (b : Bool) (hb : b = textOfB p s) (hp : p.size ≤ maxLen) (hs : s.size ≤ 4611686018427387904) (w : World) : Calls Try.prog 31 #[.string p, .string s] w fun e w' => e = .returned (.bool b) ∧ Below w.heap.size w w' := by rw [hb]; exact iMText_any p s hp hs w
end Go.Proofs.Ytnpgeneahjlkpaa
