/- ARGUMENTS OPENED: a list of ranges; what szRangeS says of it. -/
import Derived.Test.YtlgooejoohcmfaaOpen
import Derived.Test.YtlgooejoohcmfaaRng
set_option linter.unusedVariables false
set_option linter.unusedSimpArgs false
namespace Go.Proofs.Ytlgooejoohcmfaa
open Go.RowKit Go.ChangeShapes Go.WideShapes Go.Deep Go.Joins

/-- both ends are ints of 64 bits -/
def RgWf (x : Rg) : Prop := -9223372036854775808 ≤ x.lo ∧ x.lo ≤ 9223372036854775807 ∧ -9223372036854775808 ≤ x.hi ∧ x.hi ≤ 9223372036854775807
theorem wf_i64 {n : Int} (h : (Lit.int .i64 n).wf = true) : -9223372036854775808 ≤ n ∧ n ≤ 9223372036854775807 := by
  simp [Lit.wf, IntKind.min, IntKind.max, IntKind.signed, IntKind.bits] at h; omega
section
variable {H : Type} {en : TypeId × Value → H} {w : World} {base : Nat} {spare : Nat → Bool} {held : Bool}
set_option maxRecDepth 100000 in
theorem rng_of_cells {n : Nat} {cs : List Value} {y : DataW H × List MemPlace} (h : DataW.trod en Try.prog w base spare held n 124 cs = some y) : ∃ x : Rg, cs = x.enc ∧ RgWf x := by
  obtain ⟨y0, y1, m, _, hl, h0, h1⟩ := trod_struct2 Try.underlying124 h
  rw [show Try.prog.cellsOf 124 = 2 by kernel_rfl] at hl
  match cs, hl with
  | [c0, c1], _ =>
    rw [show Try.prog.cellsOf 3 = 1 by kernel_rfl] at h0 h1
    obtain ⟨k, hk, _, k1⟩ := DataW.trod_int Try.underlying3 h0
    obtain ⟨p, hp, _, p1⟩ := DataW.trod_int Try.underlying3 h1
    simp at hk hp
    subst hk hp
    have a := wf_i64 k1
    have b := wf_i64 p1
    exact ⟨⟨k, p⟩, rfl, a.1, a.2, b.1, b.2⟩
set_option maxRecDepth 100000 in
theorem rngs_open {fuel : Nat} {cs : List Value} {x : DataW H × List MemPlace} (h : DataW.trod en Try.prog w base spare held fuel 47 cs = some x) :
    ∃ (a : Option Addr) (len cap : Nat) (l : List Rg), cs = [.slice a len cap] ∧ HasG w (.slice a len cap) l ∧ ∀ x ∈ l, RgWf x :=
  open_rows Try.underlying47 (by kernel_rfl) (by omega) (fun _ _ _ h => rng_of_cells h) h
end
theorem szRngsX (v : Value) (l : List Rg) (left : Int) (w : World) (hv : HasG w v l) (h0 : 0 ≤ left) (h1 : left ≤ 1048576) :
    Calls Try.prog 67 #[v, .int .i64 left] w fun e w' => (∃ x : Int, e = .returned (.int .i64 x) ∧ (0 ≤ x → x = left - l.length)) ∧ w = w' := by
  refine (szRngs_any v l left w hv h0 h1).mono ?_
  rintro e w' ⟨he, hw⟩
  refine ⟨⟨_, he, ?_⟩, hw⟩
  intro h
  by_cases hl : left < l.length
  · rw [if_pos hl] at h; omega
  · rw [if_neg hl]
theorem amgm {a b : Nat} (h : a + b ≤ 1048576) : a * b ≤ 274877906944 := by
  have h1 : a * b ≤ a * (1048576 - a) := Nat.mul_le_mul_left a (by omega)
  refine Nat.le_trans h1 ?_
  rcases Nat.le_total a 524288 with h2 | h2
  · obtain ⟨d, hd⟩ : ∃ d, a + d = 524288 := ⟨524288 - a, by omega⟩
    have h3 := Nat.mul_self_sub_mul_self_eq 524288 d
    have e1 : a = 524288 - d := by omega
    have e2 : 1048576 - a = 524288 + d := by omega
    rw [e2, e1, Nat.mul_comm, ← h3]; omega
  · obtain ⟨d, hd⟩ : ∃ d, a = 524288 + d := ⟨a - 524288, by omega⟩
    have h3 := Nat.mul_self_sub_mul_self_eq 524288 d
    have e2 : 1048576 - a = 524288 - d := by omega
    rw [e2, hd, ← h3]; omega
theorem meetS_length (a b : List Rg) (ha : a.length ≤ 1048576) (hb : b.length ≤ 1048576) (hab : a.length * b.length ≤ 274877906944) : (meetS a b).length ≤ 274877906944 := by
  unfold meetS
  split
  · exact Nat.le_trans (normS_length _) (by omega)
  · split
    · exact Nat.le_trans (normS_length _) (by omega)
    · exact Nat.le_trans (normS_length _) (by rw [meets_length]; exact hab)
end Go.Proofs.Ytlgooejoohcmfaa
