/- MERGED for a claim: Open RngOpen. -/
import Derived.Test.YtkifdbeklagelaaGreatDoorRec
import Derived.Deep.Slices
import Derived.Deep.Strs
import Derived.Lib.SmallJoins
import Derived.Test.YtkifdbeklagelaaGreatDoorRng
set_option linter.unusedVariables false
set_option linter.unusedSimpArgs false
/- ARGUMENTS OPENED: a slice of records, whatever they are. No function is spoken of. -/
namespace Go.Proofs.YtkifdbeklagelaaGreatDoor
open Go.RowKit Go.ChangeShapes Go.WideShapes Go.Deep

theorem block_of_cell {w : World} {p : Addr} {v : Value} (h : w.cell? p = some v) : p.block < w.heap.size := by
  rcases Nat.lt_or_ge p.block w.heap.size with hlt | hge
  · exact hlt
  · unfold World.cell? at h; rw [Array.getElem?_eq_none hge] at h; cases h
section
variable {H : Type} {en : TypeId × Value → H} {P : Program} {w : World} {base : Nat} {spare : Nat → Bool} {held : Bool}
theorem open_rows {α : Type} {enc : α → List Value} {z : Nat} {good : α → Prop} {t e : TypeId} {fuel : Nat} {cs : List Value} {x : DataW H × List MemPlace}
    (ht : P.underlying t = some (.slice e)) (hC : P.cellsOf e = z) (h0 : 0 < z)
    (hel : ∀ n cs' y, DataW.trod en P w base spare held n e cs' = some y → ∃ x : α, cs' = enc x ∧ good x)
    (h : DataW.trod en P w base spare held fuel t cs = some x) : ∃ (A : Option Addr) (len cap : Nat) (l : List α), cs = [.slice A len cap] ∧ HasR enc z w (.slice A len cap) l ∧ ∀ x ∈ l, good x := by
  rcases open_slice ht h with ⟨h1, _⟩ | ⟨a, len, cap, m, n, D, Pl, hcs, _, hl, hm, hmm, _, hi⟩
  · exact ⟨none, 0, 0, [], h1, hasR_nil w, by simp⟩
  · have hlm : len ≤ m := by rw [hmm]; split <;> omega
    have he : ∀ i, i < len → ∃ x : α, (∀ j y, (enc x)[j]? = some y → w.cell? ((a.add (i * z)).add j) = some y) ∧ good x ∧ a.block < w.heap.size := fun i hil => by
      obtain ⟨cs', hc, ht'⟩ := hi i (by omega)
      obtain ⟨x, rfl, hg⟩ := hel n cs' _ ht'
      rw [hC] at hc
      obtain ⟨_, hcl, hat⟩ := World.cells?_some hc
      refine ⟨x, fun j y hy => ?_, hg, ?_⟩
      · have hj : j < z := by rw [← hcl]; exact (List.getElem?_eq_some_iff.1 hy).1
        rw [hat j hj, hy]
      · have h2 := hat 0 h0
        rw [List.getElem?_eq_getElem (by omega)] at h2
        have := block_of_cell h2
        rwa [addr_blk, addr_blk] at this
    have hls : ∃ l : List α, l.length = len ∧ ∀ i (h : i < l.length), (∀ j y, (enc l[i])[j]? = some y → w.cell? ((a.add (i * z)).add j) = some y) ∧ good l[i] ∧ a.block < w.heap.size := by
      refine ⟨(List.range len).attach.map fun i => Classical.choose (he i.1 (List.mem_range.1 i.2)), by simp, fun i h => ?_⟩
      simp only [List.getElem_map, List.getElem_attach, List.getElem_range]
      exact Classical.choose_spec (he i (by simpa using h))
    obtain ⟨l, hll, hp⟩ := hls
    refine ⟨some a, len, cap, l, hcs, ⟨some a, cap, by rw [hll], by unfold maxLen at hm; omega, fun i h => ⟨a, rfl, (hp i h).2.2, (hp i h).1⟩⟩, fun x hx => ?_⟩
    obtain ⟨i, hi', rfl⟩ := List.getElem_of_mem hx
    exact (hp i hi').2.1
end
end Go.Proofs.YtkifdbeklagelaaGreatDoor

/- ARGUMENTS OPENED: a list of ranges; what szRangeS says of it. -/
namespace Go.Proofs.YtkifdbeklagelaaGreatDoor
open Go.RowKit Go.ChangeShapes Go.WideShapes Go.Deep Go.Joins

/-- both ends are ints of 64 bits -/
def RgWf (x : Rg) : Prop := -9223372036854775808 ≤ x.lo ∧ x.lo ≤ 9223372036854775807 ∧ -9223372036854775808 ≤ x.hi ∧ x.hi ≤ 9223372036854775807
theorem wf_i64 {n : Int} (h : (Lit.int .i64 n).wf = true) : -9223372036854775808 ≤ n ∧ n ≤ 9223372036854775807 := by
  simp [Lit.wf, IntKind.min, IntKind.max, IntKind.signed, IntKind.bits] at h; omega
section
variable {H : Type} {en : TypeId × Value → H} {w : World} {base : Nat} {spare : Nat → Bool} {held : Bool}
set_option maxRecDepth 100000 in
theorem rng_of_cells {n : Nat} {cs : List Value} {y : DataW H × List MemPlace} (h : DataW.trod en Tryz.prog w base spare held n 86 cs = some y) : ∃ x : Rg, cs = x.enc ∧ RgWf x := by
  obtain ⟨y0, y1, m, _, hl, h0, h1⟩ := trod_struct2 Tryz.underlying86 h
  rw [show Tryz.prog.cellsOf 86 = 2 by kernel_rfl] at hl
  match cs, hl with
  | [c0, c1], _ =>
    rw [show Tryz.prog.cellsOf 3 = 1 by kernel_rfl] at h0 h1
    obtain ⟨k, hk, _, k1⟩ := DataW.trod_int Tryz.underlying3 h0
    obtain ⟨p, hp, _, p1⟩ := DataW.trod_int Tryz.underlying3 h1
    simp at hk hp
    subst hk hp
    have a := wf_i64 k1
    have b := wf_i64 p1
    exact ⟨⟨k, p⟩, rfl, a.1, a.2, b.1, b.2⟩
set_option maxRecDepth 100000 in
theorem rngs_open {fuel : Nat} {cs : List Value} {x : DataW H × List MemPlace} (h : DataW.trod en Tryz.prog w base spare held fuel 22 cs = some x) :
    ∃ (a : Option Addr) (len cap : Nat) (l : List Rg), cs = [.slice a len cap] ∧ HasG w (.slice a len cap) l ∧ ∀ x ∈ l, RgWf x :=
  open_rows Tryz.underlying22 (by kernel_rfl) (by omega) (fun _ _ _ h => rng_of_cells h) h
end
theorem szRngsX (v : Value) (l : List Rg) (left : Int) (w : World) (hv : HasG w v l) (h0 : 0 ≤ left) (h1 : left ≤ 1048576) :
    Calls Tryz.prog 20 #[v, .int .i64 left] w fun e w' => (∃ x : Int, e = .returned (.int .i64 x) ∧ (0 ≤ x → x = left - l.length)) ∧ w = w' := by
  refine (szRngs_any v l left w hv h0 h1).mono ?_
  rintro e w' ⟨he, hw⟩
  refine ⟨⟨_, he, ?_⟩, hw⟩
  intro h
  by_cases hl : left < l.length
  · rw [if_pos hl] at h; omega
  · rw [if_neg hl]
theorem amgm {a b : Nat} (h : a + b ≤ 1048576) : a * b ≤ 274877906944 := by
  have h1 : a * b ≤ a * (1048576 - a) := Nat.mul_le_mul_left a (by omega)
  refine Nat.le_trans h1 ?_
  rcases Nat.le_total a 524288 with h2 | h2
  · obtain ⟨d, hd⟩ : ∃ d, a + d = 524288 := ⟨524288 - a, by omega⟩
    have h3 := Nat.mul_self_sub_mul_self_eq 524288 d
    have e1 : a = 524288 - d := by omega
    have e2 : 1048576 - a = 524288 + d := by omega
    rw [e2, e1, Nat.mul_comm, ← h3]; omega
  · obtain ⟨d, hd⟩ : ∃ d, a = 524288 + d := ⟨a - 524288, by omega⟩
    have h3 := Nat.mul_self_sub_mul_self_eq 524288 d
    have e2 : 1048576 - a = 524288 - d := by omega
    rw [e2, hd, ← h3]; omega
theorem meetS_length (a b : List Rg) (ha : a.length ≤ 1048576) (hb : b.length ≤ 1048576) (hab : a.length * b.length ≤ 274877906944) : (meetS a b).length ≤ 274877906944 := by
  unfold meetS
  split
  · exact Nat.le_trans (normS_length _) (by omega)
  · split
    · exact Nat.le_trans (normS_length _) (by omega)
    · exact Nat.le_trans (normS_length _) (by rw [meets_length]; exact hab)
end Go.Proofs.YtkifdbeklagelaaGreatDoor
