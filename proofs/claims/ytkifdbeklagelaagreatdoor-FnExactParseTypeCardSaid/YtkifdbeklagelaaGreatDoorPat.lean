/- PATTERNS AS TREES IN MEMORY: laws.eqPat, eqPatS. -/
import Derived.Test.YtkifdbeklagelaaGreatDoorTree
import Derived.Test.YtkifdbeklagelaaGreatDoorDig
import Derived.Deep.RegionHeld3
set_option linter.unusedVariables false
set_option linter.unusedSimpArgs false
namespace Go.Proofs.YtkifdbeklagelaaGreatDoor
open Go.RowKit

/-- what a pattern says besides its kids -/
structure PatX where
  op : Int
  text : ByteArray
structure PatR where
  op : Int
  text : ByteArray
  kv : Value
def PatR.enc (r : PatR) : List Value := [.int .i64 r.op, .string r.text, r.kv]
def patK : Kd PatX where
  ρ := PatR
  enc := PatR.enc
  z := 3
  E := 124
  kv := PatR.kv
  hz := fun _ => rfl
  rd := fun _ r x => r.op = x.op ∧ r.text = x.text
  own := fun _ _ r x S => (r.op = x.op ∧ r.text = x.text) ∧ ∀ b, ¬ S b
  rd_below := fun h _ => h
  own_rd := fun h => h.1
  own_frame := fun h _ => h
  own_lt := fun h b hb => absurd hb (h.2 b)
  own_mono := fun h _ => h
abbrev Pat := Tr PatX
/-- at p lies the record r -/
def Pk (w : World) (p : Addr) (r : PatR) : Prop := w.cell? p = some (.int .i64 r.op) ∧ w.cell? ⟨p.block, p.off + 1, none⟩ = some (.string r.text) ∧ w.cell? ⟨p.block, p.off + 2, none⟩ = some r.kv
theorem Pk.below {w w' : World} {p : Addr} {r : PatR} (h : Pk w p r) (hb : Below w.heap.size w w') (hp : p.block < w.heap.size) : Pk w' p r :=
  ⟨by rw [hb.cell hp]; exact h.1, by rw [hb.cell (p := ⟨p.block, p.off + 1, none⟩) hp]; exact h.2.1, by rw [hb.cell (p := ⟨p.block, p.off + 2, none⟩) hp]; exact h.2.2⟩
theorem HasP.pk {w : World} {A : Option Addr} {R : List PatR} (h : ∀ i (h : i < R.length), ∃ a, A = some a ∧ a.block < w.heap.size ∧ ∀ j x, (R[i].enc)[j]? = some x → w.cell? ((a.add (i * 3)).add j) = some x) (i : Nat) (hi : i < R.length) :
    ∃ a, A = some a ∧ (a.add (i * 3)).block < w.heap.size ∧ Pk w (a.add (i * 3)) R[i] := by
  obtain ⟨a, ha, hb, hc⟩ := h i hi
  exact ⟨a, ha, by rw [addr_blk]; exact hb, hc 0 _ rfl, hc 1 _ rfl, hc 2 _ rfl⟩
theorem held_pats {w w1 w2 : World} {p q : Addr} {x y : PatR} (k : Below w1.heap.size w1 w2)
    (h : (w1.cell? p = some (.int .i64 x.op) ∧ w1.cell? ⟨p.block, p.off + 1, none⟩ = some (.string x.text) ∧ w1.cell? ⟨p.block, p.off + 2, none⟩ = some x.kv) ∧ (w1.cell? q = some (.int .i64 y.op) ∧ w1.cell? ⟨q.block, q.off + 1, none⟩ = some (.string y.text) ∧ w1.cell? ⟨q.block, q.off + 2, none⟩ = some y.kv) ∧ Below w.heap.size w w1)
    (hp : p.block < w.heap.size) (hq : q.block < w.heap.size) :
    (w2.cell? p = some (.int .i64 x.op) ∧ w2.cell? ⟨p.block, p.off + 1, none⟩ = some (.string x.text) ∧ w2.cell? ⟨p.block, p.off + 2, none⟩ = some x.kv) ∧ (w2.cell? q = some (.int .i64 y.op) ∧ w2.cell? ⟨q.block, q.off + 1, none⟩ = some (.string y.text) ∧ w2.cell? ⟨q.block, q.off + 2, none⟩ = some y.kv) ∧ Below w.heap.size w w2 :=
  ⟨Pk.below h.1 k (Nat.lt_of_lt_of_le hp h.2.2.size), Pk.below h.2.1 k (Nat.lt_of_lt_of_le hq h.2.2.size), below_step h.2.2 k⟩
def PatR.val (r : PatR) : Value := .agg #[.int .i64 r.op, .string r.text, r.kv]

end Go.Proofs.YtkifdbeklagelaaGreatDoor
