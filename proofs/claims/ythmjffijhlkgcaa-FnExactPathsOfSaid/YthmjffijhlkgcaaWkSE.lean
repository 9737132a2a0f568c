/- CHAPTER 8, 9, impl: slices.Backward of expressions, as an iterator that turns nothing. PRINTED by tools/gen_wkE.py. -/
import Derived.Test.YthmjffijhlkgcaaWkS
import Derived.Test.YthmjffijhlkgcaaExA
import Derived.Shelf.Abstract
import Derived.Shelf.RegionOpen
import Derived.WalkKit
import Derived.OwnWalkIn
import Derived.TacticsInMore
import Derived.LoopNIn
import Derived.LoopIn
import Derived.Maps.OwnIn
import Derived.Maps.AppendAt
set_option linter.unusedVariables false
set_option linter.unusedSimpArgs false
namespace Go.Proofs.Ythmjffijhlkgcaa
open Go.RowKit Go.Shelf
attribute [local go_sem] Oper.semAt_some
set_option maxRecDepth 100000

/-- at p lie the cells of r -/
def NlE (w : World) (p : Addr) (r : ExR) : Prop := ∀ j v, r.enc[j]? = some v → w.cell? (p.add j) = some v
theorem NlE.at {w w' : World} {p : Addr} {r : ExR} (h : NlE w p r) (hb : w'.heap[p.block]? = w.heap[p.block]?) : NlE w' p r := fun j v hv => by
  rw [World.cell?_of_block (w := w) (by rw [addr_blk]; exact hb)]; exact h j v hv
theorem NlE.load {w : World} {p : Addr} {r : ExR} (h : NlE w p r) {ty : TypeId} {d : TypeDesc} (hu : Try.prog.underlying ty = some d) (hd : d.isRow = true) (hi : (Try.prog.info? ty).map (·.size) = some 7) : (Instr.loadAt ty (.pointer (some p))).run Try.prog w = .ok r.val w := run_loadAt_at w p ty r.enc d h hu hd hi
/-- the numbers and nodes in the order in which slices.Backward tells them -/
def downSE (R : Nat → ExR) (len : Nat) : List (Array Value) := ((List.range len).reverse).map fun (j : Nat) => #[.int .i64 (j : Int), (R j).val]
theorem downS_lengthE (R : Nat → ExR) (len : Nat) : (downSE R len).length = len := by simp [downSE]
theorem downS_atE (R : Nat → ExR) (len j : Nat) (hj : j < len) (h : len - (j + 1) < (downSE R len).length) : (downSE R len)[len - (j + 1)] = #[.int .i64 (j : Int), (R j).val] := by
  have e : len - 1 - (len - (j + 1)) = j := by omega
  simp only [downSE, List.getElem_map, List.getElem_reverse, List.getElem_range, List.length_range, e]
theorem downS_getE (R : Nat → ExR) (len i : Nat) (hi : i < (downSE R len).length) : (downSE R len)[i] = #[.int .i64 ((len - (i + 1) : Nat) : Int), (R (len - (i + 1))).val] := by
  have e : len - 1 - i = len - (i + 1) := by omega
  simp only [downSE, List.getElem_map, List.getElem_reverse, List.getElem_range, List.length_range, e]
set_option maxHeartbeats 2000000 in
theorem backS_seqE (F : Fence) (n : Nat) (hF : F.fn 30) (hro : F.round = none) (hn : 1 ≤ n) (Bs n₀ len cap : Nat) (A : Option Addr) (R : Nat → ExR) (hlen : (len : Int) ≤ 9223372036854775807) (w : World) (hn₀ : n₀ ≤ w.heap.size)
    (hBs : w.heap[Bs]? = some (.cells #[.slice A len cap] 34 (0, 0))) (hc : ∀ j, j < len → ∃ a, A = some a ∧ a.block < n₀ ∧ NlE w (a.add (j * 7)) (R j)) :
    SeqL F n Try.prog 30 #[.pointer (some ⟨Bs, 0, none⟩)] (downSE R len) (fun b => b < n₀ ∨ b = Bs) w := by
  intro l J Jx M0 W hW _ _ hM0 hY h0
  have hBlt : Bs < w.heap.size := (Array.getElem?_eq_some_iff.1 hBs).1
  have hWs := hW.size
  have hBW : W.heap[Bs]? = some (.cells #[.slice A len cap] 34 (0, 0)) := (hW.block Bs hBlt).trans hBs
  have hZ : ∀ b, (b < n₀ ∨ b = Bs) → b < W.heap.size := fun b hb => by omega
  have hc' : ∀ j, j < len → ∃ a, A = some a ∧ a.block < n₀ ∧ NlE W (a.add (j * 7)) (R j) := fun j hj => by
    obtain ⟨a, h1, h2, h3⟩ := hc j hj
    exact ⟨a, h1, h2, h3.at (hW.block _ (by rw [addr_blk]; omega))⟩
  refine callsIn_of_wp Try.func30 rfl hF ?_ hro
  simp only [Try.ntmps30, List.size_toArray, List.length_cons, List.length_nil, Nat.reduceAdd, Nat.reduceSub, Array.replicate_succ, Array.replicate_zero, List.push_toArray, List.append_toArray, List.nil_append, List.cons_append]
  have hBc := cell_of_one hBW
  have HBW := Lib.hid hBW
  have HC := Lib.hid hc'
  have HM0 := Lib.hid hM0
  have HZ := Lib.hid hZ
  have HY := Lib.hid hY
  clear hc hc' hW hBs hBW hM0 hZ hY hBlt
  gi_wp2
  gi_loopw [3] (fun i wr => ∃ (k : Nat) (M : Nat → Prop), k ≤ len ∧ i = .int .i64 ((k : Int) - 1) ∧ Hid (J (len - k) M wr) ∧ Hid (∀ b, M b → b < wr.heap.size ∧ ¬ (b < n₀ ∨ b = Bs)) ∧ Hid (KeepZ (fun b => b < n₀ ∨ b = Bs) W wr))
    (fun i _ => (intOf i + 1).toNat)
  case atStart => exact ⟨len, M0, Nat.le_refl _, rfl, Lib.hid (by rw [Nat.sub_self]; exact h0), HM0, Lib.hid (KeepZ.refl _ _)⟩
  case round =>
    obtain ⟨k, M, hk, rfl, HJ, HM, HK⟩ := hrel
    have hBs' : wr.cell? ⟨Bs, 0, none⟩ = some (.slice A len cap) := cell_of_one ((HK.out.block Bs (HZ.out Bs (.inr rfl)) (.inr rfl)).trans HBW.out)
    cases k with
    | zero =>
      gi_wp2
      go_end0
      exact ⟨⟨_, rfl⟩, .inl ⟨M, by rw [downS_lengthE]; exact HJ.out⟩⟩
    | succ j =>
      have e : ((j + 1 : Nat) : Int) - 1 = j := by omega
      rw [e]
      have hj : j < len := hk
      obtain ⟨a, rfl, hab, hpk⟩ := HC.out j hj
      have hpk' : NlE wr (a.add (j * 7)) (R j) := hpk.at (HK.out.block _ (by rw [addr_blk]; exact HZ.out _ (.inl hab)) (.inl (by rw [addr_blk]; exact hab)))
      have HL := Lib.hid hpk'
      have hi : len - (j + 1) < (downSE R len).length := by rw [downS_lengthE]; omega
      obtain ⟨fn, tmps, assign, body, hy, hR⟩ := HY.out (len - (j + 1)) hi M wr HJ.out (fun b hb => (HM.out b hb).1)
      rw [downS_atE R len j hj hi] at hy
      have HR := Lib.hid hR
      obtain ⟨rv, hrv⟩ : ∃ rv, rv = (R j).val := ⟨_, rfl⟩
      have hload := HL.out.load (ty := 36) Try.underlying36 (by rfl) (by kernel_rfl)
      rw [← hrv] at hload hy
      clear hpk hpk' hR hrv
      gi_wp2_with (refine wpListIn_load_at rfl 36 _ rfl (a.add (j * 7)) (by first | rfl | (go_simp; done)) rv hload ?_)
      refine HR.out.mono ?_
      rintro e W3 ⟨M', hst, (⟨rfl, hJ3⟩ | ⟨rfl, hJx3⟩)⟩
      · gi_wp2
        go_roundw
        case rel => exact ⟨j, M', by omega, by go_num, Lib.hid (by rw [show len - j = len - (j + 1) + 1 by omega]; exact hJ3), Lib.hid (stepM_lt HM.out (fun b hb => Nat.lt_of_lt_of_le (HZ.out b hb) HK.out.size) hst), Lib.hid (HK.out.step (fun b hb => (HM.out b hb).2) hst)⟩
        case measure => first | (simp [intOf]; done) | (simp [intOf]; omega)
      · gi_wp2
        refine bodyPost_ret (results_none rfl _ _ _) rfl ?_
        exact ⟨⟨_, rfl⟩, .inr ⟨_, _, hJx3⟩⟩
end Go.Proofs.Ythmjffijhlkgcaa
