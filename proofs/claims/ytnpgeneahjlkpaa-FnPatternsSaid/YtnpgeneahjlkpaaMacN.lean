/- MERGED for a claim: MacF MacG MacH MacI MacJ MacK MacL MacM MacN. -/
import Derived.Test.YtnpgeneahjlkpaaMacE
import Derived.Test.YtnpgeneahjlkpaaShelf
import Derived.Laws.EntriesVeiled
import Derived.RangeFuncBox
import Derived.Shelf.RegionOpen
import Derived.OwnWalkIn
import Derived.TacticsInMore
import Derived.LoopNIn
import Derived.LoopIn
import Derived.Deep.LoopGhost
set_option linter.unusedVariables false
set_option linter.unusedSimpArgs false
/- CHAPTER 5, impl: the matching machine's closures: a wait, a take, the makers of waits and places (a region's moves are printed by tools/genreg.py). -/
namespace Go.Proofs.Ytnpgeneahjlkpaa
open Go.RowKit Mac

section
variable {X : Cx} {K K' : Kn} {vr vw : Value} {cs : List Nat} {w w' : World} {S : Mc}
def WaitP (X : Cx) (K : Kn) (vr : Value) (cs : List Nat) (S : Mc) (i c : Nat) (e : Ending) (w' : World) : Prop := e = .returned (.tuple #[]) ∧ ∃ vw', Rep X K vr vw' (cs ++ [c]) w' { S with waiting := S.waiting ++ [i] }
set_option maxRecDepth 100000 in
set_option maxHeartbeats 2000000 in
theorem wait_any (h : Rep X K vr vw cs w S) {i c : Nat} {p : Pl} (hp : S.pl[i]? = some p) (k5 : K c = some (bx (ptr X.m) tM)) (k6 : K (c + 3) = some (bx (takeV c) tG)) (hk : TakeK X K S.pl p c) (hn : S.waiting.length + 1 ≤ 2147483648) : Calls Try.prog 142 #[ptr c, ptr (c + 3)] w (WaitP X K vr cs S i c) := by
  obtain ⟨i0, hi, hz0, hz1, hz2⟩ := info_parts infoG
  have H1 := Lib.hid h
  have HK5 := Lib.hid k5
  have HK6 := Lib.hid k6
  have HTK := Lib.hid hk
  have HP := Lib.hid hp
  have HN : Hid (cs.length + 1 ≤ 2147483648) := Lib.hid (by rw [h.cl]; exact hn)
  have e5 := cell_of_one (h.hk _ _ k5)
  have e6 := cell_of_one (h.hk _ _ k6)
  obtain ⟨⟨_, _, n2⟩, fn⟩ := h.cells
  have fn2 := fn 2
  have hmlt := h.mlt
  have hq5 : c < w.heap.size := blk_lt (h.hk _ _ k5)
  have hq6 : c + 3 < w.heap.size := blk_lt (h.hk _ _ k6)
  have hmp5 : X.m ≠ c := fun e => by have := HK5.out; rw [← e, H1.out.dis.km] at this; cases this
  have hmp6 : X.m ≠ c + 3 := fun e => by have := HK6.out; rw [← e, H1.out.dis.km] at this; cases this
  clear h k5 k6 hk hp hn fn
  go_enter Try.func142, Try.ntmps142
  go_wp2
  refine wp_region_held_drew (S := fun w' => w'.cell? ⟨c, 0, none⟩ = some (ptr X.m) ∧ w'.cell? ⟨c + 3, 0, none⟩ = some (takeV c)) (by kernel_rfl) ⟨e5, e6⟩ (fun hHeld => ?_)
  refine wpAnyH_take (i := 0) (oi := { dst := some 2, op := Op.load 97 (Operand.tmp 0), type := 97, pos := _, after := #[], guard := none }) (v := ?vq1) rfl (by kernel_rfl) (by kernel_rfl) (by kernel_rfl) (fun _ _ _ h => h) (Or.inl ⟨by rfl, ?hyq1⟩) (by assumption) ?restq1
  case hyq1 => ((intro w hSw; (try dsimp only at hSw); go_simp); try with_reducible rfl)
  case' restq1 => (try simp only [Act.put, List.setIfInBounds_toArray, List.set_cons_zero, List.set_cons_succ])
  refine wpAnyH_take (i := 1) (oi := { dst := some 3, op := Op.load 97 (Operand.tmp 0), type := 97, pos := _, after := #[], guard := none }) (v := ?vq2) rfl (by kernel_rfl) (by kernel_rfl) (by kernel_rfl) (fun _ _ _ h => h) (Or.inl ⟨by rfl, ?hyq2⟩) (by assumption) ?restq2
  case hyq2 => ((intro w hSw; (try dsimp only at hSw); go_simp); try with_reducible rfl)
  case' restq2 => (try simp only [Act.put, List.setIfInBounds_toArray, List.set_cons_zero, List.set_cons_succ])
  refine wpAnyH_take (i := 2) (oi := { dst := some 4, op := Op.nilCheck (Operand.tmp 3), type := 0, pos := _, after := #[{ on := 1, ground := Ground.data }], guard := none }) (v := ?vq3) rfl (by kernel_rfl) (by kernel_rfl) (by kernel_rfl) (fun _ _ _ h => h) (Or.inl ⟨by rfl, ?hyq3⟩) (by assumption) ?restq3
  case hyq3 => ((intro w hSw; (try dsimp only at hSw); go_simp); try with_reducible rfl)
  case' restq3 => (try simp only [Act.put, List.setIfInBounds_toArray, List.set_cons_zero, List.set_cons_succ])
  refine wpAnyH_take (i := 3) (oi := { dst := some 5, op := Op.fieldAddr 101 (Operand.tmp 4) 2, type := 0, pos := _, after := #[{ on := 2, ground := Ground.data }], guard := none }) (v := ?vq4) rfl (by kernel_rfl) (by kernel_rfl) (by kernel_rfl) (fun _ _ _ h => h) (Or.inl ⟨by rfl, ?hyq4⟩) (by assumption) ?restq4
  case hyq4 => ((intro w hSw; (try dsimp only at hSw); go_simp); try with_reducible rfl)
  case' restq4 => (try simp only [Act.put, List.setIfInBounds_toArray, List.set_cons_zero, List.set_cons_succ])
  refine wpAnyH_take (i := 5) (oi := { dst := some 7, op := Op.load 140 (Operand.tmp 1), type := 140, pos := _, after := #[], guard := none }) (v := ?vq5) rfl (by kernel_rfl) (by kernel_rfl) (by kernel_rfl) (fun _ _ _ h => h) (Or.inl ⟨by rfl, ?hyq5⟩) (by assumption) ?restq5
  case hyq5 => ((intro w hSw; (try dsimp only at hSw); go_simp); try with_reducible rfl)
  case' restq5 => (try simp only [Act.put, List.setIfInBounds_toArray, List.set_cons_zero, List.set_cons_succ])
  refine wpAnyH_ready (rs := [4, 6]) (by kernel_rfl) (by simp) ?_
  refine AllReadyH.cons (o := { dst := some 6, op := Op.load 99 (Operand.tmp 5), type := 99, pos := _, after := #[{ on := 3, ground := Ground.data }], guard := none }) rfl (fun K hK => ?_) (AllReadyH.cons (o := { dst := some 8, op := Op.buildSlice 99 1 #[(0, (Operand.tmp 7))], type := 99, pos := _, after := #[{ on := 5, ground := Ground.data }], guard := none }) rfl (fun K hK => ?_) AllReadyH.nil)
  ·
    go_simp
    refine hK.out _ _ (by go_keep) (fun hHeld2 => ?_)
    clear hK K hHeld; have hHeld := hHeld2; clear hHeld2
    (try simp only [Act.put, List.setIfInBounds_toArray, List.set_cons_zero, List.set_cons_succ])
    refine wpAnyH_ready (rs := [6]) (by kernel_rfl) (by simp) ?_
    refine AllReadyH.cons (o := { dst := some 8, op := Op.buildSlice 99 1 #[(0, (Operand.tmp 7))], type := 99, pos := _, after := #[{ on := 5, ground := Ground.data }], guard := none }) rfl (fun K hK => ?_) AllReadyH.nil
    go_simp
    refine hK.out _ _ (by go_keep) (fun hHeld2 => ?_)
    clear hK K hHeld; have hHeld := hHeld2; clear hHeld2
    (try simp only [Act.put, List.setIfInBounds_toArray, List.set_cons_zero, List.set_cons_succ])
    refine wpAnyH_ready (rs := [7]) (by kernel_rfl) (by simp) ?_
    refine AllReadyH.cons (o := { dst := some 9, op := Op.call { callee := Callee.builtin Builtin.append, args := #[Operand.tmp 6, Operand.tmp 8], argTypes := #[99, 99] }, type := 99, pos := _, after := #[{ on := 4, ground := Ground.data }, { on := 6, ground := Ground.data }], guard := none }) rfl (fun K hK => ?_) AllReadyH.nil
    refine step_fn_append rfl _ _ 99 tG i0 (by rfl) Try.underlying99 hi hz0 hz1 hz2 X.w0.heap.size cs.length vw _ (by rfl) (RowR.alloc H1.out.rw _) (by simp) (takeV c) ⟨w.heap.size, 0, none⟩ 1 (by rfl) (cell_of_one (heap_alloc_new _ _)) (by rfl) HN.out (by have := H1.out.bel.size; simp; omega) (cs.length + 1) rfl ?_
    intro g' c4 w4 hrow4 hg4 hp4
    have hX4 : w4.heap[X.m]? = some (.cells #[.int .i64 S.pos, vr, vw] tS (0, 0)) := (hg4.block _ (by simp; omega) (fun e => (H1.out.dis.kw _ e.symm).2.1 rfl)).trans ((Below.heap_alloc _ _ _ hmlt).trans H1.out.hm)
    have f4 : w4.frozen? ⟨X.m, 2, none⟩ = false := frozen_of_row _ X.m 2 _ _ hX4
    have e4 : w4.cell? ⟨X.m, 2, none⟩ = some vw := by rw [cell_of_row _ X.m 2 _ _ _ hX4]; rfl
    have e7 : w4.cell? ⟨c, 0, none⟩ = some (ptr X.m) := cell_of_one ((hg4.block _ (by simp; omega) (fun e => (by have := (H1.out.dis.kw _ e.symm).1; rw [HK5.out] at this; cases this))).trans ((Below.heap_alloc _ _ _ hq5).trans (H1.out.hk _ _ HK5.out)))
    have e8 : w4.cell? ⟨c + 3, 0, none⟩ = some (takeV c) := cell_of_one ((hg4.block _ (by simp; omega) (fun e => (by have := (H1.out.dis.kw _ e.symm).1; rw [HK6.out] at this; cases this))).trans ((Below.heap_alloc _ _ _ hq6).trans (H1.out.hk _ _ HK6.out)))
    refine hK.out _ _ ⟨e7, e8⟩ (fun hHeld2 => ?_)
    clear hK K hHeld; have hHeld := hHeld2; clear hHeld2
    (try simp only [Act.put, List.setIfInBounds_toArray, List.set_cons_zero, List.set_cons_succ])
    refine wpAnyH_take (i := 8) (oi := { dst := some 10, op := Op.nilCheck (Operand.tmp 2), type := 0, pos := _, after := #[{ on := 0, ground := Ground.data }, { on := 0, ground := Ground.phase }, { on := 1, ground := Ground.phase }, { on := 2, ground := Ground.phase }, { on := 3, ground := Ground.phase }, { on := 4, ground := Ground.phase }, { on := 5, ground := Ground.phase }, { on := 6, ground := Ground.phase }, { on := 7, ground := Ground.phase }], guard := none }) (v := ?vq6) rfl (by kernel_rfl) (by kernel_rfl) (by kernel_rfl) (fun _ _ _ h => h) (Or.inl ⟨by rfl, ?hyq6⟩) (by assumption) ?restq6
    case hyq6 => ((intro w hSw; (try dsimp only at hSw); go_simp); try with_reducible rfl)
    case' restq6 => (try simp only [Act.put, List.setIfInBounds_toArray, List.set_cons_zero, List.set_cons_succ])
    refine wpAnyH_take (i := 9) (oi := { dst := some 11, op := Op.fieldAddr 101 (Operand.tmp 10) 2, type := 0, pos := _, after := #[{ on := 8, ground := Ground.data }, { on := 0, ground := Ground.phase }, { on := 1, ground := Ground.phase }, { on := 2, ground := Ground.phase }, { on := 3, ground := Ground.phase }, { on := 4, ground := Ground.phase }, { on := 5, ground := Ground.phase }, { on := 6, ground := Ground.phase }, { on := 7, ground := Ground.phase }], guard := none }) (v := ?vq7) rfl (by kernel_rfl) (by kernel_rfl) (by kernel_rfl) (fun _ _ _ h => h) (Or.inl ⟨by rfl, ?hyq7⟩) (by assumption) ?restq7
    case hyq7 => ((intro w hSw; (try dsimp only at hSw); go_simp); try with_reducible rfl)
    case' restq7 => (try simp only [Act.put, List.setIfInBounds_toArray, List.set_cons_zero, List.set_cons_succ])
    refine wpAnyH_ready (rs := [10]) (by kernel_rfl) (by simp) ?_
    refine AllReadyH.cons (o := { dst := none, op := Op.store 99 (Operand.tmp 11) (Operand.tmp 9), type := 0, pos := _, after := #[{ on := 9, ground := Ground.data }, { on := 7, ground := Ground.data }, { on := 7, ground := Ground.chain }, { on := 0, ground := Ground.phase }, { on := 1, ground := Ground.phase }, { on := 2, ground := Ground.phase }, { on := 3, ground := Ground.phase }, { on := 4, ground := Ground.phase }, { on := 5, ground := Ground.phase }, { on := 6, ground := Ground.phase }, { on := 7, ground := Ground.phase }], guard := none }) rfl (fun K hK => ?_) AllReadyH.nil
    go_simp
    refine hK.out _ _ (by go_keep) (fun hHeld2 => ?_)
    clear hK K hHeld; have hHeld := hHeld2; clear hHeld2
    (try simp only [Act.put, List.setIfInBounds_toArray, List.set_cons_zero, List.set_cons_succ])
    refine wpAnyH_done (by kernel_rfl) ?_ _
    have HF : Hid (WaitP X K vr cs S i c (.returned (.tuple #[])) (w4.setCell ⟨X.m, 2, none⟩ (.slice (some ⟨g', 0, none⟩) (cs.length + 1) c4))) := Lib.hid (by
      refine ⟨rfl, .slice (some ⟨g', 0, none⟩) (cs.length + 1) c4, ?_⟩
      refine (H1.out.below (w' := (w.alloc (.cells #[takeV c] tG)).drew) (below_al (Below.refl _ _) _).drew).setWaiting (W := S.waiting ++ [i]) (cs' := cs ++ [c]) hg4 ?_ (fun g e => ?_) (by simp [H1.out.cl]) (fun q h1 h2 => ?_)
      · rw [List.map_append, List.map_singleton]; exact hrow4
      · have e' : some g' = some g := e
        rcases hp4 with h1 | h1
        · exact .inl (h1.symm.trans e')
        · exact .inr (by have := Option.some.inj e'; simp at h1 ⊢; omega)
      · by_cases hq : q < cs.length
        · rw [List.getElem_append_left hq, List.getElem_append_left (by rw [← H1.out.cl]; exact hq)]
          exact H1.out.cw q hq (by rw [← H1.out.cl]; exact hq)
        · have hq2 : q = cs.length := by simp at h1; omega
          subst hq2
          refine ⟨p, ?_, ?_⟩
          · rw [List.getElem_append_right (by rw [← H1.out.cl]; exact Nat.le_refl _)]
            simp [H1.out.cl]; exact HP.out
          · rw [List.getElem_append_right (Nat.le_refl _)]
            simp; exact HTK.out)
    clear hrow4 hg4 hp4 hX4 f4 e4 e7 e8
    go_wp2
    go_end0
    exact HF.out
  ·
    go_simp
    refine hK.out _ _ (by go_keep) (fun hHeld2 => ?_)
    clear hK K hHeld; have hHeld := hHeld2; clear hHeld2
    (try simp only [Act.put, List.setIfInBounds_toArray, List.set_cons_zero, List.set_cons_succ])
    refine wpAnyH_ready (rs := [4]) (by kernel_rfl) (by simp) ?_
    refine AllReadyH.cons (o := { dst := some 6, op := Op.load 99 (Operand.tmp 5), type := 99, pos := _, after := #[{ on := 3, ground := Ground.data }], guard := none }) rfl (fun K hK => ?_) AllReadyH.nil
    go_simp
    refine hK.out _ _ (by go_keep) (fun hHeld2 => ?_)
    clear hK K hHeld; have hHeld := hHeld2; clear hHeld2
    (try simp only [Act.put, List.setIfInBounds_toArray, List.set_cons_zero, List.set_cons_succ])
    refine wpAnyH_ready (rs := [7]) (by kernel_rfl) (by simp) ?_
    refine AllReadyH.cons (o := { dst := some 9, op := Op.call { callee := Callee.builtin Builtin.append, args := #[Operand.tmp 6, Operand.tmp 8], argTypes := #[99, 99] }, type := 99, pos := _, after := #[{ on := 4, ground := Ground.data }, { on := 6, ground := Ground.data }], guard := none }) rfl (fun K hK => ?_) AllReadyH.nil
    refine step_fn_append rfl _ _ 99 tG i0 (by rfl) Try.underlying99 hi hz0 hz1 hz2 X.w0.heap.size cs.length vw _ (by rfl) (RowR.alloc H1.out.rw _) (by simp) (takeV c) ⟨w.heap.size, 0, none⟩ 1 (by rfl) (cell_of_one (heap_alloc_new _ _)) (by rfl) HN.out (by have := H1.out.bel.size; simp; omega) (cs.length + 1) rfl ?_
    intro g' c4 w4 hrow4 hg4 hp4
    have hX4 : w4.heap[X.m]? = some (.cells #[.int .i64 S.pos, vr, vw] tS (0, 0)) := (hg4.block _ (by simp; omega) (fun e => (H1.out.dis.kw _ e.symm).2.1 rfl)).trans ((Below.heap_alloc _ _ _ hmlt).trans H1.out.hm)
    have f4 : w4.frozen? ⟨X.m, 2, none⟩ = false := frozen_of_row _ X.m 2 _ _ hX4
    have e4 : w4.cell? ⟨X.m, 2, none⟩ = some vw := by rw [cell_of_row _ X.m 2 _ _ _ hX4]; rfl
    have e7 : w4.cell? ⟨c, 0, none⟩ = some (ptr X.m) := cell_of_one ((hg4.block _ (by simp; omega) (fun e => (by have := (H1.out.dis.kw _ e.symm).1; rw [HK5.out] at this; cases this))).trans ((Below.heap_alloc _ _ _ hq5).trans (H1.out.hk _ _ HK5.out)))
    have e8 : w4.cell? ⟨c + 3, 0, none⟩ = some (takeV c) := cell_of_one ((hg4.block _ (by simp; omega) (fun e => (by have := (H1.out.dis.kw _ e.symm).1; rw [HK6.out] at this; cases this))).trans ((Below.heap_alloc _ _ _ hq6).trans (H1.out.hk _ _ HK6.out)))
    refine hK.out _ _ ⟨e7, e8⟩ (fun hHeld2 => ?_)
    clear hK K hHeld; have hHeld := hHeld2; clear hHeld2
    (try simp only [Act.put, List.setIfInBounds_toArray, List.set_cons_zero, List.set_cons_succ])
    refine wpAnyH_take (i := 8) (oi := { dst := some 10, op := Op.nilCheck (Operand.tmp 2), type := 0, pos := _, after := #[{ on := 0, ground := Ground.data }, { on := 0, ground := Ground.phase }, { on := 1, ground := Ground.phase }, { on := 2, ground := Ground.phase }, { on := 3, ground := Ground.phase }, { on := 4, ground := Ground.phase }, { on := 5, ground := Ground.phase }, { on := 6, ground := Ground.phase }, { on := 7, ground := Ground.phase }], guard := none }) (v := ?vq8) rfl (by kernel_rfl) (by kernel_rfl) (by kernel_rfl) (fun _ _ _ h => h) (Or.inl ⟨by rfl, ?hyq8⟩) (by assumption) ?restq8
    case hyq8 => ((intro w hSw; (try dsimp only at hSw); go_simp); try with_reducible rfl)
    case' restq8 => (try simp only [Act.put, List.setIfInBounds_toArray, List.set_cons_zero, List.set_cons_succ])
    refine wpAnyH_take (i := 9) (oi := { dst := some 11, op := Op.fieldAddr 101 (Operand.tmp 10) 2, type := 0, pos := _, after := #[{ on := 8, ground := Ground.data }, { on := 0, ground := Ground.phase }, { on := 1, ground := Ground.phase }, { on := 2, ground := Ground.phase }, { on := 3, ground := Ground.phase }, { on := 4, ground := Ground.phase }, { on := 5, ground := Ground.phase }, { on := 6, ground := Ground.phase }, { on := 7, ground := Ground.phase }], guard := none }) (v := ?vq9) rfl (by kernel_rfl) (by kernel_rfl) (by kernel_rfl) (fun _ _ _ h => h) (Or.inl ⟨by rfl, ?hyq9⟩) (by assumption) ?restq9
    case hyq9 => ((intro w hSw; (try dsimp only at hSw); go_simp); try with_reducible rfl)
    case' restq9 => (try simp only [Act.put, List.setIfInBounds_toArray, List.set_cons_zero, List.set_cons_succ])
    refine wpAnyH_ready (rs := [10]) (by kernel_rfl) (by simp) ?_
    refine AllReadyH.cons (o := { dst := none, op := Op.store 99 (Operand.tmp 11) (Operand.tmp 9), type := 0, pos := _, after := #[{ on := 9, ground := Ground.data }, { on := 7, ground := Ground.data }, { on := 7, ground := Ground.chain }, { on := 0, ground := Ground.phase }, { on := 1, ground := Ground.phase }, { on := 2, ground := Ground.phase }, { on := 3, ground := Ground.phase }, { on := 4, ground := Ground.phase }, { on := 5, ground := Ground.phase }, { on := 6, ground := Ground.phase }, { on := 7, ground := Ground.phase }], guard := none }) rfl (fun K hK => ?_) AllReadyH.nil
    go_simp
    refine hK.out _ _ (by go_keep) (fun hHeld2 => ?_)
    clear hK K hHeld; have hHeld := hHeld2; clear hHeld2
    (try simp only [Act.put, List.setIfInBounds_toArray, List.set_cons_zero, List.set_cons_succ])
    refine wpAnyH_done (by kernel_rfl) ?_ _
    have HF : Hid (WaitP X K vr cs S i c (.returned (.tuple #[])) (w4.setCell ⟨X.m, 2, none⟩ (.slice (some ⟨g', 0, none⟩) (cs.length + 1) c4))) := Lib.hid (by
      refine ⟨rfl, .slice (some ⟨g', 0, none⟩) (cs.length + 1) c4, ?_⟩
      refine (H1.out.below (w' := (w.alloc (.cells #[takeV c] tG)).drew) (below_al (Below.refl _ _) _).drew).setWaiting (W := S.waiting ++ [i]) (cs' := cs ++ [c]) hg4 ?_ (fun g e => ?_) (by simp [H1.out.cl]) (fun q h1 h2 => ?_)
      · rw [List.map_append, List.map_singleton]; exact hrow4
      · have e' : some g' = some g := e
        rcases hp4 with h1 | h1
        · exact .inl (h1.symm.trans e')
        · exact .inr (by have := Option.some.inj e'; simp at h1 ⊢; omega)
      · by_cases hq : q < cs.length
        · rw [List.getElem_append_left hq, List.getElem_append_left (by rw [← H1.out.cl]; exact hq)]
          exact H1.out.cw q hq (by rw [← H1.out.cl]; exact hq)
        · have hq2 : q = cs.length := by simp at h1; omega
          subst hq2
          refine ⟨p, ?_, ?_⟩
          · rw [List.getElem_append_right (by rw [← H1.out.cl]; exact Nat.le_refl _)]
            simp [H1.out.cl]; exact HP.out
          · rw [List.getElem_append_right (Nat.le_refl _)]
            simp; exact HTK.out)
    clear hrow4 hg4 hp4 hX4 f4 e4 e7 e8
    go_wp2
    go_end0
    exact HF.out
theorem idx_mem (l : List UInt8) (c : UInt8) : (c ∈ l ∧ 0 ≤ Lib.indexByte l c) ∨ (c ∉ l ∧ Lib.indexByte l c = -1) := by
  induction l with
  | nil => exact .inr ⟨by simp, rfl⟩
  | cons b r ih =>
    unfold Lib.indexByte
    by_cases e : b = c
    · subst e; exact .inl ⟨by simp, by simp⟩
    · have hb : (b == c) = false := by simpa using e
      rw [hb]
      rcases ih with ⟨h1, h2⟩ | ⟨h1, h2⟩
      · left
        refine ⟨by simp [h1], ?_⟩
        have h3 : (Lib.indexByte r c == -1) = false := by simp; omega
        rw [h3]; simp; omega
      · right
        refine ⟨by simp [h1]; exact fun h => e h.symm, ?_⟩
        rw [h2]; simp
/-- a ref is a function -/
theorem ref_fn (X : Cx) (L : List Pl) (r : Nat) : ∃ k caps, refV X L r = .func (.func k) #[] caps := by
  cases r with
  | zero => exact ⟨_, _, rfl⟩
  | succ j => exact ⟨_, _, rfl⟩
theorem nil_at {L : List Pl} {j : Nat} (hj : j + 1 ≤ L.length) : ∃ p, L[j]? = some p := ⟨L[j], List.getElem?_eq_getElem (by omega)⟩
set_option maxRecDepth 100000 in
set_option maxHeartbeats 1000000 in
/-- one that waits, and the byte -/
theorem take_any (h : Rep X K vr vw cs w S) {c : Nat} {p : Pl} (hpm : p ∈ S.pl) (hk : TakeK X K S.pl p c) (x : UInt8) (hn : S.reached.length + 1 ≤ 2147483648) : Calls Try.prog 140 #[.int .u8 x.toNat, ptr (c + 1), ptr (c + 2)] w fun e w' => e = .returned (.tuple #[]) ∧
    ((x ∈ p.t.x.text.data.toList ∧ ∃ vr', Rep X K vr' vw cs w' (call S p.nx)) ∨ (x ∉ p.t.x.text.data.toList ∧ Rep X K vr vw cs w' S)) := by
  have e1 := cell_of_one (h.hk _ _ hk.1)
  have e2 := cell_of_one (h.hk _ _ hk.2)
  have hnx := (h.pk p hpm).2
  have hI : ∀ w, Calls Try.prog 141 #[.string p.t.x.text, .int .u8 x.toNat] w fun e w' => e = .returned (.int .i64 (Lib.indexByte p.t.x.text.data.toList x)) ∧ w = w' := fun w => (Try.strings_IndexByte _ _ _).mono fun e w' ⟨a, b⟩ => ⟨by rw [a]; simp, b.symm⟩
  have HI := Lib.hid hI
  clear hI
  rcases idx_mem p.t.x.text.data.toList x with ⟨hm, hi⟩ | ⟨hm, hi⟩
  · obtain ⟨n, hnn⟩ : ∃ n, n = Lib.indexByte p.t.x.text.data.toList x := ⟨_, rfl⟩
    rw [← hnn] at hi HI
    have HM := Lib.hid hm
    clear hm hnn
    cases hx : p.nx with
    | zero =>
      rw [hx] at e2
      have e2' : w.cell? ⟨c + 2, 0, none⟩ = some (endPV X) := e2
      have HC := Lib.hid (end_any h)
      clear h hk e2 hx hpm
      go_enter Try.func140, Try.ntmps140
      go_wp2_with (first
        | (go_at_call 141; refine (HI.out _).mono ?_; rintro e w' ⟨rfl, rfl⟩)
        | (go_at_call 59; refine HC.out.mono ?_; rintro e w' ⟨rfl, vr', hR⟩; have HR := Lib.hid hR; clear hR))
      go_end0
      exact ⟨rfl, .inl ⟨HM.out, vr', HR.out⟩⟩
    | succ j =>
      obtain ⟨q, hq⟩ := nil_at (by rw [← hx]; exact hnx)
      rw [hx] at e2
      have e2' : w.cell? ⟨c + 2, 0, none⟩ = some (placeV q.b) := by rw [e2]; show some (placeV (bOf S.pl j)) = _; rw [bOf_eq hq]
      have HC := Lib.hid (place_any h hq hn)
      clear h hk e2 hx hpm hq
      go_enter Try.func140, Try.ntmps140
      go_wp2_with (first
        | (go_at_call 141; refine (HI.out _).mono ?_; rintro e w' ⟨rfl, rfl⟩)
        | (go_at_call 118; refine HC.out.mono ?_; rintro e w' ⟨rfl, vr', hR⟩; have HR := Lib.hid hR; clear hR))
      go_end0
      exact ⟨rfl, .inl ⟨HM.out, vr', HR.out⟩⟩
  · rw [hi] at HI
    have HM := Lib.hid hm
    have HR := Lib.hid h
    clear h hk hpm hm hi
    go_enter Try.func140, Try.ntmps140
    go_wp2_with (go_at_call 141; refine (HI.out _).mono ?_; rintro e w' ⟨rfl, rfl⟩)
    go_end0
    exact ⟨rfl, .inr ⟨HM.out, HR.out⟩⟩
theorem alloc_new_at (w : World) (o : Obj) {b : Nat} (h : b = w.heap.size) : (w.alloc o).heap[b]? = some o := by rw [h]; exact heap_alloc_new w o
theorem Rep.addNew (h : Rep X K vr vw cs w S) (o : Obj) (hc : o.isCells = true := by rfl) : Rep X (K.add w.heap.size o) vr vw cs (w.alloc o) S := h.add (Nat.le_refl _) (below_al (Below.refl _ _) _) (heap_alloc_new w o) hc
theorem Kn.add_ne (K : Kn) {b x : Nat} {o : Obj} (h : x ≠ b) : K.add b o x = K x := if_neg h
theorem Rep.le_new (h : Rep X K vr vw cs w S) {o : Obj} : K.le (K.add w.heap.size o) := Kn.le_add (h.new_free (Nat.le_refl _))
set_option maxRecDepth 100000 in
set_option maxHeartbeats 1000000 in
/-- a wait is made -/
theorem waitFor_any (h : Rep X K vr vw cs w S) {p : Pl} (ch : ByteArray) (hch : ch = p.t.x.text) : Calls Try.prog 119 #[ptr X.m, .string ch, refV X S.pl p.nx] w fun e w' => e = .returned (waitV w.heap.size) ∧
    ∃ K', K.le K' ∧ Rep X K' vr vw cs w' S ∧ Below w.heap.size w w' ∧ VsK X K' S.pl p (waitV w.heap.size) .wait := by
  obtain ⟨k, caps, hv⟩ := ref_fn X S.pl p.nx
  have HV := Lib.hid hv
  have HCH := Lib.hid hch
  rw [hv]
  clear hv hch
  have r1 := h.addNew (bx (ptr X.m) tM)
  have r2 := r1.addNew (bx (.string ch) 9)
  have r3 := r2.addNew (bx (.func (.func k) #[] caps) tF)
  have r4 := r3.addNew (bx (takeV w.heap.size) tG)
  simp only [World.size_alloc] at r2 r3 r4
  have HF : Hid (∃ K', K.le K' ∧ Rep X K' vr vw cs ((((w.alloc (bx (ptr X.m) tM)).alloc (bx (.string ch) 9)).alloc (bx (.func (.func k) #[] caps) tF)).alloc (bx (takeV w.heap.size) tG)) S ∧ Below w.heap.size w ((((w.alloc (bx (ptr X.m) tM)).alloc (bx (.string ch) 9)).alloc (bx (.func (.func k) #[] caps) tF)).alloc (bx (takeV w.heap.size) tG)) ∧ VsK X K' S.pl p (waitV w.heap.size) .wait) := Lib.hid
    ⟨_, Kn.le_trans (Kn.le_trans (Kn.le_trans h.le_new (by have := r1.le_new (o := bx (.string ch) 9); simpa using this)) (by have := r2.le_new (o := bx (.func (.func k) #[] caps) tF); simpa using this)) (by have := r3.le_new (o := bx (takeV w.heap.size) tG); simpa using this), r4, below_al (below_al (below_al (below_al (Below.refl _ _) _) _) _) _, w.heap.size, rfl, by
      rw [Kn.add_ne _ (by omega), Kn.add_ne _ (by omega), Kn.add_ne _ (by omega), Kn.add_at], by rw [show w.heap.size + 3 = w.heap.size + 1 + 1 + 1 by omega, Kn.add_at], by
      rw [Kn.add_ne _ (by omega), Kn.add_ne _ (by omega), Kn.add_at, HCH.out], by
      rw [Kn.add_ne _ (by omega), show w.heap.size + 2 = w.heap.size + 1 + 1 by omega, Kn.add_at, HV.out]⟩
  clear r1 r2 r3 r4 h
  go_enter Try.func119, Try.ntmps119
  go_wp2
  go_ret
  exact ⟨rfl, HF.out⟩
set_option maxRecDepth 100000 in
theorem onceB_any (m : Nat) (k : Nat) (caps : Array Value) (w : World) : Calls Try.prog 93 #[ptr m, .func (.func k) #[] caps] w fun e w' => e = .returned (.func (.func 118) #[] #[ptr (w.heap.size + 1 + 1), ptr w.heap.size, ptr (w.heap.size + 1)]) ∧ w' = ((w.alloc (bx (ptr m) tM)).alloc (bx (.func (.func k) #[] caps) tF)).alloc (bx (.int .i64 (-1)) 3) := by
  go_enter Try.func93, Try.ntmps93
  go_wp2
  go_ret
  exact ⟨rfl, rfl⟩
set_option maxRecDepth 100000 in
set_option maxHeartbeats 2000000 in
/-- a place is made -/
theorem before_any (h : Rep X K vr vw cs w S) {t : Pat} {e : Nat} {r : PatR} {nx : Nat} (hnx : nx ≤ S.pl.length) (hrd : RdN patK e X.w0 r t ∧ t.x.text.size ≤ 9223372036854775807 ∧ TxFit e t.kids) : Calls Try.prog 58 #[ptr X.m, .agg #[.int .i64 r.op, .string r.text, r.kv], refV X S.pl nx] w fun e' w' => e' = .returned (placeV w.heap.size) ∧
    ∃ K', K.le K' ∧ (∀ x, x < w.heap.size → K' x = K x) ∧ Rep X K' vr vw cs w' { S with pl := S.pl ++ [⟨t, e, r, nx, w.heap.size, -1, none⟩] } ∧ Below w.heap.size w w' := by
  obtain ⟨k, caps, hv⟩ := ref_fn X S.pl nx
  obtain ⟨A, cap, hkv⟩ := hrd.1.2.form
  obtain ⟨op, text, kv⟩ := r
  obtain rfl : kv = .slice A t.kids.length cap := hkv
  obtain ⟨n, hn⟩ : ∃ n, n = t.kids.length := ⟨_, rfl⟩
  rw [← hn] at hrd ⊢
  have HV := Lib.hid hv
  rw [hv]
  clear hv hn
  have HF : Hid (∀ w', Below w.heap.size w w' → w'.heap[w.heap.size]? = some (bx (ptr X.m) tM) → w'.heap[w.heap.size + 1]? = some (.cells #[.int .i64 op, .string text, .slice A n cap] 56 (0, 0)) → w'.heap[w.heap.size + 2]? = some (bx (.func (.func k) #[] caps) tF) → w'.heap[w.heap.size + 3]? = some (bx (placeV w.heap.size) tF) →
      w'.heap[w.heap.size + 4]? = some (bx .nilFunc tF) → w'.heap[w.heap.size + 5]? = some (bx (ptr X.m) tM) → w'.heap[w.heap.size + 6]? = some (bx (visitV w.heap.size) tF) → w'.heap[w.heap.size + 7]? = some (bx (.int .i64 (-1)) 3) →
      ∃ K', K.le K' ∧ (∀ x, x < w.heap.size → K' x = K x) ∧ Rep X K' vr vw cs w' { S with pl := S.pl ++ [⟨t, e, ⟨op, text, .slice A n cap⟩, nx, w.heap.size, -1, none⟩] } ∧ Below w.heap.size w w') := Lib.hid fun w' hB b0 b1 b2 b3 b4 b5 b6 b7 => by
    rw [← HV.out] at b2
    obtain ⟨K', h1, h3, h2⟩ := h.place rfl hB hnx hrd b0 b1 b2 b3 b4 b5 b6 b7
    exact ⟨K', h1, h3, h2, hB⟩
  have HO := Lib.hid (fun w' => onceB_any X.m 94 #[ptr (w.heap.size + 4), ptr w.heap.size, ptr (w.heap.size + 1), ptr (w.heap.size + 3), ptr (w.heap.size + 2)] w')
  clear h hrd
  go_enter Try.func58, Try.ntmps58
  go_wp2_with (go_at_call 93; refine (HO.out _).mono ?_; rintro e' w' ⟨rfl, rfl⟩)
  go_ret
  refine ⟨rfl, HF.out _ ?_ ?_ ?_ ?_ ?_ ?_ ?_ ?_ ?_⟩
  · exact below_al (below_al (below_al (below_al (below_al (below_al (below_al (below_al (Below.refl _ _) _) _) _) _) _) _) _) _
  all_goals
    repeat first
      | (refine alloc_new_at _ _ ?_; ((try simp); done))
      | (rw [Below.heap_alloc _ _ _ ?hk]; case hk => (simp only [World.size_alloc]; omega))
end
end Go.Proofs.Ytnpgeneahjlkpaa

/- CHAPTER 5, impl: the matching machine's closures: what visits call; a kid that may be left out. -/
namespace Go.Proofs.Ytnpgeneahjlkpaa
open Go.RowKit Mac

section
variable {X : Cx} {K K' : Kn} {vr vw : Value} {cs : List Nat} {w w' : World} {S : Mc}
/-- a call of a ref -/
theorem ref_any (h : Rep X K vr vw cs w S) {r : Nat} (hr : r ≤ S.pl.length) (hn : S.reached.length + 1 ≤ 2147483648) {L : List Pl} (hL : refV X L r = refV X S.pl r) : ∃ k caps, refV X L r = .func (.func k) #[] caps ∧ (∀ w, (callFunc k caps).run Try.prog w = .ok (.enter k caps) w) ∧ Calls Try.prog k caps w (CallP X K vw cs S r) := by
  cases r with
  | zero => exact ⟨_, _, rfl, fun w => enters_of Try.func59 (by kernel_rfl) rfl _ w, end_any h⟩
  | succ j =>
    obtain ⟨q, hq⟩ := nil_at hr
    refine ⟨_, _, by rw [hL]; rfl, fun w => enters_of Try.func118 (by kernel_rfl) rfl _ w, ?_⟩
    have := place_any h hq hn
    rw [← bOf_eq hq] at this
    exact this
/-- what a call keeps of refs -/
theorem call_len (S : Mc) (r : Nat) (hr : r ≤ S.pl.length) (hv : ∀ (i : Nat) (p : Pl), S.pl[i]? = some p → p.vis ≤ S.pos) : (call S r).pl.length = S.pl.length ∧ (call S r).pos = S.pos ∧ (call S r).waiting = S.waiting ∧ Same S.pl (call S r).pl ∧ (∀ (i : Nat) (p : Pl), (call S r).pl[i]? = some p → p.vis ≤ S.pos) ∧ (call S r).reached.length + unv (call S r) ≤ S.reached.length + unv S := by
  rcases call_spec S r hr hv with ⟨h1, h2⟩ | ⟨rfl, h2⟩ | ⟨i, p, rfl, hp, hlt, h2⟩
  · rw [h2]; exact ⟨rfl, rfl, rfl, fun _ _ => rfl, hv, Nat.le_refl _⟩
  · rw [h2]; exact ⟨rfl, rfl, rfl, fun _ _ => rfl, hv, Nat.le_refl _⟩
  · rw [h2]
    refine ⟨List.length_set, rfl, rfl, same_set hp rfl, fun j q hq => ?_, ?_⟩
    · rcases set_back hp hq with ⟨rfl, rfl⟩ | ⟨_, hq⟩
      · exact Int.le_refl _
      · exact hv j q hq
    · have := sumL_set (f := uw S.pos) hp { p with vis := S.pos }
      have h1 : uw S.pos p = 1 := by unfold uw; rw [if_pos hlt]
      have h2 : uw S.pos { p with vis := S.pos } = 0 := by unfold uw; rw [if_neg (Int.lt_irrefl _)]
      show (S.reached ++ [i]).length + sumL (uw S.pos) (S.pl.set i { p with vis := S.pos }) ≤ S.reached.length + sumL (uw S.pos) S.pl
      rw [List.length_append, List.length_singleton]; omega
/-- calls of refs, one after the other -/
theorem calls_len : ∀ (l : List Nat) (S : Mc), (∀ r, r ∈ l → r ≤ S.pl.length) → (∀ (i : Nat) (p : Pl), S.pl[i]? = some p → p.vis ≤ S.pos) → (l.foldl call S).pl.length = S.pl.length ∧ (l.foldl call S).pos = S.pos ∧ (l.foldl call S).waiting = S.waiting ∧ Same S.pl (l.foldl call S).pl ∧ (∀ (i : Nat) (p : Pl), (l.foldl call S).pl[i]? = some p → p.vis ≤ S.pos) ∧ (l.foldl call S).reached.length + unv (l.foldl call S) ≤ S.reached.length + unv S
  | [], S, _, hv => ⟨rfl, rfl, rfl, fun _ _ => rfl, hv, Nat.le_refl _⟩
  | r :: l, S, hl, hv => by
    obtain ⟨a1, a2, a3, a4, a5, a6⟩ := call_len S r (hl r (by simp)) hv
    obtain ⟨b1, b2, b3, b4, b5, b6⟩ := calls_len l (call S r) (fun q hq => by rw [a1]; exact hl q (by simp [hq])) (by rw [a2]; exact a5)
    refine ⟨b1.trans a1, b2.trans a2, b3.trans a3, fun j hj => (b4 j (by rw [a1]; exact hj)).trans (a4 j hj), ?_, Nat.le_trans b6 a6⟩
    have := b5; rw [a2] at this; exact this
/-- two ways -/
def CallsP (X : Cx) (K : Kn) (vw : Value) (cs : List Nat) (S : Mc) (l : List Nat) (e : Ending) (w' : World) : Prop := e = .returned (.tuple #[]) ∧ ∃ vr', Rep X K vr' vw cs w' (l.foldl call S)
set_option maxRecDepth 100000 in
set_option maxHeartbeats 2000000 in
theorem or_any (h : Rep X K vr vw cs w S) {r r' c c' : Nat} (k1 : K c = some (bx (refV X S.pl r) tF)) (k2 : K c' = some (bx (refV X S.pl r') tF)) (hr : r ≤ S.pl.length) (hr' : r' ≤ S.pl.length) (hv : ∀ (i : Nat) (p : Pl), S.pl[i]? = some p → p.vis ≤ S.pos) (hn : S.reached.length + unv S + 1 ≤ 2147483648) :
    Calls Try.prog 145 #[ptr c, ptr c'] w (CallsP X K vw cs S [r, r']) := by
  obtain ⟨a1, a2, a3, a4, a5, a6⟩ := call_len S r hr hv
  obtain ⟨k, caps, e1, hen1, hc1⟩ := ref_any h hr (by omega) (L := S.pl) rfl
  have c1 := cell_of_one (h.hk _ _ k1)
  rw [e1] at c1
  have H2 : Hid (∀ w1 vr1, Rep X K vr1 vw cs w1 (call S r) → ∃ k caps, w1.cell? ⟨c', 0, none⟩ = some (.func (.func k) #[] caps) ∧ (∀ w, (callFunc k caps).run Try.prog w = .ok (.enter k caps) w) ∧ Calls Try.prog k caps w1 (CallP X K vw cs (call S r) r')) := Lib.hid fun w1 vr1 h1 => by
    obtain ⟨k', caps', e2, hen2, hc2⟩ := ref_any h1 (r := r') (by rw [a1]; exact hr') (by omega) (L := S.pl) (ref_same a4 hr').symm
    refine ⟨k', caps', ?_, hen2, hc2⟩
    rw [← e2]; exact cell_of_one (h1.hk _ _ k2)
  have HC1 := Lib.hid hc1
  clear h hc1 k1 k2 a1 a2 a3 a4 a5 a6 hv e1
  go_enter Try.func145, Try.ntmps145
  go_wp2_with fail
  refine HC1.out.mono ?_
  rintro e w1 ⟨rfl, vr1, h1⟩
  obtain ⟨k', caps', e2, hen2, hc2⟩ := H2.out w1 vr1 h1
  have HC2 := Lib.hid hc2
  clear h1 hc2
  go_wp2_with fail
  refine HC2.out.mono ?_
  rintro e w2 ⟨rfl, vr2, h2⟩
  have HR := Lib.hid h2
  clear h2
  go_wp2
  go_end0
  exact ⟨rfl, vr2, HR.out⟩
set_option maxRecDepth 100000 in
set_option maxHeartbeats 2000000 in
theorem each_any (h : Rep X K vr vw cs w S) {l : List Nat} {c b cap : Nat} {cur : Array Value} (k1 : K c = some (bx (.slice (some ⟨b, 0, none⟩) l.length cap) 98)) (k2 : K b = some (.cells cur tF (0, 0))) (hcur : ∀ q (h : q < l.length), cur[q]? = some (refV X S.pl l[q])) (hll : l.length ≤ 2147483648)
    (hl : ∀ r, r ∈ l → r ≤ S.pl.length) (hv : ∀ (i : Nat) (p : Pl), S.pl[i]? = some p → p.vis ≤ S.pos) (hn : S.reached.length + unv S + 1 ≤ 2147483648) :
    Calls Try.prog 144 #[ptr c] w (CallsP X K vw cs S l) := by
  have c1 := cell_of_one (h.hk _ _ k1)
  obtain ⟨n, hnn⟩ : ∃ n, n = l.length := ⟨_, rfl⟩
  have HN := Lib.hid hnn
  rw [← hnn] at c1 hll
  have HC : Hid (∀ k, k < n → ∀ wr vr', Rep X K vr' vw cs wr ((l.take k).foldl call S) → ∃ f caps, wr.cell? ⟨b, k, none⟩ = some (.func (.func f) #[] caps) ∧ (∀ w, (callFunc f caps).run Try.prog w = .ok (.enter f caps) w) ∧ Calls Try.prog f caps wr fun e w' => e = .returned (.tuple #[]) ∧ ∃ vr'', Rep X K vr'' vw cs w' ((l.take (k + 1)).foldl call S)) := Lib.hid fun k hk wr vr' hR => by
    obtain ⟨a1, a2, a3, a4, a5, a6⟩ := calls_len (l.take k) S (fun r hr => hl r (List.mem_of_mem_take hr)) hv
    have hkl : k < l.length := by omega
    have hrk := hl _ (List.getElem_mem hkl)
    obtain ⟨f, caps, e1, hen, hc⟩ := ref_any hR (r := l[k]) (by rw [a1]; exact hrk) (by omega) (L := S.pl) (ref_same a4 hrk).symm
    refine ⟨f, caps, ?_, hen, hc.mono ?_⟩
    · rw [← e1, cell_of_row _ b k _ _ _ (hR.hk _ _ k2)]; exact hcur k hkl
    · rintro e w' ⟨rfl, vr'', hR'⟩
      refine ⟨rfl, vr'', ?_⟩
      rw [List.take_succ_eq_append_getElem hkl, List.foldl_append]
      exact hR'
  have H0 : Hid (∃ vr', Rep X K vr' vw cs w ((l.take 0).foldl call S)) := Lib.hid ⟨vr, h⟩
  clear h k1 k2 hcur hl hv hn hnn
  go_enter Try.func144, Try.ntmps144
  go_wp2
  go_loopw [5] (fun i wr => ∃ k : Nat, k ≤ n ∧ i = .int .i64 k ∧ Hid (∃ vr', Rep X K vr' vw cs wr ((l.take k).foldl call S))) (fun i _ => n - (intOf i).toNat)
  case atStart => exact ⟨0, Nat.zero_le _, rfl, H0⟩
  case round =>
    clear H0
    obtain ⟨k, hk, rfl, HR⟩ := hrel
    by_cases hlt : k < n
    · obtain ⟨vr', hR⟩ := HR.out
      obtain ⟨f, caps, hcell, hen, hcall⟩ := HC.out k hlt wr vr' hR
      have HCALL := Lib.hid hcall
      clear hR hcall HR
      go_wp2_with fail
      refine HCALL.out.mono ?_
      rintro e w1 ⟨rfl, vr'', hR'⟩
      have HR' : Hid (∃ vr', Rep X K vr' vw cs w1 ((l.take (k + 1)).foldl call S)) := Lib.hid ⟨vr'', hR'⟩
      clear hR' HCALL hcell hen
      go_wp2
      go_roundw
      case rel => exact ⟨k + 1, by omega, by go_num, HR'⟩
      case measure => simp [intOf]; omega
    · have HF : Hid (CallsP X K vw cs S l (.returned (.tuple #[])) wr) := Lib.hid (by
        obtain ⟨vr', hR⟩ := HR.out
        rw [List.take_of_length_le (by have := HN.out; omega)] at hR
        exact ⟨rfl, vr', hR⟩)
      clear HR HC
      go_wp2
      go_end0
      exact HF.out
/-- what a visit does to the machine -/
def afterV (S : Mc) (i : Nat) : Vs → Mc
  | .wait => { S with waiting := S.waiting ++ [i] }
  | .ways l => l.foldl call S
/-- what a visit leaves -/
def VisP (X : Cx) (K : Kn) (S : Mc) (i : Nat) (sh : Vs) (e : Ending) (w' : World) : Prop := e = .returned (.tuple #[]) ∧ ∃ vr' vw' cs', Rep X K vr' vw' cs' w' (afterV S i sh)
/-- what a visit's function does -/
theorem vis_any (h : Rep X K vr vw cs w S) {i : Nat} {p : Pl} (hp : S.pl[i]? = some p) {g : Value} {sh : Vs} (hk : VsK X K S.pl p g sh) (hl : ∀ l, sh = .ways l → ∀ r, r ∈ l → r ≤ S.pl.length) (hv : ∀ (i : Nat) (p : Pl), S.pl[i]? = some p → p.vis ≤ S.pos) (hn : S.reached.length + unv S + 1 ≤ 2147483648) (hn2 : S.waiting.length + 1 ≤ 2147483648) :
    ∃ f caps, g = .func (.func f) #[] caps ∧ (∀ w, (callFunc f caps).run Try.prog w = .ok (.enter f caps) w) ∧ Calls Try.prog f caps w (VisP X K S i sh) := by
  cases sh with
  | wait =>
    obtain ⟨c, rfl, k1, k2, k3⟩ := hk
    refine ⟨_, _, rfl, fun w => enters_of Try.func142 (by kernel_rfl) rfl _ w, (wait_any h hp k1 k2 k3 hn2).mono ?_⟩
    rintro e w' ⟨rfl, vw', hR⟩
    exact ⟨rfl, vr, vw', _, hR⟩
  | ways l =>
    have hl' := hl l rfl
    rcases hk with ⟨r, rfl, rfl⟩ | ⟨c, b, cap, cur, rfl, hll, k1, k2, k3⟩ | ⟨r, r', c, c', rfl, rfl, k1, k2⟩ | ⟨rfl, rfl⟩
    · obtain ⟨f, caps, e1, hen, hc⟩ := ref_any h (hl' r (by simp)) (by omega) (L := S.pl) rfl
      refine ⟨f, caps, e1, hen, hc.mono ?_⟩
      rintro e w' ⟨rfl, vr', hR⟩
      exact ⟨rfl, vr', vw, cs, hR⟩
    · refine ⟨_, _, rfl, fun w => enters_of Try.func144 (by kernel_rfl) rfl _ w, (each_any h k1 k2 k3 hll hl' hv hn).mono ?_⟩
      rintro e w' ⟨rfl, vr', hR⟩
      exact ⟨rfl, vr', vw, cs, hR⟩
    · refine ⟨_, _, rfl, fun w => enters_of Try.func145 (by kernel_rfl) rfl _ w, (or_any h k1 k2 (hl' r (by simp)) (hl' r' (by simp)) hv hn).mono ?_⟩
      rintro e w' ⟨rfl, vr', hR⟩
      exact ⟨rfl, vr', vw, cs, hR⟩
    · refine ⟨_, _, rfl, fun w => enters_of Try.func123 (by kernel_rfl) rfl _ w, ?_⟩
      have HF : Hid (VisP X K S i (.ways []) (.returned (.tuple #[])) w) := Lib.hid ⟨rfl, vr, vw, cs, h⟩
      clear h hl hv
      go_enter Try.func123, Try.ntmps123
      go_wp2
      go_end0
      exact HF.out
end
end Go.Proofs.Ytnpgeneahjlkpaa

/- CHAPTER 5, impl: the matching machine's closures: the makers of visits: a kid that may be left out, alternatives. -/
namespace Go.Proofs.Ytnpgeneahjlkpaa
open Go.RowKit Mac

section
variable {X : Cx} {K K' : Kn} {vr vw : Value} {cs : List Nat} {w w' : World} {S : Mc}
/-- new places of kids of p, and a function that does what sh says -/
def TryP (X : Cx) (K : Kn) (vr vw : Value) (cs : List Nat) (S : Mc) (p : Pl) (l : List Pat) (behind : Nat) (w : World) (e : Ending) (w' : World) : Prop :=
  ∃ K' nn sh g, e = .returned g ∧ K.le K' ∧ Rep X K' vr vw cs w' { S with pl := S.pl ++ nn } ∧ Below w.heap.size w w' ∧ VsK X K' (S.pl ++ nn) p g sh ∧ Tries (S.pl ++ nn) l behind p.nx sh ∧
    (nn = [] ∨ ∃ k d r b, l = [k] ∧ p.e = d + 1 ∧ nn = [⟨k, d, r, behind, b, -1, none⟩] ∧ DeepL d k.kids)
/-- the i-th kid in memory -/
theorem kid_at {d : Nat} {v : Value} {l : List Pat} {w0 : World} (h : RdL patK (d + 1) w0 v l) (hf : TxFit (d + 1) l) {i : Nat} (hi : i < l.length) : ∃ (a : Addr) (cap : Nat) (r : PatR), v = .slice (some a) l.length cap ∧ (a.add (i * 3)).block < w0.heap.size ∧ Pk w0 (a.add (i * 3)) r ∧ RdN patK d w0 r l[i] ∧ l[i].x.text.size ≤ 9223372036854775807 ∧ TxFit d l[i].kids := by
  obtain ⟨R, ⟨A, cap, hv, hn, hc⟩, hl, hk⟩ := h
  have hiR : i < R.length := Nat.lt_of_lt_of_eq hi hl.symm
  obtain ⟨a, ha, hb, hp⟩ := HasP.pk hc i hiR
  obtain ⟨h1, h2⟩ := hf l[i] (List.getElem_mem hi)
  exact ⟨a, cap, R[i], by rw [← hl, ← ha]; exact hv, hb, hp, hk i hiR hi, h1, h2⟩
theorem Rep.pk' (h : Rep X K vr vw cs w S) {a : Addr} {r : PatR} (hp : Pk X.w0 a r) (ha : a.block < X.w0.heap.size) : Pk w a r := Pk.below hp h.bel ha
set_option maxRecDepth 100000 in
set_option maxHeartbeats 2000000 in
theorem tryOne_any (h : Rep X K vr vw cs w S) {p : Pl} {kv : Value} {t : Pat} {d behind : Nat} (hrd : RdL patK (d + 1) X.w0 kv [t]) (hf : TxFit (d + 1) [t]) (he : p.e = d + 1) (hb : behind ≤ S.pl.length) (hnx : p.nx ≤ S.pl.length) :
    Calls Try.prog 122 #[ptr X.m, kv, refV X S.pl behind, refV X S.pl p.nx] w (TryP X K vr vw cs S p [t] behind w) := by
  obtain ⟨k1, caps1, e1⟩ := ref_fn X S.pl p.nx
  obtain ⟨k2, caps2, e2⟩ := ref_fn X S.pl behind
  obtain ⟨a, cap, r, rfl, hab, hpk, hrn, ht1, ht2⟩ := kid_at hrd hf (i := 0) (by simp)
  have ea : a.add (0 * 3) = a := by rw [Nat.zero_mul]; unfold Addr.add; rfl
  rw [ea] at hab hpk
  have h1 := h.addNew (bx (.func (.func k1) #[] caps1) tF)
  have hlt : w.heap.size < (w.alloc (bx (.func (.func k1) #[] caps1) tF)).heap.size := by simp
  obtain ⟨c0, c1, c2⟩ := h1.pk' hpk hab
  have hdk : DeepL d t.kids := by have := rd_deep hrd; exact this t (by simp)
  have HBF := Lib.hid (before_any h1 (t := t) (e := d) (r := r) (nx := behind) hb ⟨hrn, ht1, ht2⟩)
  rw [e2] at HBF
  have HFIN : Hid (∀ w2 K2, K.le K2 → (∀ x, x < w.heap.size + 1 → K2 x = K.add w.heap.size (bx (.func (.func k1) #[] caps1) tF) x) → Rep X K2 vr vw cs w2 { S with pl := S.pl ++ [⟨t, d, r, behind, w.heap.size + 1, -1, none⟩] } → Below (w.heap.size + 1) (w.alloc (bx (.func (.func k1) #[] caps1) tF)) w2 → TryP X K vr vw cs S p [t] behind w (.returned (orV w2.heap.size w.heap.size)) (w2.alloc (bx (placeV (w.heap.size + 1)) tF))) := Lib.hid fun w2 K2 hle hsm hR hB => by
    have hz : w.heap.size + 1 ≤ w2.heap.size := by have := hB.size; simpa using this
    refine ⟨K2.add w2.heap.size (bx (placeV (w.heap.size + 1)) tF), [⟨t, d, r, behind, w.heap.size + 1, -1, none⟩], .ways [S.pl.length + 1, p.nx], orV w2.heap.size w.heap.size, rfl, Kn.le_trans hle (by exact hR.le_new), hR.addNew _, ?_, ?_, ?_, .inr ⟨t, d, r, w.heap.size + 1, rfl, he, rfl, hdk⟩⟩
    · exact below_al (below_step (below_al (Below.refl _ _) _) (hB.mono (by simp))) _
    · refine .inr (.inr (.inl ⟨S.pl.length + 1, p.nx, w2.heap.size, w.heap.size, rfl, rfl, ?_, ?_⟩))
      · rw [Kn.add_at]
        show _ = some (bx (placeV (bOf _ S.pl.length)) tF)
        rw [bOf_eq (p := ⟨t, d, r, behind, w.heap.size + 1, -1, none⟩) (by simp)]
      · rw [Kn.add_ne _ (by omega), hsm _ (by omega), Kn.add_at, ref_same (same_app _ _) hnx, e1]
    · exact ⟨S.pl.length + 1, rfl, S.pl.length, ⟨t, d, r, behind, w.heap.size + 1, -1, none⟩, rfl, by simp, rfl, rfl⟩
  have hle0 := Lib.hid (h.le_new (o := bx (.func (.func k1) #[] caps1) tF))
  rw [e1, e2]
  clear h h1 hrd hpk hrn ht1 ht2 hf he hb hnx e1 e2 hdk
  go_enter Try.func122, Try.ntmps122
  go_wp2_with fail
  refine HBF.out.mono ?_
  rintro e w2 ⟨rfl, K2, hle, hsm, hR, hB⟩
  have HF := Lib.hid (HFIN.out w2 K2 (Kn.le_trans hle0.out hle) (fun x hx => hsm x (by simp; omega)) (by simpa using hR) (by simpa using hB))
  clear hle hsm hR hB
  go_wp2
  go_ret
  exact HF.out
set_option maxRecDepth 100000 in
set_option maxHeartbeats 2000000 in
theorem trySkip_any (h : Rep X K vr vw cs w S) {p : Pl} {A : Option Addr} {cap behind : Nat} {l : List Pat} (hl : l.length ≠ 1) (hnx : p.nx ≤ S.pl.length) :
    Calls Try.prog 122 #[ptr X.m, .slice A l.length cap, refV X S.pl behind, refV X S.pl p.nx] w (TryP X K vr vw cs S p l behind w) := by
  obtain ⟨k1, caps1, e1⟩ := ref_fn X S.pl p.nx
  obtain ⟨k2, caps2, e2⟩ := ref_fn X S.pl behind
  obtain ⟨n, hn⟩ : ∃ n, n = l.length := ⟨_, rfl⟩
  have HF : Hid (TryP X K vr vw cs S p l behind w (.returned (.func (.func k1) #[] caps1)) (w.alloc (bx (.func (.func k1) #[] caps1) tF))) := Lib.hid
    ⟨K, [], .ways [p.nx], _, rfl, K.le_refl, by rw [List.append_nil]; exact h.below (below_al (Below.refl _ _) _), below_al (Below.refl _ _) _, .inl ⟨p.nx, rfl, by rw [List.append_nil, e1]⟩, by
      unfold Tries
      split
      · exact absurd rfl hl
      · rfl, .inl rfl⟩
  have hq : (((n : Nat) : Int) != 1) = true := by simp; omega
  rw [e1, e2, ← hn]
  clear h hl hn e1 e2
  go_enter Try.func122, Try.ntmps122
  go_wp2
  go_ret
  exact HF.out
/-- a block that the machine does not know -/
structure Free (X : Cx) (K : Kn) (vr vw : Value) (L : List Pl) (b : Nat) : Prop where
  k : K b = none
  m : b ≠ X.m
  e : b ≠ X.e
  r : vr.ownBlock ≠ some b
  w : vw.ownBlock ≠ some b
  p : ∀ p, p ∈ L → b ≠ p.b + 4 ∧ b ≠ p.b + 7
theorem Rep.free_new (h : Rep X K vr vw cs w S) {b : Nat} (hb : w.heap.size ≤ b) : Free X K vr vw S.pl b := by
  refine ⟨h.new_free hb, ?_, ?_, fun e => ?_, fun e => ?_, fun p hp => ⟨?_, ?_⟩⟩
  · have := blk_lt h.hm; omega
  · have := blk_lt h.he; omega
  · have := (h.own_r e).2; omega
  · have := (h.own_w e).2; omega
  · obtain ⟨u, a, _⟩ := h.hg p hp; have := blk_lt a; omega
  · have := blk_lt (h.h7 p hp); omega
theorem Free.place {L : List Pl} {b : Nat} (h : Free X K vr vw L b) (hk : K' b = K b) {q : Pl} (hq : b < q.b) : Free X K' vr vw (L ++ [q]) b :=
  ⟨by rw [hk]; exact h.k, h.m, h.e, h.r, h.w, fun p hp => by
    rcases List.mem_append.1 hp with hp | hp
    · exact h.p p hp
    · rw [List.mem_singleton.1 hp]; exact ⟨by omega, by omega⟩⟩
theorem Rep.addFree (h : Rep X K vr vw cs w S) {b : Nat} {o : Obj} (ho : w.heap[b]? = some o) (hc : o.isCells = true) (hf : Free X K vr vw S.pl b) : Rep X (K.add b o) vr vw cs w S := h.addOld ho hc hf.k hf.m hf.e hf.r hf.w hf.p
theorem Free.add {L : List Pl} {b b' : Nat} {o : Obj} (h : Free X K vr vw L b) (hne : b ≠ b') : Free X (K.add b' o) vr vw L b := ⟨by rw [Kn.add_ne _ hne]; exact h.k, h.m, h.e, h.r, h.w, h.p⟩
/-- blocks that the machine does not know turn -/
theorem Rep.off (h : Rep X K vr vw cs w S) {Z : Nat → Prop} (hB : Below X.w0.heap.size w w') (hf : ∀ b, b < w.heap.size → ¬ Z b → w'.heap[b]? = w.heap[b]?) (hz : ∀ b, Z b → Free X K vr vw S.pl b) : Rep X K vr vw cs w' S := by
  have kb : ∀ b (o : Obj), w.heap[b]? = some o → ¬ Z b → w'.heap[b]? = some o := fun b o ho hz => (hf b (blk_lt ho) hz).trans ho
  refine ⟨h.dis, h.bel.trans hB, fun b o hk => kb b o (h.hk b o hk) (fun e => by rw [(hz b e).k] at hk; cases hk), kb _ _ h.hm (fun e => (hz _ e).m rfl), kb _ _ h.he (fun e => (hz _ e).e rfl), h.hv, rowR_frame h.rr fun b hb => hf b (h.own_r hb).2 (fun e => (hz b e).r hb), rowR_frame h.rw fun b hb => hf b (h.own_w hb).2 (fun e => (hz b e).w hb), h.cl, h.cw, h.pk, fun p hp => ?_, fun p hp => kb _ _ (h.h7 p hp) (fun e => ((hz _ e).p p hp).2 rfl), h.rd, h.rl, h.kc⟩
  obtain ⟨g, a, b⟩ := h.hg p hp
  exact ⟨g, kb _ _ a (fun e => ((hz _ e).p p hp).1 rfl), b⟩
/-- blocks turn that are no cells: the records of a loop over a function -/
theorem Rep.turned (h : Rep X K vr vw cs w S) {row : Option Nat} (hg : w.grownBy w' row) (hr : ∀ r, row = some r → X.w0.heap.size ≤ r ∧ ∃ o : Obj, w.heap[r]? = some o ∧ o.isCells = false) : Rep X K vr vw cs w' S := by
  have hno : ∀ b (o : Obj), w.heap[b]? = some o → o.isCells = true → row ≠ some b := fun b o ho hc e => by
    obtain ⟨_, o', h1, h2⟩ := hr b e
    rw [ho] at h1; cases h1
    rw [hc] at h2; cases h2
  refine h.off (Z := fun b => row = some b) ((Below.refl _ _).grown hg h.bel.size (fun r e => (hr r e).1)) (fun b hb hz => hg.block b hb (fun e => hz e.symm)) (fun b hz => ⟨?_, fun e => ?_, fun e => ?_, fun e => ?_, fun e => ?_, fun p hp => ⟨fun e => ?_, fun e => ?_⟩⟩)
  · cases e : K b with
    | none => rfl
    | some o => exact absurd hz (hno b o (h.hk b o e) (h.kc b o e))
  · exact hno b _ (by rw [e]; exact h.hm) rfl hz
  · exact hno b _ (by rw [e]; exact h.he) rfl hz
  · rcases h.rr.2 with ⟨h0, _⟩ | ⟨g, cap, cur, hv, _, hgb, _⟩
    · rw [h0] at e; cases e
    · rw [hv] at e; have e' : g = b := Option.some.inj e
      exact hno b _ (by rw [← e']; exact hgb) rfl hz
  · rcases h.rw.2 with ⟨h0, _⟩ | ⟨g, cap, cur, hv, _, hgb, _⟩
    · rw [h0] at e; cases e
    · rw [hv] at e; have e' : g = b := Option.some.inj e
      exact hno b _ (by rw [← e']; exact hgb) rfl hz
  · obtain ⟨g, a, _⟩ := h.hg p hp
    exact hno b _ (by rw [e]; exact a) rfl hz
  · exact hno b _ (by rw [e]; exact h.h7 p hp) rfl hz
/-- the places of the first kids of p -/
structure Kids (S : Mc) (p : Pl) (l : List Pat) (nn : List Pl) : Prop where
  len : nn.length ≤ l.length
  each : ∀ q (h : q < nn.length) (h' : q < l.length), nn[q].t = l[q] ∧ nn[q].nx = p.nx ∧ nn[q].vis = -1 ∧ nn[q].sh = none ∧ nn[q].e + 1 = p.e ∧ DeepL nn[q].e nn[q].t.kids
def EachI (X : Cx) (K : Kn) (vr vw : Value) (cs : List Nat) (S : Mc) (p : Pl) (l : List Pat) (w : World) (k : Nat) (vway : Value) (wr : World) : Prop :=
  ∃ K1 nn, K.le K1 ∧ Rep X K1 vr vw cs wr { S with pl := S.pl ++ nn } ∧ nn.length = k ∧ Kids S p l nn ∧ RowV tF w.heap.size wr vway (nn.map fun q => placeV q.b) ∧ wr.heap[w.heap.size + 1]? = some (bx vway 98 ) ∧
    Free X K1 vr vw (S.pl ++ nn) (w.heap.size + 1) ∧ (∀ g, vway.ownBlock = some g → g ≠ w.heap.size + 1 ∧ Free X K1 vr vw (S.pl ++ nn) g) ∧ Below w.heap.size w wr
def EachP (X : Cx) (K : Kn) (vr vw : Value) (cs : List Nat) (S : Mc) (p : Pl) (l : List Pat) (w : World) (e : Ending) (w' : World) : Prop :=
  ∃ K' nn sh g, e = .returned g ∧ K.le K' ∧ Rep X K' vr vw cs w' { S with pl := S.pl ++ nn } ∧ Below w.heap.size w w' ∧ VsK X K' (S.pl ++ nn) p g sh ∧ nn.length = l.length ∧ Kids S p l nn ∧ sh = .ways ((List.range l.length).map fun q => S.pl.length + q + 1)
theorem eachI_end {p : Pl} {l : List Pat} {vway : Value} {wr : World} (h : EachI X K vr vw cs S p l w l.length vway wr) (hl : l.length ≤ 2147483648) (hnil : vway ≠ .slice none 0 0) : EachP X K vr vw cs S p l w (.returned (eachV (w.heap.size + 1))) wr := by
  obtain ⟨K1, nn, hle, hR, hnl, hk, hrow, hX, hf1, hf2, hB⟩ := h
  have hrow' := hrow
  rcases hrow.2 with ⟨h0, _⟩ | ⟨g, cap, cur, hv, hg0, hgb, h3, h4, h5, h6⟩
  · exact absurd h0 hnil
  · obtain ⟨g1, g2⟩ := hf2 g (by rw [hv]; rfl)
    have hR2 := (hR.addFree hgb rfl g2).addFree hX rfl (hf1.add (fun e => g1 e.symm))
    refine ⟨_, nn, .ways ((List.range l.length).map fun q => S.pl.length + q + 1), eachV (w.heap.size + 1), rfl, Kn.le_trans hle (Kn.le_trans (Kn.le_add g2.k) (Kn.le_add (by rw [Kn.add_ne _ (fun e => g1 e.symm)]; exact hf1.k))), hR2, hB, .inr (.inl ⟨w.heap.size + 1, g, cap, cur, rfl, by simpa using hl, ?_, ?_, fun q hq => ?_⟩), hnl, hk, rfl⟩
    · rw [Kn.add_at, hv]; simp [hnl]
    · rw [Kn.add_ne _ g1, Kn.add_at]
    · have hq' : q < nn.length := by rw [hnl]; simpa using hq
      have e1 : ((List.range l.length).map fun q => S.pl.length + q + 1)[q] = S.pl.length + q + 1 := by simp
      rw [e1]
      show _ = some (placeV (bOf (S.pl ++ nn) (S.pl.length + q)))
      rw [bOf_eq (p := nn[q]) (by rw [List.getElem?_append_right (by omega), Nat.add_sub_cancel_left, List.getElem?_eq_getElem hq'])]
      have h7 : cur.toList[q]? = some (placeV nn[q].b) := by
        have h8 := congrArg (fun z => z[q]?) h6
        rw [List.getElem?_take_of_lt (by simp; omega)] at h8
        rw [h8]
        simp [List.flatMap_singleton', hq']
      simpa using h7
/-- one more kid's place, one more way -/
theorem eachI_step {p : Pl} {l : List Pat} {vway : Value} {wr : World} {k : Nat} (h : EachI X K vr vw cs S p l w k vway wr) {r : PatR} {t : Pat} {d : Nat} (hlt : k < l.length) (ht : t = l[k]) (he : p.e = d + 1) (hrd : RdN patK d X.w0 r t ∧ t.x.text.size ≤ 9223372036854775807 ∧ TxFit d t.kids) (hdt : DeepL d t.kids) (hnx : p.nx ≤ S.pl.length) (hw0 : X.w0.heap.size ≤ w.heap.size) :
    ∃ ways : List Value, ways.length = k ∧ ∀ W, Below wr.heap.size wr W → Calls Try.prog 58 #[ptr X.m, .agg #[.int .i64 r.op, .string r.text, r.kv], refV X S.pl p.nx] W fun e w2 => e = .returned (placeV W.heap.size) ∧ Below W.heap.size W w2 ∧ Hid (RowV tF w.heap.size w2 vway ways) ∧
      Hid (∀ g' c4 w4 o, RowV tF w.heap.size w4 (.slice (some ⟨g', 0, none⟩) (k + 1) c4) (ways ++ [placeV W.heap.size]) → (w2.alloc o).grownBy w4 vway.ownBlock → (some g' = vway.ownBlock ∨ g' = (w2.alloc o).heap.size) → EachI X K vr vw cs S p l w (k + 1) (.slice (some ⟨g', 0, none⟩) (k + 1) c4) (w4.setCell ⟨w.heap.size + 1, 0, none⟩ (.slice (some ⟨g', 0, none⟩) (k + 1) c4))) := by
  obtain ⟨K1, nn, hle, hR, hnl, hk, hrow, hX, hf1, hf2, hB⟩ := h
  refine ⟨nn.map fun q => placeV q.b, by simp [hnl], fun W hW => ?_⟩
  have hRW := hR.below hW
  have hnx' : p.nx ≤ (S.pl ++ nn).length := by rw [List.length_append]; omega
  have e0 : refV X (S.pl ++ nn) p.nx = refV X S.pl p.nx := ref_same (same_app _ _) hnx
  have hb := before_any hRW (t := t) (e := d) (r := r) (nx := p.nx) hnx' hrd
  rw [e0] at hb
  refine hb.mono ?_
  rintro e w2 ⟨rfl, K2, hle2, hsm, hR2, hB2⟩
  have hWs := hW.size
  have hBw := hB.size
  have hXlt := blk_lt hX
  refine ⟨rfl, hB2, Lib.hid ((hrow.below hW).below hB2), Lib.hid fun g' c4 w4 o hrow4 hg4 hp4 => ?_⟩
  have hw2 := hB2.size
  have hrl : ∀ g, vway.ownBlock = some g → w.heap.size ≤ g ∧ g < wr.heap.size := fun g hg => hrow.lt hg
  have hX2 : w2.heap[w.heap.size + 1]? = some (bx vway 98) := (hB2.block _ (by omega)).trans ((hW.block _ hXlt).trans hX)
  have hX4 : w4.heap[w.heap.size + 1]? = some (bx vway 98) := (hg4.block _ (by simp; omega) (fun e => (hf2 _ e.symm).1 rfl)).trans ((Below.heap_alloc _ _ _ (by omega)).trans hX2)
  have F1 : Free X K2 vr vw ((S.pl ++ nn) ++ [⟨t, d, r, p.nx, W.heap.size, -1, none⟩]) (w.heap.size + 1) := hf1.place (hsm _ (by omega)) (by show _ < W.heap.size; omega)
  have F2 : ∀ g, vway.ownBlock = some g → Free X K2 vr vw ((S.pl ++ nn) ++ [⟨t, d, r, p.nx, W.heap.size, -1, none⟩]) g := fun g hg => (hf2 g hg).2.place (hsm _ (by have := (hrl g hg).2; omega)) (by show g < W.heap.size; have := (hrl g hg).2; omega)
  have hBo : Below X.w0.heap.size w2 (w4.setCell ⟨w.heap.size + 1, 0, none⟩ (.slice (some ⟨g', 0, none⟩) (k + 1) c4)) := by
    have h0 : X.w0.heap.size ≤ w2.heap.size := hR2.bel.size
    have hA : Below X.w0.heap.size w2 (w2.alloc o) := (Below.refl _ _).alloc h0 o
    have hG : Below X.w0.heap.size w2 w4 := hA.grown hg4 (Nat.le_trans h0 hA.size) (fun g hg => Nat.le_trans hw0 (hrl g hg).1)
    exact hG.setCell (p := ⟨w.heap.size + 1, 0, none⟩) (Nat.le_trans hw0 (Nat.le_succ _)) _
  refine ⟨K2, nn ++ [⟨t, d, r, p.nx, W.heap.size, -1, none⟩], Kn.le_trans hle hle2, ?_, by simp [hnl], ⟨by simp; omega, fun q hq hq' => ?_⟩, ?_, one_setCell hX4, by rw [← List.append_assoc]; exact F1, fun g hg => ?_, ?_⟩
  · rw [← List.append_assoc]
    refine hR2.off (Z := fun b => b = w.heap.size + 1 ∨ vway.ownBlock = some b) hBo (fun b hb hz => ?_) (fun b hz => ?_)
    · rw [Below.heap_setCell _ _ _ _ (fun e => hz (.inl e))]
      exact (hg4.block _ (by simp; omega) (fun e => hz (.inr e.symm))).trans (Below.heap_alloc _ _ _ hb)
    · rcases hz with rfl | hz
      · exact F1
      · exact F2 b hz
  · by_cases hq2 : q < nn.length
    · rw [List.getElem_append_left hq2]; exact hk.each q hq2 hq'
    · have hq3 : q = nn.length := by simp at hq; omega
      subst hq3
      have e9 : (nn ++ [(⟨t, d, r, p.nx, W.heap.size, -1, none⟩ : Pl)])[nn.length]'hq = ⟨t, d, r, p.nx, W.heap.size, -1, none⟩ := by simp
      rw [e9]
      exact ⟨by rw [ht]; simp only [hnl], rfl, rfl, rfl, he.symm, hdt⟩
  · rw [List.map_append, List.map_singleton]
    refine ownsRow_setCell_other hrow4 (a := ⟨w.heap.size + 1, 0, none⟩) (fun e => ?_) _
    have e' : g' = w.heap.size + 1 := Option.some.inj e
    rcases hp4 with h1 | h1
    · exact (hf2 _ h1.symm).1 e'
    · simp at h1; omega
  · have e' : g' = g := Option.some.inj hg
    subst e'
    rw [← List.append_assoc]
    rcases hp4 with h1 | h1
    · exact ⟨(hf2 _ h1.symm).1, F2 _ h1.symm⟩
    · simp at h1
      exact ⟨by omega, hR2.free_new (by omega)⟩
  · refine (((hB.trans (hW.mono hBw)).trans (hB2.mono (by omega))).trans ?_)
    have h0 : w.heap.size ≤ w2.heap.size := by omega
    have hA : Below w.heap.size w2 (w2.alloc o) := (Below.refl _ _).alloc h0 o
    have hG : Below w.heap.size w2 w4 := hA.grown hg4 (Nat.le_trans h0 hA.size) (fun g hg => (hrl g hg).1)
    exact hG.setCell (p := ⟨w.heap.size + 1, 0, none⟩) (Nat.le_succ _) _
set_option maxRecDepth 100000 in
set_option maxHeartbeats 4000000 in
theorem tryEach_any (h : Rep X K vr vw cs w S) {p : Pl} {kv : Value} {l : List Pat} (hrd : RdL patK p.e X.w0 kv l) (hf : TxFit p.e l) (hnx : p.nx ≤ S.pl.length) (hll : l.length ≤ 2147483647) :
    Calls Try.prog 121 #[ptr X.m, kv, refV X S.pl p.nx] w (EachP X K vr vw cs S p l w) := by
  obtain ⟨i0, hi, hz0, hz1, hz2⟩ := info_parts infoF
  obtain ⟨k1, caps1, e1⟩ := ref_fn X S.pl p.nx
  obtain ⟨A, cap, hkv⟩ := hrd.form
  subst hkv
  have hdl := rd_deep hrd
  obtain ⟨n, hnn⟩ : ∃ n, n = l.length := ⟨_, rfl⟩
  have HN := Lib.hid hnn
  have hw0 : X.w0.heap.size ≤ w.heap.size := h.bel.size
  have HC : Hid (∀ k, k < n → ∀ vway wr, EachI X K vr vw cs S p l w k vway wr → ∃ (a : Addr) (r : PatR) (ways : List Value), A = some a ∧ (a.add (k * 3)).block < X.w0.heap.size ∧ Pk X.w0 (a.add (k * 3)) r ∧ (∃ Ak nk ck, r.kv = .slice Ak nk ck) ∧ ways.length = k ∧ ∀ W b2, W.heap.size = b2 → Below wr.heap.size wr W → Calls Try.prog 58 #[ptr X.m, .agg #[.int .i64 r.op, .string r.text, r.kv], .func (.func k1) #[] caps1] W fun e w2 => e = .returned (placeV b2) ∧ Below W.heap.size W w2 ∧ Hid (RowV tF w.heap.size w2 vway ways) ∧
      Hid (∀ g' c4 w4 o, RowV tF w.heap.size w4 (.slice (some ⟨g', 0, none⟩) (k + 1) c4) (ways ++ [placeV b2]) → (w2.alloc o).grownBy w4 vway.ownBlock → (some g' = vway.ownBlock ∨ g' = (w2.alloc o).heap.size) → EachI X K vr vw cs S p l w (k + 1) (.slice (some ⟨g', 0, none⟩) (k + 1) c4) (w4.setCell ⟨w.heap.size + 1, 0, none⟩ (.slice (some ⟨g', 0, none⟩) (k + 1) c4)))) := Lib.hid fun k hk vway wr hE => by
    have hkl : k < l.length := by omega
    cases hpe : p.e with
    | zero => rw [hpe] at hdl; rw [show l = [] from hdl] at hkl; simp at hkl
    | succ d =>
      rw [hpe] at hrd hf hdl
      obtain ⟨a, cap', r, hv, hab, hpk, hrn, ht1, ht2⟩ := kid_at hrd hf hkl
      cases hv
      obtain ⟨Ak, ck, hkv⟩ := hrn.2.form
      obtain ⟨ways, hwl, hcall⟩ := eachI_step hE hkl rfl hpe ⟨hrn, ht1, ht2⟩ (hdl _ (List.getElem_mem hkl)) hnx hw0
      rw [e1] at hcall
      exact ⟨a, r, ways, rfl, hab, hpk, ⟨Ak, _, ck, hkv⟩, hwl, fun W b2 hW2 hW => by subst hW2; exact hcall W hW⟩
  have HEND : Hid (∀ g m c wr, EachI X K vr vw cs S p l w n (.slice (some ⟨g, 0, none⟩) m c) wr → EachP X K vr vw cs S p l w (.returned (eachV (w.heap.size + 1))) wr) := Lib.hid fun g m c wr hE => by
    rw [hnn] at hE
    exact eachI_end hE (by omega) (by simp)
  have H0 : Hid (EachI X K vr vw cs S p l w 0 (.slice (some ⟨w.heap.size, 0, none⟩) 0 0) ((w.alloc (.cells #[] tF)).alloc (bx (.slice (some ⟨w.heap.size, 0, none⟩) 0 0) 98))) := Lib.hid (by
    have hB : Below w.heap.size w ((w.alloc (.cells #[] tF)).alloc (bx (.slice (some ⟨w.heap.size, 0, none⟩) 0 0) 98)) := below_al (below_al (Below.refl _ _) _) _
    refine ⟨K, [], K.le_refl, by rw [List.append_nil]; exact h.below hB, rfl, ⟨by simp, fun q hq => absurd hq (by simp)⟩, ?_, alloc_new_at _ _ (by simp), by rw [List.append_nil]; exact h.free_new (by omega), fun g hg => ?_, hB⟩
    · exact rowR_empty ((Below.heap_alloc _ _ _ (by simp)).trans (heap_alloc_new w _)) (Nat.le_refl _)
    · have e' : w.heap.size = g := Option.some.inj hg
      subst e'
      exact ⟨by omega, by rw [List.append_nil]; exact h.free_new (Nat.le_refl _)⟩)
  have HBEL : Hid (∀ k vway wr, EachI X K vr vw cs S p l w k vway wr → Below X.w0.heap.size X.w0 wr ∧ wr.heap[w.heap.size + 1]? = some (bx vway 98) ∧ (∀ g, vway.ownBlock = some g → g ≠ w.heap.size + 1) ∧ w.heap.size ≤ wr.heap.size) := Lib.hid fun k vway wr hE => by
    obtain ⟨K1, nn, hle, hR, hnl, hk, hrow, hX, hf1, hf2, hB⟩ := hE
    exact ⟨hR.bel, hX, fun g hg => (hf2 g hg).1, hB.size⟩
  rw [e1, ← hnn]
  rw [← hnn] at hll
  clear h hrd hf hnx e1 hdl hnn hw0
  go_enter Try.func121, Try.ntmps121
  go_wp2
  go_loopw [13] (fun i wr => ∃ (k g c : Nat), k ≤ n ∧ i = .int .i64 k ∧ Hid (EachI X K vr vw cs S p l w k (.slice (some ⟨g, 0, none⟩) k c) wr)) (fun i _ => n - (intOf i).toNat)
  case atStart => exact ⟨0, w.heap.size, 0, Nat.zero_le _, rfl, H0⟩
  case round =>
    clear H0
    obtain ⟨k, g, c, hk, rfl, HE⟩ := hrel
    obtain ⟨hbel, hX, hgv, hws⟩ := HBEL.out _ _ _ HE.out
    have hXlt := blk_lt hX
    have hX1 := cell_of_one hX
    have hXf := free_of_one hX
    by_cases hlt : k < n
    · obtain ⟨a, r, ways, rfl, hab, hpk, ⟨Ak, nk, ck, hkv⟩, hwl, hcall⟩ := HC.out k hlt _ wr HE.out
      obtain ⟨op, text, kv⟩ := r
      obtain rfl : kv = .slice Ak nk ck := hkv
      obtain ⟨c0, c1, c2⟩ := Pk.below hpk hbel hab
      have HCALL := Lib.hid hcall
      have HWL := Lib.hid hwl
      have HX := Lib.hid hX
      have HGV := Lib.hid hgv
      clear hpk hcall hwl hX hgv HE HC HBEL
      go_wp2
      go_region_law (first
        | (refine step_fn_append rfl _ _ 98 tF i0 (by rfl) Try.underlying98 hi hz0 hz1 hz2 w.heap.size k _ ways (by rfl) (RowR.alloc HROW.out _) HWL.out (placeV (wr.heap.size + 1)) ⟨w2.heap.size, 0, none⟩ 1 (by rfl) (cell_of_one (heap_alloc_new _ _)) (by rfl) (by omega) (by simp; omega) (k + 1) rfl ?_
           intro g' c4 w4 hrow4 hg4 hp4
           have HNEW := Lib.hid (HS.out g' c4 w4 _ hrow4 hg4 hp4)
           have hX4 : w4.heap[w.heap.size + 1]? = some (bx (.slice (some ⟨g, 0, none⟩) k c) 98) := (hg4.block _ (by simp; omega) (fun e => HGV.out _ e.symm rfl)).trans ((Below.heap_alloc _ _ _ hz5).trans hX2)
           have f4 := free_of_one hX4
           have e4 := cell_of_one hX4)
        | (go_simp; go_at_call 58; refine (HCALL.out _ (wr.heap.size + 1) (by simp) (by first | exact (below_al (Below.refl _ _) _).drew | exact below_al (Below.refl _ _) _)).mono ?_
           rintro e w2 ⟨rfl, hb2, HROW, HS⟩
           have hsz2 := hb2.size
           have hX2 : w2.heap[w.heap.size + 1]? = some (bx (.slice (some ⟨g, 0, none⟩) k c) 98) := (hb2.block _ (by simp; omega)).trans ((Below.heap_alloc _ _ _ hXlt).trans HX.out)
           have e5 := cell_of_one hX2
           have hz5 := blk_lt hX2))
      all_goals
        clear hrow4 hg4 hp4 hX4 f4 e4
        go_wp2
        go_roundw
        case rel => exact ⟨k + 1, g', c4, by omega, by go_num, HNEW⟩
        case measure => simp [intOf]; omega
    · have hkn : k = n := by omega
      subst hkn
      have HF := Lib.hid (HEND.out g k c wr HE.out)
      clear HE HC HBEL HEND
      go_wp2
      go_ret
      exact HF.out
-- EACH
end
end Go.Proofs.Ytnpgeneahjlkpaa

/- CHAPTER 5, impl: visitOf, at all patterns but sequences. -/
namespace Go.Proofs.Ytnpgeneahjlkpaa
open Go.RowKit Mac

section
variable {X : Cx} {K K' : Kn} {vr vw : Value} {cs : List Nat} {w w' : World} {S : Mc} {D : Nat}
/-- what visitOf leaves -/
def VofP (X : Cx) (K : Kn) (vr vw : Value) (cs : List Nat) (S : Mc) (D i : Nat) (p : Pl) (w : World) (e : Ending) (w' : World) : Prop :=
  ∃ K' nn sh g, e = .returned g ∧ K.le K' ∧ Rep X K' vr vw cs w' { S with pl := S.pl ++ nn } ∧ Below w.heap.size w w' ∧ VsK X K' (S.pl ++ nn) p g sh ∧ Shaped (S.pl ++ nn) i p sh ∧ News D S p nn ∧ (∀ l, sh = .ways l → ∀ r, r ∈ l → r ≤ (S.pl ++ nn).length)
theorem news_nil {p : Pl} (ho : Ord S.pl) : News D S p [] := ⟨fun q hq => (List.not_mem_nil hq).elim, (by rw [List.append_nil]; exact ho), Nat.zero_le _⟩
theorem news_one {p : Pl} {k : Pat} {d : Nat} {r : PatR} {nx b : Nat} (ho : Ord S.pl) (hp : p.t.kids = [k]) (he : p.e = d + 1) (hD : p.e ≤ D) (hd : DeepL d k.kids) (hnx : nx ≤ S.pl.length) : News D S p [⟨k, d, r, nx, b, -1, none⟩] := by
  refine ⟨fun q hq => ?_, fun j q hq => ?_, ?_⟩
  · rw [List.mem_singleton.1 hq]; exact ⟨rfl, rfl, by show d ≤ D; omega, hd⟩
  · by_cases hj : j < S.pl.length
    · rw [List.getElem?_append_left hj] at hq; exact ho j q hq
    · have hl := (List.getElem?_eq_some_iff.1 hq).1
      simp at hl
      have e : j = S.pl.length := by omega
      subst e
      simp at hq
      subst hq
      exact hnx
  · rw [hp, he]
    simp [sumL, nw, cntL]
theorem tries_le {L : List Pl} {l : List Pat} {b n : Nat} {sh : Vs} (h : Tries L l b n sh) (hb : b ≤ L.length) (hn : n ≤ L.length) : ∀ m, sh = .ways m → ∀ r, r ∈ m → r ≤ L.length := by
  unfold Tries at h
  split at h
  · obtain ⟨r, e, hl⟩ := h
    intro m hm q hq
    rw [e] at hm; cases hm
    rcases List.mem_cons.1 hq with rfl | hq
    · exact hl.le hb
    · rw [List.mem_singleton.1 hq]; exact hn
  · intro m hm q hq
    rw [h] at hm; cases hm
    rw [List.mem_singleton.1 hq]; exact hn
theorem vof_try {i : Nat} {p : Pl} {behind : Nat} {e : Ending} {w0 : World} (ho : Ord S.pl) (hD : p.e ≤ D) (hb : behind ≤ S.pl.length) (hnx : p.nx ≤ S.pl.length) (h4 : (p.t.x.op = 4 ∧ behind = i + 1) ∨ (p.t.x.op = 5 ∧ behind = p.nx)) (hB : Below w0.heap.size w0 w) (h : TryP X K vr vw cs S p p.t.kids behind w e w') : VofP X K vr vw cs S D i p w0 e w' := by
  obtain ⟨K', nn, sh, g, he, hle, hR, hB2, hv, ht, hn⟩ := h
  refine ⟨K', nn, sh, g, he, hle, hR, below_step hB hB2, hv, ?_, ?_, ?_⟩
  · rcases h4 with ⟨h4, rfl⟩ | ⟨h4, rfl⟩
    · exact ⟨fun c => by omega, fun c => by omega, fun c => by omega, fun _ => ht, fun c => by omega, fun _ _ _ c => absurd h4 c⟩
    · exact ⟨fun c => by omega, fun c => by omega, fun c => by omega, fun c => by omega, fun _ => ht, fun _ _ _ _ c => absurd h4 c⟩
  · rcases hn with rfl | ⟨k, d, r, b, h1, h2, rfl, h3⟩
    · exact news_nil ho
    · exact news_one ho h1 h2 hD h3 hb
  · exact tries_le ht (by rw [List.length_append]; omega) (by rw [List.length_append]; omega)
theorem cnt_each {d : Nat} : ∀ {nn : List Pl} {l : List Pat}, nn.length = l.length → (∀ q (h : q < nn.length) (h' : q < l.length), nn[q].t = l[q] ∧ nn[q].e = d) → sumL nw nn = cntL (d + 1) l
  | [], [], _, _ => rfl
  | x :: nn, t :: l, hl, h => by
    have ih := cnt_each (d := d) (nn := nn) (l := l) (by simpa using hl) (fun q h1 h2 => by have := h (q + 1) (by simpa using h1) (by simpa using h2); simpa using this)
    have h0 := h 0 (by simp) (by simp)
    simp at h0
    simp only [sumL, cntL, List.map_cons, List.sum_cons] at ih ⊢
    rw [ih]
    unfold nw; rw [h0.1, h0.2]
  | [], _ :: _, hl, _ => by simp at hl
  | _ :: _, [], hl, _ => by simp at hl
theorem vof_each {i : Nat} {p : Pl} {e : Ending} {w0 : World} (ho : Ord S.pl) (hD : p.e ≤ D) (hd : DeepL p.e p.t.kids) (hnx : p.nx ≤ S.pl.length) (h3 : p.t.x.op = 3) (hB : Below w0.heap.size w0 w) (h : EachP X K vr vw cs S p p.t.kids w e w') : VofP X K vr vw cs S D i p w0 e w' := by
  obtain ⟨K', nn, sh, g, he, hle, hR, hB2, hv, hnl, hk, hsh⟩ := h
  have hlen : ((List.range p.t.kids.length).map fun q => S.pl.length + q + 1).length = p.t.kids.length := by simp
  have hget : ∀ q (h : q < nn.length), (S.pl ++ nn)[S.pl.length + q]? = some nn[q] := fun q h => by rw [List.getElem?_append_right (by omega), Nat.add_sub_cancel_left, List.getElem?_eq_getElem h]
  refine ⟨K', nn, sh, g, he, hle, hR, below_step hB hB2, hv, ⟨fun c => by omega, fun c => by omega, fun _ => ⟨_, hsh, hlen, fun q h1 h2 => ?_⟩, fun c => by omega, fun c => by omega, fun _ _ c => absurd h3 c⟩, ⟨fun q hq => ?_, fun j q hq => ?_, ?_⟩, fun l hl r hr => ?_⟩
  · have hq : q < nn.length := by omega
    obtain ⟨k1, k2, _⟩ := hk.each q hq h2
    exact ⟨S.pl.length + q, nn[q], by simp, hget q hq, k1, k2⟩
  · obtain ⟨j, hj, rfl⟩ := List.getElem_of_mem hq
    obtain ⟨k1, k2, k3, k4, k5, k6⟩ := hk.each j hj (by omega)
    exact ⟨k3, k4, by omega, k6⟩
  · by_cases hj : j < S.pl.length
    · rw [List.getElem?_append_left hj] at hq; exact ho j q hq
    · rw [List.getElem?_append_right (by omega)] at hq
      obtain ⟨h1, h2⟩ := List.getElem?_eq_some_iff.1 hq
      obtain ⟨k1, k2, _⟩ := hk.each _ h1 (by omega)
      rw [← h2, k2]; omega
  · cases hpe : p.e with
    | zero => rw [hpe] at hd; have : p.t.kids = [] := hd; rw [this] at hnl ⊢; have : nn = [] := List.length_eq_zero_iff.1 hnl; rw [this]; exact Nat.zero_le _
    | succ d => exact Nat.le_of_eq (cnt_each hnl fun q h1 h2 => ⟨(hk.each q h1 h2).1, by have := (hk.each q h1 h2).2.2.2.2.1; omega⟩)
  · rw [hsh] at hl; cases hl
    obtain ⟨q, hq, rfl⟩ := List.mem_map.1 hr
    have := List.mem_range.1 hq
    rw [List.length_append, hnl]; omega
/-- what visitOf is told -/
structure VofI (X : Cx) (K : Kn) (vr vw : Value) (cs : List Nat) (S : Mc) (D i : Nat) (p : Pl) (w : World) : Prop where
  rep : Rep X K vr vw cs w S
  hp : S.pl[i]? = some p
  ord : Ord S.pl
  e : p.e ≤ D
  deep : DeepL p.e p.t.kids
  few : p.t.kids.length ≤ 2147483647
theorem vof_wait {i : Nat} {p : Pl} {e : Ending} {w0 : World} (ho : Ord S.pl) (h1 : p.t.x.op = 1) (hB : Below w0.heap.size w0 w) (h : e = .returned (waitV w.heap.size) ∧ ∃ K', K.le K' ∧ Rep X K' vr vw cs w' S ∧ Below w.heap.size w w' ∧ VsK X K' S.pl p (waitV w.heap.size) .wait) : VofP X K vr vw cs S D i p w0 e w' := by
  obtain ⟨he, K', a, b, c, d⟩ := h
  exact ⟨K', [], .wait, _, he, a, by rw [List.append_nil]; exact b, below_step hB c, by rw [List.append_nil]; exact d, ⟨fun _ => rfl, fun c => by omega, fun c => by omega, fun c => by omega, fun c => by omega, fun c => absurd h1 c⟩, news_nil ho, fun l e => by cases e⟩
theorem try_any (h : Rep X K vr vw cs w S) {p : Pl} {kv : Value} {l : List Pat} {behind : Nat} (hrd : RdL patK p.e X.w0 kv l) (hf : TxFit p.e l) (hb : behind ≤ S.pl.length) (hnx : p.nx ≤ S.pl.length) :
    Calls Try.prog 122 #[ptr X.m, kv, refV X S.pl behind, refV X S.pl p.nx] w (TryP X K vr vw cs S p l behind w) := by
  by_cases hl : l.length = 1
  · obtain ⟨t, rfl⟩ := List.length_eq_one_iff.1 hl
    cases he : p.e with
    | zero => rw [he] at hrd; have := hrd.1; cases this
    | succ d => rw [he] at hrd hf; exact tryOne_any h hrd hf he hb hnx
  · obtain ⟨A, cap, rfl⟩ := hrd.form
    exact trySkip_any h hl hnx
set_option maxRecDepth 100000 in
set_option maxHeartbeats 4000000 in
theorem vof_1 {i : Nat} {p : Pl} (h : VofI X K vr vw cs S D i p w) (hop : p.t.x.op = 1) : Calls Try.prog 95 #[ptr X.m, .agg #[.int .i64 p.r.op, .string p.r.text, p.r.kv], placeV p.b, refV X S.pl p.nx] w (VofP X K vr vw cs S D i p w) := by
  obtain ⟨hR, hp, ho, hD, hd, hfew⟩ := h
  have hpm := List.mem_of_getElem? hp
  have hil := (List.getElem?_eq_some_iff.1 hp).1
  have hnx := (hR.pk p hpm).2
  obtain ⟨⟨⟨hro, hrt⟩, hrd⟩, htx, hfit⟩ := hR.rd p hpm
  obtain ⟨A, cap, hkv⟩ := RdL.form (k := patK) hrd
  have hkv' : p.r.kv = .slice A p.t.kids.length cap := hkv
  have hrd' : RdL patK p.e X.w0 (.slice A p.t.kids.length cap) p.t.kids := by rw [← hkv']; exact hrd
  have hpl : refV X S.pl (i + 1) = placeV p.b := by show placeV (bOf S.pl i) = _; rw [bOf_eq hp]
  obtain ⟨k1, caps1, e1⟩ := ref_fn X S.pl p.nx
  have hro' : p.r.op = p.t.x.op := hro
  have hrt' : p.r.text = p.t.x.text := hrt
  obtain ⟨n, hn⟩ : ∃ n, n = p.t.kids.length := ⟨_, rfl⟩
  have hB : Below w.heap.size w (((w.alloc (bx (ptr X.m) tM)).alloc (.cells #[.int .i64 p.t.x.op, .string p.t.x.text, .slice A p.t.kids.length cap] 56)).alloc (bx (.func (.func k1) #[] caps1) tF)) := below_al (below_al (below_al (Below.refl _ _) _) _) _
  have hRW := hR.below hB
  have HC := Lib.hid (Calls.mono (waitFor_any hRW (p := p) p.t.x.text rfl) (fun e w' h => (vof_wait (D := D) (i := i) ho hop hB h : VofP X K vr vw cs S D i p w e w')))
  rw [hro', hrt', hkv', e1, ← hn]
  rw [e1, ← hn] at HC
  rw [hop] at HC ⊢
  clear hR hp ho hD hd hfew hpm hil hnx hro hrt hrd htx hfit hkv hkv' hrd' hpl e1 hro' hrt' hn hB hRW
  go_enter Try.func95, Try.ntmps95
  go_wp2_with fail
  refine HC.out.mono ?_
  rintro e w2 hV
  obtain ⟨g, rfl, HV⟩ : ∃ g, e = .returned g ∧ Hid (VofP X K vr vw cs S D i p w (.returned g) w2) := by obtain ⟨K', nn, sh, g, rfl, rest⟩ := hV; exact ⟨g, rfl, Lib.hid ⟨K', nn, sh, g, rfl, rest⟩⟩
  clear hV HC
  go_wp2
  go_ret
  exact HV.out
set_option maxRecDepth 100000 in
set_option maxHeartbeats 4000000 in
theorem vof_3 {i : Nat} {p : Pl} (h : VofI X K vr vw cs S D i p w) (hop : p.t.x.op = 3) : Calls Try.prog 95 #[ptr X.m, .agg #[.int .i64 p.r.op, .string p.r.text, p.r.kv], placeV p.b, refV X S.pl p.nx] w (VofP X K vr vw cs S D i p w) := by
  obtain ⟨hR, hp, ho, hD, hd, hfew⟩ := h
  have hpm := List.mem_of_getElem? hp
  have hil := (List.getElem?_eq_some_iff.1 hp).1
  have hnx := (hR.pk p hpm).2
  obtain ⟨⟨⟨hro, hrt⟩, hrd⟩, htx, hfit⟩ := hR.rd p hpm
  obtain ⟨A, cap, hkv⟩ := RdL.form (k := patK) hrd
  have hkv' : p.r.kv = .slice A p.t.kids.length cap := hkv
  have hrd' : RdL patK p.e X.w0 (.slice A p.t.kids.length cap) p.t.kids := by rw [← hkv']; exact hrd
  have hpl : refV X S.pl (i + 1) = placeV p.b := by show placeV (bOf S.pl i) = _; rw [bOf_eq hp]
  obtain ⟨k1, caps1, e1⟩ := ref_fn X S.pl p.nx
  have hro' : p.r.op = p.t.x.op := hro
  have hrt' : p.r.text = p.t.x.text := hrt
  obtain ⟨n, hn⟩ : ∃ n, n = p.t.kids.length := ⟨_, rfl⟩
  have hB : Below w.heap.size w (((w.alloc (bx (ptr X.m) tM)).alloc (.cells #[.int .i64 p.t.x.op, .string p.t.x.text, .slice A p.t.kids.length cap] 56)).alloc (bx (.func (.func k1) #[] caps1) tF)) := below_al (below_al (below_al (Below.refl _ _) _) _) _
  have hRW := hR.below hB
  have HC := Lib.hid (Calls.mono (tryEach_any hRW (p := p) hrd' hfit hnx hfew) (fun e w' h => (vof_each (D := D) (i := i) ho hD hd hnx hop hB h : VofP X K vr vw cs S D i p w e w')))
  rw [hro', hrt', hkv', e1, ← hn]
  rw [e1, ← hn] at HC
  rw [hop] at HC ⊢
  clear hR hp ho hD hd hfew hpm hil hnx hro hrt hrd htx hfit hkv hkv' hrd' hpl e1 hro' hrt' hn hB hRW
  go_enter Try.func95, Try.ntmps95
  go_wp2_with fail
  refine HC.out.mono ?_
  rintro e w2 hV
  obtain ⟨g, rfl, HV⟩ : ∃ g, e = .returned g ∧ Hid (VofP X K vr vw cs S D i p w (.returned g) w2) := by obtain ⟨K', nn, sh, g, rfl, rest⟩ := hV; exact ⟨g, rfl, Lib.hid ⟨K', nn, sh, g, rfl, rest⟩⟩
  clear hV HC
  go_wp2
  go_ret
  exact HV.out
set_option maxRecDepth 100000 in
set_option maxHeartbeats 4000000 in
theorem vof_4 {i : Nat} {p : Pl} (h : VofI X K vr vw cs S D i p w) (hop : p.t.x.op = 4) : Calls Try.prog 95 #[ptr X.m, .agg #[.int .i64 p.r.op, .string p.r.text, p.r.kv], placeV p.b, refV X S.pl p.nx] w (VofP X K vr vw cs S D i p w) := by
  obtain ⟨hR, hp, ho, hD, hd, hfew⟩ := h
  have hpm := List.mem_of_getElem? hp
  have hil := (List.getElem?_eq_some_iff.1 hp).1
  have hnx := (hR.pk p hpm).2
  obtain ⟨⟨⟨hro, hrt⟩, hrd⟩, htx, hfit⟩ := hR.rd p hpm
  obtain ⟨A, cap, hkv⟩ := RdL.form (k := patK) hrd
  have hkv' : p.r.kv = .slice A p.t.kids.length cap := hkv
  have hrd' : RdL patK p.e X.w0 (.slice A p.t.kids.length cap) p.t.kids := by rw [← hkv']; exact hrd
  have hpl : refV X S.pl (i + 1) = placeV p.b := by show placeV (bOf S.pl i) = _; rw [bOf_eq hp]
  obtain ⟨k1, caps1, e1⟩ := ref_fn X S.pl p.nx
  have hro' : p.r.op = p.t.x.op := hro
  have hrt' : p.r.text = p.t.x.text := hrt
  obtain ⟨n, hn⟩ : ∃ n, n = p.t.kids.length := ⟨_, rfl⟩
  have hB : Below w.heap.size w (((w.alloc (bx (ptr X.m) tM)).alloc (.cells #[.int .i64 p.t.x.op, .string p.t.x.text, .slice A p.t.kids.length cap] 56)).alloc (bx (.func (.func k1) #[] caps1) tF)) := below_al (below_al (below_al (Below.refl _ _) _) _) _
  have hRW := hR.below hB
  have HC := Lib.hid (Calls.mono (try_any hRW (p := p) (behind := i + 1) hrd' hfit (by omega) hnx) (fun e w' h => (vof_try (D := D) (i := i) ho hD (by omega) hnx (.inl ⟨hop, rfl⟩) hB h : VofP X K vr vw cs S D i p w e w')))
  rw [hpl] at HC
  rw [hro', hrt', hkv', e1, ← hn]
  rw [e1, ← hn] at HC
  rw [hop] at HC ⊢
  clear hR hp ho hD hd hfew hpm hil hnx hro hrt hrd htx hfit hkv hkv' hrd' hpl e1 hro' hrt' hn hB hRW
  go_enter Try.func95, Try.ntmps95
  go_wp2_with fail
  refine HC.out.mono ?_
  rintro e w2 hV
  obtain ⟨g, rfl, HV⟩ : ∃ g, e = .returned g ∧ Hid (VofP X K vr vw cs S D i p w (.returned g) w2) := by obtain ⟨K', nn, sh, g, rfl, rest⟩ := hV; exact ⟨g, rfl, Lib.hid ⟨K', nn, sh, g, rfl, rest⟩⟩
  clear hV HC
  go_wp2
  go_ret
  exact HV.out
set_option maxRecDepth 100000 in
set_option maxHeartbeats 4000000 in
theorem vof_5 {i : Nat} {p : Pl} (h : VofI X K vr vw cs S D i p w) (hop : p.t.x.op = 5) : Calls Try.prog 95 #[ptr X.m, .agg #[.int .i64 p.r.op, .string p.r.text, p.r.kv], placeV p.b, refV X S.pl p.nx] w (VofP X K vr vw cs S D i p w) := by
  obtain ⟨hR, hp, ho, hD, hd, hfew⟩ := h
  have hpm := List.mem_of_getElem? hp
  have hil := (List.getElem?_eq_some_iff.1 hp).1
  have hnx := (hR.pk p hpm).2
  obtain ⟨⟨⟨hro, hrt⟩, hrd⟩, htx, hfit⟩ := hR.rd p hpm
  obtain ⟨A, cap, hkv⟩ := RdL.form (k := patK) hrd
  have hkv' : p.r.kv = .slice A p.t.kids.length cap := hkv
  have hrd' : RdL patK p.e X.w0 (.slice A p.t.kids.length cap) p.t.kids := by rw [← hkv']; exact hrd
  have hpl : refV X S.pl (i + 1) = placeV p.b := by show placeV (bOf S.pl i) = _; rw [bOf_eq hp]
  obtain ⟨k1, caps1, e1⟩ := ref_fn X S.pl p.nx
  have hro' : p.r.op = p.t.x.op := hro
  have hrt' : p.r.text = p.t.x.text := hrt
  obtain ⟨n, hn⟩ : ∃ n, n = p.t.kids.length := ⟨_, rfl⟩
  have hB : Below w.heap.size w (((w.alloc (bx (ptr X.m) tM)).alloc (.cells #[.int .i64 p.t.x.op, .string p.t.x.text, .slice A p.t.kids.length cap] 56)).alloc (bx (.func (.func k1) #[] caps1) tF)) := below_al (below_al (below_al (Below.refl _ _) _) _) _
  have hRW := hR.below hB
  have HC := Lib.hid (Calls.mono (try_any hRW (p := p) (behind := p.nx) hrd' hfit hnx hnx) (fun e w' h => (vof_try (D := D) (i := i) ho hD hnx hnx (.inr ⟨hop, rfl⟩) hB h : VofP X K vr vw cs S D i p w e w')))
  rw [hro', hrt', hkv', e1, ← hn]
  rw [e1, ← hn] at HC
  rw [hop] at HC ⊢
  clear hR hp ho hD hd hfew hpm hil hnx hro hrt hrd htx hfit hkv hkv' hrd' hpl e1 hro' hrt' hn hB hRW
  go_enter Try.func95, Try.ntmps95
  go_wp2_with fail
  refine HC.out.mono ?_
  rintro e w2 hV
  obtain ⟨g, rfl, HV⟩ : ∃ g, e = .returned g ∧ Hid (VofP X K vr vw cs S D i p w (.returned g) w2) := by obtain ⟨K', nn, sh, g, rfl, rest⟩ := hV; exact ⟨g, rfl, Lib.hid ⟨K', nn, sh, g, rfl, rest⟩⟩
  clear hV HC
  go_wp2
  go_ret
  exact HV.out
-- OTHER
end
end Go.Proofs.Ytnpgeneahjlkpaa

/- CHAPTER 5, impl: slices.Backward of patterns: what a loop over it is told. -/
namespace Go.Proofs.Ytnpgeneahjlkpaa
open Go.RowKit Go.Shelf Mac
attribute [local go_sem] Oper.semAt_some

/-- a kid as it comes: its number, its record -/
abbrev KidX (R : Nat → PatR) (len : Nat) := { x : Nat × PatR // x.1 < len ∧ x.2 = R x.1 }
def kidV {R : Nat → PatR} {len : Nat} (x : KidX R len) : Array Value := #[.int .i64 (x.1.1 : Int), .agg #[.int .i64 x.1.2.op, .string x.1.2.text, x.1.2.kv]]
/-- those that have come when k are left -/
def Downs (R : Nat → PatR) (len k : Nat) (l : List (KidX R len)) : Prop := l.map (fun x => x.1.1) = ((List.range len).drop k).reverse
theorem downs_nil (R : Nat → PatR) (len : Nat) : Downs R len len [] := by unfold Downs; simp
theorem downs_step {R : Nat → PatR} {len j : Nat} {l : List (KidX R len)} (h : Downs R len (j + 1) l) (hj : j < len) : Downs R len j (l ++ [⟨(j, R j), hj, rfl⟩]) := by
  unfold Downs at *
  have e : (List.range len).drop j = j :: (List.range len).drop (j + 1) := by
    have h1 := List.drop_eq_getElem_cons (l := List.range len) (i := j) (by simpa using hj)
    rw [List.getElem_range] at h1
    exact h1
  rw [List.map_append, h, e, List.reverse_cons]
  rfl
/-- what a round keeps: what lies below n₀, and the block Bs -/
def KeepB (n₀ Bs : Nat) (W W' : World) : Prop := Below n₀ W W' ∧ ∀ o : Obj, W.heap[Bs]? = some o → W'.heap[Bs]? = some o
theorem KeepB.refl (n₀ Bs : Nat) (W : World) : KeepB n₀ Bs W W := ⟨Below.refl _ _, fun _ h => h⟩
theorem KeepB.trans {n₀ Bs : Nat} {A B C : World} (h : KeepB n₀ Bs A B) (k : KeepB n₀ Bs B C) : KeepB n₀ Bs A C := ⟨h.1.trans k.1, fun o ho => k.2 o (h.2 o ho)⟩
theorem keepB_b {n₀ Bs : Nat} {w : World} (hn : n₀ ≤ w.heap.size) (hB : Bs < w.heap.size) (W : World) (l : Nat) (o o' : Obj) (hl : w.heap.size ≤ l) (h : W.heap[l]? = some o) (h1 : o.isCells = false) (h2 : o.isWalk = false) : KeepB n₀ Bs W (W.putObj l o') :=
  ⟨belowK_b hn W l o o' hl h h1 h2, fun u hu => (World.putObj_heap_other (by omega)).trans hu⟩
set_option maxRecDepth 100000 in
set_option maxHeartbeats 2000000 in
theorem back1_in (F : Fence) (n : Nat) (hF : F.fn 143) (hro : F.round = none) (hn : 1 ≤ n) (l Bs n₀ len cap : Nat) (A : Option Addr) (R : Nat → PatR) (hlen : len ≤ 2147483647) (J Jx : List (KidX R len) → World → Prop)
    (hY : ∀ pre (x : KidX R len) W, J pre W → pre.length < len → YieldAt F (n - 1) Try.prog l (kidV x) W fun e W' =>
      (e = .returned (.bool true) ∧ J (pre ++ [x]) W' ∧ KeepB n₀ Bs W W') ∨ (e = .returned (.bool false) ∧ Jx (pre ++ [x]) W'))
    (W : World) (hBs : W.heap[Bs]? = some (bx (.slice A len cap) 54)) (hc : ∀ j, j < len → ∃ a, A = some a ∧ a.block < n₀ ∧ Pk W (a.add (j * 3)) (R j)) (h0 : J [] W) :
    CallsIn F n Try.prog 143 #[.func (.yield l) #[] #[], .pointer (some ⟨Bs, 0, none⟩)] W fun e W' => (∃ v, e = .returned v) ∧
      ((∃ ys, Downs R len 0 ys ∧ J ys W') ∨ (∃ pre, True ∧ Jx pre W')) := by
  refine callsIn_of_wp Try.func143 rfl hF ?_ hro
  simp only [Try.ntmps143, List.size_toArray, List.length_cons, List.length_nil, Nat.reduceAdd, Nat.reduceSub, Array.replicate_succ, Array.replicate_zero, List.push_toArray, List.append_toArray, List.nil_append, List.cons_append]
  have hBc := cell_of_one hBs
  gi_wp2
  gi_loopw [3] (fun i wr => ∃ (k : Nat) (pre : List (KidX R len)), k ≤ len ∧ i = .int .i64 ((k : Int) - 1) ∧ Downs R len k pre ∧ J pre wr ∧ KeepB n₀ Bs W wr)
    (fun i _ => (intOf i + 1).toNat)
  case atStart => exact ⟨len, [], Nat.le_refl _, rfl, downs_nil R len, h0, KeepB.refl _ _ _⟩
  case round =>
    obtain ⟨k, pre, hk, rfl, hd, hJs, hnx⟩ := hrel
    have hBs' : wr.cell? ⟨Bs, 0, none⟩ = some (.slice A len cap) := cell_of_one (hnx.2 _ hBs)
    cases k with
    | zero =>
      gi_wp2
      go_end0
      exact ⟨⟨_, rfl⟩, .inl ⟨pre, hd, hJs⟩⟩
    | succ j =>
      have e : ((j + 1 : Nat) : Int) - 1 = j := by omega
      rw [e]
      have hj : j < len := hk
      obtain ⟨a, rfl, hab, hpk⟩ := hc j hj
      obtain ⟨c0, c1, c2⟩ : Pk wr (a.add (j * 3)) (R j) := ⟨by rw [hnx.1.cell (by rw [addr_blk]; exact hab)]; exact hpk.1, by rw [hnx.1.cell (p := ⟨(a.add (j * 3)).block, _, none⟩) (by rw [addr_blk]; exact hab)]; exact hpk.2.1, by rw [hnx.1.cell (p := ⟨(a.add (j * 3)).block, _, none⟩) (by rw [addr_blk]; exact hab)]; exact hpk.2.2⟩
      have hpl : pre.length < len := by
        have := congrArg List.length hd
        simp at this; omega
      obtain ⟨fn, tmps, assign, body, hy, hR⟩ := hY pre ⟨(j, R j), hj, rfl⟩ wr hJs hpl
      dsimp only [kidV] at hy
      have HD := Lib.hid (downs_step hd hj)
      clear hd hpk
      gi_wp2
      refine hR.mono ?_
      rintro e W3 (⟨rfl, hJ3, hk3⟩ | ⟨rfl, hJx3⟩)
      · gi_wp2
        go_roundw
        case rel => exact ⟨j, _, by omega, by go_num, HD.out, hJ3, hnx.trans hk3⟩
        case measure => first | (simp [intOf]; done) | (simp [intOf]; omega)
      · gi_wp2
        refine bodyPost_ret (results_none rfl _ _ _) rfl ?_
        exact ⟨⟨_, rfl⟩, .inr ⟨_, trivial, hJx3⟩⟩
set_option maxHeartbeats 1000000 in
theorem back_in (F : Fence) (n : Nat) (hF : F.fn 120) (hro : F.round = none) (a : Option Addr) (len cap : Nat) (w : World) :
    CallsIn F n Try.prog 120 #[.slice a len cap] w fun e w' => e = .returned (.func (.func 143) #[] #[.pointer (some ⟨w.heap.size, 0, none⟩)]) ∧ w' = w.alloc (.cells #[.slice a len cap] 54) := by
  refine callsIn_of_wp Try.func120 rfl hF ?_ hro
  simp only [Try.ntmps120, List.size_toArray, List.length_cons, List.length_nil, Nat.reduceAdd, Nat.reduceSub, Array.replicate_succ, Array.replicate_zero, List.push_toArray, List.append_toArray, List.nil_append, List.cons_append]
  gi_wp2
  go_ret
  exact ⟨rfl, rfl⟩
theorem back_stops (F : Fence) (n : Nat) (hF : F.fn 143) (hro : F.round = none) (hn : 1 ≤ n) (Bs n₀ len cap : Nat) (A : Option Addr) (R : Nat → PatR) (hlen : len ≤ 2147483647) (w : World) (hn₀ : n₀ ≤ w.heap.size)
    (hc : w.heap[Bs]? = some (bx (.slice A len cap) 54)) (hI : ∀ j, j < len → ∃ a, A = some a ∧ a.block < n₀ ∧ Pk w (a.add (j * 3)) (R j)) :
    SeqStopsK F n Try.prog 143 #[.pointer (some ⟨Bs, 0, none⟩)] (fun x : KidX R len => kidV x) (KeepB n₀ Bs) (fun ys => Downs R len 0 ys) (fun _ => True) len w := fun l J Jx W hW _ _ hY h0 => by
  have hc' := (hW.block Bs (blk_lt hc)).trans hc
  refine back1_in F n hF hro hn l Bs n₀ len cap A R hlen J Jx hY W hc' (fun j hj => ?_) h0
  obtain ⟨a, ha, hb, hp⟩ := hI j hj
  exact ⟨a, ha, hb, Pk.below hp hW (by rw [addr_blk]; omega)⟩
end Go.Proofs.Ytnpgeneahjlkpaa

/- CHAPTER 5, impl: visitOf at sequences: a range over slices.Backward. -/
namespace Go.Proofs.Ytnpgeneahjlkpaa
open Go.RowKit Go.Shelf Mac
attribute [local go_sem] Oper.semAt_some

section
variable {X : Cx} {K K' : Kn} {vr vw : Value} {cs : List Nat} {w w' : World} {S : Mc} {D : Nat}
def kidAt {R : Nat → PatR} {p : Pl} (x : KidX R p.t.kids.length) : Pat := p.t.kids[x.1.1]'x.2.1
/-- between two rounds -/
def SeqI (X : Cx) (K : Kn) (vr vw : Value) (cs : List Nat) (S : Mc) (p : Pl) (R : Nat → PatR) (d : Nat) (w : World) (pre : List (KidX R p.t.kids.length)) (W : World) : Prop :=
  ∃ K1 nn r, K.le K1 ∧ Rep X K1 vr vw cs W { S with pl := S.pl ++ nn } ∧ Leads (S.pl ++ nn) r (pre.reverse.map kidAt) p.nx ∧ r ≤ (S.pl ++ nn).length ∧ (∀ q, q ∈ nn → q.vis = -1 ∧ q.sh = none ∧ q.e = d ∧ DeepL q.e q.t.kids) ∧ Ord (S.pl ++ nn) ∧
    sumL nw nn = (pre.map fun x => 1 + cntL d (kidAt x).kids).sum ∧ W.heap[w.heap.size + 2]? = some (bx (refV X (S.pl ++ nn) r) tF) ∧ Free X K1 vr vw (S.pl ++ nn) (w.heap.size + 2) ∧ W.heap[w.heap.size]? = some (bx (ptr X.m) tM) ∧ Below w.heap.size w W
variable {p : Pl} {R : Nat → PatR} {d : Nat} {pre : List (KidX R p.t.kids.length)}
theorem SeqI.below {W W' : World} (h : SeqI X K vr vw cs S p R d w pre W) (hb : Below W.heap.size W W') : SeqI X K vr vw cs S p R d w pre W' := by
  obtain ⟨K1, nn, r, a, b, c, e, f, g, i, j, k, l, m⟩ := h
  exact ⟨K1, nn, r, a, b.below hb, c, e, f, g, i, (hb.block _ (blk_lt j)).trans j, k, (hb.block _ (blk_lt l)).trans l, m.trans (hb.mono m.size)⟩
theorem SeqI.turned {W W' : World} {row : Option Nat} (h : SeqI X K vr vw cs S p R d w pre W) (hw : X.w0.heap.size ≤ w.heap.size) (hg : W.grownBy W' row) (hr : ∀ r, row = some r → w.heap.size ≤ r ∧ ∃ o : Obj, W.heap[r]? = some o ∧ o.isCells = false) : SeqI X K vr vw cs S p R d w pre W' := by
  obtain ⟨K1, nn, r, a, b, c, e, f, g, i, j, k, l, m⟩ := h
  have hno : ∀ b (o : Obj), W.heap[b]? = some o → o.isCells = true → W'.heap[b]? = some o := fun b o ho hc => (hg.block b (blk_lt ho) (fun e => by
    obtain ⟨_, o', h1, h2⟩ := hr b e.symm
    rw [ho] at h1; cases h1
    rw [hc] at h2; cases h2)).trans ho
  exact ⟨K1, nn, r, a, b.turned hg (fun r hr' => ⟨Nat.le_trans hw (hr r hr').1, (hr r hr').2⟩), c, e, f, g, i, hno _ _ j rfl, k, hno _ _ l rfl, m.grown hg m.size (fun r e => (hr r e).1)⟩
/-- one kid more -/
theorem seqI_step {W : World} (h : SeqI X K vr vw cs S p R d w pre W) (x : KidX R p.t.kids.length) (hrd : RdN patK d X.w0 x.1.2 (kidAt x) ∧ (kidAt x).x.text.size ≤ 9223372036854775807 ∧ TxFit d (kidAt x).kids) (hdx : DeepL d (kidAt x).kids) (hw : X.w0.heap.size ≤ w.heap.size) :
    ∃ k1 caps1, W.cell? ⟨w.heap.size + 2, 0, none⟩ = some (.func (.func k1) #[] caps1) ∧ Calls Try.prog 58 #[ptr X.m, .agg #[.int .i64 x.1.2.op, .string x.1.2.text, x.1.2.kv], .func (.func k1) #[] caps1] W fun e w2 => ∃ b, e = .returned (placeV b) ∧ w2.cell? ⟨w.heap.size + 2, 0, none⟩ = some (.func (.func k1) #[] caps1) ∧ w2.frozen? ⟨w.heap.size + 2, 0, none⟩ = false ∧
      Hid (SeqI X K vr vw cs S p R d w (pre ++ [x]) (w2.setCell ⟨w.heap.size + 2, 0, none⟩ (placeV b)) ∧ Below W.heap.size W w2 ∧ w.heap.size + 2 < W.heap.size) := by
  obtain ⟨K1, nn, r, a, hR, hL, hr, hn, ho, hs, h2, hf, hm, hB⟩ := h
  obtain ⟨k1, caps1, e1⟩ := ref_fn X (S.pl ++ nn) r
  have hc := cell_of_one h2
  rw [e1] at hc
  refine ⟨k1, caps1, hc, ?_⟩
  have hbf := before_any hR (t := kidAt x) (e := d) (r := x.1.2) (nx := r) hr hrd
  rw [show refV X (({ S with pl := S.pl ++ nn } : Mc).pl) r = refV X (S.pl ++ nn) r from rfl, e1] at hbf
  refine hbf.mono ?_
  rintro e w2 ⟨rfl, K2, hle2, hsm, hR2, hB2⟩
  have hlt2 := blk_lt h2
  have h22 : w2.heap[w.heap.size + 2]? = some (bx (refV X (S.pl ++ nn) r) tF) := (hB2.block _ hlt2).trans h2
  have hf2 : Free X K2 vr vw ((S.pl ++ nn) ++ [⟨kidAt x, d, x.1.2, r, W.heap.size, -1, none⟩]) (w.heap.size + 2) := hf.place (hsm _ hlt2) hlt2
  refine ⟨W.heap.size, rfl, by rw [cell_of_one h22, e1], free_of_one h22, Lib.hid ⟨⟨K2, nn ++ [⟨kidAt x, d, x.1.2, r, W.heap.size, -1, none⟩], (S.pl ++ nn).length + 1, Kn.le_trans a hle2, ?_, ?_, by rw [← List.append_assoc]; simp; omega, fun q hq => ?_, ?_, ?_, ?_, by rw [← List.append_assoc]; exact hf2, ?_, ?_⟩, hB2, hlt2⟩⟩
  · rw [← List.append_assoc]
    have hw0 : X.w0.heap.size ≤ w.heap.size + 2 := by omega
    refine hR2.off (Z := fun b => b = w.heap.size + 2) ((Below.refl _ _).setCell (p := ⟨w.heap.size + 2, 0, none⟩) hw0 _) (fun b _ hz => Below.heap_setCell _ _ _ _ hz) (fun b hz => by rw [hz]; exact hf2)
  · rw [List.reverse_append, List.reverse_singleton, List.map_append, List.map_singleton, ← List.append_assoc]
    exact ⟨(S.pl ++ nn).length, ⟨kidAt x, d, x.1.2, r, W.heap.size, -1, none⟩, rfl, by simp, rfl, hL.ext (ext_append _ _)⟩
  · rcases List.mem_append.1 hq with hq | hq
    · exact hn q hq
    · rw [List.mem_singleton.1 hq]; exact ⟨rfl, rfl, rfl, hdx⟩
  · rw [← List.append_assoc]
    intro j q hq
    by_cases hj : j < (S.pl ++ nn).length
    · rw [List.getElem?_append_left hj] at hq; exact ho j q hq
    · have hl := (List.getElem?_eq_some_iff.1 hq).1
      rw [List.length_append, List.length_singleton] at hl
      have e : j = (S.pl ++ nn).length := by omega
      subst e
      rw [List.getElem?_append_right (Nat.le_refl _)] at hq
      simp at hq
      subst hq
      exact hr
  · rw [sumL_app, hs, List.map_append, List.sum_append]
    simp [sumL, nw]
  · rw [one_setCell h22, ← List.append_assoc]
    show some (bx (placeV W.heap.size) tF) = some (bx (placeV (bOf _ (S.pl ++ nn).length)) tF)
    rw [bOf_eq (p := ⟨kidAt x, d, x.1.2, r, W.heap.size, -1, none⟩) (by simp)]
  · rw [Below.heap_setCell _ _ _ _ (by show w.heap.size ≠ w.heap.size + 2; omega)]
    exact (hB2.block _ (blk_lt hm)).trans hm
  · exact (hB.trans (hB2.mono hB.size)).setCell (p := ⟨w.heap.size + 2, 0, none⟩) (by show w.heap.size ≤ w.heap.size + 2; omega) _
/-- all kids have come -/
theorem seqI_end {W : World} {i : Nat} {ys : List (KidX R p.t.kids.length)} (hS : Downs R p.t.kids.length 0 ys) (h : SeqI X K vr vw cs S p R d w ys W) (hop : p.t.x.op = 2) (he : p.t.kids = [] ∨ p.e = d + 1) (hD : p.e ≤ D) : ∃ g, W.cell? ⟨w.heap.size + 2, 0, none⟩ = some g ∧ ∀ W', (∃ row, W.grownBy W' row ∧ ∀ r, row = some r → X.w0.heap.size ≤ r ∧ ∃ o : Obj, W.heap[r]? = some o ∧ o.isCells = false) → Below w.heap.size w W' → VofP X K vr vw cs S D i p w (.returned g) W' := by
  obtain ⟨K1, nn, r, a, hR, hL, hr, hn, ho, hs, h2, hf, hm, hB⟩ := h
  have hk : ys.reverse.map kidAt = p.t.kids := by
    have h1 : (ys.reverse.map fun x => x.1.1) = List.range p.t.kids.length := by
      have := congrArg List.reverse hS
      rw [List.map_reverse]
      simpa using this
    have hl : ys.reverse.length = p.t.kids.length := by have := congrArg List.length h1; simpa using this
    apply List.ext_getElem
    · rw [List.length_map]; exact hl
    · intro q hq1 hq2
      rw [List.getElem_map]
      have h3 : (ys.reverse[q]'(by rw [hl]; exact hq2)).1.1 = q := by
        have h4 := congrArg (fun z => z[q]?) h1
        simp only [List.getElem?_map, List.getElem?_eq_getElem (show q < ys.reverse.length by rw [hl]; exact hq2)] at h4
        rw [List.getElem?_range hq2] at h4
        exact Option.some.inj h4
      unfold kidAt
      congr 1
  rw [hk] at hL
  refine ⟨_, cell_of_one h2, fun W' ⟨row, hg, hrow⟩ hB' => ⟨K1, nn, .ways [r], _, rfl, a, hR.turned hg hrow, hB', .inl ⟨r, rfl, rfl⟩, ⟨fun c => by omega, fun _ => ⟨r, rfl, hL⟩, fun c => by omega, fun c => by omega, fun c => by omega, fun _ c => absurd hop c⟩, ⟨fun q hq => ?_, ho, ?_⟩, fun l e q hq => by cases e; rw [List.mem_singleton.1 hq]; exact hr⟩⟩
  · obtain ⟨h1, h2, h3, h4⟩ := hn q hq
    refine ⟨h1, h2, ?_, h4⟩
    rcases he with he | he
    · have hys : ys = [] := by
        have h9 : (ys.reverse.map kidAt).length = 0 := by rw [hk, he]; rfl
        simpa using h9
      rw [hys] at hs
      have : nn = [] := by
        cases nn with
        | nil => rfl
        | cons x l => simp [sumL, nw] at hs
      rw [this] at hq; cases hq
    · omega
  · rw [hs]
    rcases he with he | he
    · have hys : ys = [] := by
        have h9 : (ys.reverse.map kidAt).length = 0 := by rw [hk, he]; rfl
        simpa using h9
      rw [hys]; exact Nat.zero_le _
    · rw [he]
      show _ ≤ (p.t.kids.map fun t => 1 + cntL d t.kids).sum
      have e : (p.t.kids.map fun t => 1 + cntL d t.kids).sum = ((ys.reverse.map kidAt).map fun t => 1 + cntL d t.kids).sum := by rw [hk]
      rw [e, List.map_map, List.map_reverse, List.sum_reverse]
      exact Nat.le_refl _
set_option maxRecDepth 100000 in
set_option maxHeartbeats 4000000 in
theorem vof_2 {i : Nat} (h : VofI X K vr vw cs S D i p w) (hop : p.t.x.op = 2) : Calls Try.prog 95 #[ptr X.m, .agg #[.int .i64 p.r.op, .string p.r.text, p.r.kv], placeV p.b, refV X S.pl p.nx] w (VofP X K vr vw cs S D i p w) := by
  obtain ⟨hR, hp, ho, hD, hd, hfew⟩ := h
  have hpm := List.mem_of_getElem? hp
  have hnx := (hR.pk p hpm).2
  obtain ⟨⟨⟨hro, hrt⟩, hrd⟩, htx, hfit⟩ := hR.rd p hpm
  obtain ⟨A, cap, hkv⟩ := RdL.form (k := patK) hrd
  have hkv' : p.r.kv = .slice A p.t.kids.length cap := hkv
  have hrd' : RdL patK p.e X.w0 (.slice A p.t.kids.length cap) p.t.kids := by rw [← hkv']; exact hrd
  obtain ⟨k1, caps1, e1⟩ := ref_fn X S.pl p.nx
  have hro' : p.r.op = p.t.x.op := hro
  have hrt' : p.r.text = p.t.x.text := hrt
  have hw0 : X.w0.heap.size ≤ w.heap.size := hR.bel.size
  -- the kids' records
  obtain ⟨R, d, hed, hRk⟩ : ∃ (R : Nat → PatR) (d : Nat), (p.t.kids = [] ∨ p.e = d + 1) ∧ ∀ j (hj : j < p.t.kids.length), ∃ a, A = some a ∧ a.block < X.w0.heap.size ∧ Pk X.w0 (a.add (j * 3)) (R j) ∧ (∃ Ak nk ck, (R j).kv = .slice Ak nk ck) ∧ (RdN patK d X.w0 (R j) p.t.kids[j] ∧ p.t.kids[j].x.text.size ≤ 9223372036854775807 ∧ TxFit d p.t.kids[j].kids) ∧ DeepL d p.t.kids[j].kids := by
    cases hpe : p.e with
    | zero =>
      rw [hpe] at hd
      have hk : p.t.kids = [] := hd
      exact ⟨fun _ => p.r, 0, .inl hk, fun j hj => by rw [hk] at hj; simp at hj⟩
    | succ d =>
      rw [hpe] at hrd' hfit hd
      have hex : ∀ j, ∃ r : PatR, ∀ hj : j < p.t.kids.length, ∃ a, A = some a ∧ a.block < X.w0.heap.size ∧ Pk X.w0 (a.add (j * 3)) r ∧ (∃ Ak nk ck, r.kv = .slice Ak nk ck) ∧ (RdN patK d X.w0 r p.t.kids[j] ∧ p.t.kids[j].x.text.size ≤ 9223372036854775807 ∧ TxFit d p.t.kids[j].kids) ∧ DeepL d p.t.kids[j].kids := fun j => by
        by_cases hj : j < p.t.kids.length
        · obtain ⟨a, cap', r, hv, hab, hpk, hrn, ht1, ht2⟩ := kid_at hrd' hfit hj
          cases hv
          obtain ⟨Ak, ck, hk2⟩ := hrn.2.form
          exact ⟨r, fun _ => ⟨a, rfl, by rw [addr_blk] at hab; exact hab, hpk, ⟨Ak, _, ck, hk2⟩, ⟨hrn, ht1, ht2⟩, hd _ (List.getElem_mem hj)⟩⟩
        · exact ⟨p.r, fun h => absurd h hj⟩
      exact ⟨fun j => Classical.choose (hex j), d, .inr rfl, fun j hj => Classical.choose_spec (hex j) hj⟩
  have hB : Below w.heap.size w ((((w.alloc (bx (ptr X.m) tM)).alloc (.cells #[.int .i64 p.t.x.op, .string p.t.x.text, .slice A p.t.kids.length cap] 56)).alloc (bx (.func (.func k1) #[] caps1) tF)).alloc (.cells #[.slice A p.t.kids.length cap] 54)) := below_al (below_al (below_al (below_al (Below.refl _ _) _) _) _) _
  have HI0 : Hid (SeqI X K vr vw cs S p R d w [] ((((w.alloc (bx (ptr X.m) tM)).alloc (.cells #[.int .i64 p.t.x.op, .string p.t.x.text, .slice A p.t.kids.length cap] 56)).alloc (bx (.func (.func k1) #[] caps1) tF)).alloc (.cells #[.slice A p.t.kids.length cap] 54))) := Lib.hid (by
    refine ⟨K, [], p.nx, K.le_refl, by rw [List.append_nil]; exact hR.below hB, rfl, by rw [List.append_nil]; exact hnx, fun q hq => (List.not_mem_nil hq).elim, by rw [List.append_nil]; exact ho, rfl, ?_, by rw [List.append_nil]; exact hR.free_new (by omega), ?_, hB⟩
    · rw [List.append_nil, e1, Below.heap_alloc _ _ _ (by simp)]; exact alloc_new_at _ _ (by simp)
    · rw [Below.heap_alloc _ _ _ (by simp; omega), Below.heap_alloc _ _ _ (by simp; omega), Below.heap_alloc _ _ _ (by simp)]; exact heap_alloc_new _ _)
  have hbs : ((((w.alloc (bx (ptr X.m) tM)).alloc (.cells #[.int .i64 p.t.x.op, .string p.t.x.text, .slice A p.t.kids.length cap] 56)).alloc (bx (.func (.func k1) #[] caps1) tF)).alloc (.cells #[.slice A p.t.kids.length cap] 54)).heap[w.heap.size + 1 + 1 + 1]? = some (bx (.slice A p.t.kids.length cap) 54) := alloc_new_at _ _ (by simp)
  have HPK : Hid (∀ j, j < p.t.kids.length → ∃ a, A = some a ∧ a.block < w.heap.size ∧ Pk ((((w.alloc (bx (ptr X.m) tM)).alloc (.cells #[.int .i64 p.t.x.op, .string p.t.x.text, .slice A p.t.kids.length cap] 56)).alloc (bx (.func (.func k1) #[] caps1) tF)).alloc (.cells #[.slice A p.t.kids.length cap] 54)) (a.add (j * 3)) (R j)) := Lib.hid fun j hj => by
    obtain ⟨a, h1, h2, h3, _⟩ := hRk j hj
    exact ⟨a, h1, by omega, Pk.below (Pk.below h3 hR.bel (by rw [addr_blk]; exact h2)) hB (by rw [addr_blk]; omega)⟩
  rw [hro', hrt', hkv', e1, hop]
  rw [hop] at HI0 hbs HPK
  refine (callsIn_wide (n := 3)).1 ?_
  refine callsIn_of_wp_marks Try.func95 rfl trivial ?_ rfl
  simp only [Try.ntmps95, List.size_toArray, List.length_cons, List.length_nil, Nat.reduceAdd, Nat.reduceSub, Array.replicate_succ, Array.replicate_zero, List.push_toArray, List.append_toArray, List.nil_append, List.cons_append]
  have HRK := Lib.hid hRk
  have HED := Lib.hid hed
  have HD := Lib.hid (And.intro hop hD)
  have HFEW := Lib.hid hfew
  have HW0 := Lib.hid hw0
  clear hR hp ho hD hd hfew hpm hnx hro hrt hrd htx hfit hkv hkv' hrd' e1 hro' hrt' hw0 hRk hed hB
  gi_wp2_with fail
  refine ⟨trivial, (back_in Fence.wide _ trivial rfl _ _ _ _).mono ?_⟩
  rintro e w' ⟨rfl, rfl⟩
  gi_wp2
  obtain ⟨W0, hW0⟩ : ∃ W0, W0 = ((((w.alloc (bx (ptr X.m) tM)).alloc (.cells #[.int .i64 2, .string p.t.x.text, .slice A p.t.kids.length cap] 56)).alloc (bx (.func (.func k1) #[] caps1) tF)).alloc (.cells #[.slice A p.t.kids.length cap] 54)) := ⟨_, rfl⟩
  have hz0 : W0.heap.size = w.heap.size + 4 := by rw [hW0]; simp
  rw [← hW0] at HI0 hbs HPK ⊢
  clear hW0
  refine wpIn_rangeFunc_ownH (n := 3) rfl (by omega) (gf := 143) (lb := #[.pointer (some ⟨w.heap.size + 1 + 1 + 1, 0, none⟩)]) rfl trivial (enters_of Try.func143 (by kernel_rfl) rfl)
    (back_stops Fence.wide _ trivial rfl (by omega) (w.heap.size + 1 + 1 + 1) w.heap.size p.t.kids.length cap A R HFEW.out W0 (by omega) hbs HPK.out)
    (fun h k => KeepB.trans h k) (keepB_b (by omega) (by omega)) (Below.refl _ _) (fun _ => rfl)
    (SeqI X K vr vw cs S p R d w) (fun _ _ _ => False)
    (fun s W W' row hs hg hr => hs.turned HW0.out hg (fun r e => ⟨by have := (hr r e).1; omega, (hr r e).2⟩))
    (fun _ _ _ _ _ hs _ _ => hs) HI0.out
    (fun x a' W => ∃ Bx, W.heap[Bx]? = some (.cells #[.int .i64 x.1.2.op, .string x.1.2.text, x.1.2.kv] 56 (0, 0)) ∧ a' = { tmps := #[ptr X.m, .agg #[.int .i64 2, .string p.t.x.text, .slice A p.t.kids.length cap], placeV p.b, .func (.func k1) #[] caps1, .pointer (some ⟨w.heap.size, 0, none⟩), .pointer (some ⟨w.heap.size + 1, 0, none⟩), undef, .pointer (some ⟨w.heap.size + 1 + 1, 0, none⟩), .nilFunc, undef, .pointer (some ⟨Bx, 0, none⟩), .pointer (some ⟨w.heap.size + 1, 0, none⟩), .int .i64 2, .bool false, .bool false, undef, undef, undef, undef, undef, .bool true, .bool true, .pointer (some ⟨w.heap.size + 1, 2, none⟩), .slice A p.t.kids.length cap, .func (.func 143) #[] #[.pointer (some ⟨w.heap.size + 1 + 1 + 1, 0, none⟩)], .int .i64 (x.1.1 : Int), .agg #[.int .i64 x.1.2.op, .string x.1.2.text, x.1.2.kv], undef, undef, undef, undef, undef, undef, undef, undef, undef, undef, undef, undef, undef, undef, undef, undef, undef, undef, undef, undef, undef, undef, undef, undef, undef, undef, undef, undef], defers := [] })
    (fun x a' _ W W' row hs hg hr => by
      obtain ⟨Bx, h1, h2⟩ := hs
      refine ⟨Bx, (hg.block _ (blk_lt h1) (fun e => ?_)).trans h1, h2⟩
      obtain ⟨_, o, h3, h4⟩ := hr Bx e.symm
      rw [h1] at h3; cases h3; cases h4) ?assign ?body ?done ?stop
  case assign =>
    intro l pre x W Kc hI hKc
    obtain ⟨a0, hA0, _, _, ⟨Ak, nk, ck, hkv⟩, _⟩ := HRK.out x.1.1 x.2.1
    clear hA0
    have hkv' : x.1.2.kv = .slice Ak nk ck := by rw [x.2.2]; exact hkv
    have HK2 := Lib.hid hKc
    have HI := Lib.hid hI
    have HX := Lib.hid hkv'
    simp only [kidV, hkv']
    clear hKc hI hkv
    gi_wp2
    refine HK2.out _ _ ((KeepsOthers.alloc W _).from _) ⟨(Below.refl _ _).alloc ?_ _, fun o ho => (Below.heap_alloc _ _ _ (blk_lt ho)).trans ho⟩ (HI.out.below (below_al (Below.refl _ _) _)) ⟨W.heap.size, ?_, ?_⟩
    · obtain ⟨_, _, _, _, _, _, _, _, _, _, _, _, _, hB⟩ := HI.out
      exact hB.size
    · rw [HX.out]; exact heap_alloc_new W _
    · rw [HX.out]
  case body =>
    rintro l pre x _ W hl ⟨rr, hrr⟩ hI ⟨Bx, hbx, rfl⟩ hlt
    obtain ⟨a0, hA0, _, _, _, hrd, hdx⟩ := HRK.out x.1.1 x.2.1
    clear hA0
    obtain ⟨k2, caps2, hc, hcall⟩ := seqI_step hI x (by rw [x.2.2]; exact hrd) hdx HW0.out
    have hm : W.cell? ⟨w.heap.size, 0, none⟩ = some (ptr X.m) := by obtain ⟨_, _, _, _, _, _, _, _, _, _, _, _, h9, _⟩ := hI; exact cell_of_one h9
    have b0 : W.cell? ⟨Bx, 0, none⟩ = some (.int .i64 x.1.2.op) := by rw [cell_of_row _ Bx 0 _ _ _ hbx]; rfl
    have b1 : W.cell? ⟨Bx, 1, none⟩ = some (.string x.1.2.text) := by rw [cell_of_row _ Bx 1 _ _ _ hbx]; rfl
    have b2 : W.cell? ⟨Bx, 2, none⟩ = some x.1.2.kv := by rw [cell_of_row _ Bx 2 _ _ _ hbx]; rfl
    have HCALL := Lib.hid hcall
    have hWn : w.heap.size ≤ W.heap.size := by obtain ⟨_, _, _, _, _, _, _, _, _, _, _, _, _, h9⟩ := hI; exact h9.size
    clear hcall hI hbx hrd hdx hrr
    gi_wp2_with fail
    refine ⟨trivial, (CallsIn.inRound l (callsIn_wide.2 HCALL.out)).mono ?_⟩
    rintro e w2 ⟨b, rfl, hc2, hf2, HS⟩
    gi_wp2
    obtain ⟨hs1, hs2, hs3⟩ := HS.out
    refine ⟨⟨by simpa using hs2.size, fun k o hB hk _ => (Below.heap_setCell _ _ _ _ (by show k ≠ w.heap.size + 2; omega)).trans ((hs2.block _ (blk_lt hk)).trans hk)⟩, ⟨(hs2.mono hWn).setCell (p := ⟨w.heap.size + 2, 0, none⟩) (by show w.heap.size ≤ w.heap.size + 2; omega) _, fun o ho => (Below.heap_setCell _ _ _ _ (by show w.heap.size + 1 + 1 + 1 ≠ w.heap.size + 2; omega)).trans ((hs2.block _ (blk_lt ho)).trans ho)⟩, hs1⟩
  case done =>
    rintro Dd ys W hDd hS hI hK
    obtain ⟨g, hc, hfin⟩ := seqI_end (i := i) hS hI HD.out.1 HED.out HD.out.2
    have hBW : Below w.heap.size w W := by obtain ⟨_, _, _, _, _, _, _, _, _, _, _, _, _, h9⟩ := hI; exact h9
    have HFIN := Lib.hid hfin
    clear hfin hI
    gi_wp2
    refine ⟨by simp, .inl ⟨_, _, rfl, run_takeDeferred hK, ?_⟩⟩
    refine ⟨_, results_tmp rfl _ _ _, ?_⟩
    exact (HFIN.out _ ⟨some Dd, grownBy_putObj' W Dd _, fun r e => by cases e; exact ⟨by have := HW0.out; omega, _, hK, rfl⟩⟩ (hBW.trans (belowK_b (w := W0) (by omega) W Dd _ _ hDd hK rfl rfl)))
  case stop =>
    rintro D c pre W _ _ h _
    exact h.elim
-- VOF2
end
end Go.Proofs.Ytnpgeneahjlkpaa

/- CHAPTER 5, impl: a place is visited. -/
namespace Go.Proofs.Ytnpgeneahjlkpaa
open Go.RowKit Mac

section
variable {X : Cx} {K K' : Kn} {vr vw : Value} {cs : List Nat} {w w' : World} {S : Mc} {D N : Nat} {s : ByteArray} {T : Pat} {H : Nat → Nat → Prop} {Wq : List Nat} {i : Nat} {p : Pl}
theorem equalIn_func_nil (d : Nat) (fn : Fn) (a b : Array Value) (w : World) : (Op.equalIn (d + 1) tF (.func fn a b) .nilFunc).run Try.prog w = .ok false w := by
  simp [Op.equalIn, run_underlying Try.underlying1]
theorem equalIn_nil_nil (d : Nat) (w : World) : (Op.equalIn (d + 1) tF .nilFunc .nilFunc).run Try.prog w = .ok true w := by
  simp [Op.equalIn, run_underlying Try.underlying1]
theorem eql_func_nil (fn : Fn) (a b : Array Value) (w : World) : (binOp .eql tF (.func fn a b) .nilFunc).run Try.prog w = .ok (.bool false) w := by
  have h : (Op.equal tF (.func fn a b) .nilFunc).run Try.prog w = .ok false w := equalIn_func_nil 9999 fn a b w
  simp only [binOp]
  simp [h]
theorem eql_nil_nil (w : World) : (binOp .eql tF .nilFunc .nilFunc).run Try.prog w = .ok (.bool true) w := by
  have h : (Op.equal tF .nilFunc .nilFunc).run Try.prog w = .ok true w := equalIn_nil_nil 9999 w
  simp only [binOp]
  simp [h]
set_option maxRecDepth 100000 in
set_option maxHeartbeats 4000000 in
theorem vof_other (h : VofI X K vr vw cs S D i p w) (h1 : p.t.x.op ≠ 1) (h2 : p.t.x.op ≠ 2) (h3 : p.t.x.op ≠ 3) (h4 : p.t.x.op ≠ 4) (h5 : p.t.x.op ≠ 5) : Calls Try.prog 95 #[ptr X.m, .agg #[.int .i64 p.r.op, .string p.r.text, p.r.kv], placeV p.b, refV X S.pl p.nx] w (VofP X K vr vw cs S D i p w) := by
  obtain ⟨hR, hp, ho, hD, hd, hfew⟩ := h
  have hpm := List.mem_of_getElem? hp
  obtain ⟨⟨⟨hro, hrt⟩, hrd⟩, htx, hfit⟩ := hR.rd p hpm
  obtain ⟨A, cap, hkv⟩ := RdL.form (k := patK) hrd
  have hkv' : p.r.kv = .slice A p.t.kids.length cap := hkv
  obtain ⟨k1, caps1, e1⟩ := ref_fn X S.pl p.nx
  have hro' : p.r.op = p.t.x.op := hro
  have hrt' : p.r.text = p.t.x.text := hrt
  obtain ⟨n, hn⟩ : ∃ n, n = p.t.kids.length := ⟨_, rfl⟩
  obtain ⟨o, hop⟩ : ∃ o, o = p.t.x.op := ⟨_, rfl⟩
  obtain ⟨tx, htx'⟩ : ∃ tx, tx = p.t.x.text := ⟨_, rfl⟩
  have hB : Below w.heap.size w (((w.alloc (bx (ptr X.m) tM)).alloc (.cells #[.int .i64 o, .string tx, .slice A n cap] 56)).alloc (bx (.func (.func k1) #[] caps1) tF)) := below_al (below_al (below_al (Below.refl _ _) _) _) _
  have HF : Hid (VofP X K vr vw cs S D i p w (.returned noneV) (((w.alloc (bx (ptr X.m) tM)).alloc (.cells #[.int .i64 o, .string tx, .slice A n cap] 56)).alloc (bx (.func (.func k1) #[] caps1) tF))) := Lib.hid
    ⟨K, [], .ways [], noneV, rfl, K.le_refl, by rw [List.append_nil]; exact hR.below hB, hB, .inr (.inr (.inr ⟨rfl, rfl⟩)), ⟨fun c => absurd c h1, fun c => absurd c h2, fun c => absurd c h3, fun c => absurd c h4, fun c => absurd c h5, fun _ _ _ _ _ => rfl⟩, news_nil ho, fun l e r hr => by cases e; cases hr⟩
  rw [hro', hrt', hkv', e1, ← hn, ← hop, ← htx']
  have g1 : (o == 1) = false := by rw [hop]; simpa using h1
  have g2 : (o == 2) = false := by rw [hop]; simpa using h2
  have g3 : (o == 3) = false := by rw [hop]; simpa using h3
  have g4 : (o == 4) = false := by rw [hop]; simpa using h4
  have g5 : (o == 5) = false := by rw [hop]; simpa using h5
  clear hR hp ho hD hd hfew hpm hro hrt hrd htx hfit hkv hkv' e1 hro' hrt' hn hop htx' hB h1 h2 h3 h4 h5
  go_enter Try.func95, Try.ntmps95
  go_wp2
  go_ret
  exact HF.out
theorem vof_all (h : VofI X K vr vw cs S D i p w) : Calls Try.prog 95 #[ptr X.m, .agg #[.int .i64 p.r.op, .string p.r.text, p.r.kv], placeV p.b, refV X S.pl p.nx] w (VofP X K vr vw cs S D i p w) := by
  rcases op_cases p.t.x.op with h1 | h1 | h1 | h1 | h1 | ⟨h1, h2, h3, h4, h5⟩
  · exact vof_1 h h1
  · exact vof_2 h h1
  · exact vof_3 h h1
  · exact vof_4 h h1
  · exact vof_5 h h1
  · exact vof_other h h1 h2 h3 h4 h5
theorem call_sh (S : Mc) (r : Nat) (hr : r ≤ S.pl.length) (hv : ∀ (i : Nat) (p : Pl), S.pl[i]? = some p → p.vis ≤ S.pos) {i : Nat} {p : Pl} (hp : S.pl[i]? = some p) : ∃ p', (call S r).pl[i]? = some p' ∧ p'.sh = p.sh := by
  rcases call_spec S r hr hv with ⟨_, h2⟩ | ⟨rfl, h2⟩ | ⟨j, q, rfl, hq, _, h2⟩
  · rw [h2]; exact ⟨p, hp, rfl⟩
  · rw [h2]; exact ⟨p, hp, rfl⟩
  · rw [h2]
    by_cases e : j = i
    · subst e
      rw [hq] at hp; cases hp
      exact ⟨{ p with vis := S.pos }, by show (S.pl.set j _)[j]? = _; rw [List.getElem?_set_self (List.getElem?_eq_some_iff.1 hq).1], rfl⟩
    · exact ⟨p, by show (S.pl.set j _)[i]? = _; rw [List.getElem?_set_ne e]; exact hp, rfl⟩
theorem calls_sh : ∀ (l : List Nat) (S : Mc), (∀ r, r ∈ l → r ≤ S.pl.length) → (∀ (i : Nat) (p : Pl), S.pl[i]? = some p → p.vis ≤ S.pos) → ∀ {i : Nat} {p : Pl}, S.pl[i]? = some p → ∃ p', (l.foldl call S).pl[i]? = some p' ∧ p'.sh = p.sh
  | [], S, _, _, _, p, hp => ⟨p, hp, rfl⟩
  | r :: l, S, hl, hv, _, p, hp => by
    obtain ⟨a1, a2, _, _, a5, _⟩ := call_len S r (hl r (by simp)) hv
    obtain ⟨p1, h1, h2⟩ := call_sh S r (hl r (by simp)) hv hp
    obtain ⟨p2, h3, h4⟩ := calls_sh l (call S r) (fun q hq => by rw [a1]; exact hl q (by simp [hq])) (by rw [a2]; exact a5) h1
    exact ⟨p2, h3, h4.trans h2⟩
/-- what a visit of the machine keeps -/
structure Vst (S S' : Mc) : Prop where
  ext : Ext S.pl S'.pl
  pos : S'.pos = S.pos
  kept : ∀ r, Called S r → Called S' r
  mu : mu S' ≤ mu S
theorem stp_vst {S S' : Mc} (h : Stp S S') : Vst S S' := ⟨h.ext, h.pos, h.kept, h.mu⟩
theorem Vst.trans {S S' S'' : Mc} (h : Vst S S') (h' : Vst S' S'') : Vst S S'' := ⟨h.ext.trans h'.ext, h'.pos.trans h.pos, fun r hr => h'.kept r (h.kept r hr), Nat.le_trans h'.mu h.mu⟩
/-- the place i has its function: it is called -/
theorem vis_fin (I : Inv s D N T H (some i) Wq S) (hp : S.pl[i]? = some p) {sh : Vs} (hs : p.sh = some sh) (hc : Called S (i + 1)) :
    Inv s D N T H none Wq (afterV S i sh) ∧ Vst S (afterV S i sh) := by
  have hsh := I.shp i p sh hp hs
  cases sh with
  | wait =>
    have ho : p.t.x.op = 1 := by
      rcases op_cases p.t.x.op with h | h | h | h | h | ⟨h1, h2, h3, h4, h5⟩
      · exact h
      · obtain ⟨r, e, _⟩ := hsh.2.1 h; cases e
      · obtain ⟨l, e, _⟩ := hsh.2.2.1 h; cases e
      · have := hsh.2.2.2.1 h; unfold Tries at this; split at this
        · obtain ⟨r, e, _⟩ := this; cases e
        · cases this
      · have := hsh.2.2.2.2.1 h; unfold Tries at this; split at this
        · obtain ⟨r, e, _⟩ := this; cases e
        · cases this
      · have := hsh.2.2.2.2.2 h1 h2 h3 h4 h5; cases this
    exact ⟨inv_wait I hp hs ho hc, ⟨Ext.refl _, rfl, fun r hr => by cases r <;> exact hr, Nat.le_refl _⟩⟩
  | ways l =>
    have hg := ways_good I hp hsh hc
    obtain ⟨I2, hca, st⟩ := inv_calls I hg
    obtain ⟨p2, h1, h2⟩ := calls_sh l S (fun r hr => (hg r hr).1) (fun i p hp => (I.vle i p hp).2) hp
    exact ⟨inv_ways I2 h1 (h2.trans hs) hca, stp_vst st⟩
/-- what a visit leaves, all told -/
def VstP (X : Cx) (s : ByteArray) (D N : Nat) (T : Pat) (H : Nat → Nat → Prop) (Wq : List Nat) (S : Mc) (e : Ending) (w' : World) : Prop := e = .returned (.tuple #[]) ∧ ∃ K' vr' vw' cs' S', Rep X K' vr' vw' cs' w' S' ∧ Inv s D N T H none Wq S' ∧ Vst S S'
theorem inv_bounds (I : Inv s D N T H (some i) Wq S) (hN : N ≤ 2147483647) : S.reached.length + unv S + 1 ≤ 2147483648 ∧ S.waiting.length + 1 ≤ 2147483648 := by
  have h1 := I.cnt
  have h2 := I.tot
  simp at h1
  omega
theorem sumL_mem {f : Pl → Nat} : ∀ {l : List Pl} {p : Pl}, p ∈ l → f p ≤ sumL f l
  | [], _, h => by cases h
  | x :: l, p, h => by
    simp only [sumL, List.map_cons, List.sum_cons]
    rcases List.mem_cons.1 h with rfl | h
    · omega
    · have := sumL_mem (f := f) h
      unfold sumL at this; omega
theorem len_cnt (d : Nat) : ∀ l : List Pat, l.length ≤ cntL (d + 1) l
  | [] => Nat.zero_le _
  | x :: l => by
    have ih := len_cnt d l
    simp only [cntL, List.map_cons, List.sum_cons, List.length_cons] at ih ⊢
    omega
theorem few_kids {X' : Option Nat} (I : Inv s D N T H X' Wq S) (hp : S.pl[i]? = some p) (hs : p.sh = none) : p.t.kids.length ≤ N := by
  have h1 := sumL_mem (f := rw') (List.mem_of_getElem? hp)
  have h2 := I.tot
  have h3 : rw' p = cntL p.e p.t.kids := by unfold rw'; rw [hs]; rfl
  have hd := (I.deep i p hp).2
  cases he : p.e with
  | zero => rw [he] at hd; rw [show p.t.kids = [] from hd]; exact Nat.zero_le _
  | succ d => have := len_cnt d p.t.kids; rw [he] at h3; omega
set_option maxRecDepth 100000 in
set_option maxHeartbeats 4000000 in
theorem visit_any (h : Rep X K vr vw cs w S) (I : Inv s D N T H (some i) Wq S) (hp : S.pl[i]? = some p) (hc : Called S (i + 1)) (hN : N ≤ 2147483647) :
    Calls Try.prog 94 #[ptr (p.b + 4), ptr p.b, ptr (p.b + 1), ptr (p.b + 3), ptr (p.b + 2)] w (VstP X s D N T H Wq S) := by
  have hpm := List.mem_of_getElem? hp
  obtain ⟨g, hg, hg0, hg1⟩ := h.hg p hpm
  have hv := fun (i : Nat) (p : Pl) hp => (I.vle i p hp).2
  cases hs : p.sh with
  | some sh =>
    obtain ⟨hk, hl⟩ := hg1 sh hs
    obtain ⟨f, caps, rfl, hen, hcall⟩ := vis_any h hp hk hl hv (inv_bounds I hN).1 (inv_bounds I hN).2
    have c4 := cell_of_one hg
    have HC := Lib.hid hcall
    have HF : Hid (∀ w', VisP X K S i sh (.returned (.tuple #[])) w' → VstP X s D N T H Wq S (.returned (.tuple #[])) w') := Lib.hid fun w' ⟨_, vr', vw', cs', hR⟩ => ⟨rfl, K, vr', vw', cs', _, hR, (vis_fin I hp hs hc).1, (vis_fin I hp hs hc).2⟩
    have hbo := eql_func_nil (.func f) #[] caps
    clear h I hp hc hpm hg hg0 hg1 hv hk hl hcall hs
    go_enter Try.func94, Try.ntmps94
    go_wp2_with fail
    refine HC.out.mono ?_
    rintro e w2 ⟨rfl, hV⟩
    have HV := Lib.hid (HF.out w2 ⟨rfl, hV⟩)
    clear hV
    go_wp2
    go_end0
    exact HV.out
  | none =>
    have hgn := hg0 hs
    subst hgn
    have c4 := cell_of_one hg
    have f4 := free_of_one hg
    obtain ⟨hk, hnx⟩ := h.pk p hpm
    have c0 := cell_of_one (h.hk _ _ hk.k0)
    have q0 : w.cell? ⟨p.b + 1, 0, none⟩ = some (.int .i64 p.r.op) := by rw [cell_of_row _ (p.b + 1) 0 _ _ _ (h.hk _ _ hk.k1)]; rfl
    have q1 : w.cell? ⟨p.b + 1, 1, none⟩ = some (.string p.r.text) := by rw [cell_of_row _ (p.b + 1) 1 _ _ _ (h.hk _ _ hk.k1)]; rfl
    have q2 : w.cell? ⟨p.b + 1, 2, none⟩ = some p.r.kv := by rw [cell_of_row _ (p.b + 1) 2 _ _ _ (h.hk _ _ hk.k1)]; rfl
    have c3 := cell_of_one (h.hk _ _ hk.k3)
    have c2 := cell_of_one (h.hk _ _ hk.k2)
    obtain ⟨k1, caps1, e1⟩ := ref_fn X S.pl p.nx
    have hvof := vof_all (D := D) (i := i) (p := p) ⟨h, hp, I.ord, (I.deep i p hp).1, (I.deep i p hp).2, Nat.le_trans (few_kids I hp hs) hN⟩
    rw [e1] at c2 hvof
    have HVOF := Lib.hid hvof
    have hil := (List.getElem?_eq_some_iff.1 hp).1
    have HNEXT : Hid (∀ (e : Ending) w1, VofP X K vr vw cs S D i p w e w1 → ∃ f caps, e = .returned (.func (.func f) #[] caps) ∧ (∀ w, (callFunc f caps).run Try.prog w = .ok (.enter f caps) w) ∧ w1.cell? ⟨p.b + 4, 0, none⟩ = some .nilFunc ∧ w1.frozen? ⟨p.b + 4, 0, none⟩ = false ∧ Calls Try.prog f caps (w1.setCell ⟨p.b + 4, 0, none⟩ (.func (.func f) #[] caps)) (VstP X s D N T H Wq S)) := Lib.hid fun e w1 ⟨K', nn, sh, g, he, hle, hR, hB, hvk, hsh, hnews, hl⟩ => by
      have hp1 : (S.pl ++ nn)[i]? = some p := by rw [List.getElem?_append_left hil]; exact hp
      obtain ⟨I2, hext, hkept, hmu⟩ := inv_made I hp hs hnews hsh
      have hR2 := hR.setSh hp1 hvk hl
      have hsame : Same (S.pl ++ nn) ((S.pl ++ nn).set i { p with sh := some sh }) := same_set hp1 rfl
      have hnx1 : p.nx ≤ (S.pl ++ nn).length := by rw [List.length_append]; omega
      have hvk2 : VsK X K' ((S.pl ++ nn).set i { p with sh := some sh }) { p with sh := some sh } g sh := hvk.same hsame hnx1 hl rfl rfl
      have hl2 : ∀ l, sh = .ways l → ∀ r, r ∈ l → r ≤ ((S.pl ++ nn).set i { p with sh := some sh }).length := fun l e r hr => by rw [List.length_set]; exact hl l e r hr
      have hp2 : ((S.pl ++ nn).set i { p with sh := some sh })[i]? = some { p with sh := some sh } := List.getElem?_set_self (by rw [List.length_append]; omega)
      obtain ⟨f, caps, rfl, hen, hcall⟩ := vis_any hR2 (i := i) (p := { p with sh := some sh }) hp2 hvk2 hl2 (fun i p hp => (I2.vle i p hp).2) (inv_bounds I2 hN).1 (inv_bounds I2 hN).2
      have h4 : w1.heap[p.b + 4]? = some (bx .nilFunc tF) := (hB.block _ (blk_lt hg)).trans hg
      refine ⟨f, caps, he, hen, cell_of_one h4, free_of_one h4, hcall.mono ?_⟩
      rintro e2 w2 ⟨rfl, vr', vw', cs', hR3⟩
      have hfin := vis_fin I2 hp2 rfl (hkept _ hc)
      have hv0 : Vst S { S with pl := (S.pl ++ nn).set i { p with sh := some sh } } := ⟨hext, rfl, hkept, hmu⟩
      exact ⟨rfl, K', vr', vw', cs', _, hR3, hfin.1, hv0.trans hfin.2⟩
    have hbo := eql_nil_nil
    clear h I hp hc hpm hg hg0 hg1 hv hk hnx hvof hs hil e1
    go_enter Try.func94, Try.ntmps94
    go_wp2_with fail
    refine HVOF.out.mono ?_
    rintro e w1 hV
    obtain ⟨f, caps, rfl, hen, d4, z4, hcall⟩ := HNEXT.out e w1 hV
    have HC := Lib.hid hcall
    clear hV hcall HVOF HNEXT c4 f4 c0 q0 q1 q2 c3 c2
    go_wp2_with fail
    refine HC.out.mono ?_
    rintro e w2 ⟨rfl, hV⟩
    have HV : Hid (VstP X s D N T H Wq S (.returned (.tuple #[])) w2) := Lib.hid ⟨rfl, hV⟩
    clear hV
    go_wp2
    go_end0
    exact HV.out
end
end Go.Proofs.Ytnpgeneahjlkpaa

/- CHAPTER 5, impl: visitReached. -/
namespace Go.Proofs.Ytnpgeneahjlkpaa
open Go.RowKit Mac

section
variable {X : Cx} {K K' : Kn} {vr vw : Value} {cs : List Nat} {w w' : World} {S : Mc} {D N : Nat} {s : ByteArray} {T : Pat} {H : Nat → Nat → Prop} {Wq : List Nat} {i : Nat} {p : Pl}
theorem flat_one (l : List Value) : (l.flatMap fun u => [u]) = l := by induction l with
  | nil => rfl
  | cons x l ih => rw [List.flatMap_cons, ih]; rfl
theorem rowV_last {E B g n cap : Nat} {l : List Value} {x : Value} (h : RowV E B w (.slice (some ⟨g, 0, none⟩) n cap) (l ++ [x])) : n = l.length + 1 ∧ l.length + 1 ≤ cap ∧ w.cell? ⟨g, l.length, none⟩ = some x ∧ RowV E B w (.slice (some ⟨g, 0, none⟩) l.length cap) l := by
  have hn := RowR.cap' h
  have hc := RowR.cap h
  have hcell := RowR.cell (enc := fun u : Value => [u]) (z := 1) (fun _ => rfl) h (i := l.length) (by simp) (j := 0) (x := x) (by simp)
  rw [List.length_append, List.length_singleton] at hn
  refine ⟨hn, by omega, by simpa using hcell, ?_⟩
  rcases h.2 with ⟨h0, _⟩ | ⟨g', cap', cur, hv, hB, hg, h3, h4, h5, h6⟩
  · cases h0
  · cases hv
    refine ⟨by simp [flat_one], .inr ⟨g, cap, cur, rfl, hB, hg, by omega, h4, h5, ?_⟩⟩
    rw [flat_one] at h6 ⊢
    have := congrArg (List.take l.length) h6
    rw [List.take_take, List.take_left] at this
    have e : ∀ m, l.length ≤ m → min l.length m = l.length * 1 := fun m hm => by omega
    rw [e _ (by simp)] at this
    exact this
/-- what is left when nothing is reached any more -/
def RchP (X : Cx) (s : ByteArray) (D N : Nat) (T : Pat) (H : Nat → Nat → Prop) (Wq : List Nat) (S : Mc) (e : Ending) (w' : World) : Prop := e = .returned (.tuple #[]) ∧ ∃ K' vr' vw' cs' S', Rep X K' vr' vw' cs' w' S' ∧ Inv s D N T H none Wq S' ∧ Vst S S' ∧ S'.reached = []
def RchI (X : Cx) (s : ByteArray) (D N : Nat) (T : Pat) (H : Nat → Nat → Prop) (Wq : List Nat) (S : Mc) (G : Nat) (w' : World) : Prop := ∃ K' vr' vw' cs' S', Rep X K' vr' vw' cs' w' S' ∧ Inv s D N T H none Wq S' ∧ Vst S S' ∧ mu S' = G
set_option maxRecDepth 100000 in
set_option maxHeartbeats 4000000 in
theorem reach_any (h : Rep X K vr vw cs w S) (I : Inv s D N T H none Wq S) (hN : N ≤ 2147483647) :
    Calls Try.prog 96 #[ptr X.m] w (RchP X s D N T H Wq S) := by
  have H0 : Hid (RchI X s D N T H Wq S (mu S) w) := Lib.hid ⟨K, vr, vw, cs, S, h, I, ⟨Ext.refl _, rfl, fun _ h => h, Nat.le_refl _⟩, rfl⟩
  obtain ⟨G0, hG0⟩ : ∃ G0, G0 = mu S := ⟨_, rfl⟩
  rw [← hG0] at H0
  have HR : Hid (∀ G wr, RchI X s D N T H Wq S G wr → (∃ m2, wr.cell? ⟨X.m, 1, none⟩ = some m2 ∧ wr.frozen? ⟨X.m, 1, none⟩ = false ∧ ((∃ c : Nat, (m2 = .slice none 0 0 ∨ ∃ g, m2 = .slice (some ⟨g, 0, none⟩) 0 c)) ∧ RchP X s D N T H Wq S (.returned (.tuple #[])) wr ∨
      ∃ g n c b, m2 = .slice (some ⟨g, 0, none⟩) (n + 1) c ∧ n + 1 ≤ c ∧ n ≤ 2147483648 ∧ wr.cell? ⟨g, n, none⟩ = some (visitV b) ∧ Calls Try.prog 94 #[ptr (b + 4), ptr b, ptr (b + 1), ptr (b + 3), ptr (b + 2)] (wr.setCell ⟨X.m, 1, none⟩ (.slice (some ⟨g, 0, none⟩) n c)) fun e w2 => e = .returned (.tuple #[]) ∧ ∃ G', G' < G ∧ Hid (RchI X s D N T H Wq S G' w2)))) := Lib.hid fun G wr ⟨K', vr', vw', cs', S', hR, hI, hV, hG⟩ => by
    obtain ⟨⟨_, m1, _⟩, fm⟩ := hR.cells
    refine ⟨vr', m1, fm 1, ?_⟩
    by_cases hne : S'.reached = []
    · refine .inl ⟨?_, rfl, K', vr', vw', cs', S', hR, hI, hV, hne⟩
      have hrr := hR.rr
      rw [hne] at hrr
      rcases RowR.form hrr with ⟨h1, _⟩ | ⟨g, c, h1, _⟩
      · exact ⟨0, .inl h1⟩
      · exact ⟨c, .inr ⟨g, h1⟩⟩
    · obtain ⟨R, i, hri⟩ : ∃ R i, S'.reached = R ++ [i] := ⟨S'.reached.dropLast, S'.reached.getLast hne, (List.dropLast_concat_getLast hne).symm⟩
      have hrr := hR.rr
      rw [hri, List.map_append, List.map_singleton] at hrr
      rcases RowR.form hrr with ⟨_, h1⟩ | ⟨g, c, h1, hgB, hgl⟩
      · simp at h1
      · rw [h1] at hrr
        obtain ⟨g1, g2, g3, g4⟩ := rowV_last hrr
        rw [List.length_map] at g1 g2 g3 g4
        obtain ⟨I2, hc2, hmu⟩ := inv_pop hI hri
        obtain ⟨p, hp, _⟩ := hc2
        have hb : bOf S'.pl i = p.b := bOf_eq hp
        rw [hb] at g3
        have hlen : R.length ≤ 2147483648 := by
          have h2 := hI.cnt; have h3 := hI.tot
          rw [hri] at h2
          simp at h2; omega
        have hR2 := hR.setReached (w1 := wr) (v' := .slice (some ⟨g, 0, none⟩) R.length c) (R := R) (World.grownBy.refl _ _) g4 (fun g' e => .inl (by rw [h1]; exact e)) (fun j hj => hR.rl j (by rw [hri]; exact List.mem_append_left _ hj))
        refine .inr ⟨g, R.length, c, p.b, by rw [h1]; simp, g2, hlen, g3, (visit_any hR2 I2 (i := i) hp ⟨p, hp, by assumption⟩ hN).mono ?_⟩
        rintro e w2 ⟨rfl, K2, vr2, vw2, cs2, S2, hR3, hI3, hV3⟩
        refine ⟨rfl, mu S2, ?_, Lib.hid ⟨K2, vr2, vw2, cs2, S2, hR3, hI3, ?_, rfl⟩⟩
        · have := hV3.mu; omega
        · have hv0 : Vst S' { S' with reached := R } := ⟨Ext.refl _, rfl, fun r hr => by cases r <;> exact hr, by omega⟩
          exact (hV.trans hv0).trans hV3
  clear h I hG0
  go_enter Try.func96, Try.ntmps96
  go_wp2
  go_loopg [] G0 (fun G wr => Hid (RchI X s D N T H Wq S G wr))
  case atStart => exact H0
  case round =>
    clear H0
    obtain ⟨m2, hm, hf, ⟨⟨c, hm2⟩, hP⟩ | ⟨g, n, c, b, rfl, hc, hn, hcell, hcall⟩⟩ := HR.out _ _ hrel.out
    · have HP := Lib.hid hP
      clear hP hrel HR
      rcases hm2 with rfl | ⟨g, rfl⟩
      all_goals
        go_wp2
        go_end0
        exact HP.out
    · have HC := Lib.hid hcall
      clear hcall hrel HR
      go_wp2_with fail
      refine HC.out.mono ?_
      rintro e w2 ⟨rfl, G', hG', HI⟩
      clear HC hm hf hcell
      go_wp2
      go_roundg G'
      case rel => exact HI
      case measure => exact hG'
end
end Go.Proofs.Ytnpgeneahjlkpaa

/- CHAPTER 5, impl: run: byte by byte. -/
namespace Go.Proofs.Ytnpgeneahjlkpaa
open Go.RowKit Mac

section
variable {X : Cx} {K K' : Kn} {vr vw : Value} {cs : List Nat} {w w' : World} {S : Mc} {D N : Nat} {s : ByteArray} {T : Pat} {H : Nat → Nat → Prop} {Wq : List Nat} {i : Nat} {p : Pl}
/-- what the run keeps of the beginning -/
structure First (T : Pat) (H : Nat → Nat → Prop) (S : Mc) : Prop where
  beg : Beg H S
  pl : ∃ p, S.pl[0]? = some p ∧ p.t = T ∧ p.nx = 0
theorem First.vst {S S' : Mc} (h : First T H S) (hv : Vst S S') : First T H S' := by
  obtain ⟨p, h1, h2, h3⟩ := h.pl
  obtain ⟨p', g1, g2, g3⟩ := hv.ext 0 p h1
  refine ⟨?_, p', g1, g2.trans h2, g3.trans h3⟩
  rcases h.beg with h4 | ⟨h4, h5⟩
  · exact .inl h4
  · exact .inr ⟨hv.pos.trans h4, hv.kept _ h5⟩
/-- at the head of the outer loop -/
def RunI (X : Cx) (s : ByteArray) (D N : Nat) (T : Pat) (w' : World) (k : Nat) (n : Nat) : Prop := ∃ H K' vr' vw' cs' S', Rep X K' vr' vw' cs' w' S' ∧ Inv s D N T H none [] S' ∧ First T H S' ∧ S'.reached = [] ∧ S'.pos = k ∧ S'.waiting.length = n
/-- within the inner loop: k of those that waited are done -/
def TakeI (X : Cx) (s : ByteArray) (D N : Nat) (T : Pat) (vw : Value) (cs : List Nat) (W : List Nat) (pos : Nat) (k : Nat) (w' : World) : Prop := ∃ H K' vr' S', Rep X K' vr' vw cs w' { S' with waiting := W } ∧ Inv s D N T H none (W.drop k) S' ∧ First T H S' ∧ S'.waiting = [] ∧ S'.pos = pos + 1 ∧ (∀ i, i ∈ W → ∃ p, S'.pl[i]? = some p ∧ p.t.x.op = 1 ∧ (ChAt s p.t.x.text pos → p.nx ≤ S'.pl.length ∧ Mac.GoodM s D T S'.pl p.nx (pos + 1)))
theorem call_wait (S : Mc) (r : Nat) (W : List Nat) : call { S with waiting := W } r = { call S r with waiting := W } := by
  cases r with
  | zero => rfl
  | succ i =>
    simp only [call]
    cases S.pl[i]? with
    | none => rfl
    | some p => by_cases h : p.vis < S.pos <;> simp [h]
/-- one that waited takes the byte -/
theorem takeI_step {W : List Nat} {pos k : Nat} {wr : World} (h : TakeI X s D N T vw cs W pos k wr) (hk : k < W.length) (hs : pos < s.size) (hN : N ≤ 2147483647) : ∃ c, wr.cell? ⟨0, 0, none⟩ = wr.cell? ⟨0, 0, none⟩ ∧ (∃ hc : k < cs.length, cs[k] = c) ∧ Calls Try.prog 140 #[.int .u8 s[pos].toNat, ptr (c + 1), ptr (c + 2)] wr fun e w' => e = .returned (.tuple #[]) ∧ Hid (TakeI X s D N T vw cs W pos (k + 1) w') := by
  obtain ⟨H, K', vr', S', hR, hI, hF, hw, hp, hW⟩ := h
  have hcl := hR.cl
  have hkc : k < cs.length := by rw [hcl]; exact hk
  obtain ⟨p, hpl, htk⟩ := hR.cw k hkc hk
  have hbd : S'.reached.length + 1 ≤ 2147483648 := by
    have h1 := hI.cnt; have h2 := hI.tot
    simp at h1; omega
  refine ⟨cs[k], rfl, ⟨hkc, rfl⟩, (take_any hR (p := p) (List.mem_of_getElem? hpl) htk s[pos] hbd).mono ?_⟩
  obtain ⟨p', hp1, hp2, hp3⟩ := hW W[k] (List.getElem_mem hk)
  have epp : p' = p := by have := hp1.symm.trans hpl; cases this; rfl
  subst epp
  have hdrop : W.drop k = W[k] :: W.drop (k + 1) := List.drop_eq_getElem_cons hk
  rw [hdrop] at hI
  rintro e w' ⟨rfl, ⟨hx, vr2, hR2⟩ | ⟨hx, hR2⟩⟩
  · have hch : ChAt s p'.t.x.text pos := ⟨hs, hx⟩
    obtain ⟨h1, h2⟩ := hp3 hch
    have hgood : Mac.GoodM s D T S'.pl p'.nx S'.pos := by rw [hp]; exact h2
    obtain ⟨I2, hc2, st⟩ := inv_call hI h1 hgood
    obtain ⟨p2, g1, g2, g3⟩ := st.ext _ _ hp1
    rw [call_wait] at hR2
    refine ⟨rfl, Lib.hid ⟨H, K', vr2, call S' p'.nx, hR2, inv_drop I2 g1 (fun _ _ _ => by rw [g3]; exact hc2), hF.vst (stp_vst st), by rw [st.wait]; exact hw, by rw [st.pos]; exact hp, fun i hi => ?_⟩⟩
    obtain ⟨q, q1, q2, q3⟩ := hW i hi
    obtain ⟨q', r1, r2, r3⟩ := st.ext i q q1
    refine ⟨q', r1, by rw [r2]; exact q2, fun hc => ?_⟩
    rw [r2] at hc
    obtain ⟨q4, q5⟩ := q3 hc
    rw [r3, st.len]
    exact ⟨q4, fun j hj => q5 j (hj.back hI.ord st.ext q4)⟩
  · refine ⟨rfl, Lib.hid ⟨H, K', vr', S', hR2, inv_drop hI hp1 (fun j hj hc => ?_), hF, hw, hp, hW⟩⟩
    have : j = pos := by omega
    subst this
    exact absurd hc.2 hx
theorem rowV_zero {E B : Nat} {n c : Nat} {A : Option Addr} {l : List Value} (h : RowV E B w (.slice A n c) l) : RowV E B w (.slice A 0 c) [] := by
  rcases h.2 with ⟨h0, _⟩ | ⟨g, cap, cur, hv, hB, hg, h3, h4, h5, h6⟩
  · cases h0; exact ⟨by simp, .inl ⟨rfl, rfl⟩⟩
  · cases hv; exact ⟨by simp, .inr ⟨g, c, cur, rfl, hB, hg, Nat.zero_le _, h4, h5, by simp⟩⟩
/-- the inner loop begins -/
theorem takeI_zero {k n : Nat} {wr : World} (h : RunI X s D N T wr k n) (hk : k < s.size) : ∃ (A : Option Addr) (c : Nat) (cs W : List Nat), wr.cell? ⟨X.m, 0, none⟩ = some (.int .i64 k) ∧ wr.cell? ⟨X.m, 2, none⟩ = some (.slice A n c) ∧ wr.frozen? ⟨X.m, 0, none⟩ = false ∧ W.length = n ∧ n ≤ 2147483647 + N ∧ Hid (TakeI X s D N T (.slice A n c) cs W k 0 (wr.setCell ⟨X.m, 0, none⟩ (.int .i64 ((k : Int) + 1)))) := by
  obtain ⟨H, K', vr', vw', cs', S', hR, hI, hF, hr, hp, hn⟩ := h
  obtain ⟨⟨m0, _, m2⟩, fm⟩ := hR.cells
  obtain ⟨A, c, hv⟩ : ∃ A c, vw' = .slice A n c := by
    rcases RowR.form hR.rw with ⟨h1, h2⟩ | ⟨g, c, h1, _⟩
    · have : cs'.length = 0 := by have := congrArg List.length h2; simpa using this
      have : n = 0 := by rw [← hn, ← hR.cl]; exact this
      exact ⟨none, 0, by rw [h1, this]⟩
    · exact ⟨_, c, by rw [h1, List.length_map, hR.cl, hn]⟩
  subst hv
  rw [hp] at m0
  have hbd : n ≤ 2147483647 + N := by
    have h1 := hI.cnt; have h2 := hI.tot
    simp at h1; omega
  refine ⟨A, c, cs', S'.waiting, m0, m2, fm 0, hn, hbd, Lib.hid ⟨_, K', vr', _, ?_, inv_next hI hr (by omega), ?_, rfl, by show S'.pos + 1 = k + 1; omega, fun i hi => ?_⟩⟩
  · have := hR.setPos (k + 1)
    rw [show (((k + 1 : Nat) : Int)) = (k : Int) + 1 by omega] at this
    have e : ({ ({ S' with waiting := [], pos := S'.pos + 1 } : Mc) with waiting := S'.waiting } : Mc) = { S' with pos := k + 1 } := by rw [← hp]
    rw [e]; exact this
  · refine ⟨.inl ?_, hF.pl⟩
    rcases hF.beg with h4 | ⟨h4, h5⟩
    · exact .inl h4
    · exact .inr ⟨h4.symm, h5⟩
  · obtain ⟨p, h1, h2, h3⟩ := hI.wt i hi
    refine ⟨p, h1, h2, fun hc => ⟨?_, fun j hj => ?_⟩⟩
    · have := hI.ord i p h1
      have := (List.getElem?_eq_some_iff.1 h1).1
      show p.nx ≤ S'.pl.length
      omega
    · rw [hp] at h3
      exact h3 j (sound_wait h1 (hI.deep i p h1).2 (hI.deep i p h1).1 h2 hc hj)
theorem takeI_cells {A : Option Addr} {n c : Nat} {cs W : List Nat} {pos k : Nat} {wr : World} (h : TakeI X s D N T (.slice A n c) cs W pos k wr) : (wr.cell? ⟨X.m, 2, none⟩ = some (.slice A n c) ∧ wr.frozen? ⟨X.m, 2, none⟩ = false) ∧ ∀ (hk : k < cs.length), ∃ g, A = some ⟨g, 0, none⟩ ∧ wr.cell? ⟨g, k, none⟩ = some (takeV cs[k]) := by
  obtain ⟨H, K', vr', S', hR, _⟩ := h
  obtain ⟨⟨_, _, m2⟩, fm⟩ := hR.cells
  refine ⟨⟨m2, fm 2⟩, fun hk => ?_⟩
  rcases RowR.form hR.rw with ⟨_, h2⟩ | ⟨g, c', h1, _⟩
  · have := congrArg List.length h2; simp at this; rw [this] at hk; simp at hk
  · cases h1
    refine ⟨g, rfl, ?_⟩
    have := RowR.cell (enc := fun u : Value => [u]) (z := 1) (fun _ => rfl) hR.rw (i := k) (by simpa using hk) (j := 0) (x := takeV cs[k]) (by simp)
    simpa using this
/-- the inner loop is over: what waited waits no more -/
theorem takeI_end {A : Option Addr} {n c : Nat} {cs W : List Nat} {pos : Nat} {wr : World} (h : TakeI X s D N T (.slice A n c) cs W pos n wr) (hn : W.length = n) (hN : N ≤ 2147483647) :
    Calls Try.prog 96 #[ptr X.m] (wr.setCell ⟨X.m, 2, none⟩ (.slice A 0 c)) fun e w' => e = .returned (.tuple #[]) ∧ ∃ n', Hid (RunI X s D N T w' (pos + 1) n') := by
  obtain ⟨H, K', vr', S', hR, hI, hF, hw, hp, hW⟩ := h
  rw [List.drop_of_length_le (by omega)] at hI
  have hR2 := hR.setWaiting (w1 := wr) (v' := .slice A 0 c) (W := []) (cs' := []) (World.grownBy.refl _ _) (rowV_zero hR.rw) (fun g e => .inl (by
    cases A with
    | none => cases e
    | some a => exact e)) rfl (fun q h1 => absurd h1 (by simp))
  have e : ({ ({ S' with waiting := W } : Mc) with waiting := [] } : Mc) = S' := by rw [← hw]
  rw [e] at hR2
  refine (reach_any hR2 hI hN).mono ?_
  rintro e w' ⟨rfl, K2, vr2, vw2, cs2, S2, hR3, hI3, hV3, hr3⟩
  exact ⟨rfl, S2.waiting.length, Lib.hid ⟨H, K2, vr2, vw2, cs2, S2, hR3, hI3, hF.vst hV3, hr3, by rw [hV3.pos]; exact hp, rfl⟩⟩
/-- the run is over -/
def RunP (X : Cx) (s : ByteArray) (D : Nat) (T : Pat) (e : Ending) (w' : World) : Prop := e = .returned (.tuple #[]) ∧ ∃ K' vr' vw' cs' S', Rep X K' vr' vw' cs' w' S' ∧ (S'.en = s.size ↔ Mt s D T 0 s.size)
theorem runI_end {k n : Nat} {wr : World} (h : RunI X s D N T wr k n) (he : k = s.size ∨ n = 0) : RunP X s D T (.returned (.tuple #[])) wr := by
  obtain ⟨H, K', vr', vw', cs', S', hR, hI, hF, hr, hp, hn⟩ := h
  obtain ⟨p, p1, p2, p3⟩ := hF.pl
  exact ⟨rfl, K', vr', vw', cs', S', hR, inv_end hI hF.beg hr (by
    rcases he with he | he
    · exact .inl (by omega)
    · exact .inr (List.length_eq_zero_iff.1 (by omega))) p1 p2 p3⟩
set_option maxRecDepth 100000 in
set_option maxHeartbeats 4000000 in
theorem run_any {b : Nat} {t : Pat} {e : Nat} {r : PatR} (h : Rep X K vr vw cs w ⟨[⟨t, e, r, 0, b, -1, none⟩], [], [], 0, -1⟩) (hd : DeepL e t.kids) (he : e ≤ D) (hcnt : 1 + cntL e t.kids ≤ N) (hN : N ≤ 2147483647) (hs : s.size ≤ 4611686018427387904) :
    Calls Try.prog 60 #[ptr X.m, placeV b, .string s] w (RunP X s D t) := by
  have I0 := inv_zero (s := s) (D := D) (N := N) (t := t) (e := e) (r := r) (b := b) hd he hcnt
  have hc1 := place_any h (j := 0) (p := ⟨t, e, r, 0, b, -1, none⟩) rfl (by simp)
  have hin := inv_call I0 (r := 1) (by simp) (good_zero (s := s) (D := D))
  have HC1 := Lib.hid hc1
  have HREACH : Hid (∀ w1 vr1, Rep X K vr1 vw cs w1 (call ⟨[⟨t, e, r, 0, b, -1, none⟩], [], [], 0, -1⟩ 1) → Calls Try.prog 96 #[ptr X.m] w1 fun e w' => e = .returned (.tuple #[]) ∧ ∃ n', Hid (RunI X s D N t w' 0 n')) := Lib.hid fun w1 vr1 hR1 => by
    obtain ⟨I1, hcd, st⟩ := hin
    refine (reach_any hR1 I1 hN).mono ?_
    rintro e w' ⟨rfl, K2, vr2, vw2, cs2, S2, hR3, hI3, hV3, hr3⟩
    have hF1 : First t (fun _ _ => False) (call ⟨[⟨t, e, r, 0, b, -1, none⟩], [], [], 0, -1⟩ 1) := by
      obtain ⟨p, p1, p2, p3⟩ := st.ext 0 ⟨t, e, r, 0, b, -1, none⟩ rfl
      exact ⟨.inr ⟨st.pos, hcd⟩, p, p1, p2, p3⟩
    exact ⟨rfl, S2.waiting.length, Lib.hid ⟨_, K2, vr2, vw2, cs2, S2, hR3, hI3, hF1.vst hV3, hr3, hV3.pos.trans st.pos, rfl⟩⟩
  have HCELL : Hid (∀ k n wr, RunI X s D N t wr k n → k ≤ s.size ∧ wr.cell? ⟨X.m, 0, none⟩ = some (.int .i64 k) ∧ (∃ A c, wr.cell? ⟨X.m, 2, none⟩ = some (.slice A n c))) := Lib.hid fun k n wr hh => by
    obtain ⟨H, K', vr', vw', cs', S', hR, hI, hF, hr, hp, hn⟩ := hh
    obtain ⟨⟨m0, _, m2⟩, fm⟩ := hR.cells
    refine ⟨by have := hI.ple; omega, by rw [hp] at m0; exact m0, ?_⟩
    rcases RowR.form hR.rw with ⟨h1, h2⟩ | ⟨g, c, h1, _⟩
    · have : cs'.length = 0 := by have := congrArg List.length h2; simpa using this
      have : n = 0 := by rw [← hn, ← hR.cl]; exact this
      exact ⟨none, 0, by rw [m2, h1, this]⟩
    · exact ⟨_, c, by rw [m2, h1, List.length_map, hR.cl, hn]⟩
  clear h I0 hc1 hin hd he hcnt
  go_enter Try.func60, Try.ntmps60
  go_wp2_with fail
  refine HC1.out.mono ?_
  rintro e1 w1 ⟨rfl, vr1, hR1⟩
  have HR1 := Lib.hid (HREACH.out w1 vr1 hR1)
  clear hR1 HREACH HC1
  go_wp2_with fail
  refine HR1.out.mono ?_
  rintro e2 w2 ⟨rfl, n0, HI0⟩
  clear HR1
  go_wp2
  go_loopg [] (s.size) (fun G wr => ∃ k n, G + k = s.size ∧ Hid (RunI X s D N t wr k n))
  case atStart => exact ⟨0, n0, by omega, HI0⟩
  case round =>
    clear HI0
    obtain ⟨k, n, hG, HI⟩ := hrel
    obtain ⟨hks, c0, A, c, c2⟩ := HCELL.out k n wr HI.out
    by_cases hlt : k < s.size
    · have q1 : decide ((k : Int) < (s.size : Int)) = true := by simp; omega
      have q2 : (k : Int) < (s.size : Int) := by omega
      by_cases hn0 : n = 0
      · subst hn0
        have HF := Lib.hid (runI_end HI.out (.inr rfl))
        clear HI HCELL
        go_wp2
        go_end0
        exact HF.out
      · have hn1 : 0 < n := by omega
        have hn2 : (0 : Int) < (n : Int) := by omega
        obtain ⟨A', c', cs2, W, d0, d2, df, hWn, hnb, HT⟩ := takeI_zero HI.out hlt
        rw [c2] at d2
        cases d2
        have HWN := Lib.hid hWn
        have hk9 : (k : Int) + 1 ≤ 9223372036854775807 := by omega
        have HS := Lib.hid hlt
        have HGK : Hid (gk + k = s.size) := Lib.hid hG
        clear HI hWn hG
        go_wp2
        obtain ⟨G1, hG1⟩ : ∃ G1, G1 = gk := ⟨_, rfl⟩
        rw [← hG1] at HGK
        go_loopw [46] (fun i wr => ∃ q : Nat, q ≤ n ∧ i = .int .i64 q ∧ Hid (TakeI X s D N t (.slice A n c) cs2 W k q wr)) (fun i _ => n - (intOf i).toNat)
        case atStart => exact ⟨0, Nat.zero_le _, rfl, HT⟩
        case round =>
          clear HT
          obtain ⟨q, hq, rfl, HT⟩ := hrel
          by_cases hqn : q < n
          · have hqw : q < W.length := by rw [HWN.out]; exact hqn
            obtain ⟨cq, _, ⟨hqc, hcq⟩, hcall⟩ := takeI_step HT.out hqw HS.out hN
            obtain ⟨g, rfl, hcell⟩ := (takeI_cells HT.out).2 hqc
            rw [hcq] at hcell
            have HC := Lib.hid hcall
            clear hcall HT hcq hqc hqw
            go_wp2_with fail
            refine HC.out.mono ?_
            rintro e5 w5 ⟨rfl, HT5⟩
            clear HC hcell
            go_wp2
            go_roundw
            case rel => exact ⟨q + 1, by omega, by go_num, HT5⟩
            case measure => simp [intOf]; omega
          · have hqe : q = n := by omega
            subst hqe
            obtain ⟨m2, f2⟩ := (takeI_cells HT.out).1
            have HC := Lib.hid (takeI_end HT.out HWN.out hN)
            clear HT
            go_wp2_with fail
            refine HC.out.mono ?_
            rintro e5 w5 ⟨rfl, n', HR5⟩
            clear HC m2 f2
            go_wp2
            go_roundg (s.size - (k + 1))
            case rel => exact ⟨k + 1, n', by omega, HR5⟩
            case measure => have := HGK.out; omega
    · have hks' : k = s.size := by omega
      have q1 : decide ((k : Int) < (s.size : Int)) = false := by simp; omega
      have HF := Lib.hid (runI_end HI.out (.inl hks'))
      clear HI HCELL hks'
      go_wp2
      go_end0
      exact HF.out
end
end Go.Proofs.Ytnpgeneahjlkpaa
