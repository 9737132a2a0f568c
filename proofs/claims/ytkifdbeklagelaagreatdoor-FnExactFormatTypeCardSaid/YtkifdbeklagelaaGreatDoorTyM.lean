/- CHAPTER 6: TYPES MARKED AND FOUND AS MARKED (laws.markType, heldType); a type that is owned, beside others. -/
import Derived.Test.YtkifdbeklagelaaGreatDoorTy
import Derived.Test.YtkifdbeklagelaaGreatDoorMark
import Derived.Test.YtkifdbeklagelaaGreatDoorTree
set_option linter.unusedVariables false
set_option linter.unusedSimpArgs false
namespace Go.Proofs.YtkifdbeklagelaaGreatDoor
open Go.RowKit NumP

/-- the blocks of a type's lists -/
def TyV.own (v : TyV) (j : Nat) : Prop := v.vr.ownBlock = some j ∨ v.vn.ownBlock = some j
theorem OwnTy.lt {B : Nat} {w : World} {v : TyV} {t : Ty} (h : OwnTy B w v t) {j : Nat} (hj : v.own j) : B ≤ j ∧ j < w.heap.size := by
  rcases hj with hj | hj
  · exact RowR.lt h.rg hj
  · exact h.nm.lt hj
theorem row_frame {B : Nat} {w w' : World} {v : Value} {l : List ByteArray} (h : Row B w v l) (hf : ∀ b, v.ownBlock = some b → w'.heap[b]? = w.heap[b]?) : Row B w' v l := by
  refine ⟨h.1, ?_⟩
  rcases h.2 with hn | ⟨g, cap, cur, rfl, hb, hg, rest⟩
  · exact .inl hn
  · exact .inr ⟨g, cap, cur, rfl, hb, (hf g rfl).trans hg, rest⟩
theorem OwnTy.frame {B : Nat} {w w' : World} {v : TyV} {t : Ty} (h : OwnTy B w v t) (hf : ∀ b, v.own b → w'.heap[b]? = w.heap[b]?) : OwnTy B w' v t :=
  ⟨h.k, rowR_frame h.rg fun b hb => hf b (.inl hb), row_frame h.nm fun b hb => hf b (.inr hb), h.pt, h.ph, h.ne⟩
theorem OwnTy.apart {B : Nat} {w w' : World} {v : TyV} {t : Ty} {S : Nat → Prop} (h : OwnTy B w v t) (ht : TurnsAt S w w') (hd : ∀ b, v.own b → S b → False) : OwnTy B w' v t := h.frame fun b hb => ht.block b (h.lt hb).2 (hd b hb)
/-- a type whose lists hold the marks from 1 on -/
def mTy (t : Ty) : Ty := { t with rg := marksG 1 t.rg.length, nm := marks (1 + 2 * t.rg.length) t.nm.length }
def mTyQ (t : Ty) : Nat := 1 + 2 * t.rg.length + t.nm.length
set_option maxRecDepth 100000 in
set_option maxHeartbeats 1000000 in
theorem markTy_any (B : Nat) (v : TyV) (t : Ty) (w : World) (h : OwnTy B w v t) (h1 : t.rg.length ≤ 2097152) (h2 : t.nm.length ≤ 1048576) :
    Calls Tryz.prog 13 #[v.val, .int .i64 1] w fun e w' => e = .returned (.int .i64 (mTyQ t : Nat)) ∧ OwnTy B w' v (mTy t) ∧ TurnsAt v.own w w' := by
  obtain ⟨k, rg, nm, pt, ph⟩ := t
  obtain ⟨k', vr, vn, pt', ph'⟩ := v
  obtain ⟨rfl, hr, hn, rfl, rfl, hne⟩ := h
  dsimp only at hr hn hne h1 h2 ⊢
  unfold mTyQ mTy
  dsimp only
  obtain ⟨q, hq⟩ : ∃ q, q = 1 + 2 * rg.length := ⟨_, rfl⟩
  have HQ := Lib.hid hq
  have hq1 : q ≤ 4194305 := by omega
  have hb0 : Below w.heap.size w (w.alloc (.cells #[.int .i64 k', vr, vn, .string pt', .string ph'] 30)) := below_al (Below.refl _ _) _
  have HR := Lib.hid (markRngs1 B vr rg _ (RowR.below hr hb0) (by omega))
  have HN := Lib.hid (fun W (hW : Row B W vn nm) => markStrs_any B vn nm q W hW h2 (by omega) (by omega))
  rw [← hq] at HR ⊢
  have HN0 := Lib.hid (hn.below hb0)
  have HLT := Lib.hid (And.intro (fun j hj => (RowR.lt hr (k := j) hj).2) (fun j hj => (hn.lt (k := j) hj).2))
  clear hr hn hb0 hq
  go_enter Tryz.func13, Tryz.ntmps13
  go_wp2_with fail
  refine (HR.out).mono ?_
  rintro e w1 ⟨rfl, hr1, hg1⟩
  have ht1 : TurnsAt (fun j => vr.ownBlock = some j) (w.alloc (.cells #[.int .i64 k', vr, vn, .string pt', .string ph'] 30)) w1 := grown_turns hg1 fun b hb => hb
  have X1 : w1.heap[w.heap.size]? = some (.cells #[.int .i64 k', vr, vn, .string pt', .string ph'] 30 (0, 0)) := (ht1.block _ (by simp) (fun hj => by have := HLT.out.1 _ hj; omega)).trans (heap_alloc_new' _ _ rfl)
  have HRW1 := Lib.hid hr1
  have HT1 := Lib.hid ht1
  have hn1 := Lib.hid (row_frame HN0.out (fun b hb => ht1.block b (by have := HLT.out.2 b hb; simp; omega) (fun hj => hne b hj hb)))
  obtain ⟨⟨x0, x1, x2, x3, x4⟩, -⟩ := five X1
  clear hr1 hg1 ht1 X1
  go_wp2_with fail
  refine (HN.out _ hn1.out).mono ?_
  rintro e w2 ⟨rfl, hn2, hg2⟩
  have ht2 : TurnsAt (fun j => vn.ownBlock = some j) w1 w2 := grown_turns hg2 fun b hb => hb
  have hr2 := rowR_frame HRW1.out (fun b hb => ht2.block b (RowR.lt HRW1.out hb).2 (fun hj => hne b hb hj))
  have hT : TurnsAt (TyV.own ⟨k', vr, vn, pt', ph'⟩) w w2 := ((below_turns (below_al (Below.refl _ _) _)).trans (HT1.out.mono fun b hb _ => .inl hb)).trans (ht2.mono fun b hb _ => .inr hb)
  go_wp2
  go_ret
  refine ⟨ret_int (by omega), ⟨rfl, hr2, ?_, rfl, rfl, hne⟩, hT⟩
  exact hn2
set_option maxRecDepth 100000 in
set_option maxHeartbeats 1000000 in
theorem heldTy_any (v : TyV) (t : Ty) (w : World) (h : HasTy w v (mTy t)) (h1 : t.rg.length ≤ 2097152) (h2 : t.nm.length ≤ 1048576) :
    Calls Tryz.prog 14 #[v.val, .int .i64 1] w fun e w' => e = .returned (.int .i64 (mTyQ t : Nat)) ∧ Below w.heap.size w w' := by
  obtain ⟨k, rg, nm, pt, ph⟩ := t
  obtain ⟨k', vr, vn, pt', ph'⟩ := v
  obtain ⟨rfl, hr, hn, rfl, rfl⟩ := h
  unfold mTy at hr hn
  unfold mTyQ
  dsimp only at hr hn h1 h2 ⊢
  obtain ⟨q, hq⟩ : ∃ q, q = 1 + 2 * rg.length := ⟨_, rfl⟩
  have hq1 : q ≤ 4194305 := by omega
  have hb0 : Below w.heap.size w (w.alloc (.cells #[.int .i64 k', vr, vn, .string pt', .string ph'] 30)) := below_al (Below.refl _ _) _
  have HR := Lib.hid (heldRngs1 vr rg.length _ (HasR.below hr hb0) (by omega))
  rw [← hq] at HR hn ⊢
  have HN := Lib.hid (fun W (hb : Below w.heap.size w W) => heldStrs_any vn q nm.length W (hn.below hb) h2 (by omega) (by omega))
  have HB0 := Lib.hid hb0
  have hq0 : ¬ ((q : Int) < 0) := by omega
  have hm0 : ¬ (((q : Int) + (nm.length : Int)) < 0) := by omega
  obtain ⟨m, hm⟩ : ∃ m, m = nm.length := ⟨_, rfl⟩
  rw [← hm] at HN hm0 ⊢
  clear hr hn hb0 hq hm h1 h2
  go_enter Tryz.func14, Tryz.ntmps14
  go_wp2_with fail
  refine (HR.out).mono ?_
  rintro e w1 ⟨rfl, hb1⟩
  have HB1 := Lib.hid (below_step HB0.out hb1)
  have X1 : w1.heap[w.heap.size]? = some (.cells #[.int .i64 k', vr, vn, .string pt', .string ph'] 30 (0, 0)) := (hb1.block _ (by simp)).trans (heap_alloc_new' _ _ rfl)
  obtain ⟨⟨x0, x1, x2, x3, x4⟩, -⟩ := five X1
  clear hb1 X1
  go_wp2_with fail
  refine (HN.out _ HB1.out).mono ?_
  rintro e w2 ⟨rfl, hb2⟩
  have HB2 := below_step HB1.out hb2
  go_wp2
  go_ret
  exact ⟨ret_int (by omega), HB2⟩
end Go.Proofs.YtkifdbeklagelaaGreatDoor
