/- MERGED for a claim: TyM TyN. -/
import Derived.Test.YtkifdbeklagelaaGreatDoorTy
import Derived.Test.YtkifdbeklagelaaGreatDoorPatF
import Derived.Test.YtkifdbeklagelaaGreatDoorTree
import Derived.Laws.AppendOwnNone
import Derived.Lib.SliceRun
set_option linter.unusedVariables false
set_option linter.unusedSimpArgs false
/- CHAPTER 6: TYPES MARKED AND FOUND AS MARKED (laws.markType, heldType); a type that is owned, beside others. -/
namespace Go.Proofs.YtkifdbeklagelaaGreatDoor
open Go.RowKit NumP

/-- the blocks of a type's lists -/
def TyV.own (v : TyV) (j : Nat) : Prop := v.vr.ownBlock = some j ∨ v.vn.ownBlock = some j
theorem OwnTy.lt {B : Nat} {w : World} {v : TyV} {t : Ty} (h : OwnTy B w v t) {j : Nat} (hj : v.own j) : B ≤ j ∧ j < w.heap.size := by
  rcases hj with hj | hj
  · exact RowR.lt h.rg hj
  · exact h.nm.lt hj
theorem row_frame {B : Nat} {w w' : World} {v : Value} {l : List ByteArray} (h : Row B w v l) (hf : ∀ b, v.ownBlock = some b → w'.heap[b]? = w.heap[b]?) : Row B w' v l := by
  refine ⟨h.1, ?_⟩
  rcases h.2 with hn | ⟨g, cap, cur, rfl, hb, hg, rest⟩
  · exact .inl hn
  · exact .inr ⟨g, cap, cur, rfl, hb, (hf g rfl).trans hg, rest⟩
theorem OwnTy.frame {B : Nat} {w w' : World} {v : TyV} {t : Ty} (h : OwnTy B w v t) (hf : ∀ b, v.own b → w'.heap[b]? = w.heap[b]?) : OwnTy B w' v t :=
  ⟨h.k, rowR_frame h.rg fun b hb => hf b (.inl hb), row_frame h.nm fun b hb => hf b (.inr hb), h.pt, h.ph, h.ne⟩
theorem OwnTy.apart {B : Nat} {w w' : World} {v : TyV} {t : Ty} {S : Nat → Prop} (h : OwnTy B w v t) (ht : TurnsAt S w w') (hd : ∀ b, v.own b → S b → False) : OwnTy B w' v t := h.frame fun b hb => ht.block b (h.lt hb).2 (hd b hb)
/-- a type whose lists hold the marks from 1 on -/
def mTy (t : Ty) : Ty := { t with rg := marksG 1 t.rg.length, nm := marks (1 + 2 * t.rg.length) t.nm.length }
def mTyQ (t : Ty) : Nat := 1 + 2 * t.rg.length + t.nm.length
set_option maxRecDepth 100000 in
set_option maxHeartbeats 1000000 in
theorem markTy_any (B : Nat) (v : TyV) (t : Ty) (w : World) (h : OwnTy B w v t) (h1 : t.rg.length ≤ 2097152) (h2 : t.nm.length ≤ 1048576) :
    Calls Tryz.prog 13 #[v.val, .int .i64 1] w fun e w' => e = .returned (.int .i64 (mTyQ t : Nat)) ∧ OwnTy B w' v (mTy t) ∧ TurnsAt v.own w w' := by
  obtain ⟨k, rg, nm, pt, ph⟩ := t
  obtain ⟨k', vr, vn, pt', ph'⟩ := v
  obtain ⟨rfl, hr, hn, rfl, rfl, hne⟩ := h
  dsimp only at hr hn hne h1 h2 ⊢
  unfold mTyQ mTy
  dsimp only
  obtain ⟨q, hq⟩ : ∃ q, q = 1 + 2 * rg.length := ⟨_, rfl⟩
  have HQ := Lib.hid hq
  have hq1 : q ≤ 4194305 := by omega
  have hb0 : Below w.heap.size w (w.alloc (.cells #[.int .i64 k', vr, vn, .string pt', .string ph'] 30)) := below_al (Below.refl _ _) _
  have HR := Lib.hid (markRngs1 B vr rg _ (RowR.below hr hb0) (by omega))
  have HN := Lib.hid (fun W (hW : Row B W vn nm) => markStrs_any B vn nm q W hW h2 (by omega) (by omega))
  rw [← hq] at HR ⊢
  have HN0 := Lib.hid (hn.below hb0)
  have HLT := Lib.hid (And.intro (fun j hj => (RowR.lt hr (k := j) hj).2) (fun j hj => (hn.lt (k := j) hj).2))
  clear hr hn hb0 hq
  go_enter Tryz.func13, Tryz.ntmps13
  go_wp2_with fail
  refine (HR.out).mono ?_
  rintro e w1 ⟨rfl, hr1, hg1⟩
  have ht1 : TurnsAt (fun j => vr.ownBlock = some j) (w.alloc (.cells #[.int .i64 k', vr, vn, .string pt', .string ph'] 30)) w1 := grown_turns hg1 fun b hb => hb
  have X1 : w1.heap[w.heap.size]? = some (.cells #[.int .i64 k', vr, vn, .string pt', .string ph'] 30 (0, 0)) := (ht1.block _ (by simp) (fun hj => by have := HLT.out.1 _ hj; omega)).trans (heap_alloc_new' _ _ rfl)
  have HRW1 := Lib.hid hr1
  have HT1 := Lib.hid ht1
  have hn1 := Lib.hid (row_frame HN0.out (fun b hb => ht1.block b (by have := HLT.out.2 b hb; simp; omega) (fun hj => hne b hj hb)))
  obtain ⟨⟨x0, x1, x2, x3, x4⟩, -⟩ := five X1
  clear hr1 hg1 ht1 X1
  go_wp2_with fail
  refine (HN.out _ hn1.out).mono ?_
  rintro e w2 ⟨rfl, hn2, hg2⟩
  have ht2 : TurnsAt (fun j => vn.ownBlock = some j) w1 w2 := grown_turns hg2 fun b hb => hb
  have hr2 := rowR_frame HRW1.out (fun b hb => ht2.block b (RowR.lt HRW1.out hb).2 (fun hj => hne b hb hj))
  have hT : TurnsAt (TyV.own ⟨k', vr, vn, pt', ph'⟩) w w2 := ((below_turns (below_al (Below.refl _ _) _)).trans (HT1.out.mono fun b hb _ => .inl hb)).trans (ht2.mono fun b hb _ => .inr hb)
  go_wp2
  go_ret
  refine ⟨ret_int (by omega), ⟨rfl, hr2, ?_, rfl, rfl, hne⟩, hT⟩
  exact hn2
set_option maxRecDepth 100000 in
set_option maxHeartbeats 1000000 in
theorem heldTy_any (v : TyV) (t : Ty) (w : World) (h : HasTy w v (mTy t)) (h1 : t.rg.length ≤ 2097152) (h2 : t.nm.length ≤ 1048576) :
    Calls Tryz.prog 14 #[v.val, .int .i64 1] w fun e w' => e = .returned (.int .i64 (mTyQ t : Nat)) ∧ Below w.heap.size w w' := by
  obtain ⟨k, rg, nm, pt, ph⟩ := t
  obtain ⟨k', vr, vn, pt', ph'⟩ := v
  obtain ⟨rfl, hr, hn, rfl, rfl⟩ := h
  unfold mTy at hr hn
  unfold mTyQ
  dsimp only at hr hn h1 h2 ⊢
  obtain ⟨q, hq⟩ : ∃ q, q = 1 + 2 * rg.length := ⟨_, rfl⟩
  have hq1 : q ≤ 4194305 := by omega
  have hb0 : Below w.heap.size w (w.alloc (.cells #[.int .i64 k', vr, vn, .string pt', .string ph'] 30)) := below_al (Below.refl _ _) _
  have HR := Lib.hid (heldRngs1 vr rg.length _ (HasR.below hr hb0) (by omega))
  rw [← hq] at HR hn ⊢
  have HN := Lib.hid (fun W (hb : Below w.heap.size w W) => heldStrs_any vn q nm.length W (hn.below hb) h2 (by omega) (by omega))
  have HB0 := Lib.hid hb0
  have hq0 : ¬ ((q : Int) < 0) := by omega
  have hm0 : ¬ (((q : Int) + (nm.length : Int)) < 0) := by omega
  obtain ⟨m, hm⟩ : ∃ m, m = nm.length := ⟨_, rfl⟩
  rw [← hm] at HN hm0 ⊢
  clear hr hn hb0 hq hm h1 h2
  go_enter Tryz.func14, Tryz.ntmps14
  go_wp2_with fail
  refine (HR.out).mono ?_
  rintro e w1 ⟨rfl, hb1⟩
  have HB1 := Lib.hid (below_step HB0.out hb1)
  have X1 : w1.heap[w.heap.size]? = some (.cells #[.int .i64 k', vr, vn, .string pt', .string ph'] 30 (0, 0)) := (hb1.block _ (by simp)).trans (heap_alloc_new' _ _ rfl)
  obtain ⟨⟨x0, x1, x2, x3, x4⟩, -⟩ := five X1
  clear hb1 X1
  go_wp2_with fail
  refine (HN.out _ HB1.out).mono ?_
  rintro e w2 ⟨rfl, hb2⟩
  have HB2 := below_step HB1.out hb2
  go_wp2
  go_ret
  exact ⟨ret_int (by omega), HB2⟩
end Go.Proofs.YtkifdbeklagelaaGreatDoor

/- CHAPTER 6: copies of types: slices.Clone at ranges and at texts, impl.copyType, spec.l6Copy. -/
namespace Go.Proofs.YtkifdbeklagelaaGreatDoor
open Go.RowKit

theorem addr_add_add (a : Addr) (i j : Nat) : (a.add i).add j = a.add (i + j) := by
  unfold Addr.add
  by_cases hi : i = 0
  · subst hi; simp
  · by_cases hj : j = 0
    · subst hj; simp [hi]
    · have : ¬ (i + j = 0) := by omega
      simp [hi, hj, this, Nat.add_assoc]
/-- the cells of a list that is read, one behind the other -/
theorem hasR_cells {α : Type} {enc : α → List Value} {z : Nat} {w : World} {l : List α} {a : Addr} (hz : ∀ x, (enc x).length = z) (h0 : 0 < z)
    (hc : ∀ i (h : i < l.length), ∃ a', some a = some a' ∧ a'.block < w.heap.size ∧ ∀ j x, (enc l[i])[j]? = some x → w.cell? ((a'.add (i * z)).add j) = some x) (j : Nat) (u : Value) (hj : (l.flatMap enc)[j]? = some u) : w.cell? (a.add j) = some u := by
  have hlt : j < l.length * z := by rw [← flat_len hz]; exact (List.getElem?_eq_some_iff.1 hj).1
  have hd : j / z < l.length := (Nat.div_lt_iff_lt_mul h0).2 hlt
  have hm : j % z < z := Nat.mod_lt _ h0
  have hx : (enc l[j / z])[j % z]? = some ((enc l[j / z])[j % z]'(by rw [hz]; exact hm)) := List.getElem?_eq_getElem _
  have hf := flat_get hz hd hx
  have hjj : j / z * z + j % z = j := by rw [Nat.mul_comm]; exact Nat.div_add_mod j z
  rw [hjj, hj] at hf
  obtain ⟨a', ha, hb, h⟩ := hc (j / z) hd
  cases ha
  have h := h _ _ hx
  rw [addr_add_add, hjj] at h
  rw [h, ← hf]
/-- a slice without an array has no room -/
def NilOk (v : Value) : Prop := ∀ n c, v = .slice none n c → c = 0
theorem RowR.nilOk {α : Type} {enc : α → List Value} {z E B : Nat} {w : World} {v : Value} {l : List α} (h : RowR enc z E B w v l) : NilOk v := by
  rcases RowR.form h with ⟨rfl, _⟩ | ⟨g, cap, rfl, _, _⟩
  · rintro n c e; cases e; rfl
  · rintro n c e; cases e
theorem Row.nilOk {B : Nat} {w : World} {v : Value} {l : List ByteArray} (h : Row B w v l) : NilOk v := by
  rcases h.form with ⟨rfl, _⟩ | ⟨g, cap, rfl, _, _⟩
  · rintro n c e; cases e; rfl
  · rintro n c e; cases e
theorem rowG_nil (B : Nat) (w : World) : RowG B w (.slice none 0 0) [] := ⟨by simp, .inl ⟨rfl, rfl⟩⟩
theorem row_nil (B : Nat) (w : World) : Row B w (.slice none 0 0) [] := ⟨by simp, .inl ⟨rfl, rfl⟩⟩
theorem hasG_none {w : World} {n c : Nat} {l : List Rg} (h : HasG w (.slice none n c) l) : l = [] := by
  obtain ⟨A, cap, e, _, hc⟩ := h
  cases l with
  | nil => rfl
  | cons x r => obtain ⟨a, h, _⟩ := hc 0 (by simp); cases e; cases h
theorem has_none {w : World} {n c : Nat} {l : List ByteArray} (h : Has w (.slice none n c) l) : l = [] := by
  obtain ⟨A, cap, e, _, hc⟩ := h
  cases l with
  | nil => rfl
  | cons x r => obtain ⟨a, h, _⟩ := hc 0 (by simp); cases e; cases h
/-- 'append([]Range{}, l...)' -/
theorem wpList_copy_rngs {ops : Array Oper} {rest : List Oper} {o : Oper} {a : Act} {Q : Exit → Act → World → Prop} {w : World} (hgd : o.guard = none) (s x : Operand)
    (ho : o.op = .call { callee := .builtin .append, args := #[s, x], argTypes := #[28, 28] })
    (b : Nat) (hs : a.eval s = .slice (some ⟨b, 0, none⟩) 0 0) (hb : b = w.heap.size) (v : Value) (l : List Rg) (hx : a.eval x = v) (hv : HasG w v l) (hk : NilOk v) (hn : l.length ≤ 1048576)
    (h : ∀ v' w', RowG w.heap.size w' v' l → Below w.heap.size w w' → wpList Tryz.prog ops Q rest (a.put o.dst v') w') :
    wpList Tryz.prog ops Q (o :: rest) a (w.alloc (.cells #[] 81)) := by
  obtain ⟨i0, hi, hz0, hz1, hz2⟩ := info_parts infoRng
  subst hb
  have hown : (w.alloc (.cells #[] 81)).ownsRow w.heap.size 81 2 (.slice (some ⟨w.heap.size, 0, none⟩) 0 0) 0 [] := rowG_new w w.heap.size (Nat.le_refl _)
  have hb0 : Below w.heap.size w (w.alloc (.cells #[] 81)) := below_al (Below.refl _ _) _
  obtain ⟨A, c, rfl, hn', hc⟩ := id hv
  cases A with
  | none =>
    obtain rfl := hasG_none hv
    obtain rfl := hk _ _ rfl
    exact wpList_append_own_none hgd s x 28 ho w.heap.size 81 i0 2 Tryz.underlying28 hi _ 0 [] hs hown hx (h _ _ hown hb0)
  | some p =>
    refine wpList_append_own _ hgd s x 28 ho w.heap.size 81 i0 (.agg #[.int .i64 0, .int .i64 0]) 2 16 Tryz.underlying28 hi hz0 hz1 hz2 rfl (by decide) _ 0 [] hs hown p l.length c (l.flatMap Rg.enc) hx (flat_len Rg.enc_len l) (fun j u hj => ?_) (fun u hu => by obtain ⟨y, _, hy⟩ := List.mem_flatMap.1 hu; simp [Rg.enc] at hy; rcases hy with rfl | rfl <;> rfl) (by unfold maxLen; omega) (by omega) hb0.size ?_
    · have hj' := hasR_cells Rg.enc_len (by omega) hc j u hj
      rw [hb0.cell (lt_of_cell hj')]; exact hj'
    · intro v' w' h2 h3 h4
      refine h v' w' ?_ (hb0.grown h3 hb0.size (fun k hk => by cases hk; exact Nat.le_refl _))
      unfold RowG RowR
      simpa using h2
theorem strs_cells {w : World} {l : List ByteArray} {a : Addr} (hc : ∀ i (h : i < l.length), ∃ a', some a = some a' ∧ a'.block < w.heap.size ∧ w.cell? (a'.add i) = some (.string l[i])) (j : Nat) (u : Value) (hj : (l.map Value.string)[j]? = some u) : w.cell? (a.add j) = some u := by
  obtain ⟨hlt, e⟩ := List.getElem?_eq_some_iff.1 hj
  rw [List.length_map] at hlt
  obtain ⟨a', ha, hb, h⟩ := hc j hlt
  cases ha
  rw [h, ← e, List.getElem_map]
/-- 'append([]string{}, l...)' -/
theorem wpList_copy_strs {ops : Array Oper} {rest : List Oper} {o : Oper} {a : Act} {Q : Exit → Act → World → Prop} {w : World} (hgd : o.guard = none) (s x : Operand)
    (ho : o.op = .call { callee := .builtin .append, args := #[s, x], argTypes := #[23, 23] })
    (b : Nat) (hs : a.eval s = .slice (some ⟨b, 0, none⟩) 0 0) (hb : b = w.heap.size) (v : Value) (l : List ByteArray) (hx : a.eval x = v) (hv : Has w v l) (hk : NilOk v) (hn : l.length ≤ 1048576)
    (h : ∀ v' w', Row w.heap.size w' v' l → Below w.heap.size w w' → wpList Tryz.prog ops Q rest (a.put o.dst v') w') :
    wpList Tryz.prog ops Q (o :: rest) a (w.alloc (.cells #[] 9)) := by
  obtain ⟨i0, hi, hz0, hz1, hz2⟩ := info_parts infoStr
  subst hb
  have hown : (w.alloc (.cells #[] 9)).ownsRow w.heap.size 9 1 (.slice (some ⟨w.heap.size, 0, none⟩) 0 0) 0 [] := ⟨by simp, .inr ⟨w.heap.size, 0, #[], rfl, Nat.le_refl _, heap_alloc_new w _, by simp, by simp, by simp, by simp⟩⟩
  have hb0 : Below w.heap.size w (w.alloc (.cells #[] 9)) := below_al (Below.refl _ _) _
  obtain ⟨A, c, rfl, hn', hc⟩ := id hv
  cases A with
  | none =>
    obtain rfl := has_none hv
    obtain rfl := hk _ _ rfl
    exact wpList_append_own_none hgd s x 23 ho w.heap.size 9 i0 1 Tryz.underlying23 hi _ 0 [] hs hown hx (h _ _ hown hb0)
  | some p =>
    refine wpList_append_own _ hgd s x 23 ho w.heap.size 9 i0 (.string ⟨#[]⟩) 1 16 Tryz.underlying23 hi hz0 hz1 hz2 rfl (by decide) _ 0 [] hs hown p l.length c (l.map Value.string) hx (by simp) (fun j u hj => ?_) (fun u hu => by obtain ⟨y, _, rfl⟩ := List.mem_map.1 hu; rfl) (by unfold maxLen; omega) (by omega) hb0.size ?_
    · have hj' := strs_cells hc j u hj
      rw [hb0.cell (lt_of_cell hj')]; exact hj'
    · intro v' w' h2 h3 h4
      refine h v' w' ?_ (hb0.grown h3 hb0.size (fun k hk => by cases hk; exact Nat.le_refl _))
      unfold Row
      simpa using h2
/-- a type's lists, as arguments of copies -/
def NilTy (v : TyV) : Prop := NilOk v.vr ∧ NilOk v.vn
theorem OwnTy.nilTy {B : Nat} {w : World} {v : TyV} {t : Ty} (h : OwnTy B w v t) : NilTy v := ⟨RowR.nilOk h.rg, h.nm.nilOk⟩
end Go.Proofs.YtkifdbeklagelaaGreatDoor
