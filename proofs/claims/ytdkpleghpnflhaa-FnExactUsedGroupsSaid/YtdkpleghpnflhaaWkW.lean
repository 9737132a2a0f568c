/- MERGED for a claim: WkU WkW. -/
import Derived.Test.YtdkpleghpnflhaaWkT
import Derived.Test.YtdkpleghpnflhaaWkV
import Derived.Sort.LoopGhostIn
import Derived.WideMake
set_option linter.unusedVariables false
set_option linter.unusedSimpArgs false
/- CHAPTER 9, impl: walk's iterator tells the visits of a stack. -/
namespace Go.Proofs.Ytdkpleghpnflhaa
open Go.RowKit Go.Shelf
attribute [local go_sem] Oper.semAt_some
set_option maxRecDepth 100000

section
variable {F : Fence} {n : Nat} {P : Program} {ops : Array Oper} {rest : List Oper} {o : Oper} {a : Act} {w : World} {Q : Exit → Act → World → Prop}
theorem wpListIn_lookup_run (hgd : o.guard = none) (t : TypeId) (m x : Operand) (ho : o.op = .lookup t m x false) (vm vx v : Value) (hm : a.eval m = vm) (hx : a.eval x = vx)
    (hr : (Instr.lookup t vm vx false).run P w = .ok v w) (h : wpListIn F n P ops Q rest (a.put o.dst v) w) : wpListIn F n P ops Q (o :: rest) a w := by
  refine wpListIn_plain hgd fun K hK => ?_
  unfold Oper.wpIn
  refine ⟨by simp [Oper.about, ho], ?_⟩
  rw [Oper.semAt_plain F _ _ (by rw [ho]; intro c hc'; cases hc')]
  simp [execOp, ho, hm, hx, hr, Result.andThen]
  exact hK _ _ h
theorem wpListIn_update_run {w' : World} (hgd : o.guard = none) (t : TypeId) (m x y : Operand) (ho : o.op = .mapUpdate t m x y) (vm vx v : Value) (hm : a.eval m = vm) (hx : a.eval x = vx) (hy : a.eval y = v)
    (hr : (Instr.mapUpdate t vm vx v).run P w = .ok () w') (h : wpListIn F n P ops Q rest (a.put o.dst undef) w') : wpListIn F n P ops Q (o :: rest) a w := by
  refine wpListIn_plain hgd fun K hK => ?_
  unfold Oper.wpIn
  refine ⟨by simp [Oper.about, ho], ?_⟩
  rw [Oper.semAt_plain F _ _ (by rw [ho]; intro c hc'; cases hc')]
  simp [execOp, ho, hm, hx, hy, hr, Result.andThen]
  exact hK _ _ h
theorem wpListIn_delete_run {w' : World} (hgd : o.guard = none) (t k : TypeId) (m x : Operand) (ho : o.op = Op.call { callee := Callee.builtin Builtin.delete, args := #[m, x], argTypes := #[t, k] }) (vm vx : Value) (hm : a.eval m = vm) (hx : a.eval x = vx)
    (hr : (Builtin.delete_ #[t, k] o.type #[vm, vx]).run P w = .ok (.tuple #[]) w') (h : wpListIn F n P ops Q rest (a.put o.dst (.tuple #[])) w') : wpListIn F n P ops Q (o :: rest) a w := by
  refine wpListIn_plain hgd fun K hK => ?_
  unfold Oper.wpIn
  refine ⟨by simp [Oper.about, ho, resolve, Target.leads, Sem.run_pure], ?_⟩
  rw [Oper.semAt_plain F _ _ (by rw [ho]; intro c hc'; cases hc')]
  simp [execOp, ho, resolve, invoke, builtin, hm, hx, hr, Result.andThen]
  exact hK _ _ h
end
theorem PSet.same {w w' : World} {b : Nat} {l : List Addr} (h : PSet w b l) (hs : w'.heap[b]? = w.heap[b]?) : PSet w' b l := by
  obtain ⟨es, ck, h1, h2, h3⟩ := h
  exact ⟨es, ck, hs.trans h1, h2, h3⟩
abbrev ItS := It ScX
/-- a slice of kids -/
def KidsV (n₀ : Nat) (w0 : World) (v : Value) (ks : List ItS) : Prop :=
  ∃ A cap, v = .slice A ks.length cap ∧ ∀ j (hj : j < ks.length), ∃ a r, A = some a ∧ a.block < n₀ ∧ ks[j].a = a.add (j * 19) ∧ Nl w0 ks[j].a r ∧ Blk w0 ks[j].a
def zeroScR : ScR := ⟨0, ⟨#[]⟩, ⟨0, .slice none 0 0, .slice none 0 0, ⟨#[]⟩, ⟨#[]⟩⟩, .slice none 0 0, .slice none 0 0, ⟨#[]⟩, false, false, false, false, 0, 0, .slice none 0 0, .slice none 0 0, .slice none 0 0⟩
theorem KidsV.at {n₀ : Nat} {w0 W : World} {v : Value} {ks : List ItS} (h : KidsV n₀ w0 v ks) (hs : ∀ b, b < n₀ → W.heap[b]? = w0.heap[b]?) :
    ∃ A cap, v = .slice A ks.length cap ∧ ∃ R : Nat → ScR, ∀ j (hj : j < (ks.map (·.a)).length), ∃ a, A = some a ∧ a.block < n₀ ∧ (ks.map (·.a))[j] = a.add (j * 19) ∧ Nl W (ks.map (·.a))[j] (R j) ∧ Blk W (ks.map (·.a))[j] := by
  obtain ⟨A, cap, h1, h2⟩ := h
  refine ⟨A, cap, h1, ?_⟩
  have h3 : ∀ j, ∃ r : ScR, ∀ (hj : j < ks.length), ∃ a, A = some a ∧ a.block < n₀ ∧ ks[j].a = a.add (j * 19) ∧ Nl w0 ks[j].a r ∧ Blk w0 ks[j].a := fun j => by
    by_cases hj : j < ks.length
    · obtain ⟨a, r, h⟩ := h2 j hj
      exact ⟨r, fun _ => ⟨a, h⟩⟩
    · exact ⟨zeroScR, fun h => absurd h hj⟩
  refine ⟨fun j => Classical.choose (h3 j), fun j hj => ?_⟩
  have hj' : j < ks.length := by simpa using hj
  obtain ⟨a, e1, e2, e3, e4, cs, t, e5⟩ := Classical.choose_spec (h3 j) hj'
  have hb : ks[j].a.block < n₀ := by rw [e3, addr_blk]; exact e2
  simp only [List.getElem_map]
  exact ⟨a, e1, e2, e3, e4.at (hs _ hb), cs, t, (hs _ hb).trans e5⟩
/-- a visit, as the round is handed it -/
def encV (x : ItS × Bool) : Array Value := #[.pointer (some x.1.a), .bool x.2]
/-- the blocks that the walk keeps for itself -/
def OwnW (b4 b5 bm : Nat) (v : Value) (b : Nat) : Prop := b = b4 ∨ b = b5 ∨ b = bm ∨ v.ownBlock = some b
/-- the walk's variables while the stack is st -/
structure WS (n₀ B : Nat) (w0 : World) (b4 b5 bm : Nat) (st : List ItS) (v : Value) (wr : World) : Prop where
  ah : Ahead wr b4 v
  ar : Boxed wr b5 95 (.map (some bm))
  ps : PSet wr bm (opens st).reverse
  row : RowA B wr v (st.reverse.map (·.a))
  wi : WInv st
  gd : ∀ i ∈ st, i.a.block < n₀ ∧ Blk w0 i.a
section
variable {n₀ B b4 b5 bm : Nat} {w0 wr w' : World} {st : List ItS} {v : Value}
theorem WS.same (h : WS n₀ B w0 b4 b5 bm st v wr) (hs : ∀ b, OwnW b4 b5 bm v b → w'.heap[b]? = wr.heap[b]?) : WS n₀ B w0 b4 b5 bm st v w' :=
  ⟨(hs _ (.inl rfl)).trans h.ah, (hs _ (.inr (.inl rfl))).trans h.ar, h.ps.same (hs _ (.inr (.inr (.inl rfl)))), rowR_frame h.row fun b e => hs b (.inr (.inr (.inr e))), h.wi, h.gd⟩
theorem WS.lt (h : WS n₀ B w0 b4 b5 bm st v wr) {b : Nat} (hb : OwnW b4 b5 bm v b) : b < wr.heap.size := by
  rcases hb with rfl | rfl | rfl | e
  · exact h.ah.lt
  · exact h.ar.lt
  · obtain ⟨es, ck, h1, _⟩ := h.ps; exact (Array.getElem?_eq_some_iff.1 h1).1
  · exact (RowR.lt h.row e).2
theorem WS.map_ne (h : WS n₀ B w0 b4 b5 bm st v wr) : bm ≠ b4 ∧ bm ≠ b5 ∧ v.ownBlock ≠ some bm ∧ b5 ≠ b4 := by
  obtain ⟨es, ck, h1, _⟩ := h.ps
  refine ⟨fun e => ?_, fun e => ?_, fun e => ?_, fun e => ?_⟩
  · rw [e] at h1; have := (show wr.heap[b4]? = _ from h.ah).symm.trans h1; simp at this
  · rw [e] at h1; have := (show wr.heap[b5]? = _ from h.ar).symm.trans h1; simp at this
  · rcases h.row.2 with ⟨rfl, _⟩ | ⟨g, cp, cur', rfl, _, hgb, _⟩
    · simp [Value.ownBlock] at e
    · obtain rfl : g = bm := by simpa [Value.ownBlock] using e
      have := hgb.symm.trans h1; simp at this
  · have h5 := h.ar; rw [e] at h5; have := (show wr.heap[b4]? = _ from h.ah).symm.trans h5; simp at this
end
end Go.Proofs.Ytdkpleghpnflhaa

/- CHAPTER 9, impl: walk's iterator, walked. -/
namespace Go.Proofs.Ytdkpleghpnflhaa
open Go.RowKit Go.Shelf
attribute [local go_sem] Oper.semAt_some run_makeMap_plain
set_option maxRecDepth 100000

theorem ws_add (F : Fence) (n : Nat) (h50 : F.fn 44) (h51 : F.fn 45) (h71 : F.fn 55) (hro : F.round = none) (hn : 3 ≤ n)
    {n₀ B b4 b5 bm : Nat} {w0 wr : World} {st ks : List ItS} {v v2 : Value} (h : WS n₀ B w0 b4 b5 bm st v wr) (hv : KidsV n₀ w0 v2 ks) (hs : ∀ b, b < n₀ → wr.heap[b]? = w0.heap[b]?) (hB : B ≤ wr.heap.size) (hnB : n₀ ≤ B) (hb4 : B ≤ b4)
    (hcl : ∀ i ∈ ks, i.op = false) (hg : ∀ i ∈ ks, i.a.block < n₀ ∧ Blk w0 i.a) (hwi : WInv (ks ++ st)) (hsz : st.length + ks.length ≤ 1099511627776) :
    CallsIn F n Try.prog 44 #[v2, .pointer (some ⟨b5, 0, none⟩), .pointer (some ⟨b4, 0, none⟩)] wr fun e w' => e = .returned (.tuple #[]) ∧ ∃ v', WS n₀ B w0 b4 b5 bm (ks ++ st) v' w' ∧ TurnsAt (fun b => b = b4 ∨ v.ownBlock = some b) wr w' ∧ (v'.ownBlock = v.ownBlock ∨ ∃ g, v'.ownBlock = some g ∧ wr.heap.size ≤ g) := by
  obtain ⟨A, cap, rfl, R, hR⟩ := hv.at hs
  have hop : opens (ks ++ st) = opens st := by
    unfold opens; rw [List.filter_append, List.filter_eq_nil_iff.2 (fun i hi => by simp [hcl i hi]), List.nil_append]
  obtain ⟨m1, m2, m3, m4⟩ := h.map_ne
  refine (add_in F n h50 h51 h71 hro hn wr b4 b5 bm n₀ B ks.length cap A R v (st.reverse.map (·.a)) (opens st).reverse (ks.map (·.a)) h.ah h.ar h.ps h.row hB hnB hb4 (by simp) hR (fun x hx => ?_) (fun x hx hx2 => ?_) (by simpa using hsz)).mono ?_
  · obtain ⟨i, hi, _, rfl⟩ := opens_mem (List.mem_reverse.1 hx)
    obtain ⟨h1, cs, t, h2⟩ := h.gd i hi
    exact ⟨h1, cs, t, (hs _ h1).trans h2⟩
  · obtain ⟨i, hi, _, rfl⟩ := opens_mem (List.mem_reverse.1 hx2)
    have := hwi.nd
    rw [List.map_append] at this
    exact (List.nodup_append.1 this).2.2 i.a hx i.a (List.mem_map.2 ⟨i, hi, rfl⟩) rfl
  · rintro e w' ⟨rfl, ht, v', h4', hrow', hv'⟩
    have keep : ∀ b, b < wr.heap.size → b ≠ b4 → v.ownBlock ≠ some b → w'.heap[b]? = wr.heap[b]? := fun b hb h1 h2 => ht.block b hb (fun h => h.elim h1 h2)
    refine ⟨rfl, v', ⟨h4', (keep b5 h.ar.lt m4 (Boxed.not_row h.ar (by decide) h.row).symm).trans h.ar, ?_, ?_, hwi, fun i hi => ?_⟩, ht, hv'⟩
    · rw [hop]
      exact h.ps.same (keep bm (h.lt (.inr (.inr (.inl rfl)))) m1 m3)
    · rw [List.reverse_append, List.map_append]
      have : (ks.map (·.a)).reverse = ks.reverse.map (·.a) := by rw [List.map_reverse]
      rw [← this]; exact hrow'
    · rcases List.mem_append.1 hi with hi | hi
      · exact hg i hi
      · exact h.gd i hi
/-- the round's blocks stay apart from the walk's -/
theorem apart_round {Z M M' : Nat → Prop} {b4 b5 bm : Nat} {v : Value} {A B : World} (hM : ∀ b, M b → b < A.heap.size ∧ ¬ Z b ∧ ¬ OwnW b4 b5 bm v b) (hZ : ∀ b, Z b → b < A.heap.size) (ho : ∀ b, OwnW b4 b5 bm v b → b < A.heap.size) (k : StepM M M' A B) :
    ∀ b, M' b → b < B.heap.size ∧ ¬ Z b ∧ ¬ OwnW b4 b5 bm v b := fun b hb => by
  refine ⟨k.lt b hb, fun hz => ?_, fun hw => ?_⟩
  · rcases k.sub b hb with h | h
    · exact (hM b h).2.1 hz
    · have := hZ b hz; omega
  · rcases k.sub b hb with h | h
    · exact (hM b h).2.2 hw
    · have := ho b hw; omega
theorem ws_form {n₀ B b4 b5 bm : Nat} {w0 wr : World} {p : ItS} {rest : List ItS} {v : Value} (h : WS n₀ B w0 b4 b5 bm (p :: rest) v wr) : ∃ g c, v = .slice (some ⟨g, 0, none⟩) (rest.length + 1) c ∧ B ≤ g ∧ RowA B wr (.slice (some ⟨g, 0, none⟩) (rest.length + 1) c) (rest.reverse.map (·.a) ++ [p.a]) ∧ wr.cell? ⟨g, rest.length, none⟩ = some (.pointer (some p.a)) ∧ rest.length + 1 ≤ c := by
  have hr := h.row
  have e : (p :: rest).reverse.map (·.a) = rest.reverse.map (·.a) ++ [p.a] := by simp
  rw [e] at hr
  rcases hr.2 with ⟨_, h0⟩ | ⟨g, c, cur, rfl, h1, h2, h3, h4, h5, h6⟩
  · simp at h0
  · have hlen : (rest.reverse.map (·.a) ++ [p.a]).length = rest.length + 1 := by simp
    have hcell := RowR.cell encA_len hr (i := rest.length) (j := 0) (by simp) (x := .pointer (some p.a)) (by simp [encA])
    rw [hlen] at h3 hr
    refine ⟨g, c, by rw [hlen], h1, hr, ?_, h3⟩
    simpa using hcell
theorem ws_nil {n₀ B b4 b5 bm : Nat} {w0 wr : World} {v : Value} (h : WS n₀ B w0 b4 b5 bm [] v wr) : ∃ A c, v = .slice A 0 c := by
  rcases h.row.2 with ⟨h1, _⟩ | ⟨g, c, cur, h1, _⟩
  · exact ⟨_, _, h1⟩
  · exact ⟨_, _, h1⟩
theorem drop_cons {α : Type} {l l' : List α} {x : α} {i : Nat} (h : l.drop i = x :: l') : ∃ (hi : i < l.length), l[i] = x ∧ l.drop (i + 1) = l' := by
  have hi : i < l.length := by
    rcases Nat.lt_or_ge i l.length with h1 | h1
    · exact h1
    · rw [List.drop_eq_nil_iff.2 h1] at h; cases h
  rw [List.drop_eq_getElem_cons hi] at h
  injection h with h1 h2
  exact ⟨hi, h1, h2⟩
set_option maxHeartbeats 4000000 in
theorem walk1_seq (F : Fence) (n : Nat) (h49 : F.fn 43) (h50 : F.fn 44) (h51 : F.fn 45) (h71 : F.fn 55) (hro : F.round = none) (hn : 5 ≤ n)
    (kf : Nat) (hFk : F.fn kf) (ek : ∀ args w, (callFunc kf args).run Try.prog w = .ok (.enter kf args) w) (w w0 : World) (n₀ bl bk : Nat) (v0 : Value) (ks0 : List ItS) (kids : ItS → List ItS → Prop) (L : List (ItS × Bool))
    (hn₀ : n₀ ≤ w.heap.size) (hw0 : ∀ b, b < n₀ → w.heap[b]? = w0.heap[b]?) (hbl : Boxed w bl 32 v0) (hbk : Boxed w bk 66 (.func (.func kf) #[] #[]))
    (hv0 : KidsV n₀ w0 v0 ks0) (hW0 : WInv ks0) (hG0 : ∀ i ∈ ks0, i.op = false ∧ i.a.block < n₀ ∧ Blk w0 i.a)
    (hk1 : KidsOk kids) (hk2 : ∀ p ks rest, kids p ks → p.op = false → WInv (p :: rest) → WInv (ks ++ p.open :: rest)) (hk3 : ∀ p ks, kids p ks → ∀ i ∈ ks, i.a.block < n₀ ∧ Blk w0 i.a)
    (hkf : ∀ p ks, kids p ks → p.op = false → ∀ W, (∀ b, b < n₀ → W.heap[b]? = w0.heap[b]?) → n₀ ≤ W.heap.size → CallsIn F (n - 1) Try.prog kf #[.pointer (some p.a)] W fun e w' => ∃ v, e = .returned v ∧ w' = W ∧ KidsV n₀ w0 v ks)
    (hT : Tells kids ks0 L) (hwt : weight ks0 ≤ 1099511627776) :
    SeqL F n Try.prog 43 #[.pointer (some ⟨bl, 0, none⟩), .pointer (some ⟨bk, 0, none⟩)] (L.map encV) (fun b => b < n₀ ∨ b = bl ∨ b = bk) w := by
  intro l J Jx M0 W hW hJ hJx hM0 hY h0
  have hWs := hW.size
  have hblt := hbl.lt
  have hbkt := hbk.lt
  have hblW : Boxed W bl 32 v0 := (hW.block bl hblt).trans hbl
  have hbkW : Boxed W bk 66 (.func (.func kf) #[] #[]) := (hW.block bk hbkt).trans hbk
  have hWw0 : ∀ b, b < n₀ → W.heap[b]? = w0.heap[b]? := fun b h => (hW.block b (by omega)).trans (hw0 b h)
  have hZ : ∀ b, (b < n₀ ∨ b = bl ∨ b = bk) → b < W.heap.size := fun b hb => by omega
  have hc1 := hblW.cell
  have hc2 := hbkW.cell
  refine callsIn_of_wp Try.func43 rfl h49 ?_ hro
  simp only [Try.ntmps43, List.size_toArray, List.length_cons, List.length_nil, Nat.reduceAdd, Nat.reduceSub, Array.replicate_succ, Array.replicate_zero, List.push_toArray, List.append_toArray, List.nil_append, List.cons_append]
  obtain ⟨A0, cap0, rfl, R0, hR0⟩ := hv0.at hWw0
  have h1 := hblW.lt
  have h2 := hbkW.lt
  obtain ⟨W1, hW1⟩ : ∃ W1, W1 = (((W.alloc (.cells #[] 67)).alloc (.map #[] 0)).alloc (.cells #[.slice (some ⟨W.heap.size, 0, none⟩) 0 0] 94)).alloc (.cells #[.map (some (W.heap.size + 1))] 95) := ⟨_, rfl⟩
  have hb1 : Below W.heap.size W W1 := by
    rw [hW1]
    exact (((Below.refl _ W).alloc (Nat.le_refl _) _).alloc (by simp) _ |>.alloc (by simp; omega) _).alloc (by simp; omega) _
  have e1 : W1.cell? ⟨bl, 0, none⟩ = some (.slice A0 ks0.length cap0) := (hb1.cell h1).trans hc1
  rw [hW1] at e1
  clear hc1 hc2
  have hz1 : W1.heap.size = W.heap.size + 4 := by rw [hW1]; simp
  have hws : WS n₀ W.heap.size w0 (W.heap.size + 1 + 1) (W.heap.size + 1 + 1 + 1) (W.heap.size + 1) [] (.slice (some ⟨W.heap.size, 0, none⟩) 0 0) W1 := by
    have x0 : W1.heap[W.heap.size]? = some (.cells #[] 67 (0, 0)) := by
      rw [hW1]
      exact ((Below.heap_alloc _ _ _ (by simp; omega)).trans ((Below.heap_alloc _ _ _ (by simp; omega)).trans ((Below.heap_alloc _ _ _ (by simp)).trans (World.alloc_heap_new W _))))
    refine ⟨?_, ?_, ⟨#[], 0, ?_, rfl, fun e he => by simp at he⟩, rowR_empty x0 (Nat.le_refl _), ⟨List.Pairwise.nil, (fun i hi => by cases hi), List.Pairwise.nil⟩, (fun i hi => by cases hi)⟩
    · have := Boxed.new ((W.alloc (.cells #[] 67)).alloc (.map #[] 0)) 94 (.slice (some ⟨W.heap.size, 0, none⟩) 0 0)
      rw [World.size_alloc, World.size_alloc] at this
      rw [hW1]; exact this.alloc _
    · have := Boxed.new (((W.alloc (.cells #[] 67)).alloc (.map #[] 0)).alloc (.cells #[.slice (some ⟨W.heap.size, 0, none⟩) 0 0] 94)) 95 (.map (some (W.heap.size + 1)))
      rw [World.size_alloc, World.size_alloc, World.size_alloc] at this
      rw [hW1]; exact this
    · rw [hW1]
      have := World.alloc_heap_new (W.alloc (.cells #[] 67)) (.map #[] 0)
      rw [World.size_alloc] at this
      exact (Below.heap_alloc _ _ _ (by simp)).trans ((Below.heap_alloc _ _ _ (by simp)).trans this)
  have hJ1 : J 0 M0 W1 := hJ 0 M0 (fun _ => False) W W1 h0 (fun b h => (hM0 b h).1) (below_turns hb1) (fun _ h => h.elim)
  have hK1 : KeepZ (fun b => b < n₀ ∨ b = bl ∨ b = bk) W W1 := ⟨hb1.size, fun b hb _ => hb1.block b hb⟩
  have hs1 : ∀ b, b < n₀ → W1.heap[b]? = w0.heap[b]? := fun b h => (hb1.block b (by omega)).trans (hWw0 b h)
  have HADD := Lib.hid (ws_add F (n - 1) h50 h51 h71 hro (by omega) hws hv0 hs1 (by omega) (by omega) (by omega) (fun i hi => (hG0 i hi).1) (fun i hi => (hG0 i hi).2) (by rw [List.append_nil]; exact hW0) (by have := len_weight ks0; simp; omega))
  rw [hW1] at HADD
  gi_wp2_with fail
  refine ⟨fun _ => by omega, HADD.out.mono ?_⟩
  rintro e w2 ⟨rfl, v2, hw2, ht2, hv2⟩
  rw [← hW1] at ht2 hv2
  rw [List.append_nil] at hw2
  have hown1 : ∀ b, (b = W.heap.size + 1 + 1 ∨ (Value.slice (some ⟨W.heap.size, 0, none⟩) 0 0).ownBlock = some b) → W.heap.size ≤ b ∧ ¬ M0 b := fun b hb => by
    have h3 : W.heap.size ≤ b := by
      rcases hb with rfl | hb
      · omega
      · have : W.heap.size = b := by simpa [Value.ownBlock] using hb
        omega
    exact ⟨h3, fun h => by have := (hM0 b h).1; omega⟩
  have hJ2 : J 0 M0 w2 := hJ 0 M0 _ W1 w2 hJ1 (fun b h => by have := (hM0 b h).1; omega) ht2 hown1
  have hK2 : KeepZ (fun b => b < n₀ ∨ b = bl ∨ b = bk) W w2 := hK1.turns (fun b hb hz => by have := (hown1 b hb).1; have := hZ b hz; omega) ht2
  have hM2 : ∀ b, M0 b → b < w2.heap.size ∧ ¬ (b < n₀ ∨ b = bl ∨ b = bk) ∧ ¬ OwnW (W.heap.size + 1 + 1) (W.heap.size + 1 + 1 + 1) (W.heap.size + 1) v2 b := fun b h => by
    have h3 := (hM0 b h).1
    refine ⟨by have := ht2.size; omega, (hM0 b h).2, fun ho => ?_⟩
    rcases ho with h4 | h4 | h4 | h4
    · omega
    · omega
    · omega
    · have := (RowR.lt hw2.row h4).1; omega
  obtain ⟨b4, hb4⟩ : ∃ b4, b4 = W.heap.size + 1 + 1 := ⟨_, rfl⟩
  obtain ⟨b5, hb5⟩ : ∃ b5, b5 = W.heap.size + 1 + 1 + 1 := ⟨_, rfl⟩
  obtain ⟨bm, hbm⟩ : ∃ bm, bm = W.heap.size + 1 := ⟨_, rfl⟩
  have HBS : Hid (W.heap.size ≤ b4 ∧ W.heap.size ≤ b5 ∧ W.heap.size ≤ bm) := Lib.hid (by omega)
  rw [← hb5, ← hb4, ← hbm] at hw2 hM2
  have HJ := Lib.hid hJ
  have HJX := Lib.hid hJx
  have HY := Lib.hid hY
  have HW2 := Lib.hid hw2
  have HJ2 := Lib.hid hJ2
  have HK2 := Lib.hid hK2
  have HM2 := Lib.hid hM2
  have HZ := Lib.hid hZ
  have HWW := Lib.hid hWw0
  have HN := Lib.hid hn₀
  have HWS := Lib.hid hWs
  have HBK := Lib.hid hbkW
  have HKF := Lib.hid hkf
  have HK1 := Lib.hid hk1
  have HKW := Lib.hid hk2
  have HKG := Lib.hid hk3
  have HT := Lib.hid hT
  have HWT := Lib.hid hwt
  have HG0 := Lib.hid hG0
  clear hJ hJx hY hw2 hJ2 hK2 hM2 hZ hWw0 hn₀ hWs hbkW hkf hk1 hk2 hk3 hT hwt hG0 hown1 hK1 hJ1 hws hs1 hz1 hb1 hW1 ht2 hv2 h0 hM0 hW hw0 hbk hbkt hblt h1 h2 hW0 hblW hv0 hbl hR0 HADD e1
  gi_wp2_with fail
  rw [← hb5, ← hb4, ← hbm]
  clear hb5 hb4 hbm
  gi_loopg [7, 8, 9] (weight ks0) (fun g x7 x8 x9 wr => ∃ (st : List ItS) (i : Nat) (M : Nat → Prop) (v : Value), weight st ≤ g ∧ Hid (i + (L.drop i).length = L.length ∧ weight st ≤ 1099511627776) ∧ Hid (Tells kids st (L.drop i)) ∧ Hid (J i M wr) ∧ Hid (WS n₀ W.heap.size w0 b4 b5 bm st v wr) ∧ Hid (KeepZ (fun b => b < n₀ ∨ b = bl ∨ b = bk) W wr) ∧ Hid (∀ b, M b → b < wr.heap.size ∧ ¬ (b < n₀ ∨ b = bl ∨ b = bk) ∧ ¬ OwnW b4 b5 bm v b))
  case atStart => exact ⟨ks0, 0, M0, v2, Nat.le_refl _, Lib.hid ⟨by simp, HWT.out⟩, HT, HJ2, HW2, HK2, HM2⟩
  case round =>
    obtain ⟨st, i, M, v, hg, HI, HTL, HJI, HWI, HKI, HMI⟩ := hrel
    have sameL : ∀ b, b < n₀ → wr.heap[b]? = w0.heap[b]? := fun b hb => (HKI.out.block b (HZ.out b (.inl hb)) (.inl hb)).trans (HWW.out b hb)
    have hBw : W.heap.size ≤ wr.heap.size := HKI.out.size
    have e4 : wr.cell? ⟨b4, 0, none⟩ = some v := HWI.out.ah.cell
    cases st with
    | nil =>
      obtain ⟨Av, cv, rfl⟩ := ws_nil HWI.out
      have hend : i = (L.map encV).length := by
        have h1 := HTL.out
        generalize hd : L.drop i = D at h1
        cases h1
        have := HI.out.1
        rw [hd] at this
        simp at this ⊢; omega
      have HEND := Lib.hid hend
      clear hend sameL
      gi_wp2
      go_end0
      exact ⟨⟨_, rfl⟩, .inl ⟨M, by rw [← HEND.out]; exact HJI.out⟩⟩
    | cons p rest =>
      obtain ⟨g, c, rfl, hgB, hrow, hcell, hcap⟩ := ws_form HWI.out
      have hgd := HWI.out.gd p (by simp)
      have blk : ∀ x : Addr, x.block < n₀ → Blk w0 x → ∀ X : World, (∀ b, b < n₀ → X.heap[b]? = w0.heap[b]?) → Blk X x := fun x h1 ⟨cs, t, h2⟩ X hX => ⟨cs, t, (hX _ h1).trans h2⟩
      have hops : ∀ x ∈ (opens (p :: rest)).reverse, Blk wr x := fun x hx => by
        obtain ⟨q, hq, _, rfl⟩ := opens_mem (List.mem_reverse.1 hx)
        exact blk _ (HWI.out.gd q hq).1 (HWI.out.gd q hq).2 wr sameL
      have hlk := run_lookup_ptr pkey9 HWI.out.ps (blk _ hgd.1 hgd.2 wr sameL) hops
      have HMB := Lib.hid HMI.out
      have e5 : wr.cell? ⟨b5, 0, none⟩ = some (.map (some bm)) := HWI.out.ar.cell
      have hmB : rest.length ≤ 1099511627776 := by have := len_weight (p :: rest); have := HI.out.2; simp only [List.length_cons] at *; omega
      obtain ⟨m, hm⟩ : ∃ m, m = rest.length := ⟨_, rfl⟩
      have HM := Lib.hid hm
      have HROW := Lib.hid hrow
      rw [← hm] at hcell e4 hcap hmB
      have hcast : ((m : Int) + 1) - 1 = m := by omega
      have hmI : (m : Int) ≤ 9223372036854775807 := by omega
      have HWI := Lib.hid (by have := HWI.out; rw [← hm] at this; exact this)
      clear hm hrow
      cases hop : p.op with
      | true =>
        have hin : p.a ∈ (opens (p :: rest)).reverse := List.mem_reverse.2 (mem_opens (by simp) hop)
        rw [decide_eq_true hin] at hlk
        obtain ⟨L', hdrop, htl⟩ : ∃ L', L.drop i = (p, false) :: L' ∧ Tells kids rest L' := by
          have h1 := HTL.out
          generalize hd : L.drop i = D at h1
          cases h1 with
          | close _ h2 => exact ⟨_, rfl, h2⟩
          | op h2 _ _ => rw [hop] at h2; cases h2
        obtain ⟨hiL, hLi, hdr⟩ := drop_cons hdrop
        obtain ⟨fn, tmps, assign, body, hy, hR⟩ := HY.out i (by simpa using hiL) M wr HJI.out (fun b h => (HMI.out b h).1)
        rw [List.getElem_map, hLi] at hy
        dsimp only [encV] at hy
        have HR := Lib.hid hR
        have HHOP := Lib.hid hop
        have HTN := Lib.hid htl
        have HDR := Lib.hid hdr
        have HLI := Lib.hid hiL
        have HBLK := Lib.hid blk
        have HGD := Lib.hid hgd
        have HIN := Lib.hid hin
        clear hR hop htl hdr hiL hdrop hLi blk hgd hin hops sameL
        gi_wp2_with (gi_at_lookup; refine wpListIn_lookup_run rfl 95 _ _ rfl _ _ _ rfl rfl hlk ?_)
        refine ⟨fun _ => by omega, HR.out.mono ?_⟩
        rintro e W3 ⟨M', hst, (⟨rfl, hJ3⟩ | ⟨rfl, hJx3⟩)⟩
        · have hw3 := HWI.out.same (w' := W3) (fun b hb => hst.tu.block b (HWI.out.lt hb) (fun h => (HMI.out b h).2.2 hb))
          have hk3 := HKI.out.step (fun b h => (HMI.out b h).2.1) hst
          have hm3 := apart_round HMI.out (fun b hb => Nat.lt_of_lt_of_le (HZ.out b hb) hBw) (fun b hb => HWI.out.lt hb) hst
          have sameL3 : ∀ b, b < n₀ → W3.heap[b]? = w0.heap[b]? := fun b hb => (hk3.block b (HZ.out b (.inl hb)) (.inl hb)).trans (HWW.out b hb)
          have hops3 : ∀ x ∈ (opens (p :: rest)).reverse, Blk W3 x := fun x hx => by
            obtain ⟨q, hq, _, rfl⟩ := opens_mem (List.mem_reverse.1 hx)
            exact HBLK.out _ (HWI.out.gd q hq).1 (HWI.out.gd q hq).2 W3 sameL3
          obtain ⟨W4, hup, hps4, hg4, hz4⟩ := run_delete_ptr pkey9 hw3.ps (HBLK.out _ HGD.out.1 HGD.out.2 W3 sameL3) hops3 HIN.out 67 0
          obtain ⟨n1, n2, n3, n4⟩ := hw3.map_ne
          obtain ⟨s4, s5, sm⟩ := HBS.out
          have keep4 : ∀ b, b ≠ bm → b < W3.heap.size → W4.heap[b]? = W3.heap[b]? := fun b h1 h2 => hg4.block b h2 (fun e => h1 (by cases e; rfl))
          have e5' : W3.cell? ⟨b5, 0, none⟩ = some (.map (some bm)) := hw3.ar.cell
          have ha4 : Ahead W4 b4 (.slice (some ⟨g, 0, none⟩) (m + 1) c) := (keep4 b4 (fun e => n1 e.symm) hw3.ah.lt).trans hw3.ah
          have e4' := ha4.cell
          have f4' := ha4.frozen
          have hrow4 := rowR_frame (w' := W4) hw3.row (fun b e => keep4 b (fun e' => n3 (by rw [e, e'])) (RowR.lt hw3.row e).2)
          have hne4 : some b4 ≠ (Value.slice (some ⟨g, 0, none⟩) m c).ownBlock := fun e => Boxed.not_row ha4 (by decide) hrow4 e
          have hw5 : WS n₀ W.heap.size w0 b4 b5 bm rest (.slice (some ⟨g, 0, none⟩) m c) (W4.setCell ⟨b4, 0, none⟩ (.slice (some ⟨g, 0, none⟩) m c)) := by
            have off : ∀ b, b ≠ b4 → (W4.setCell ⟨b4, 0, none⟩ (.slice (some ⟨g, 0, none⟩) m c)).heap[b]? = W4.heap[b]? := fun b hb => Below.heap_setCell _ _ _ _ hb
            refine ⟨ha4.set _, (off b5 n4).trans ((keep4 b5 (fun e => n2 e.symm) hw3.ar.lt).trans hw3.ar), ?_, ?_, hw3.wi.tail, fun q hq => hw3.gd q (List.mem_cons_of_mem _ hq)⟩
            · have hnd : p.a ∉ (opens rest).reverse := fun h => by
                obtain ⟨q, hq, _, hqa⟩ := opens_mem (List.mem_reverse.1 h)
                exact (List.nodup_cons.1 hw3.wi.nd).1 (List.mem_map.2 ⟨q, hq, hqa⟩)
              rw [opens_cons_open HHOP.out, List.reverse_cons, List.erase_append_right _ hnd] at hps4
              simp only [List.erase_cons_head, List.append_nil] at hps4
              exact hps4.same (off bm n1)
            · have hr : RowA W.heap.size W4 (.slice (some ⟨g, 0, none⟩) (m + 1) c) (rest.reverse.map (·.a) ++ [p.a]) := by
                have e : (p :: rest).reverse.map (·.a) = rest.reverse.map (·.a) ++ [p.a] := by simp
                rw [← e]; exact hrow4
              have hl : (rest.reverse.map (·.a)).length = m := by rw [HM.out]; simp
              rw [← hl] at hr
              have h3 := rowR_short encA_len hr
              rw [hl] at h3
              exact rowR_frame h3 (fun b e => off b (fun e' => hne4 (by rw [e, e'])))
          have hst5 : TurnsAt (OwnW b4 b5 bm (.slice (some ⟨g, 0, none⟩) (m + 1) c)) W3 (W4.setCell ⟨b4, 0, none⟩ (.slice (some ⟨g, 0, none⟩) m c)) := (grown_turns hg4 (fun b e => by cases e; exact .inr (.inr (.inl rfl)))).trans (grown_turns (grownBy_setCell' W4 b4 _) (fun b e => by cases e; exact .inl rfl))
          have hge : ∀ b, OwnW b4 b5 bm (.slice (some ⟨g, 0, none⟩) (m + 1) c) b → W.heap.size ≤ b := fun b hb => by
            rcases hb with rfl | rfl | rfl | h
            · exact s4
            · exact s5
            · exact sm
            · exact (RowR.lt hw3.row h).1
          have HJ5 : Hid (J (i + 1) M' (W4.setCell ⟨b4, 0, none⟩ (.slice (some ⟨g, 0, none⟩) m c))) := Lib.hid (HJ.out _ M' _ W3 _ hJ3 (fun b h => (hm3 b h).1) hst5 (fun b hb => ⟨hge b hb, fun h => (hm3 b h).2.2 hb⟩))
          have HK5 : Hid (KeepZ (fun b => b < n₀ ∨ b = bl ∨ b = bk) W (W4.setCell ⟨b4, 0, none⟩ (.slice (some ⟨g, 0, none⟩) m c))) := Lib.hid (hk3.turns (fun b hb hz => by have := hge b hb; have := HZ.out b hz; omega) hst5)
          have HM5 : Hid (∀ b, M' b → b < (W4.setCell ⟨b4, 0, none⟩ (.slice (some ⟨g, 0, none⟩) m c)).heap.size ∧ ¬ (b < n₀ ∨ b = bl ∨ b = bk) ∧ ¬ OwnW b4 b5 bm (.slice (some ⟨g, 0, none⟩) m c) b) := Lib.hid fun b h => by
            obtain ⟨x1, x2, x3⟩ := hm3 b h
            exact ⟨Nat.lt_of_lt_of_le x1 hst5.size, x2, x3⟩
          have HW5 := Lib.hid hw5
          have HI5 : Hid (i + 1 + (L.drop (i + 1)).length = L.length ∧ weight rest ≤ 1099511627776) := Lib.hid ⟨by rw [List.length_drop]; have := HLI.out; omega, by have := HI.out.2; have := weight_close (rest := rest) HHOP.out; omega⟩
          have HLESS := Lib.hid (weight_close (rest := rest) HHOP.out)
          have HT5 : Hid (Tells kids rest (L.drop (i + 1))) := Lib.hid (by rw [HDR.out]; exact HTN.out)
          clear hw3 hk3 hm3 sameL3 hops3 hps4 hg4 keep4 hw5 hst hJ3 hlk n1 n2 n3 n4 hz4 ha4 hrow4 hne4 hst5 hge
          gi_wp2_with (gi_at_delete; refine wpListIn_delete_run rfl 95 67 _ _ rfl _ _ rfl rfl hup ?_)
          gi_roundg (weight rest)
          case measure => have := HLESS.out; omega
          case rel => exact ⟨rest, i + 1, M', _, Nat.le_refl _, HI5, HT5, HJ5, HW5, HK5, HM5⟩
        · gi_wp2
          refine bodyPost_ret (results_none rfl _ _ _) rfl ?_
          exact ⟨⟨_, rfl⟩, .inr ⟨_, _, hJx3⟩⟩
      | false =>
        have hnot : p.a ∉ (opens (p :: rest)).reverse := fun h => HWI.out.wi.top_not hop (List.mem_reverse.1 h)
        rw [decide_eq_false hnot] at hlk
        obtain ⟨ks, L', hks, hdrop, htl⟩ : ∃ ks L', kids p ks ∧ L.drop i = (p, true) :: L' ∧ Tells kids (ks ++ p.open :: rest) L' := by
          have h1 := HTL.out
          generalize hd : L.drop i = D at h1
          cases h1 with
          | close h2 _ => rw [hop] at h2; cases h2
          | op _ h2 h3 => exact ⟨_, _, h2, rfl, h3⟩
        obtain ⟨hiL, hLi, hdr⟩ := drop_cons hdrop
        obtain ⟨fn, tmps, assign, body, hy, hR⟩ := HY.out i (by simpa using hiL) M wr HJI.out (fun b h => (HMI.out b h).1)
        rw [List.getElem_map, hLi] at hy
        dsimp only [encV] at hy
        have HR := Lib.hid hR
        have HHOP := Lib.hid hop
        have HKS := Lib.hid hks
        have HTN := Lib.hid htl
        have HDR := Lib.hid hdr
        have HLI := Lib.hid hiL
        have HBLK := Lib.hid blk
        have HGD := Lib.hid hgd
        have HNOT := Lib.hid hnot
        clear hR hop hks htl hdr hiL hdrop hLi blk hgd hnot hops sameL
        gi_wp2_with (gi_at_lookup; refine wpListIn_lookup_run rfl 95 _ _ rfl _ _ _ rfl rfl hlk ?_)
        refine ⟨fun _ => by omega, HR.out.mono ?_⟩
        rintro e W3 ⟨M', hst, (⟨rfl, hJ3⟩ | ⟨rfl, hJx3⟩)⟩
        · have hw3 := HWI.out.same (w' := W3) (fun b hb => hst.tu.block b (HWI.out.lt hb) (fun h => (HMI.out b h).2.2 hb))
          have hk3 := HKI.out.step (fun b h => (HMI.out b h).2.1) hst
          have hm3 := apart_round HMI.out (fun b hb => Nat.lt_of_lt_of_le (HZ.out b hb) hBw) (fun b hb => HWI.out.lt hb) hst
          have sameL3 : ∀ b, b < n₀ → W3.heap[b]? = w0.heap[b]? := fun b hb => (hk3.block b (HZ.out b (.inl hb)) (.inl hb)).trans (HWW.out b hb)
          have hops3 : ∀ x ∈ (opens (p :: rest)).reverse, Blk W3 x := fun x hx => by
            obtain ⟨q, hq, _, rfl⟩ := opens_mem (List.mem_reverse.1 hx)
            exact HBLK.out _ (HWI.out.gd q hq).1 (HWI.out.gd q hq).2 W3 sameL3
          obtain ⟨W4, hup, hps4, hg4, hz4⟩ := run_store_ptr pkey9 hw3.ps (HBLK.out _ HGD.out.1 HGD.out.2 W3 sameL3) hops3 HNOT.out
          obtain ⟨n1, n2, n3, n4⟩ := hw3.map_ne
          obtain ⟨s4, s5, sm⟩ := HBS.out
          have keep4 : ∀ b, b ≠ bm → b < W3.heap.size → W4.heap[b]? = W3.heap[b]? := fun b h1 h2 => hg4.block b h2 (fun e => h1 (by cases e; rfl))
          have e5' : W3.cell? ⟨b5, 0, none⟩ = some (.map (some bm)) := hw3.ar.cell
          have hbk : bk < W.heap.size := HZ.out bk (.inr (.inr rfl))
          have ebk : W4.cell? ⟨bk, 0, none⟩ = some (.func (.func kf) #[] #[]) := Boxed.cell ((keep4 bk (by omega) (by have := hk3.size; omega)).trans ((hk3.block bk hbk (.inr (.inr rfl))).trans HBK.out))
          have hn0W : n₀ ≤ W.heap.size := by have := HN.out; have := HWS.out; omega
          have sameL4 : ∀ b, b < n₀ → W4.heap[b]? = w0.heap[b]? := fun b hb => (keep4 b (by omega) (by have := hk3.size; omega)).trans (sameL3 b hb)
          have hw4 : WS n₀ W.heap.size w0 b4 b5 bm (p.open :: rest) (.slice (some ⟨g, 0, none⟩) (m + 1) c) W4 := by
            refine ⟨(keep4 b4 (fun e => n1 e.symm) hw3.ah.lt).trans hw3.ah, (keep4 b5 (fun e => n2 e.symm) hw3.ar.lt).trans hw3.ar, ?_, ?_, hw3.wi.opened, fun q hq => ?_⟩
            · rw [opens_cons_closed HHOP.out] at hps4
              rw [opens_cons_open (p := p.open) rfl, List.reverse_cons]
              exact hps4
            · have := rowR_frame (w' := W4) hw3.row (fun b e => keep4 b (fun e' => n3 (by rw [e, e'])) (RowR.lt hw3.row e).2)
              rw [show (p.open :: rest).reverse.map (·.a) = (p :: rest).reverse.map (·.a) by simp [It.open]]
              exact this
            · rcases List.mem_cons.1 hq with rfl | hq
              · exact HGD.out
              · exact hw3.gd q (List.mem_cons_of_mem _ hq)
          have hW4s : W.heap.size ≤ W4.heap.size := by have := hk3.size; omega
          have hless := kids_less (rest := rest) HK1.out HHOP.out HKS.out
          have hlen : (p.open :: rest).length + ks.length ≤ 1099511627776 := by
            have h1 := len_weight (ks ++ p.open :: rest)
            rw [List.length_append] at h1
            have := HI.out.2; omega
          have HKC := Lib.hid (HKF.out p ks HKS.out HHOP.out W4 sameL4 (by omega))
          have HADD := Lib.hid (fun v2 (hv2 : KidsV n₀ w0 v2 ks) => ws_add F (n - 1) h50 h51 h71 hro (by omega) hw4 hv2 sameL4 hW4s hn0W s4 (HK1.out p ks HKS.out).1 (HKG.out p ks HKS.out) (HKW.out p ks rest HKS.out HHOP.out hw3.wi) hlen)
          have HJ4 : Hid (J (i + 1) M' W4) := Lib.hid (HJ.out _ M' (fun b => b = bm) W3 W4 hJ3 (fun b h => (hm3 b h).1) (grown_turns hg4 (fun b e => by cases e; rfl)) (fun b e => ⟨by omega, fun h => (hm3 b h).2.2 (.inr (.inr (.inl e)))⟩))
          have HK4 : Hid (KeepZ (fun b => b < n₀ ∨ b = bl ∨ b = bk) W W4) := Lib.hid (hk3.turns (fun b e hz => by have := HZ.out b hz; omega) (grown_turns (S := fun b => b = bm) hg4 (fun b e => by cases e; rfl)))
          have HM4 := Lib.hid hm3
          have HZ4 := Lib.hid hz4
          have HW4 := Lib.hid hw4
          have HLESS := Lib.hid hless
          clear hw3 hk3 hm3 sameL3 hops3 hps4 hg4 keep4 sameL4 hw4 hless hlen hst hJ3 hlk n1 n2 n3 n4 hz4 hbk hW4s hn0W
          gi_wp2_with (gi_at_mapUpdate; refine wpListIn_update_run rfl 95 _ _ _ rfl _ _ _ rfl rfl rfl hup ?_)
          refine ⟨fun _ => by omega, HKC.out.mono ?_⟩
          rintro e wz ⟨vk, rfl, rfl, hvk⟩
          gi_wp2_with fail
          refine ⟨fun _ => by omega, (HADD.out vk hvk).mono ?_⟩
          rintro e W5 ⟨rfl, v5, hw5, ht5, hv5⟩
          have hK5 : ∀ b, (b = b4 ∨ (Value.slice (some ⟨g, 0, none⟩) (m + 1) c).ownBlock = some b) → W.heap.size ≤ b ∧ ¬ M' b ∧ OwnW b4 b5 bm (.slice (some ⟨g, 0, none⟩) (m + 1) c) b := fun b hb => by
            have ho : OwnW b4 b5 bm (.slice (some ⟨g, 0, none⟩) (m + 1) c) b := hb.elim .inl (fun h => .inr (.inr (.inr h)))
            refine ⟨?_, fun h => (HM4.out b h).2.2 ho, ho⟩
            rcases hb with rfl | hb
            · exact HBS.out.1
            · exact (RowR.lt HW4.out.row hb).1
          have HJ5 : Hid (J (i + 1) M' W5) := Lib.hid (HJ.out _ M' _ wz W5 HJ4.out (fun b h => by have := (HM4.out b h).1; have := HZ4.out; omega) ht5 (fun b hb => ⟨(hK5 b hb).1, (hK5 b hb).2.1⟩))
          have HK5 : Hid (KeepZ (fun b => b < n₀ ∨ b = bl ∨ b = bk) W W5) := Lib.hid (HK4.out.turns (fun b hb hz => by have := (hK5 b hb).1; have := HZ.out b hz; omega) ht5)
          have HM5 : Hid (∀ b, M' b → b < W5.heap.size ∧ ¬ (b < n₀ ∨ b = bl ∨ b = bk) ∧ ¬ OwnW b4 b5 bm v5 b) := Lib.hid fun b h => by
            obtain ⟨x1, x2, x3⟩ := HM4.out b h
            refine ⟨by have := ht5.size; have := HZ4.out; omega, x2, fun ho => ?_⟩
            rcases ho with h1 | h1 | h1 | h1
            · exact x3 (.inl h1)
            · exact x3 (.inr (.inl h1))
            · exact x3 (.inr (.inr (.inl h1)))
            · rcases hv5 with h2 | ⟨g5, h2, h3⟩
              · exact x3 (.inr (.inr (.inr (h2 ▸ h1))))
              · rw [h2] at h1; cases h1; have := HZ4.out; omega
          have HW5 := Lib.hid hw5
          have HI5 : Hid (i + 1 + (L.drop (i + 1)).length = L.length ∧ weight (ks ++ p.open :: rest) ≤ 1099511627776) := Lib.hid ⟨by rw [List.length_drop]; have := HLI.out; omega, by have := HI.out.2; have := HLESS.out; omega⟩
          have HT5 : Hid (Tells kids (ks ++ p.open :: rest) (L.drop (i + 1))) := Lib.hid (by rw [HDR.out]; exact HTN.out)
          clear hw5 ht5 hv5 hK5 hvk hup
          gi_wp2
          gi_roundg (weight (ks ++ p.open :: rest))
          case measure => have := HLESS.out; omega
          case rel => exact ⟨ks ++ p.open :: rest, i + 1, M', v5, Nat.le_refl _, HI5, HT5, HJ5, HW5, HK5, HM5⟩
        · gi_wp2
          refine bodyPost_ret (results_none rfl _ _ _) rfl ?_
          exact ⟨⟨_, rfl⟩, .inr ⟨_, _, hJx3⟩⟩
end Go.Proofs.Ytdkpleghpnflhaa
