/- CHAPTER 8, impl: PathsOf. PRINTED by tools/gen_ptsI.py. -/
import Derived.Test.YthmjffijhlkgcaaPtsG
import Derived.Test.YthmjffijhlkgcaaPtsE
import Derived.Test.YthmjffijhlkgcaaWkWE
set_option linter.unusedVariables false
set_option linter.unusedSimpArgs false
namespace Go.Proofs.Ythmjffijhlkgcaa
open Go.RowKit Go.Shelf NumP
attribute [local go_sem] Oper.semAt_some run_makeMap_plain
set_option maxRecDepth 100000

/-- an owned list of expressions as items -/
theorem items_ofE {d B : Nat} {w0 : World} {p : ItSE} {v : Value} {l : List Ex} {S2 : Nat → Prop} (h : OwL exK d B w0 v l S2) (hS : ∀ b, S2 b → p.S b) (hp : p.op = false) :
    ∃ ks : List ItSE, KidsVE w0.heap.size w0 v ks ∧ (∀ i ∈ ks, i.op = false ∧ MemI exK d B w0 i) ∧ ks.map (·.t) = l ∧ (∀ rest, WInv (p :: rest) → WInv (ks ++ p.open :: rest)) := by
  rcases kids_items (by show 0 < 7; omega) h hS with ⟨rfl, rfl⟩ | ⟨g, cap, ks, rfl, h1, h2, h3, h4, h5, h6, h7, h8⟩
  · exact ⟨[], ⟨none, 0, rfl, fun j hj => absurd hj (by simp)⟩, (fun i hi => by cases hi), rfl, fun rest hw => hw.opened⟩
  · have hk := h7 h8
    have hcl := hk.cl
    refine ⟨ks, ⟨some ⟨g, 0, none⟩, cap, by rw [h4], fun j hj => ?_⟩, fun i hi => ⟨hcl i hi, h6 i hi⟩, h3, fun rest hw => KidsOf.grow hw hp hk⟩
    obtain ⟨hb, hr⟩ := h6 _ (List.getElem_mem hj)
    obtain ⟨r, h9, _⟩ := hr (hcl _ (List.getElem_mem hj))
    exact ⟨⟨g, 0, none⟩, r, rfl, h2, by rw [h5 j hj, addr_at, Nat.zero_add]; rfl, h9, hb⟩
/-- what a stack is still good for -/
def remI (i : ItSE) : List Pth := if i.op = true then [] else ptsN i.t
def remS (st : List ItSE) : List Pth := st.flatMap remI
theorem remS_kids : ∀ (ks : List ItSE), (∀ i ∈ ks, i.op = false) → remS ks = ptsL (ks.map (·.t))
  | [], _ => rfl
  | i :: ks, h => by
    have h1 := remS_kids ks (fun j hj => h j (List.mem_cons_of_mem _ hj))
    unfold remS at h1 ⊢
    rw [List.flatMap_cons, h1, List.map_cons, ptsL]
    unfold remI
    rw [if_neg (by rw [h i (by simp)]; simp)]
theorem remS_open {p : ItSE} {ks rest : List ItSE} (hp : p.op = false) (hk : ∀ i ∈ ks, i.op = false) (ht : ks.map (·.t) = p.t.kids) : remS (p :: rest) = hdE p.t.x ++ remS (ks ++ p.open :: rest) := by
  have h1 := remS_kids ks hk
  unfold remS at h1 ⊢
  rw [List.flatMap_cons, List.flatMap_append, List.flatMap_cons, h1, ht]
  unfold remI
  rw [if_neg (by rw [hp]; simp), if_pos (by rfl), ptsN_eq, List.nil_append, List.append_assoc]
theorem remS_close {p : ItSE} {rest : List ItSE} (hp : p.op = true) : remS (p :: rest) = remS rest := by
  unfold remS; rw [List.flatMap_cons]; unfold remI; rw [if_pos hp, List.nil_append]
/-- an item whose record and lists are the call's own, of the sizes -/
def GoodE (d B : Nat) (w0 : World) (i : ItSE) : Prop := MemI exK d B w0 i ∧ (i.op = false → ExSz i.t.x ∧ ∀ e, SizT ExSz e i.t.kids)
theorem GoodE.open {d B : Nat} {w0 : World} {i : ItSE} (h : GoodE d B w0 i) : GoodE d B w0 i.open := ⟨h.1.open, fun e => by cases e⟩
/-- the marks that ranges over functions leave among the deferred calls -/
def IsMark (ds : List Deferred) (D : Nat) : Prop := ∃ d ∈ ds, d.target = .collected D
structure Marks (B : Nat) (W : World) (ds : List Deferred) : Prop where
  nd : (ds.map (·.target)).Pairwise (· ≠ ·)
  mks : ∀ d ∈ ds, ∃ D, d.target = .collected D ∧ B ≤ D ∧ W.heap[D]? = some (.deferred (some []))
theorem Marks.nil (B : Nat) (W : World) : Marks B W [] := ⟨List.Pairwise.nil, fun d h => by cases h⟩
theorem Marks.at {B : Nat} {W : World} {ds : List Deferred} (h : Marks B W ds) {D : Nat} (hD : IsMark ds D) : B ≤ D ∧ W.heap[D]? = some (.deferred (some [])) := by
  obtain ⟨d, hd, he⟩ := hD
  obtain ⟨D', h1, h2, h3⟩ := h.mks d hd
  rw [he] at h1
  injection h1 with h1
  subst h1
  exact ⟨h2, h3⟩
theorem Marks.lt {B : Nat} {W : World} {ds : List Deferred} (h : Marks B W ds) {D : Nat} (hD : IsMark ds D) : D < W.heap.size := (Array.getElem?_eq_some_iff.1 (h.at hD).2).1
theorem Marks.turns {B : Nat} {W W' : World} {ds : List Deferred} {K : Nat → Prop} (h : Marks B W ds) (ht : TurnsAt K W W') (hk : ∀ D, IsMark ds D → ¬ K D) : Marks B W' ds :=
  ⟨h.nd, fun d hd => by
    obtain ⟨D, h1, h2, h3⟩ := h.mks d hd
    exact ⟨D, h1, h2, (ht.block D (Array.getElem?_eq_some_iff.1 h3).1 (hk D ⟨d, hd, h1⟩)).trans h3⟩⟩
theorem Marks.below {B : Nat} {W W' : World} {ds : List Deferred} (h : Marks B W ds) (hb : Below W.heap.size W W') : Marks B W' ds := h.turns (below_turns (S := fun _ => False) hb) (fun _ _ h => h)
theorem Marks.cons {B : Nat} {W : World} {ds : List Deferred} {D : Nat} {xs : Array Value} (h : Marks B W ds) (hB : B ≤ D) (hD : W.heap[D]? = some (.deferred (some []))) (hn : ¬ IsMark ds D) : Marks B W ({ target := .collected D, args := xs } :: ds) :=
  ⟨by
    rw [List.map_cons]
    exact List.pairwise_cons.2 ⟨fun t ht e => by obtain ⟨d, hd, e2⟩ := List.mem_map.1 ht; exact hn ⟨d, hd, e2.trans e.symm⟩, h.nd⟩, fun d hd => by
    rcases List.mem_cons.1 hd with rfl | hd
    · exact ⟨D, rfl, hB, hD⟩
    · exact h.mks d hd⟩
theorem isMark_cons {ds : List Deferred} {D E : Nat} {xs : Array Value} (h : IsMark ({ target := .collected D, args := xs } :: ds) E) : E = D ∨ IsMark ds E := by
  obtain ⟨d, hd, e⟩ := h
  rcases List.mem_cons.1 hd with rfl | hd
  · left; injection e with e; exact e.symm
  · exact .inr ⟨d, hd, e⟩
/-- a frame with marks alone among its deferred calls comes home: what is said of the memory must not speak of the marks' blocks -/
theorem leaves_marks {P : Program} {F : Fence} {n : Nat} {fn : Func} {tmps : Array Value} {R : Ending → World → Prop} {B : Nat} (v : Value) (hres : ∀ w, (results fn tmps).run P w = .ok v w) : ∀ (ds : List Deferred) (W : World), Marks B W ds →
    (∀ W', TurnsAt (IsMark ds) W W' → R (.returned v) W') → LeavesInM F n P fn tmps R ds .returning W
  | [], W, _, h => ⟨v, hres W, h W (TurnsAt.refl _ _)⟩
  | d :: ds, W, hm, h => by
    obtain ⟨D, h1, h2, h3⟩ := hm.mks d (by simp)
    refine ⟨by simp, .inl ⟨D, _, h1, run_takeDeferred h3, ?_⟩⟩
    have hg : TurnsAt (fun b => b = D) W (W.putObj D (.deferred none)) := turns_putObj _ _ _
    have hne : ∀ E, IsMark ds E → ¬ E = D := fun E hE e => by
      obtain ⟨d', hd', e'⟩ := hE
      have := (List.pairwise_cons.1 (show ((d :: ds).map (·.target)).Pairwise (· ≠ ·) from hm.nd)).1 d'.target (List.mem_map.2 ⟨d', hd', rfl⟩)
      exact this (show d.target = d'.target by rw [h1, e', e])
    have hm2 : Marks B (W.putObj D (.deferred none)) ds := Marks.turns ⟨(List.pairwise_cons.1 (show ((d :: ds).map (·.target)).Pairwise (· ≠ ·) from hm.nd)).2, fun d' hd' => hm.mks d' (List.mem_cons_of_mem _ hd')⟩ hg hne
    refine leaves_marks v hres ds _ hm2 fun W' ht => h W' ((hg.mono fun b e _ => ⟨d, by simp, by rw [h1, e]⟩).trans (ht.mono fun b hb _ => ?_))
    obtain ⟨d', hd', e'⟩ := hb
    exact ⟨d', List.mem_cons_of_mem _ hd', e'⟩
set_option maxHeartbeats 1000000 in
theorem wpIn_rangeFunc_ownB {F : Fence} {n : Nat} {P : Program} {g : Operand} {ps : Array Tmp} {assign body : Code} {Q : Exit → Act → World → Prop} {a : Act} {w : World}
    (hro : F.round = none) (h1 : 1 ≤ n) {gf : Nat} {lb : Array Value} (hg : a.eval g = .func (.func gf) #[] lb) (hFg : F.fn gf) (eg : ∀ args w, (callFunc gf args).run P w = .ok (.enter gf args) w)
    {L : List (Array Value)} {Z : Nat → Prop} {w0 : World} (hseq : SeqL F (n - 1) P gf lb L Z w0) (hZ : ∀ b, Z b → b < w.heap.size) (hb0 : Below w0.heap.size w0 w) (hps : ∀ x ∈ L, x.size = ps.size)
    (I : Nat → (Nat → Prop) → World → Prop) (Ix : Code → Nat → (Nat → Prop) → World → Prop) (hI : Abm w.heap.size I) (hIx : ∀ c, Abm w.heap.size (Ix c)) (M0 : Nat → Prop) (hM0' : ∀ b, M0 b → b < w.heap.size ∧ ¬ Z b) (h0 : I 0 M0 w) (p q x : Tmp) (u v : Nat → Value)
    (hassign : ∀ (l i : Nat) (hi : i < L.length) (W : World) (K : Act → World → Prop), K { tmps := ((a.tmps.setIfInBounds p (u i)).setIfInBounds q (v i)).setIfInBounds x (u i), defers := [] } W →
      assign.wpIn (F.inRound l) (n - 1 - 1) P (Exit.then K (fun _ _ _ => False)) { tmps := (ps.zip L[i]).foldl (fun t (p, v) => t.setIfInBounds p v) a.tmps, defers := [] } W)
    (hbody : ∀ (l i : Nat) (hi : i < L.length) (M : Nat → Prop) (W : World), I i M W → (∀ b, M b → b < W.heap.size) → w.heap.size ≤ W.heap.size → body.wpIn (F.inRound l) (n - 1 - 1) P (postM I Ix (i + 1) M W) { tmps := ((a.tmps.setIfInBounds p (u i)).setIfInBounds q (v i)).setIfInBounds x (u i), defers := [] } W)
    (hdone : ∀ (D : Nat) (M : Nat → Prop) (W : World), w.heap.size ≤ D → ¬ M D → I L.length M W → W.heap[D]? = some (.deferred (some [])) → Q .normal { a with defers := { target := .collected D, args := #[] } :: a.defers } W)
    (hstop : ∀ (D : Nat) (c : Code) (i : Nat) (M : Nat → Prop) (W : World), w.heap.size ≤ D → ¬ M D → Ix c i M W → W.heap[D]? = some (.deferred (some [])) → c.wpIn F n P Q { a with defers := { target := .collected D, args := #[] } :: a.defers } W) :
    (Code.rangeFunc g ps assign body).wpIn F n P Q a w :=
  wpIn_rangeFunc_ownM hro h1 hg hFg eg hseq hZ hb0 hps I Ix hI hIx M0 hM0' h0 _ hassign hbody hdone hstop
theorem ws_growE {n₀ B b4 b5 bm : Nat} {w0 wr w' : World} {st ks : List ItSE} {v v' : Value} (h : WSE n₀ B w0 b4 b5 bm st v wr) (ht : TurnsAt (fun b => b = b4 ∨ v.ownBlock = some b) wr w') (h4 : AheadE w' b4 v') (hrow : RowAE B w' v' (st.reverse.map (·.a) ++ (ks.map (·.a)).reverse))
    (hcl : ∀ i ∈ ks, i.op = false) (hg : ∀ i ∈ ks, i.a.block < n₀ ∧ Blk w0 i.a) (hwi : WInv (ks ++ st)) : WSE n₀ B w0 b4 b5 bm (ks ++ st) v' w' := by
  have hop : opens (ks ++ st) = opens st := by
    unfold opens; rw [List.filter_append, List.filter_eq_nil_iff.2 (fun i hi => by simp [hcl i hi]), List.nil_append]
  obtain ⟨m1, m2, m3, m4⟩ := h.map_ne
  have keep : ∀ b, b < wr.heap.size → b ≠ b4 → v.ownBlock ≠ some b → w'.heap[b]? = wr.heap[b]? := fun b hb h1 h2 => ht.block b hb (fun h => h.elim h1 h2)
  refine ⟨h4, (keep b5 h.ar.lt m4 (Boxed.not_row h.ar (by decide) h.row).symm).trans h.ar, ?_, ?_, hwi, fun i hi => ?_⟩
  · rw [hop]
    exact h.ps.same (keep bm (h.lt (.inr (.inr (.inl rfl)))) m1 m3)
  · rw [List.reverse_append, List.map_append]
    have : (ks.map (·.a)).reverse = ks.reverse.map (·.a) := by rw [List.map_reverse]
    rw [← this]; exact hrow
  · rcases List.mem_append.1 hi with hi | hi
    · exact hg i hi
    · exact h.gd i hi
/-- the loop's relation -/
structure PRel (d B : Nat) (w0 : World) (b0 b4 b5 bm : Nat) (P : List Pth) (g : Nat) (o : Value) (ds : List Deferred) (wr : World) (st : List ItSE) (done : List Pth) (R : List PthV) (K : Nat → Nat → Prop) (v : Value) : Prop where
  wt : weight st ≤ g
  wB : weight st ≤ 2097154
  say : done ++ remS st = P
  gd : ∀ i ∈ st, GoodE d B w0 i
  q : OwnQ (b0 + 1) wr o R done K
  ws : WSE (b0 + 1) (b0 + 1) w0 b4 b5 bm st v wr
  ap : ∀ b, OwnQ.S o R K b → ¬ OwnWE b4 b5 bm v b
  be : Below (b0 + 1) w0 wr
  sz : b0 + 6 ≤ wr.heap.size
  mks : Marks (b0 + 1) wr ds
  ma : ∀ D, IsMark ds D → ¬ OwnQ.S o R K D ∧ ¬ OwnWE b4 b5 bm v D

set_option maxHeartbeats 8000000 in
theorem iPts_any (d B : Nat) (r : ExR) (t : Ex) (w : World) (S : Nat → Prop) (hr : OwN exK d B w r t S) (hx : ExSz t.x) (hk : ∀ e, SizT ExSz e t.kids) (hsz : sizeN t ≤ 1048577) :
    Calls Try.prog 7 #[r.val] w fun e w' => ∃ (v : Value) (R : List PthV) (K : Nat → Nat → Prop), e = .returned v ∧ OwnQ w.heap.size w' v R (ptsN t) K ∧ Below w.heap.size w w' := by
  refine (callsIn_wide (n := 8)).1 ?_
  refine callsIn_of_wp_marks Try.func7 rfl trivial ?_ rfl
  simp only [Try.ntmps7, List.size_toArray, List.length_cons, List.length_nil, Nat.reduceAdd, Nat.reduceSub, Array.replicate_succ, Array.replicate_zero, List.push_toArray, List.append_toArray, List.nil_append, List.cons_append]
  obtain ⟨op, num, text, ro, up, sv, kv⟩ := r
  obtain ⟨w0, hw0⟩ : ∃ w0, w0 = w.alloc (.cells #[.int .i64 op, .int .i64 num, .string text, .bool ro, .int .i64 up, sv, kv] 36) := ⟨_, rfl⟩
  obtain ⟨W1, hW1⟩ : ∃ W1, W1 = (((((w.alloc (.cells #[.int .i64 op, .int .i64 num, .string text, .bool ro, .int .i64 up, sv, kv] 36)).alloc (.cells #[] 33)).alloc (.cells #[.pointer (some ⟨w.heap.size, 0, none⟩)] 48)).alloc (.map #[] 0)).alloc (.cells #[.slice (some ⟨w.heap.size + 1 + 1, 0, none⟩) 1 1] 49)).alloc (.cells #[.map (some (w.heap.size + 1 + 1 + 1))] 50) := ⟨_, rfl⟩
  have hbox : w0.heap[w.heap.size]? = some (.cells #[.int .i64 op, .int .i64 num, .string text, .bool ro, .int .i64 up, sv, kv] 36 (0, 0)) := by rw [hw0]; exact heap_alloc_new w _
  have hnb : ∀ j u, (ExR.enc ⟨op, num, text, ro, up, sv, kv⟩)[j]? = some u → w0.cell? ((⟨w.heap.size, 0, none⟩ : Addr).add j) = some u := by rw [hw0]; exact World.news_of_block (heap_alloc_new w _)
  have hb0 : Below w.heap.size w w0 := by rw [hw0]; exact below_al (Below.refl _ _) _
  have hs0 : w0.heap.size = w.heap.size + 1 := by rw [hw0]; simp
  have hb1 : Below w0.heap.size w0 W1 := by rw [hW1, ← hw0]; exact below_al (below_al (below_al (below_al (below_al (Below.refl _ _) _) _) _) _) _
  have hs1 : W1.heap.size = w.heap.size + 6 := by rw [hW1]; simp
  obtain ⟨p0, hp0⟩ : ∃ p : ItSE, p = ⟨⟨w.heap.size, 0, none⟩, t, S, false⟩ := ⟨_, rfl⟩
  have hm0 : MemI exK d B w0 p0 := by rw [hp0]; exact ⟨⟨_, _, hbox⟩, fun _ => ⟨_, hnb, hr.below hb0⟩⟩
  have hg0 : GoodE d B w0 p0 := ⟨hm0, fun _ => by rw [hp0]; exact ⟨hx, hk⟩⟩
  have hwi : WInv [p0] := ⟨by simp, fun i hi _ j hj => by
    rw [List.mem_singleton.1 hi, List.mem_singleton.1 hj, hp0]
    exact fun h => by have := (hr.lt _ h).2; exact Nat.lt_irrefl _ this, List.pairwise_singleton _ _⟩
  obtain ⟨b4, hb4⟩ : ∃ b, b = w.heap.size + 1 + 1 + 1 + 1 := ⟨_, rfl⟩
  obtain ⟨b5, hb5⟩ : ∃ b, b = w.heap.size + 1 + 1 + 1 + 1 + 1 := ⟨_, rfl⟩
  obtain ⟨bm, hbm⟩ : ∃ b, b = w.heap.size + 1 + 1 + 1 := ⟨_, rfl⟩
  have hW1' : W1 = (((((w0.alloc (.cells #[] 33)).alloc (.cells #[.pointer (some ⟨w.heap.size, 0, none⟩)] 48)).alloc (.map #[] 0)).alloc (.cells #[.slice (some ⟨w.heap.size + 1 + 1, 0, none⟩) 1 1] 49)).alloc (.cells #[.map (some (w.heap.size + 1 + 1 + 1))] 50)) := by rw [hW1, hw0]
  have hws : WSE (w.heap.size + 1) (w.heap.size + 1) w0 b4 b5 bm [p0] (.slice (some ⟨w.heap.size + 1 + 1, 0, none⟩) 1 1) W1 := by
    have z0 : w0.heap.size = w.heap.size + 1 := hs0
    refine ⟨?_, ?_, ⟨#[], 0, ?_, by rw [opens_cons_closed (by rw [hp0])]; rfl, fun e he => by simp at he⟩, ?_, hwi, fun i hi => ?_⟩
    · rw [hW1', hb4]
      have h := Boxed.new (((w0.alloc (.cells #[] 33)).alloc (.cells #[.pointer (some ⟨w.heap.size, 0, none⟩)] 48)).alloc (.map #[] 0)) 49 (.slice (some ⟨w.heap.size + 1 + 1, 0, none⟩) 1 1)
      simp only [World.size_alloc, z0] at h
      exact h.alloc _
    · rw [hW1', hb5, hbm]
      have h := Boxed.new ((((w0.alloc (.cells #[] 33)).alloc (.cells #[.pointer (some ⟨w.heap.size, 0, none⟩)] 48)).alloc (.map #[] 0)).alloc (.cells #[.slice (some ⟨w.heap.size + 1 + 1, 0, none⟩) 1 1] 49)) 50 (.map (some (w.heap.size + 1 + 1 + 1)))
      simp only [World.size_alloc, z0] at h
      exact h
    · rw [hW1', hbm]
      have h := World.alloc_heap_new ((w0.alloc (.cells #[] 33)).alloc (.cells #[.pointer (some ⟨w.heap.size, 0, none⟩)] 48)) (.map #[] 0)
      simp only [World.size_alloc, z0] at h
      exact (Below.heap_alloc _ _ _ (by simp [z0])).trans ((Below.heap_alloc _ _ _ (by simp [z0])).trans h)
    · have h := World.alloc_heap_new (w0.alloc (.cells #[] 33)) (.cells #[.pointer (some ⟨w.heap.size, 0, none⟩)] 48)
      simp only [World.size_alloc, z0] at h
      have h2 : W1.heap[w.heap.size + 1 + 1]? = some (.cells #[.pointer (some ⟨w.heap.size, 0, none⟩)] 48 (0, 0)) := by
        rw [hW1']
        exact (Below.heap_alloc _ _ _ (by simp [z0])).trans ((Below.heap_alloc _ _ _ (by simp [z0])).trans ((Below.heap_alloc _ _ _ (by simp [z0])).trans h))
      rw [hp0]
      exact ⟨by simp [encA], .inr ⟨w.heap.size + 1 + 1, 1, _, rfl, by omega, h2, by simp, by unfold maxLen; omega, by simp [encA], by simp [encA]⟩⟩
    · rw [List.mem_singleton.1 hi, hp0]
      exact ⟨by show w.heap.size < _; omega, _, _, hbox⟩
  have hq0 : OwnQ (w.heap.size + 1) W1 (.slice (some ⟨w.heap.size + 1, 0, none⟩) 0 0) [] [] (fun _ _ => False) := by
    have h := ownQ_new (w.heap.size + 1) w0 (by omega) (fun _ _ => False)
    rw [hs0] at h
    rw [hW1']
    exact h.below (below_al (below_al (below_al (below_al (Below.refl _ _) _) _) _) _)
  have hwt : weight [p0] ≤ 2097154 := by
    have h := weight_kids [p0] (fun i hi => by rw [List.mem_singleton.1 hi, hp0])
    rw [h, hp0]
    simp only [List.map_cons, List.map_nil, sizeS]; omega
  have HST : Hid (PRel d B w0 w.heap.size b4 b5 bm (ptsN t) (weight [p0]) (.slice (some ⟨w.heap.size + 1, 0, none⟩) 0 0) [] W1 [p0] [] [] (fun _ _ => False) (.slice (some ⟨w.heap.size + 1 + 1, 0, none⟩) 1 1)) := Lib.hid
    { wt := Nat.le_refl _, wB := hwt, say := by rw [hp0]; simp [remS, remI], gd := fun i hi => by rw [List.mem_singleton.1 hi]; exact hg0, q := hq0, ws := hws,
      ap := fun b hb ho => by
        rcases hb with h | ⟨i, hi, _⟩
        · have h : w.heap.size + 1 = b := Option.some.inj h
          rcases ho with h1 | h1 | h1 | h1
          · omega
          · omega
          · omega
          · have h1 : w.heap.size + 1 + 1 = b := Option.some.inj h1
            omega
        · cases hi
      be := by rw [← hs0]; exact hb1, sz := by omega, mks := Marks.nil _ _, ma := fun D ⟨d, hd, _⟩ => by cases hd }
  have HB0 := Lib.hid hb0
  have HSZ := Lib.hid hsz
  have HBS : Hid (w.heap.size + 1 ≤ b4 ∧ w.heap.size + 1 ≤ b5 ∧ w.heap.size + 1 ≤ bm ∧ w0.heap.size = w.heap.size + 1) := Lib.hid (by omega)
  clear hws hq0 hwt hwi hg0 hm0 hb1 hs1 hW1' hbox hnb hb0 hr hx hk hsz
  gi_wp2
  rw [← hW1, ← hb5, ← hb4, ← hbm]
  refine wpIn_loop_ghost_k (fun gk a' wr => ∃ (ds : List Deferred) (u3 u6 u7 u13 u14 u15 u16 u17 u18 u19 u20 u21 u22 u23 u24 u25 u26 u27 u28 u29 u30 u31 u32 u33 u34 u35 u36 u37 u38 u39 u40 u41 u42 u43 u44 u45 u46 u47 u48 u49 u50 u51 u52 u53 u54 u55 u56 u57 : Value), (∃ (st : List ItSE) (done : List Pth) (R : List PthV) (K : Nat → Nat → Prop) (v : Value), Hid (PRel d B w0 w.heap.size b4 b5 bm (ptsN t) gk u3 ds wr st done R K v)) ∧ a' = { tmps := #[(ExR.val ⟨op, num, text, ro, up, sv, kv⟩), .pointer (some ⟨w.heap.size, 0, none⟩), .slice none 0 0, u3, .pointer (some ⟨b4, 0, none⟩), .pointer (some ⟨b5, 0, none⟩), u6, u7, undef, undef, .slice (some ⟨w.heap.size + 1, 0, none⟩) 0 0, .slice (some ⟨w.heap.size + 1 + 1, 0, none⟩) 1 1, .map (some bm), u13, u14, u15, u16, u17, u18, u19, u20, u21, u22, u23, u24, u25, u26, u27, u28, u29, u30, u31, u32, u33, u34, u35, u36, u37, u38, u39, u40, u41, u42, u43, u44, u45, u46, u47, u48, u49, u50, u51, u52, u53, u54, u55, u56, u57, undef, undef, undef, undef, undef, undef, undef, undef, undef, undef, undef, undef, undef, undef, undef, undef, undef], defers := ds }) (weight [p0]) ?_ ?_
  · exact ⟨[], _, _, _, _, _, _, _, _, _, _, _, _, _, _, _, _, _, _, _, _, _, _, _, _, _, _, _, _, _, _, _, _, _, _, _, _, _, _, _, _, _, _, _, _, _, _, _, _, ⟨[p0], [], [], fun _ _ => False, _, HST⟩, rfl⟩
  rintro gk _ wr ⟨ds, u3, u6, u7, u13, u14, u15, u16, u17, u18, u19, u20, u21, u22, u23, u24, u25, u26, u27, u28, u29, u30, u31, u32, u33, u34, u35, u36, u37, u38, u39, u40, u41, u42, u43, u44, u45, u46, u47, u48, u49, u50, u51, u52, u53, u54, u55, u56, u57, ⟨st, done, R, K, v, HR⟩, rfl⟩
  clear HST hb4 hb5 hbm hW1 hs0 hw0 hp0
  intro _ _ _ _
  cases st with
  | nil =>
    obtain ⟨Av, cv, rfl⟩ := ws_nilE HR.out.ws
    have e4 : wr.cell? ⟨b4, 0, none⟩ = some (.slice Av 0 cv) := HR.out.ws.ah.cell
    gi_wp2
    show LeavesInM Fence.wide 8 Try.prog _ _ _ ds .returning wr
    refine leaves_marks (B := w.heap.size + 1) u3 (by intro w; exact results_tmp (t := 2) rfl _ _ w) ds wr HR.out.mks (fun W' ht => ?_)
    refine ⟨u3, rfl, ⟨R, K, ?_⟩, ?_⟩
    · have h := HR.out.q.frame (w' := W') (fun b hb => ht.block b (HR.out.q.lt hb).2 (fun hm => (HR.out.ma b hm).1 hb))
      have hs : done = ptsN t := by have := HR.out.say; simpa [remS] using this
      rw [← hs]; exact h.mono (by omega)
    · exact (HB0.out.trans (HR.out.be.mono (by omega))).trans (ht.below (by have := HR.out.sz; omega) (fun b hb => by have := (HR.out.mks.at hb).1; omega))
  | cons p rest =>
    obtain ⟨g, c, rfl, hgB, hrow, hcell, hcap⟩ := ws_formE HR.out.ws
    have hmB : rest.length ≤ 2097154 := by have := len_weight (p :: rest); have := HR.out.wB; simp only [List.length_cons] at *; omega
    have hX : Below wr.heap.size wr (wr.alloc (.cells #[.pointer (some p.a)] 48)) := below_al (Below.refl _ _) _
    have hX1 : Below (w.heap.size + 1) w0 (wr.alloc (.cells #[.pointer (some p.a)] 48)) := HR.out.be.trans (hX.mono (by have := HR.out.sz; omega))
    have hwX := HR.out.ws.same (w' := (wr.alloc (.cells #[.pointer (some p.a)] 48))) (fun b hb => hX.block b (HR.out.ws.lt hb))
    have blk : ∀ x : Addr, x.block < w.heap.size + 1 → Blk w0 x → ∀ X : World, Below (w.heap.size + 1) w0 X → Blk X x := fun x h1 ⟨cs, t, h2⟩ X hX => ⟨cs, t, (hX.block _ h1).trans h2⟩
    have hgd := HR.out.ws.gd p (by simp)
    have hops : ∀ X : World, Below (w.heap.size + 1) w0 X → ∀ x ∈ (opens (p :: rest)).reverse, Blk X x := fun X hX x hx => by
      obtain ⟨q, hq, _, rfl⟩ := opens_mem (List.mem_reverse.1 hx)
      exact blk _ (HR.out.ws.gd q hq).1 (HR.out.ws.gd q hq).2 X hX
    have hlk := run_lookup_ptr pkey9E hwX.ps (blk _ hgd.1 hgd.2 _ hX1) (hops _ hX1)
    have e4 : wr.cell? ⟨b4, 0, none⟩ = some (.slice (some ⟨g, 0, none⟩) (rest.length + 1) c) := HR.out.ws.ah.cell
    have e5 : (wr.alloc (.cells #[.pointer (some p.a)] 48)).cell? ⟨b5, 0, none⟩ = some (.map (some bm)) := hwX.ar.cell
    have e4X : (wr.alloc (.cells #[.pointer (some p.a)] 48)).cell? ⟨b4, 0, none⟩ = some (.slice (some ⟨g, 0, none⟩) (rest.length + 1) c) := hwX.ah.cell
    have e7X : (wr.alloc (.cells #[.pointer (some p.a)] 48)).cell? ⟨wr.heap.size, 0, none⟩ = some (.pointer (some p.a)) := cell_of_one (heap_alloc_new _ _)
    obtain ⟨m, hm⟩ : ∃ m, m = rest.length := ⟨_, rfl⟩
    have HM := Lib.hid hm
    have HWX := Lib.hid hwX
    have HOPS := Lib.hid hops
    have HBLK := Lib.hid blk
    have HGD := Lib.hid hgd
    have HX1 := Lib.hid hX1
    have HX := Lib.hid hX
    rw [← hm] at hcell e4 e4X hcap hmB HWX HR
    have hcast : ((m : Int) + 1) - 1 = m := by omega
    have hmI : (m : Int) ≤ 9223372036854775807 := by omega
    clear hm hrow hwX hops blk hgd hX1 hX hgB
    cases hop : p.op with
    | true =>
      have hin : p.a ∈ (opens (p :: rest)).reverse := List.mem_reverse.2 (mem_opens (by simp) hop)
      rw [decide_eq_true hin] at hlk
      obtain ⟨W4, hup, hps4, hg4, hz4⟩ := run_delete_ptr pkey9E HWX.out.ps (HBLK.out _ HGD.out.1 HGD.out.2 _ HX1.out) (HOPS.out _ HX1.out) hin 48 0
      obtain ⟨n1, n2, n3, n4⟩ := HWX.out.map_ne
      have keep4 : ∀ b, b ≠ bm → b < (wr.alloc (.cells #[.pointer (some p.a)] 48)).heap.size → W4.heap[b]? = (wr.alloc (.cells #[.pointer (some p.a)] 48)).heap[b]? := fun b h1 h2 => hg4.block b h2 (fun e => h1 (by cases e; rfl))
      have ha4 : AheadE W4 b4 (.slice (some ⟨g, 0, none⟩) (m + 1) c) := (keep4 b4 (fun e => n1 e.symm) HWX.out.ah.lt).trans HWX.out.ah
      have e4' := ha4.cell
      have f4' := ha4.frozen
      have hrow4 := rowR_frame (w' := W4) HWX.out.row (fun b e => keep4 b (fun e' => n3 (by rw [e, e'])) (RowR.lt HWX.out.row e).2)
      have hne4 : some b4 ≠ (Value.slice (some ⟨g, 0, none⟩) m c).ownBlock := fun e => Boxed.not_row ha4 (by decide) hrow4 e
      have off : ∀ b, b ≠ b4 → (W4.setCell ⟨b4, 0, none⟩ (.slice (some ⟨g, 0, none⟩) m c)).heap[b]? = W4.heap[b]? := fun b hb => Below.heap_setCell _ _ _ _ hb
      have hw5 : WSE (w.heap.size + 1) (w.heap.size + 1) w0 b4 b5 bm rest (.slice (some ⟨g, 0, none⟩) m c) (W4.setCell ⟨b4, 0, none⟩ (.slice (some ⟨g, 0, none⟩) m c)) := by
        refine ⟨ha4.set _, (off b5 n4).trans ((keep4 b5 (fun e => n2 e.symm) HWX.out.ar.lt).trans HWX.out.ar), ?_, ?_, HWX.out.wi.tail, fun q hq => HWX.out.gd q (List.mem_cons_of_mem _ hq)⟩
        · have hnd : p.a ∉ (opens rest).reverse := fun h => by
            obtain ⟨q, hq, _, hqa⟩ := opens_mem (List.mem_reverse.1 h)
            exact (List.nodup_cons.1 HWX.out.wi.nd).1 (List.mem_map.2 ⟨q, hq, hqa⟩)
          rw [opens_cons_open hop, List.reverse_cons, List.erase_append_right _ hnd] at hps4
          simp only [List.erase_cons_head, List.append_nil] at hps4
          exact hps4.same (off bm n1)
        · have hr : RowAE (w.heap.size + 1) W4 (.slice (some ⟨g, 0, none⟩) (m + 1) c) (rest.reverse.map (·.a) ++ [p.a]) := by
            have e : (p :: rest).reverse.map (·.a) = rest.reverse.map (·.a) ++ [p.a] := by simp
            rw [← e]; exact hrow4
          have hl : (rest.reverse.map (·.a)).length = m := by rw [HM.out]; simp
          rw [← hl] at hr
          have h3 := rowR_short encA_len hr
          rw [hl] at h3
          exact rowR_frame h3 (fun b e => off b (fun e' => hne4 (by rw [e, e'])))
      have hst5 : TurnsAt (OwnWE b4 b5 bm (.slice (some ⟨g, 0, none⟩) (m + 1) c)) (wr.alloc (.cells #[.pointer (some p.a)] 48)) (W4.setCell ⟨b4, 0, none⟩ (.slice (some ⟨g, 0, none⟩) m c)) := (grown_turns hg4 (fun b e => by cases e; exact .inr (.inr (.inl rfl)))).trans (grown_turns (grownBy_setCell' W4 b4 _) (fun b e => by cases e; exact .inl rfl))
      have hge : ∀ b, OwnWE b4 b5 bm (.slice (some ⟨g, 0, none⟩) (m + 1) c) b → w.heap.size + 1 ≤ b := fun b hb => by
        rcases hb with rfl | rfl | rfl | h
        · exact HBS.out.1
        · exact HBS.out.2.1
        · exact HBS.out.2.2.1
        · exact (RowR.lt HWX.out.row h).1
      have HLESS := Lib.hid (weight_close (rest := rest) hop)
      have HFIN : Hid (PRel d B w0 w.heap.size b4 b5 bm (ptsN t) (weight rest) u3 ds (W4.setCell ⟨b4, 0, none⟩ (.slice (some ⟨g, 0, none⟩) m c)) rest done R K (.slice (some ⟨g, 0, none⟩) m c)) := Lib.hid
        { wt := Nat.le_refl _, wB := by have := HR.out.wB; have := HLESS.out; omega, say := by rw [← remS_close hop]; exact HR.out.say, gd := fun i hi => HR.out.gd i (List.mem_cons_of_mem _ hi)
          q := HR.out.q.frame fun b hb => (hst5.block b (Nat.lt_of_lt_of_le (HR.out.q.lt hb).2 HX.out.size) (HR.out.ap b hb)).trans (HX.out.block b (HR.out.q.lt hb).2)
          ws := hw5, ap := HR.out.ap
          be := HX1.out.trans (hst5.below (by have := HX.out.size; have := HR.out.sz; omega) hge)
          sz := by have := HX.out.size; have := hst5.size; have := HR.out.sz; omega
          mks := (HR.out.mks.below HX.out).turns hst5 (fun D hD => (HR.out.ma D hD).2), ma := HR.out.ma }
      clear hps4 hg4 keep4 hz4 ha4 hrow4 hne4 off hw5 hst5 hge n1 n2 n3 n4
      gi_wp2_with (first
        | (gi_at_lookup; refine wpListIn_lookup_run rfl 50 _ _ rfl _ _ _ rfl rfl hlk ?_)
        | (gi_at_delete; refine wpListIn_delete_run rfl 50 48 _ _ rfl _ _ rfl rfl hup ?_))
      gi_roundg (weight rest)
      case measure => have := HLESS.out; have := HR.out.wt; omega
      case rel => exact ⟨rest, done, R, K, _, HFIN⟩
    | false => 
      have hnot : p.a ∉ (opens (p :: rest)).reverse := fun h => HWX.out.wi.top_not hop (List.mem_reverse.1 h)
      rw [decide_eq_false hnot] at hlk
      obtain ⟨hmem, hszs⟩ := HR.out.gd p (by simp)
      obtain ⟨hx1, hk1⟩ := hszs hop
      obtain ⟨⟨rop, rnum, rtext, rro, rup, rsv, rkv⟩, hcells, S1, S2, ⟨⟨ho1, -, -⟩, hop7⟩, hkO, -, hSi⟩ := hmem.2 hop
      obtain ⟨ks, hkv, hkm, hkt, hkw⟩ := items_ofE hkO (fun b hb => (hSi b).2 (.inr hb)) hop
      rw [HBS.out.2.2.2] at hkv
      have hp7 : HasP7 w0 ⟨rro, rup, rsv⟩ p.t.x.p := hop7.has
      have hsn : HasSN w0 rsv p.t.x.p.st := OwnS.hasN hop7.st
      have HO1 : Hid (rop = p.t.x.op) := Lib.hid ho1
      clear ho1
      obtain ⟨A, capk, hrk, -⟩ := id hkv
      have hrk : rkv = .slice A ks.length capk := hrk
      subst hrk
      have hkg : ∀ i ∈ ks, GoodE d B w0 i := fun i hi => ⟨(hkm i hi).2, fun _ => by
        have hin : i.t ∈ p.t.kids := by rw [← hkt]; exact List.mem_map.2 ⟨i, hi, rfl⟩
        exact ⟨((hk1 1).2 _ hin).1, fun e => ((hk1 (e + 1)).2 _ hin).2⟩⟩
      have hkcl : ∀ i ∈ ks, i.op = false := fun i hi => (hkm i hi).1
      have hkga : ∀ i ∈ ks, i.a.block < w.heap.size + 1 ∧ Blk w0 i.a := fun i hi => ⟨by rw [← HBS.out.2.2.2]; exact (hkm i hi).2.lt, (hkm i hi).2.1⟩
      have hwi2 := hkw rest HWX.out.wi
      have HLESS := Lib.hid (weight_open (rest := rest) hop hkcl hkt)
      have HSAY : Hid (done ++ hdE p.t.x ++ remS (ks ++ p.open :: rest) = ptsN t) := Lib.hid (by rw [List.append_assoc, ← remS_open hop hkcl hkt]; exact HR.out.say)
      have HCP := Lib.hid (fun (n : Nat) W (hb : Below w0.heap.size w0 W) => (callsIn_wide (n := n)).2 (iCopyPth_any ⟨rro, rup, rsv⟩ p.t.x.p W (hp7.below hb) (hsn.below hb) hx1.2.1 (fun s hs => (hx1.2.2 s hs).2.1)))
      obtain ⟨W4, hup, hps4, hg4, hz4⟩ := run_store_ptr pkey9E HWX.out.ps (HBLK.out _ HGD.out.1 HGD.out.2 _ HX1.out) (HOPS.out _ HX1.out) hnot
      obtain ⟨n1, n2, n3, n4⟩ := HWX.out.map_ne
      have hbmX : bm < wr.heap.size := HR.out.ws.lt (.inr (.inr (.inl rfl)))
      have hsX : (wr.alloc (.cells #[.pointer (some p.a)] 48)).heap.size = wr.heap.size + 1 := by simp
      have keep4 : ∀ b, b ≠ bm → b < (wr.alloc (.cells #[.pointer (some p.a)] 48)).heap.size → W4.heap[b]? = (wr.alloc (.cells #[.pointer (some p.a)] 48)).heap[b]? := fun b h1 h2 => hg4.block b h2 (fun e => h1 (by cases e; rfl))
      have hw4 : WSE (w.heap.size + 1) (w.heap.size + 1) w0 b4 b5 bm (p.open :: rest) (.slice (some ⟨g, 0, none⟩) (m + 1) c) W4 := by
        refine ⟨(keep4 b4 (fun e => n1 e.symm) HWX.out.ah.lt).trans HWX.out.ah, (keep4 b5 (fun e => n2 e.symm) HWX.out.ar.lt).trans HWX.out.ar, ?_, ?_, HWX.out.wi.opened, fun q hq => ?_⟩
        · rw [opens_cons_closed hop] at hps4
          rw [opens_cons_open (p := p.open) rfl, List.reverse_cons]
          exact hps4
        · have := rowR_frame (w' := W4) HWX.out.row (fun b e => keep4 b (fun e' => n3 (by rw [e, e'])) (RowR.lt HWX.out.row e).2)
          rw [show (p.open :: rest).reverse.map (·.a) = (p :: rest).reverse.map (·.a) by simp [It.open]]
          exact this
        · rcases List.mem_cons.1 hq with rfl | hq
          · exact HGD.out
          · exact HWX.out.gd q (List.mem_cons_of_mem _ hq)
      have ht4 : TurnsAt (fun b => b = bm) wr W4 := (below_turns HX.out).trans (grown_turns hg4 (fun b e => by cases e; rfl))
      have HB4 : Hid (Below (w.heap.size + 1) w0 W4) := Lib.hid (HR.out.be.trans (ht4.below (by have := HR.out.sz; omega) (fun b e => by have := HBS.out.2.2.1; omega)))
      have HQ4 : Hid (OwnQ (w.heap.size + 1) W4 u3 R done K) := Lib.hid (HR.out.q.frame fun b hb => ht4.block b (HR.out.q.lt hb).2 (fun e => HR.out.ap b hb (.inr (.inr (.inl e)))))
      have HMK4 : Hid (Marks (w.heap.size + 1) W4 ds) := Lib.hid (HR.out.mks.turns ht4 (fun D hD e => (HR.out.ma D hD).2 (.inr (.inr (.inl e)))))
      have HN4 : Hid (Boxed W4 wr.heap.size 48 (.pointer (some p.a))) := Lib.hid ((keep4 _ (by omega) (by omega)).trans (heap_alloc_new _ _))
      have HS4 : Hid (wr.heap.size < W4.heap.size) := Lib.hid (by omega)
      have HEK : Hid (∀ W, Below (w.heap.size + 1) w0 W → Ek W p.a ⟨rop, rnum, rtext, rro, rup, rsv, .slice A ks.length capk⟩) := Lib.hid fun W hb => by
        have h : NlE W p.a ⟨rop, rnum, rtext, rro, rup, rsv, .slice A ks.length capk⟩ := NlE.at (w := w0) hcells (hb.block _ HGD.out.1)
        exact ⟨h 0 _ rfl, h 1 _ rfl, h 2 _ rfl, h 3 _ rfl, h 4 _ rfl, h 5 _ rfl, h 6 _ rfl⟩
      have e7 := HN4.out.cell
      obtain ⟨k0, k1, k2, k3, k4, k5, k6⟩ := HEK.out W4 HB4.out
      dsimp only at k0 k1 k2 k3 k4 k5 k6
      have HW4 := Lib.hid hw4
      have HKV := Lib.hid hkv
      have HKG := Lib.hid hkg
      have HKCL := Lib.hid hkcl
      have HKGA := Lib.hid hkga
      have HWI2 := Lib.hid hwi2
      have HX1S := Lib.hid hx1
      have HOP := Lib.hid hop
      have HLD : Hid (R.length + 1 ≤ 4194304) := Lib.hid (by
        have h1 := congrArg List.length HR.out.say
        have h2 := ptsN_len t
        have h3 := HSZ.out
        have h4 := HR.out.q.len
        rw [List.length_append] at h1
        omega)
      have HDE : Hid ((rop = 3 ∨ rop = 4 → hdE p.t.x = [p.t.x.p]) ∧ (¬ (rop = 3 ∨ rop = 4) → hdE p.t.x = [])) := Lib.hid (by rw [HO1.out]; unfold hdE; exact ⟨fun h => if_pos h, fun h => if_neg h⟩)
      clear hmem hszs hx1 hk1 hcells hop7 hkO hSi hkv hkm hkt hkw hp7 hsn hkg hkcl hkga hwi2 hps4 hg4 hz4 n1 n2 n3 n4 hbmX hsX keep4 hw4 ht4 hnot
      obtain ⟨f1, f2⟩ | ⟨f1, f2⟩ | ⟨f1, f2⟩ : (rop = 3 ∧ True) ∨ (rop = 4 ∧ True) ∨ (¬ rop = 3 ∧ ¬ rop = 4) := by
        by_cases h3 : rop = 3
        · exact .inl ⟨h3, trivial⟩
        · by_cases h4 : rop = 4
          · exact .inr (.inl ⟨h4, trivial⟩)
          · exact .inr (.inr ⟨h3, h4⟩)
      · have HC9 : Hid (rop = 3 ∨ rop = 4) := Lib.hid (by omega)
        subst f1
        gi_wp2_with (first
          | (gi_at_lookup; refine wpListIn_lookup_run rfl 50 _ _ rfl _ _ _ rfl rfl hlk ?_)
          | (gi_at_mapUpdate; refine wpListIn_update_run rfl 50 _ _ _ rfl _ _ _ rfl rfl rfl hup ?_))
        refine ⟨trivial, (HCP.out _ W4 (by rw [HBS.out.2.2.2]; exact HB4.out)).mono ?_⟩
        rintro e w5 ⟨⟨r2, u2, sv2⟩, S9, rfl, ho9, hb9⟩
        obtain ⟨A2, n2, c2, rfl⟩ : ∃ A n c, sv2 = .slice A n c := by obtain ⟨A, c, hv, _⟩ := ho9.has.st.at; exact ⟨A, _, c, hv⟩
        have hb5 := below_al hb9 (.cells #[.bool r2, .int .i64 u2, .slice A2 n2 c2] 33)
        have HQ5 := Lib.hid (HQ4.out.below hb5)
        have HO9 := Lib.hid ho9
        have HO5 := Lib.hid ((ho9.below (below_al (Below.refl _ _) (.cells #[.bool r2, .int .i64 u2, .slice A2 n2 c2] 33))).mono (B' := w.heap.size + 1) (by have := HS4.out; have := HR.out.sz; omega))
        have HN5 : Hid (∀ j u, (PthV.enc ⟨r2, u2, .slice A2 n2 c2⟩)[j]? = some u → (w5.alloc (.cells #[.bool r2, .int .i64 u2, .slice A2 n2 c2] 33)).cell? ((⟨w5.heap.size, 0, none⟩ : Addr).add j) = some u) := Lib.hid (World.news_of_block (heap_alloc_new w5 _))
        have HS5 : Hid (w.heap.size + 1 ≤ (w5.alloc (.cells #[.bool r2, .int .i64 u2, .slice A2 n2 c2] 33)).heap.size ∧ W4.heap.size ≤ (w5.alloc (.cells #[.bool r2, .int .i64 u2, .slice A2 n2 c2] 33)).heap.size) := Lib.hid (by have := HS4.out; have := HR.out.sz; have := hb5.size; omega)
        have HT5 : Hid (∀ W, (w5.alloc (.cells #[.bool r2, .int .i64 u2, .slice A2 n2 c2] 33)).grownBy W u3.ownBlock → TurnsAt (fun b => u3.ownBlock = some b) W4 W) := Lib.hid fun W hg => (below_turns hb5).trans (grown_turns hg (fun b e => e))
        have HBX : Hid (∀ W, TurnsAt (fun b => u3.ownBlock = some b) W4 W → Below (w.heap.size + 1) w0 W ∧ Boxed W wr.heap.size 48 (.pointer (some p.a))) := Lib.hid fun W ht => ⟨HB4.out.trans (ht.below (by have := HS4.out; have := HR.out.sz; omega) (fun b e => (HR.out.q.lt (.inl e)).1)), (ht.block _ HS4.out (fun e => by have := (HR.out.q.lt (.inl e)).2; omega)).trans HN4.out⟩
        clear hlk hup e4 e4X e5 e7X hcell e7 k0 k1 k2 k3 k4 k5 k6 hb5 hb9 ho9
        gi_wp2_with (gi_at_builtin; refine wpListIn_rec_append PthV.enc_len (by omega) Try.underlying29 infoPth (by rfl) (by omega) rfl _ _ rfl (w.heap.size + 1) R.length u3 R (by rfl) HQ5.out.row rfl ⟨r2, u2, .slice A2 n2 c2⟩ ⟨w5.heap.size, 0, none⟩ 1 (by rfl) HN5.out (pthV_one HO5.out) HLD.out HS5.out.1 ?_; intro o6 W6 hrow6 hg6 hv6; have HROW6 := Lib.hid hrow6; have HG6 := Lib.hid hg6; have HV6 := Lib.hid hv6; have HT6 := Lib.hid (HT5.out W6 hg6); have e7 := (HBX.out W6 HT6.out).2.cell; obtain ⟨k0, k1, k2, k3, k4, k5, k6⟩ := HEK.out W6 (HBX.out W6 HT6.out).1; dsimp only at k0 k1 k2 k3 k4 k5 k6; clear hrow6 hg6 hv6)
        have hS9 : ∀ b, S9 b → W4.heap.size ≤ b := fun b hb => (OwL.lt HO9.out.st b hb).1
        have HQ6 : Hid (OwnQ (w.heap.size + 1) W6 o6 (R ++ [⟨r2, u2, .slice A2 n2 c2⟩]) (done ++ hdE p.t.x) (fun i b => if i < R.length then K i b else S9 b)) := Lib.hid (by
          rw [HDE.out.1 HC9.out]
          exact HQ5.out.snoc HO5.out (fun b hb hs => by have := hS9 b hb; have := (HQ4.out.lt hs).2; omega) HROW6.out HG6.out HV6.out)
        have hS6 : ∀ b, OwnQ.S o6 (R ++ [⟨r2, u2, .slice A2 n2 c2⟩]) (fun i b => if i < R.length then K i b else S9 b) b → OwnQ.S u3 R K b ∨ W4.heap.size ≤ b := fun b hb => by
          rcases hb with hb | ⟨i, hi, hb⟩
          · rcases HV6.out with h | h
            · exact .inl (.inl (h.symm.trans hb))
            · rw [h] at hb; cases hb; exact .inr HS5.out.2
          · by_cases hlt : i < R.length
            · rw [if_pos hlt] at hb; exact .inl (.inr ⟨i, hlt, hb⟩)
            · rw [if_neg hlt] at hb; exact .inr (hS9 b hb)
        have HW6 := Lib.hid (HW4.out.same (w' := W6) (fun b hb => HT6.out.block b (HW4.out.lt hb) (fun h => HR.out.ap b (.inl h) hb)))
        have HAP6 : Hid (∀ b, OwnQ.S o6 (R ++ [⟨r2, u2, .slice A2 n2 c2⟩]) (fun i b => if i < R.length then K i b else S9 b) b → ¬ OwnWE b4 b5 bm (.slice (some ⟨g, 0, none⟩) (m + 1) c) b) := Lib.hid fun b hb ho => by
          rcases hS6 b hb with h | h
          · exact HR.out.ap b h ho
          · have := HW4.out.lt ho; omega
        have HMA6 : Hid (∀ D, IsMark ds D → ¬ OwnQ.S o6 (R ++ [⟨r2, u2, .slice A2 n2 c2⟩]) (fun i b => if i < R.length then K i b else S9 b) D ∧ ¬ OwnWE b4 b5 bm (.slice (some ⟨g, 0, none⟩) (m + 1) c) D) := Lib.hid fun D hD => ⟨fun hb => by
          rcases hS6 D hb with h | h
          · exact (HR.out.ma D hD).1 h
          · have := HMK4.out.lt hD; omega, (HR.out.ma D hD).2⟩
        have HB6 := Lib.hid (HBX.out W6 HT6.out).1
        have HN6 := Lib.hid (HBX.out W6 HT6.out).2
        have HS6 : Hid (wr.heap.size < W6.heap.size) := Lib.hid (by have := HS4.out; have := HT6.out.size; omega)
        have HMK6 := Lib.hid (HMK4.out.turns HT6.out (fun D hD h => (HR.out.ma D hD).1 (.inl h)))
        obtain ⟨R6, hR6⟩ : ∃ X, X = R ++ [⟨r2, u2, .slice A2 n2 c2⟩] := ⟨_, rfl⟩
        obtain ⟨K6, hK6⟩ : ∃ X, X = (fun i b => if i < R.length then K i b else S9 b) := ⟨_, rfl⟩
        rw [← hR6, ← hK6] at HQ6 HAP6 HMA6
        clear hR6 hK6 hS6 hS9 HROW6 HG6 HV6 HT6 HBX HT5 HN5 HO5 HO9 HQ5 HS5
        obtain ⟨Ak, capk', hrk', Rk, hat⟩ := KidsVE.at HKV.out (W := W6) (fun b hb => HB6.out.block b hb)
        have hrk' : Value.slice A ks.length capk = .slice Ak ks.length capk' := hrk'
        injection hrk' with e1 _ e3
        subst e1 e3
        refine ⟨trivial, (backS_inE Fence.wide _ trivial rfl _ _ _ _).mono ?_⟩
        rintro e w7 ⟨rfl, rfl⟩
        gi_wp2
        obtain ⟨W7, hW7⟩ : ∃ X, X = W6.alloc (.cells #[.slice A ks.length capk] 34) := ⟨_, rfl⟩
        have hb7 : Below W6.heap.size W6 W7 := by rw [hW7]; exact below_al (Below.refl _ _) _
        have hs7 : W7.heap.size = W6.heap.size + 1 := by rw [hW7]; simp
        have hbs : W7.heap[W6.heap.size]? = some (.cells #[.slice A ks.length capk] 34 (0, 0)) := by rw [hW7]; exact heap_alloc_new _ _
        rw [← hW7]
        clear hW7 e7 k0 k1 k2 k3 k4 k5 k6
        have hsz6 := HS6.out
        have hszr := HR.out.sz
        have hw7 := HW6.out.same (w' := W7) (fun b hb => hb7.block b (HW6.out.lt hb))
        have hB7 : Below (w.heap.size + 1) w0 W7 := HB6.out.trans (hb7.mono (by omega))
        have hn7 : Boxed W7 wr.heap.size 48 (.pointer (some p.a)) := (hb7.block _ HS6.out).trans HN6.out
        have hat7 : ∀ j (hj : j < ks.length), ∃ a, A = some a ∧ a.block < w.heap.size + 1 ∧ (ks.map (·.a))[j]'(by simpa using hj) = a.add (j * 7) ∧ NlE W7 (a.add (j * 7)) (Rk j) ∧ Blk w0 (a.add (j * 7)) := fun j hj => by
          obtain ⟨a, h1, h2, h3, h4, h5⟩ := hat j (by simpa using hj)
          have h6 := (HKGA.out _ (List.getElem_mem hj)).2
          have h7 : ks[j].a = a.add (j * 7) := by rw [← h3]; simp
          rw [h3] at h4
          rw [h7] at h6
          exact ⟨a, h1, h2, h3, h4.at (hb7.block _ (by rw [addr_blk]; omega)), h6⟩
        have hst : (ks ++ p.open :: rest).length ≤ 2097154 := by
          have h1 := len_weight (ks ++ p.open :: rest)
          have := HLESS.out
          have := HR.out.wB
          omega
        have hkl : ks.length ≤ 2097154 := by rw [List.length_append] at hst; omega
        have hseq := backS_seqE Fence.wide 7 trivial rfl (by omega) W6.heap.size (w.heap.size + 1) ks.length capk A Rk (by omega) W7 (by omega) hbs (fun j hj => by obtain ⟨a, h1, h2, h3, h4, _⟩ := hat7 j hj; exact ⟨a, h1, h2, h4⟩)
        obtain ⟨VV, hVV⟩ : ∃ V, V = Value.slice (some ⟨g, 0, none⟩) (m + 1) c := ⟨_, rfl⟩
        rw [← hVV] at hw7 HAP6 HMA6 HWX
        have hgl : ∀ b, VV.ownBlock = some b → w.heap.size + 1 ≤ b ∧ b < wr.heap.size := fun b e => ⟨(RowR.lt hw7.row e).1, HR.out.ws.lt (.inr (.inr (.inr (by rw [← hVV]; exact e))))⟩
        have hb4l : b4 < wr.heap.size := HR.out.ws.lt (.inl rfl)
        have hb5l : b5 < wr.heap.size := HR.out.ws.lt (.inr (.inl rfl))
        have hbml : bm < wr.heap.size := HR.out.ws.lt (.inr (.inr (.inl rfl)))
        have HVV := Lib.hid hVV
        have HW7 := Lib.hid hw7
        have HB7 := Lib.hid hB7
        have HN7 := Lib.hid hn7
        have HAT7 := Lib.hid hat7
        have HST := Lib.hid hst
        have HGL := Lib.hid hgl
        have HBB7 := Lib.hid hb7
        clear hat hbs hb7 hw7 hB7 hn7 hat7 hst hgl hVV HWX hrk
        refine wpIn_rangeFunc_ownB (n := 8) rfl (by omega) (gf := 30) (lb := #[.pointer (some ⟨W6.heap.size, 0, none⟩)]) rfl trivial (enters_of Try.func30 (by kernel_rfl) rfl) hseq (fun b hb => by rcases hb with h | h <;> omega) (Below.refl _ _) ?sizes
          (fun i M W => ∃ v', AheadE W b4 v' ∧ RowAE (w.heap.size + 1) W v' ((p.open :: rest).reverse.map (·.a) ++ (ks.map (·.a)).reverse.take i) ∧ (v'.ownBlock = VV.ownBlock ∨ ∃ g', v'.ownBlock = some g' ∧ W7.heap.size ≤ g') ∧ (∀ b, M b ↔ b = b4 ∨ v'.ownBlock = some b) ∧ TurnsAt (fun b => b = b4 ∨ VV.ownBlock = some b) W7 W) (fun _ _ _ _ => False) ?stab (fun _ _ _ _ _ _ h _ _ _ => h)
          (fun b => b = b4 ∨ VV.ownBlock = some b) ?low ?start 58 59 8 (fun i => .int .i64 ((ks.length - (i + 1) : Nat) : Int)) (fun i => (Rk (ks.length - (i + 1))).val) ?assign ?body ?done ?stop
        case stop => intro D c i M W _ _ h _; exact h.elim
        case sizes =>
          intro x hx
          obtain ⟨j, _, rfl⟩ := List.mem_map.1 hx
          rfl
        case low =>
          rintro b (rfl | h)
          · exact ⟨by omega, fun h => by have := HBS.out.1; omega⟩
          · have := HGL.out b h; exact ⟨by omega, fun h => by omega⟩
        case start => exact ⟨VV, HW7.out.ah, by rw [List.take_zero, List.append_nil]; exact HW7.out.row, .inl rfl, fun b => Iff.rfl, TurnsAt.refl _ _⟩
        case stab =>
          rintro i M K A C ⟨v', h4', hrow', hv', hM, ht⟩ hlt ht' hK
          have keep : ∀ b, M b → C.heap[b]? = A.heap[b]? := fun b hb => ht'.block b (hlt b hb) (fun h => (hK b h).2 hb)
          exact ⟨v', (keep b4 ((hM b4).2 (.inl rfl))).trans h4', rowR_frame hrow' (fun b e => keep b ((hM b).2 (.inr e))), hv', hM, ht.then ht' (fun b h hb => by have := (hK b h).1; omega)⟩
        case assign =>
          intro l i hi W K hK
          rw [downS_getE Rk ks.length i hi]
          simp only [List.setIfInBounds_toArray, List.set_cons_zero, List.set_cons_succ] at hK
          gi_wp2
          exact hK
        case done =>
          rintro D M W hD hnM ⟨v', h4', hrow', hv', hM, ht⟩ hK
          rw [downS_lengthE, List.take_of_length_le (by simp)] at hrow'
          have hws := ws_growE HW7.out ht h4' hrow' HKCL.out HKGA.out HWI2.out
          have hWs := ht.size
          have HFIN : Hid (PRel d B w0 w.heap.size b4 b5 bm (ptsN t) (weight (ks ++ p.open :: rest)) o6 ({ target := .collected D, args := #[] } :: ds) W (ks ++ p.open :: rest) (done ++ hdE p.t.x) R6 K6 v') := Lib.hid
            { wt := Nat.le_refl _, wB := by have := HR.out.wB; have := HLESS.out; omega, say := HSAY.out
              gd := fun i hi => by
                rcases List.mem_append.1 hi with hi | hi
                · exact HKG.out i hi
                · rcases List.mem_cons.1 hi with rfl | hi
                  · exact (HR.out.gd p (by simp)).open
                  · exact HR.out.gd i (List.mem_cons_of_mem _ hi)
              q := HQ6.out.frame fun b hb => (ht.block b (by have := (HQ6.out.lt hb).2; omega) (fun h => HAP6.out b hb (h.elim .inl (fun h => .inr (.inr (.inr h)))))).trans (HBB7.out.block b (HQ6.out.lt hb).2)
              ws := hws
              ap := fun b hb ho => by
                have hbl := (HQ6.out.lt hb).2
                rcases ho with h | h | h | h
                · exact HAP6.out b hb (.inl h)
                · exact HAP6.out b hb (.inr (.inl h))
                · exact HAP6.out b hb (.inr (.inr (.inl h)))
                · rcases hv' with h2 | ⟨g', h2, h3⟩
                  · exact HAP6.out b hb (.inr (.inr (.inr (h2.symm.trans h))))
                  · rw [h2] at h; cases h; omega
              be := HB7.out.trans (ht.below (by omega) (fun b h => by
                rcases h with h | h
                · have := HBS.out.1; omega
                · exact (HGL.out b h).1))
              sz := by omega
              mks := Marks.cons ((HMK6.out.below HBB7.out).turns ht (fun E hE h => (HMA6.out E hE).2 (h.elim .inl (fun h => .inr (.inr (.inr h)))))) (by omega) hK (fun hm => by have := HMK6.out.lt hm; omega)
              ma := fun E hE => by
                rcases isMark_cons hE with rfl | hE
                · refine ⟨fun h => by have := (HQ6.out.lt h).2; omega, fun h => ?_⟩
                  rcases h with h | h | h | h
                  · exact hnM ((hM _).2 (.inl h))
                  · omega
                  · omega
                  · exact hnM ((hM _).2 (.inr h))
                · have hEl := HMK6.out.lt hE
                  refine ⟨(HMA6.out E hE).1, fun h => ?_⟩
                  rcases h with h | h | h | h
                  · exact (HMA6.out E hE).2 (.inl h)
                  · exact (HMA6.out E hE).2 (.inr (.inl h))
                  · exact (HMA6.out E hE).2 (.inr (.inr (.inl h)))
                  · rcases hv' with h2 | ⟨g', h2, h3⟩
                    · exact (HMA6.out E hE).2 (.inr (.inr (.inr (h2.symm.trans h))))
                    · rw [h2] at h; cases h; omega }
          clear hws h4' hrow' hv' hM ht hK
          gi_wp2
          gi_roundg (weight (ks ++ p.open :: rest))
          case measure => have := HLESS.out; have := HR.out.wt; omega
          case rel => exact ⟨ks ++ p.open :: rest, done ++ hdE p.t.x, R6, K6, v', HFIN⟩
        case body =>
          rintro l i hi M W ⟨v', h4', hrow', hv', hM, ht⟩ hMlt hsz
          simp only [List.setIfInBounds_toArray, List.set_cons_zero, List.set_cons_succ]
          rw [downS_lengthE] at hi
          have hjl : ks.length - (i + 1) < ks.length := by omega
          obtain ⟨a, rfl, hab, hka, hnl, hbk⟩ := HAT7.out _ hjl
          have same : ∀ b, b < W7.heap.size → b ≠ b4 → VV.ownBlock ≠ some b → W.heap[b]? = W7.heap[b]? := fun b h1 h2 h3 => ht.block b h1 (fun h => h.elim h2 h3)
          obtain ⟨m1, m2, m3, m4⟩ := HW7.out.map_ne
          have e5 : W.cell? ⟨b5, 0, none⟩ = some (.map (some bm)) := Boxed.cell ((same b5 HW7.out.ar.lt m4 (Boxed.not_row HW7.out.ar (by decide) HW7.out.row).symm).trans HW7.out.ar)
          have e7 : W.cell? ⟨wr.heap.size, 0, none⟩ = some (.pointer (some p.a)) := Boxed.cell ((same _ HN7.out.lt (by omega) (fun e => by have := HGL.out _ e; omega)).trans HN7.out)
          have hB : Below (w.heap.size + 1) w0 W := HB7.out.trans (ht.below (by omega) (fun b h => by
            rcases h with h | h
            · have := HBS.out.1; omega
            · exact (HGL.out b h).1))
          obtain ⟨k0, k1, k2, k3, k4, k5, k6⟩ := HEK.out W hB
          dsimp only at k0 k1 k2 k3 k4 k5 k6
          have e4 := h4'.cell
          have hps : PSet W bm (opens (p.open :: rest)).reverse := HW7.out.ps.same (same bm (HW7.out.lt (.inr (.inr (.inl rfl)))) m1 m3)
          have hnot : a.add ((ks.length - (i + 1)) * 7) ∉ (opens (p.open :: rest)).reverse := fun h => by
            obtain ⟨q, hq, _, hqa⟩ := opens_mem (List.mem_reverse.1 h)
            have h1 := HWI2.out.nd
            rw [List.map_append] at h1
            exact (List.nodup_append.1 h1).2.2 (a.add ((ks.length - (i + 1)) * 7)) (by rw [← hka]; exact List.getElem_mem _) q.a (List.mem_map.2 ⟨q, hq, rfl⟩) hqa.symm
          have hlk := run_lookup_ptr (w := W) pkey9E hps (HBLK.out _ (by rw [addr_blk]; exact hab) hbk W hB) (fun x hx => by
            obtain ⟨q, hq, _, rfl⟩ := opens_mem (List.mem_reverse.1 hx)
            exact HBLK.out _ (HW7.out.gd q hq).1 (HW7.out.gd q hq).2 W hB)
          rw [decide_eq_false hnot] at hlk
          obtain ⟨j, hj⟩ : ∃ j, j = ks.length - (i + 1) := ⟨_, rfl⟩
          have hap : AheadE (W.alloc (.cells #[.pointer (some (a.add (j * 7)))] 48)) b4 v' := Boxed.alloc h4' _
          have HAP := Lib.hid hap
          have HRA : Hid (RowAE (w.heap.size + 1) (W.alloc (.cells #[.pointer (some (a.add (j * 7)))] 48)) v' ((p.open :: rest).reverse.map (·.a) ++ (ks.map (·.a)).reverse.take i)) := Lib.hid (RowR.alloc hrow' _)
          have HNR := Lib.hid (Boxed.not_row h4' (by decide) hrow')
          have HLN : Hid (((p.open :: rest).reverse.map (·.a) ++ (ks.map (·.a)).reverse.take i).length + 1 ≤ 4194304) := Lib.hid (by
            have h1 := HST.out
            rw [List.length_append] at h1
            rw [List.length_append, List.length_map, List.length_reverse, List.length_take, List.length_reverse, List.length_map]
            omega)
          have HBW : Hid (w.heap.size + 1 ≤ (W.alloc (.cells #[.pointer (some (a.add (j * 7)))] 48)).heap.size) := Lib.hid (by rw [World.size_alloc]; omega)
          have HNW : Hid (∀ q u, (encA (a.add (j * 7)))[q]? = some u → (W.alloc (.cells #[.pointer (some (a.add (j * 7)))] 48)).cell? ((⟨W.heap.size, 0, none⟩ : Addr).add q) = some u) := Lib.hid (World.news_of_block (heap_alloc_new W _))
          have HTK : Hid ((ks.map (·.a)).reverse.take (i + 1) = (ks.map (·.a)).reverse.take i ++ [a.add (j * 7)]) := Lib.hid (by
            have hl : i < (ks.map (·.a)).reverse.length := by simp; omega
            rw [List.take_succ_eq_append_getElem hl]
            congr 2
            rw [List.getElem_reverse, hj, ← hka]
            congr 1
            simp; omega)
          have HM := Lib.hid hM
          have HT := Lib.hid ht
          have HV := Lib.hid hv'
          have HML := Lib.hid hMlt
          have hjlt : j < ks.length := by omega
          rw [← hj] at hlk ⊢
          clear hM ht hv' hMlt hrow' h4' hap hj hps hnot same hka hnl hbk hjl hi
          gi_wp2_with (first
            | (gi_at_lookup; refine wpListIn_lookup_run rfl 50 _ _ rfl _ _ _ rfl rfl hlk ?_)
            | (gi_at_builtin; refine wpListIn_rec_append encA_len (by omega) Try.underlying49 infoAdrE (by rfl) (by omega) rfl _ _ rfl (w.heap.size + 1) ((p.open :: rest).reverse.map (·.a) ++ (ks.map (·.a)).reverse.take i).length v' ((p.open :: rest).reverse.map (·.a) ++ (ks.map (·.a)).reverse.take i) (by rfl) HRA.out rfl (a.add (j * 7)) ⟨W.heap.size, 0, none⟩ 1 (by rfl) HNW.out (fun u hu => by rw [List.mem_singleton.1 hu]; rfl) HLN.out HBW.out ?_; intro v9 w9 hrow9 hg9 hv9; obtain ⟨A9, n9, c9, rfl⟩ : ∃ A n c, v9 = .slice A n c := (by obtain ⟨A, c, hv, _⟩ := RowR.has encA_len hrow9; exact ⟨A, _, c, hv⟩); have h49 : AheadE w9 b4 v' := HAP.out.kept hg9 HNR.out; have e49 := h49.cell; have f49 := h49.frozen; have HROW9 := Lib.hid hrow9; have HG9 := Lib.hid hg9; have HV9 := Lib.hid hv9; have HA9 := Lib.hid h49; clear hrow9 hg9 hv9 h49))
          have hs9 : w9.heap.size ≤ (w9.setCell ⟨b4, 0, none⟩ (Value.slice A9 n9 c9)).heap.size := (grownBy_setCell' w9 b4 _).size
          have hsA : (W.alloc (.cells #[.pointer (some (a.add (j * 7)))] 48)).heap.size = W.heap.size + 1 := by simp
          have hg9s := HG9.out.size
          have hne9 : some b4 ≠ (Value.slice A9 n9 c9).ownBlock := Boxed.not_row HA9.out (by decide) HROW9.out
          have hst9 : TurnsAt M W (w9.setCell ⟨b4, 0, none⟩ (Value.slice A9 n9 c9)) := ((below_turns (below_al (Below.refl _ W) (.cells #[.pointer (some (a.add (j * 7)))] 48))).trans (grown_turns HG9.out (fun b e => (HM.out b).2 (.inr e)))).trans (grown_turns (grownBy_setCell' w9 b4 _) (fun b e => by cases e; exact (HM.out b4).2 (.inl rfl)))
          refine ⟨fun b => b = b4 ∨ (Value.slice A9 n9 c9).ownBlock = some b, ⟨hst9, fun b hb => ?_, fun b hb => ?_⟩, (Value.slice A9 n9 c9), HA9.out.set _, ?_, ?_, fun b => Iff.rfl, HT.out.then hst9 fun b hb hlt => ?_⟩
          · rcases hb with rfl | hb
            · exact .inl ((HM.out _).2 (.inl rfl))
            · rcases HV9.out with h | h
              · exact .inl ((HM.out _).2 (.inr (h.symm.trans hb)))
              · right; rw [h] at hb; cases hb; omega
          · rcases hb with rfl | hb
            · exact Nat.lt_of_lt_of_le HA9.out.lt hs9
            · exact Nat.lt_of_lt_of_le (RowR.lt HROW9.out hb).2 hs9
          · have h9 : RowAE (w.heap.size + 1) (w9.setCell ⟨b4, 0, none⟩ (Value.slice A9 n9 c9)) (Value.slice A9 n9 c9) (((p.open :: rest).reverse.map (·.a) ++ (ks.map (·.a)).reverse.take i) ++ [a.add (j * 7)]) := ownsRow_setCell_other HROW9.out (a := ⟨b4, 0, none⟩) (fun e => hne9 e.symm) _
            have e9 : (((p.open :: rest).reverse.map (·.a) ++ (ks.map (·.a)).reverse.take i) ++ [a.add (j * 7)]) = (rest.map (·.a)).reverse ++ p.open.a :: ((ks.map (·.a)).reverse.take (i + 1)) := by rw [HTK.out]; simp
            rw [e9] at h9
            exact h9
          · rcases HV9.out with h | h
            · rcases HV.out with h2 | ⟨g', h2, h3⟩
              · exact .inl (h.trans h2)
              · exact .inr ⟨g', h.trans h2, by omega⟩
            · exact .inr ⟨_, h, by omega⟩
          · rcases (HM.out b).1 hb with h | h
            · exact .inl h
            · rcases HV.out with h2 | ⟨g', h2, h3⟩
              · exact .inr (h2 ▸ h)
              · rw [h2] at h; cases h; omega
      · have HC9 : Hid (rop = 3 ∨ rop = 4) := Lib.hid (by omega)
        subst f1
        gi_wp2_with (first
          | (gi_at_lookup; refine wpListIn_lookup_run rfl 50 _ _ rfl _ _ _ rfl rfl hlk ?_)
          | (gi_at_mapUpdate; refine wpListIn_update_run rfl 50 _ _ _ rfl _ _ _ rfl rfl rfl hup ?_))
        refine ⟨trivial, (HCP.out _ W4 (by rw [HBS.out.2.2.2]; exact HB4.out)).mono ?_⟩
        rintro e w5 ⟨⟨r2, u2, sv2⟩, S9, rfl, ho9, hb9⟩
        obtain ⟨A2, n2, c2, rfl⟩ : ∃ A n c, sv2 = .slice A n c := by obtain ⟨A, c, hv, _⟩ := ho9.has.st.at; exact ⟨A, _, c, hv⟩
        have hb5 := below_al hb9 (.cells #[.bool r2, .int .i64 u2, .slice A2 n2 c2] 33)
        have HQ5 := Lib.hid (HQ4.out.below hb5)
        have HO9 := Lib.hid ho9
        have HO5 := Lib.hid ((ho9.below (below_al (Below.refl _ _) (.cells #[.bool r2, .int .i64 u2, .slice A2 n2 c2] 33))).mono (B' := w.heap.size + 1) (by have := HS4.out; have := HR.out.sz; omega))
        have HN5 : Hid (∀ j u, (PthV.enc ⟨r2, u2, .slice A2 n2 c2⟩)[j]? = some u → (w5.alloc (.cells #[.bool r2, .int .i64 u2, .slice A2 n2 c2] 33)).cell? ((⟨w5.heap.size, 0, none⟩ : Addr).add j) = some u) := Lib.hid (World.news_of_block (heap_alloc_new w5 _))
        have HS5 : Hid (w.heap.size + 1 ≤ (w5.alloc (.cells #[.bool r2, .int .i64 u2, .slice A2 n2 c2] 33)).heap.size ∧ W4.heap.size ≤ (w5.alloc (.cells #[.bool r2, .int .i64 u2, .slice A2 n2 c2] 33)).heap.size) := Lib.hid (by have := HS4.out; have := HR.out.sz; have := hb5.size; omega)
        have HT5 : Hid (∀ W, (w5.alloc (.cells #[.bool r2, .int .i64 u2, .slice A2 n2 c2] 33)).grownBy W u3.ownBlock → TurnsAt (fun b => u3.ownBlock = some b) W4 W) := Lib.hid fun W hg => (below_turns hb5).trans (grown_turns hg (fun b e => e))
        have HBX : Hid (∀ W, TurnsAt (fun b => u3.ownBlock = some b) W4 W → Below (w.heap.size + 1) w0 W ∧ Boxed W wr.heap.size 48 (.pointer (some p.a))) := Lib.hid fun W ht => ⟨HB4.out.trans (ht.below (by have := HS4.out; have := HR.out.sz; omega) (fun b e => (HR.out.q.lt (.inl e)).1)), (ht.block _ HS4.out (fun e => by have := (HR.out.q.lt (.inl e)).2; omega)).trans HN4.out⟩
        clear hlk hup e4 e4X e5 e7X hcell e7 k0 k1 k2 k3 k4 k5 k6 hb5 hb9 ho9
        gi_wp2_with (gi_at_builtin; refine wpListIn_rec_append PthV.enc_len (by omega) Try.underlying29 infoPth (by rfl) (by omega) rfl _ _ rfl (w.heap.size + 1) R.length u3 R (by rfl) HQ5.out.row rfl ⟨r2, u2, .slice A2 n2 c2⟩ ⟨w5.heap.size, 0, none⟩ 1 (by rfl) HN5.out (pthV_one HO5.out) HLD.out HS5.out.1 ?_; intro o6 W6 hrow6 hg6 hv6; have HROW6 := Lib.hid hrow6; have HG6 := Lib.hid hg6; have HV6 := Lib.hid hv6; have HT6 := Lib.hid (HT5.out W6 hg6); have e7 := (HBX.out W6 HT6.out).2.cell; obtain ⟨k0, k1, k2, k3, k4, k5, k6⟩ := HEK.out W6 (HBX.out W6 HT6.out).1; dsimp only at k0 k1 k2 k3 k4 k5 k6; clear hrow6 hg6 hv6)
        have hS9 : ∀ b, S9 b → W4.heap.size ≤ b := fun b hb => (OwL.lt HO9.out.st b hb).1
        have HQ6 : Hid (OwnQ (w.heap.size + 1) W6 o6 (R ++ [⟨r2, u2, .slice A2 n2 c2⟩]) (done ++ hdE p.t.x) (fun i b => if i < R.length then K i b else S9 b)) := Lib.hid (by
          rw [HDE.out.1 HC9.out]
          exact HQ5.out.snoc HO5.out (fun b hb hs => by have := hS9 b hb; have := (HQ4.out.lt hs).2; omega) HROW6.out HG6.out HV6.out)
        have hS6 : ∀ b, OwnQ.S o6 (R ++ [⟨r2, u2, .slice A2 n2 c2⟩]) (fun i b => if i < R.length then K i b else S9 b) b → OwnQ.S u3 R K b ∨ W4.heap.size ≤ b := fun b hb => by
          rcases hb with hb | ⟨i, hi, hb⟩
          · rcases HV6.out with h | h
            · exact .inl (.inl (h.symm.trans hb))
            · rw [h] at hb; cases hb; exact .inr HS5.out.2
          · by_cases hlt : i < R.length
            · rw [if_pos hlt] at hb; exact .inl (.inr ⟨i, hlt, hb⟩)
            · rw [if_neg hlt] at hb; exact .inr (hS9 b hb)
        have HW6 := Lib.hid (HW4.out.same (w' := W6) (fun b hb => HT6.out.block b (HW4.out.lt hb) (fun h => HR.out.ap b (.inl h) hb)))
        have HAP6 : Hid (∀ b, OwnQ.S o6 (R ++ [⟨r2, u2, .slice A2 n2 c2⟩]) (fun i b => if i < R.length then K i b else S9 b) b → ¬ OwnWE b4 b5 bm (.slice (some ⟨g, 0, none⟩) (m + 1) c) b) := Lib.hid fun b hb ho => by
          rcases hS6 b hb with h | h
          · exact HR.out.ap b h ho
          · have := HW4.out.lt ho; omega
        have HMA6 : Hid (∀ D, IsMark ds D → ¬ OwnQ.S o6 (R ++ [⟨r2, u2, .slice A2 n2 c2⟩]) (fun i b => if i < R.length then K i b else S9 b) D ∧ ¬ OwnWE b4 b5 bm (.slice (some ⟨g, 0, none⟩) (m + 1) c) D) := Lib.hid fun D hD => ⟨fun hb => by
          rcases hS6 D hb with h | h
          · exact (HR.out.ma D hD).1 h
          · have := HMK4.out.lt hD; omega, (HR.out.ma D hD).2⟩
        have HB6 := Lib.hid (HBX.out W6 HT6.out).1
        have HN6 := Lib.hid (HBX.out W6 HT6.out).2
        have HS6 : Hid (wr.heap.size < W6.heap.size) := Lib.hid (by have := HS4.out; have := HT6.out.size; omega)
        have HMK6 := Lib.hid (HMK4.out.turns HT6.out (fun D hD h => (HR.out.ma D hD).1 (.inl h)))
        obtain ⟨R6, hR6⟩ : ∃ X, X = R ++ [⟨r2, u2, .slice A2 n2 c2⟩] := ⟨_, rfl⟩
        obtain ⟨K6, hK6⟩ : ∃ X, X = (fun i b => if i < R.length then K i b else S9 b) := ⟨_, rfl⟩
        rw [← hR6, ← hK6] at HQ6 HAP6 HMA6
        clear hR6 hK6 hS6 hS9 HROW6 HG6 HV6 HT6 HBX HT5 HN5 HO5 HO9 HQ5 HS5
        obtain ⟨Ak, capk', hrk', Rk, hat⟩ := KidsVE.at HKV.out (W := W6) (fun b hb => HB6.out.block b hb)
        have hrk' : Value.slice A ks.length capk = .slice Ak ks.length capk' := hrk'
        injection hrk' with e1 _ e3
        subst e1 e3
        refine ⟨trivial, (backS_inE Fence.wide _ trivial rfl _ _ _ _).mono ?_⟩
        rintro e w7 ⟨rfl, rfl⟩
        gi_wp2
        obtain ⟨W7, hW7⟩ : ∃ X, X = W6.alloc (.cells #[.slice A ks.length capk] 34) := ⟨_, rfl⟩
        have hb7 : Below W6.heap.size W6 W7 := by rw [hW7]; exact below_al (Below.refl _ _) _
        have hs7 : W7.heap.size = W6.heap.size + 1 := by rw [hW7]; simp
        have hbs : W7.heap[W6.heap.size]? = some (.cells #[.slice A ks.length capk] 34 (0, 0)) := by rw [hW7]; exact heap_alloc_new _ _
        rw [← hW7]
        clear hW7 e7 k0 k1 k2 k3 k4 k5 k6
        have hsz6 := HS6.out
        have hszr := HR.out.sz
        have hw7 := HW6.out.same (w' := W7) (fun b hb => hb7.block b (HW6.out.lt hb))
        have hB7 : Below (w.heap.size + 1) w0 W7 := HB6.out.trans (hb7.mono (by omega))
        have hn7 : Boxed W7 wr.heap.size 48 (.pointer (some p.a)) := (hb7.block _ HS6.out).trans HN6.out
        have hat7 : ∀ j (hj : j < ks.length), ∃ a, A = some a ∧ a.block < w.heap.size + 1 ∧ (ks.map (·.a))[j]'(by simpa using hj) = a.add (j * 7) ∧ NlE W7 (a.add (j * 7)) (Rk j) ∧ Blk w0 (a.add (j * 7)) := fun j hj => by
          obtain ⟨a, h1, h2, h3, h4, h5⟩ := hat j (by simpa using hj)
          have h6 := (HKGA.out _ (List.getElem_mem hj)).2
          have h7 : ks[j].a = a.add (j * 7) := by rw [← h3]; simp
          rw [h3] at h4
          rw [h7] at h6
          exact ⟨a, h1, h2, h3, h4.at (hb7.block _ (by rw [addr_blk]; omega)), h6⟩
        have hst : (ks ++ p.open :: rest).length ≤ 2097154 := by
          have h1 := len_weight (ks ++ p.open :: rest)
          have := HLESS.out
          have := HR.out.wB
          omega
        have hkl : ks.length ≤ 2097154 := by rw [List.length_append] at hst; omega
        have hseq := backS_seqE Fence.wide 7 trivial rfl (by omega) W6.heap.size (w.heap.size + 1) ks.length capk A Rk (by omega) W7 (by omega) hbs (fun j hj => by obtain ⟨a, h1, h2, h3, h4, _⟩ := hat7 j hj; exact ⟨a, h1, h2, h4⟩)
        obtain ⟨VV, hVV⟩ : ∃ V, V = Value.slice (some ⟨g, 0, none⟩) (m + 1) c := ⟨_, rfl⟩
        rw [← hVV] at hw7 HAP6 HMA6 HWX
        have hgl : ∀ b, VV.ownBlock = some b → w.heap.size + 1 ≤ b ∧ b < wr.heap.size := fun b e => ⟨(RowR.lt hw7.row e).1, HR.out.ws.lt (.inr (.inr (.inr (by rw [← hVV]; exact e))))⟩
        have hb4l : b4 < wr.heap.size := HR.out.ws.lt (.inl rfl)
        have hb5l : b5 < wr.heap.size := HR.out.ws.lt (.inr (.inl rfl))
        have hbml : bm < wr.heap.size := HR.out.ws.lt (.inr (.inr (.inl rfl)))
        have HVV := Lib.hid hVV
        have HW7 := Lib.hid hw7
        have HB7 := Lib.hid hB7
        have HN7 := Lib.hid hn7
        have HAT7 := Lib.hid hat7
        have HST := Lib.hid hst
        have HGL := Lib.hid hgl
        have HBB7 := Lib.hid hb7
        clear hat hbs hb7 hw7 hB7 hn7 hat7 hst hgl hVV HWX hrk
        refine wpIn_rangeFunc_ownB (n := 8) rfl (by omega) (gf := 30) (lb := #[.pointer (some ⟨W6.heap.size, 0, none⟩)]) rfl trivial (enters_of Try.func30 (by kernel_rfl) rfl) hseq (fun b hb => by rcases hb with h | h <;> omega) (Below.refl _ _) ?sizes
          (fun i M W => ∃ v', AheadE W b4 v' ∧ RowAE (w.heap.size + 1) W v' ((p.open :: rest).reverse.map (·.a) ++ (ks.map (·.a)).reverse.take i) ∧ (v'.ownBlock = VV.ownBlock ∨ ∃ g', v'.ownBlock = some g' ∧ W7.heap.size ≤ g') ∧ (∀ b, M b ↔ b = b4 ∨ v'.ownBlock = some b) ∧ TurnsAt (fun b => b = b4 ∨ VV.ownBlock = some b) W7 W) (fun _ _ _ _ => False) ?stab (fun _ _ _ _ _ _ h _ _ _ => h)
          (fun b => b = b4 ∨ VV.ownBlock = some b) ?low ?start 58 59 8 (fun i => .int .i64 ((ks.length - (i + 1) : Nat) : Int)) (fun i => (Rk (ks.length - (i + 1))).val) ?assign ?body ?done ?stop
        case stop => intro D c i M W _ _ h _; exact h.elim
        case sizes =>
          intro x hx
          obtain ⟨j, _, rfl⟩ := List.mem_map.1 hx
          rfl
        case low =>
          rintro b (rfl | h)
          · exact ⟨by omega, fun h => by have := HBS.out.1; omega⟩
          · have := HGL.out b h; exact ⟨by omega, fun h => by omega⟩
        case start => exact ⟨VV, HW7.out.ah, by rw [List.take_zero, List.append_nil]; exact HW7.out.row, .inl rfl, fun b => Iff.rfl, TurnsAt.refl _ _⟩
        case stab =>
          rintro i M K A C ⟨v', h4', hrow', hv', hM, ht⟩ hlt ht' hK
          have keep : ∀ b, M b → C.heap[b]? = A.heap[b]? := fun b hb => ht'.block b (hlt b hb) (fun h => (hK b h).2 hb)
          exact ⟨v', (keep b4 ((hM b4).2 (.inl rfl))).trans h4', rowR_frame hrow' (fun b e => keep b ((hM b).2 (.inr e))), hv', hM, ht.then ht' (fun b h hb => by have := (hK b h).1; omega)⟩
        case assign =>
          intro l i hi W K hK
          rw [downS_getE Rk ks.length i hi]
          simp only [List.setIfInBounds_toArray, List.set_cons_zero, List.set_cons_succ] at hK
          gi_wp2
          exact hK
        case done =>
          rintro D M W hD hnM ⟨v', h4', hrow', hv', hM, ht⟩ hK
          rw [downS_lengthE, List.take_of_length_le (by simp)] at hrow'
          have hws := ws_growE HW7.out ht h4' hrow' HKCL.out HKGA.out HWI2.out
          have hWs := ht.size
          have HFIN : Hid (PRel d B w0 w.heap.size b4 b5 bm (ptsN t) (weight (ks ++ p.open :: rest)) o6 ({ target := .collected D, args := #[] } :: ds) W (ks ++ p.open :: rest) (done ++ hdE p.t.x) R6 K6 v') := Lib.hid
            { wt := Nat.le_refl _, wB := by have := HR.out.wB; have := HLESS.out; omega, say := HSAY.out
              gd := fun i hi => by
                rcases List.mem_append.1 hi with hi | hi
                · exact HKG.out i hi
                · rcases List.mem_cons.1 hi with rfl | hi
                  · exact (HR.out.gd p (by simp)).open
                  · exact HR.out.gd i (List.mem_cons_of_mem _ hi)
              q := HQ6.out.frame fun b hb => (ht.block b (by have := (HQ6.out.lt hb).2; omega) (fun h => HAP6.out b hb (h.elim .inl (fun h => .inr (.inr (.inr h)))))).trans (HBB7.out.block b (HQ6.out.lt hb).2)
              ws := hws
              ap := fun b hb ho => by
                have hbl := (HQ6.out.lt hb).2
                rcases ho with h | h | h | h
                · exact HAP6.out b hb (.inl h)
                · exact HAP6.out b hb (.inr (.inl h))
                · exact HAP6.out b hb (.inr (.inr (.inl h)))
                · rcases hv' with h2 | ⟨g', h2, h3⟩
                  · exact HAP6.out b hb (.inr (.inr (.inr (h2.symm.trans h))))
                  · rw [h2] at h; cases h; omega
              be := HB7.out.trans (ht.below (by omega) (fun b h => by
                rcases h with h | h
                · have := HBS.out.1; omega
                · exact (HGL.out b h).1))
              sz := by omega
              mks := Marks.cons ((HMK6.out.below HBB7.out).turns ht (fun E hE h => (HMA6.out E hE).2 (h.elim .inl (fun h => .inr (.inr (.inr h)))))) (by omega) hK (fun hm => by have := HMK6.out.lt hm; omega)
              ma := fun E hE => by
                rcases isMark_cons hE with rfl | hE
                · refine ⟨fun h => by have := (HQ6.out.lt h).2; omega, fun h => ?_⟩
                  rcases h with h | h | h | h
                  · exact hnM ((hM _).2 (.inl h))
                  · omega
                  · omega
                  · exact hnM ((hM _).2 (.inr h))
                · have hEl := HMK6.out.lt hE
                  refine ⟨(HMA6.out E hE).1, fun h => ?_⟩
                  rcases h with h | h | h | h
                  · exact (HMA6.out E hE).2 (.inl h)
                  · exact (HMA6.out E hE).2 (.inr (.inl h))
                  · exact (HMA6.out E hE).2 (.inr (.inr (.inl h)))
                  · rcases hv' with h2 | ⟨g', h2, h3⟩
                    · exact (HMA6.out E hE).2 (.inr (.inr (.inr (h2.symm.trans h))))
                    · rw [h2] at h; cases h; omega }
          clear hws h4' hrow' hv' hM ht hK
          gi_wp2
          gi_roundg (weight (ks ++ p.open :: rest))
          case measure => have := HLESS.out; have := HR.out.wt; omega
          case rel => exact ⟨ks ++ p.open :: rest, done ++ hdE p.t.x, R6, K6, v', HFIN⟩
        case body =>
          rintro l i hi M W ⟨v', h4', hrow', hv', hM, ht⟩ hMlt hsz
          simp only [List.setIfInBounds_toArray, List.set_cons_zero, List.set_cons_succ]
          rw [downS_lengthE] at hi
          have hjl : ks.length - (i + 1) < ks.length := by omega
          obtain ⟨a, rfl, hab, hka, hnl, hbk⟩ := HAT7.out _ hjl
          have same : ∀ b, b < W7.heap.size → b ≠ b4 → VV.ownBlock ≠ some b → W.heap[b]? = W7.heap[b]? := fun b h1 h2 h3 => ht.block b h1 (fun h => h.elim h2 h3)
          obtain ⟨m1, m2, m3, m4⟩ := HW7.out.map_ne
          have e5 : W.cell? ⟨b5, 0, none⟩ = some (.map (some bm)) := Boxed.cell ((same b5 HW7.out.ar.lt m4 (Boxed.not_row HW7.out.ar (by decide) HW7.out.row).symm).trans HW7.out.ar)
          have e7 : W.cell? ⟨wr.heap.size, 0, none⟩ = some (.pointer (some p.a)) := Boxed.cell ((same _ HN7.out.lt (by omega) (fun e => by have := HGL.out _ e; omega)).trans HN7.out)
          have hB : Below (w.heap.size + 1) w0 W := HB7.out.trans (ht.below (by omega) (fun b h => by
            rcases h with h | h
            · have := HBS.out.1; omega
            · exact (HGL.out b h).1))
          obtain ⟨k0, k1, k2, k3, k4, k5, k6⟩ := HEK.out W hB
          dsimp only at k0 k1 k2 k3 k4 k5 k6
          have e4 := h4'.cell
          have hps : PSet W bm (opens (p.open :: rest)).reverse := HW7.out.ps.same (same bm (HW7.out.lt (.inr (.inr (.inl rfl)))) m1 m3)
          have hnot : a.add ((ks.length - (i + 1)) * 7) ∉ (opens (p.open :: rest)).reverse := fun h => by
            obtain ⟨q, hq, _, hqa⟩ := opens_mem (List.mem_reverse.1 h)
            have h1 := HWI2.out.nd
            rw [List.map_append] at h1
            exact (List.nodup_append.1 h1).2.2 (a.add ((ks.length - (i + 1)) * 7)) (by rw [← hka]; exact List.getElem_mem _) q.a (List.mem_map.2 ⟨q, hq, rfl⟩) hqa.symm
          have hlk := run_lookup_ptr (w := W) pkey9E hps (HBLK.out _ (by rw [addr_blk]; exact hab) hbk W hB) (fun x hx => by
            obtain ⟨q, hq, _, rfl⟩ := opens_mem (List.mem_reverse.1 hx)
            exact HBLK.out _ (HW7.out.gd q hq).1 (HW7.out.gd q hq).2 W hB)
          rw [decide_eq_false hnot] at hlk
          obtain ⟨j, hj⟩ : ∃ j, j = ks.length - (i + 1) := ⟨_, rfl⟩
          have hap : AheadE (W.alloc (.cells #[.pointer (some (a.add (j * 7)))] 48)) b4 v' := Boxed.alloc h4' _
          have HAP := Lib.hid hap
          have HRA : Hid (RowAE (w.heap.size + 1) (W.alloc (.cells #[.pointer (some (a.add (j * 7)))] 48)) v' ((p.open :: rest).reverse.map (·.a) ++ (ks.map (·.a)).reverse.take i)) := Lib.hid (RowR.alloc hrow' _)
          have HNR := Lib.hid (Boxed.not_row h4' (by decide) hrow')
          have HLN : Hid (((p.open :: rest).reverse.map (·.a) ++ (ks.map (·.a)).reverse.take i).length + 1 ≤ 4194304) := Lib.hid (by
            have h1 := HST.out
            rw [List.length_append] at h1
            rw [List.length_append, List.length_map, List.length_reverse, List.length_take, List.length_reverse, List.length_map]
            omega)
          have HBW : Hid (w.heap.size + 1 ≤ (W.alloc (.cells #[.pointer (some (a.add (j * 7)))] 48)).heap.size) := Lib.hid (by rw [World.size_alloc]; omega)
          have HNW : Hid (∀ q u, (encA (a.add (j * 7)))[q]? = some u → (W.alloc (.cells #[.pointer (some (a.add (j * 7)))] 48)).cell? ((⟨W.heap.size, 0, none⟩ : Addr).add q) = some u) := Lib.hid (World.news_of_block (heap_alloc_new W _))
          have HTK : Hid ((ks.map (·.a)).reverse.take (i + 1) = (ks.map (·.a)).reverse.take i ++ [a.add (j * 7)]) := Lib.hid (by
            have hl : i < (ks.map (·.a)).reverse.length := by simp; omega
            rw [List.take_succ_eq_append_getElem hl]
            congr 2
            rw [List.getElem_reverse, hj, ← hka]
            congr 1
            simp; omega)
          have HM := Lib.hid hM
          have HT := Lib.hid ht
          have HV := Lib.hid hv'
          have HML := Lib.hid hMlt
          have hjlt : j < ks.length := by omega
          rw [← hj] at hlk ⊢
          clear hM ht hv' hMlt hrow' h4' hap hj hps hnot same hka hnl hbk hjl hi
          gi_wp2_with (first
            | (gi_at_lookup; refine wpListIn_lookup_run rfl 50 _ _ rfl _ _ _ rfl rfl hlk ?_)
            | (gi_at_builtin; refine wpListIn_rec_append encA_len (by omega) Try.underlying49 infoAdrE (by rfl) (by omega) rfl _ _ rfl (w.heap.size + 1) ((p.open :: rest).reverse.map (·.a) ++ (ks.map (·.a)).reverse.take i).length v' ((p.open :: rest).reverse.map (·.a) ++ (ks.map (·.a)).reverse.take i) (by rfl) HRA.out rfl (a.add (j * 7)) ⟨W.heap.size, 0, none⟩ 1 (by rfl) HNW.out (fun u hu => by rw [List.mem_singleton.1 hu]; rfl) HLN.out HBW.out ?_; intro v9 w9 hrow9 hg9 hv9; obtain ⟨A9, n9, c9, rfl⟩ : ∃ A n c, v9 = .slice A n c := (by obtain ⟨A, c, hv, _⟩ := RowR.has encA_len hrow9; exact ⟨A, _, c, hv⟩); have h49 : AheadE w9 b4 v' := HAP.out.kept hg9 HNR.out; have e49 := h49.cell; have f49 := h49.frozen; have HROW9 := Lib.hid hrow9; have HG9 := Lib.hid hg9; have HV9 := Lib.hid hv9; have HA9 := Lib.hid h49; clear hrow9 hg9 hv9 h49))
          have hs9 : w9.heap.size ≤ (w9.setCell ⟨b4, 0, none⟩ (Value.slice A9 n9 c9)).heap.size := (grownBy_setCell' w9 b4 _).size
          have hsA : (W.alloc (.cells #[.pointer (some (a.add (j * 7)))] 48)).heap.size = W.heap.size + 1 := by simp
          have hg9s := HG9.out.size
          have hne9 : some b4 ≠ (Value.slice A9 n9 c9).ownBlock := Boxed.not_row HA9.out (by decide) HROW9.out
          have hst9 : TurnsAt M W (w9.setCell ⟨b4, 0, none⟩ (Value.slice A9 n9 c9)) := ((below_turns (below_al (Below.refl _ W) (.cells #[.pointer (some (a.add (j * 7)))] 48))).trans (grown_turns HG9.out (fun b e => (HM.out b).2 (.inr e)))).trans (grown_turns (grownBy_setCell' w9 b4 _) (fun b e => by cases e; exact (HM.out b4).2 (.inl rfl)))
          refine ⟨fun b => b = b4 ∨ (Value.slice A9 n9 c9).ownBlock = some b, ⟨hst9, fun b hb => ?_, fun b hb => ?_⟩, (Value.slice A9 n9 c9), HA9.out.set _, ?_, ?_, fun b => Iff.rfl, HT.out.then hst9 fun b hb hlt => ?_⟩
          · rcases hb with rfl | hb
            · exact .inl ((HM.out _).2 (.inl rfl))
            · rcases HV9.out with h | h
              · exact .inl ((HM.out _).2 (.inr (h.symm.trans hb)))
              · right; rw [h] at hb; cases hb; omega
          · rcases hb with rfl | hb
            · exact Nat.lt_of_lt_of_le HA9.out.lt hs9
            · exact Nat.lt_of_lt_of_le (RowR.lt HROW9.out hb).2 hs9
          · have h9 : RowAE (w.heap.size + 1) (w9.setCell ⟨b4, 0, none⟩ (Value.slice A9 n9 c9)) (Value.slice A9 n9 c9) (((p.open :: rest).reverse.map (·.a) ++ (ks.map (·.a)).reverse.take i) ++ [a.add (j * 7)]) := ownsRow_setCell_other HROW9.out (a := ⟨b4, 0, none⟩) (fun e => hne9 e.symm) _
            have e9 : (((p.open :: rest).reverse.map (·.a) ++ (ks.map (·.a)).reverse.take i) ++ [a.add (j * 7)]) = (rest.map (·.a)).reverse ++ p.open.a :: ((ks.map (·.a)).reverse.take (i + 1)) := by rw [HTK.out]; simp
            rw [e9] at h9
            exact h9
          · rcases HV9.out with h | h
            · rcases HV.out with h2 | ⟨g', h2, h3⟩
              · exact .inl (h.trans h2)
              · exact .inr ⟨g', h.trans h2, by omega⟩
            · exact .inr ⟨_, h, by omega⟩
          · rcases (HM.out b).1 hb with h | h
            · exact .inl h
            · rcases HV.out with h2 | ⟨g', h2, h3⟩
              · exact .inr (h2 ▸ h)
              · rw [h2] at h; cases h; omega
      · have HC9 : Hid (¬ (rop = 3 ∨ rop = 4)) := Lib.hid (fun h => h.elim f1 f2)
        have f3 : (rop == 3) = false := by simp [f1]
        have f4 : (rop == 4) = false := by simp [f2]
        have HD6 : Hid (done ++ hdE p.t.x = done) := Lib.hid (by rw [HDE.out.2 HC9.out, List.append_nil])
        gi_wp2_with (first
          | (gi_at_lookup; refine wpListIn_lookup_run rfl 50 _ _ rfl _ _ _ rfl rfl hlk ?_)
          | (gi_at_mapUpdate; refine wpListIn_update_run rfl 50 _ _ _ rfl _ _ _ rfl rfl rfl hup ?_))
        clear hlk hup e4 e4X e5 e7X hcell
        obtain ⟨W6, rfl⟩ : ∃ X, X = W4 := ⟨_, rfl⟩
        obtain ⟨o6, rfl⟩ : ∃ X, X = u3 := ⟨_, rfl⟩
        obtain ⟨R6, rfl⟩ : ∃ X, X = R := ⟨_, rfl⟩
        obtain ⟨K6, rfl⟩ : ∃ X, X = K := ⟨_, rfl⟩
        have HQ6 : Hid (OwnQ (w.heap.size + 1) W6 o6 R6 (done ++ hdE p.t.x) K6) := Lib.hid (by rw [HD6.out]; exact HQ4.out)
        have HW6 := HW4
        have HAP6 : Hid (∀ b, OwnQ.S o6 R6 K6 b → ¬ OwnWE b4 b5 bm (.slice (some ⟨g, 0, none⟩) (m + 1) c) b) := Lib.hid HR.out.ap
        have HB6 := HB4
        have HMK6 := HMK4
        have HMA6 : Hid (∀ D, IsMark ds D → ¬ OwnQ.S o6 R6 K6 D ∧ ¬ OwnWE b4 b5 bm (.slice (some ⟨g, 0, none⟩) (m + 1) c) D) := Lib.hid HR.out.ma
        have HN6 := HN4
        have HS6 := HS4
        obtain ⟨Ak, capk', hrk', Rk, hat⟩ := KidsVE.at HKV.out (W := W6) (fun b hb => HB6.out.block b hb)
        have hrk' : Value.slice A ks.length capk = .slice Ak ks.length capk' := hrk'
        injection hrk' with e1 _ e3
        subst e1 e3
        refine ⟨trivial, (backS_inE Fence.wide _ trivial rfl _ _ _ _).mono ?_⟩
        rintro e w7 ⟨rfl, rfl⟩
        gi_wp2
        obtain ⟨W7, hW7⟩ : ∃ X, X = W6.alloc (.cells #[.slice A ks.length capk] 34) := ⟨_, rfl⟩
        have hb7 : Below W6.heap.size W6 W7 := by rw [hW7]; exact below_al (Below.refl _ _) _
        have hs7 : W7.heap.size = W6.heap.size + 1 := by rw [hW7]; simp
        have hbs : W7.heap[W6.heap.size]? = some (.cells #[.slice A ks.length capk] 34 (0, 0)) := by rw [hW7]; exact heap_alloc_new _ _
        rw [← hW7]
        clear hW7 e7 k0 k1 k2 k3 k4 k5 k6
        have hsz6 := HS6.out
        have hszr := HR.out.sz
        have hw7 := HW6.out.same (w' := W7) (fun b hb => hb7.block b (HW6.out.lt hb))
        have hB7 : Below (w.heap.size + 1) w0 W7 := HB6.out.trans (hb7.mono (by omega))
        have hn7 : Boxed W7 wr.heap.size 48 (.pointer (some p.a)) := (hb7.block _ HS6.out).trans HN6.out
        have hat7 : ∀ j (hj : j < ks.length), ∃ a, A = some a ∧ a.block < w.heap.size + 1 ∧ (ks.map (·.a))[j]'(by simpa using hj) = a.add (j * 7) ∧ NlE W7 (a.add (j * 7)) (Rk j) ∧ Blk w0 (a.add (j * 7)) := fun j hj => by
          obtain ⟨a, h1, h2, h3, h4, h5⟩ := hat j (by simpa using hj)
          have h6 := (HKGA.out _ (List.getElem_mem hj)).2
          have h7 : ks[j].a = a.add (j * 7) := by rw [← h3]; simp
          rw [h3] at h4
          rw [h7] at h6
          exact ⟨a, h1, h2, h3, h4.at (hb7.block _ (by rw [addr_blk]; omega)), h6⟩
        have hst : (ks ++ p.open :: rest).length ≤ 2097154 := by
          have h1 := len_weight (ks ++ p.open :: rest)
          have := HLESS.out
          have := HR.out.wB
          omega
        have hkl : ks.length ≤ 2097154 := by rw [List.length_append] at hst; omega
        have hseq := backS_seqE Fence.wide 7 trivial rfl (by omega) W6.heap.size (w.heap.size + 1) ks.length capk A Rk (by omega) W7 (by omega) hbs (fun j hj => by obtain ⟨a, h1, h2, h3, h4, _⟩ := hat7 j hj; exact ⟨a, h1, h2, h4⟩)
        obtain ⟨VV, hVV⟩ : ∃ V, V = Value.slice (some ⟨g, 0, none⟩) (m + 1) c := ⟨_, rfl⟩
        rw [← hVV] at hw7 HAP6 HMA6 HWX
        have hgl : ∀ b, VV.ownBlock = some b → w.heap.size + 1 ≤ b ∧ b < wr.heap.size := fun b e => ⟨(RowR.lt hw7.row e).1, HR.out.ws.lt (.inr (.inr (.inr (by rw [← hVV]; exact e))))⟩
        have hb4l : b4 < wr.heap.size := HR.out.ws.lt (.inl rfl)
        have hb5l : b5 < wr.heap.size := HR.out.ws.lt (.inr (.inl rfl))
        have hbml : bm < wr.heap.size := HR.out.ws.lt (.inr (.inr (.inl rfl)))
        have HVV := Lib.hid hVV
        have HW7 := Lib.hid hw7
        have HB7 := Lib.hid hB7
        have HN7 := Lib.hid hn7
        have HAT7 := Lib.hid hat7
        have HST := Lib.hid hst
        have HGL := Lib.hid hgl
        have HBB7 := Lib.hid hb7
        clear hat hbs hb7 hw7 hB7 hn7 hat7 hst hgl hVV HWX hrk
        refine wpIn_rangeFunc_ownB (n := 8) rfl (by omega) (gf := 30) (lb := #[.pointer (some ⟨W6.heap.size, 0, none⟩)]) rfl trivial (enters_of Try.func30 (by kernel_rfl) rfl) hseq (fun b hb => by rcases hb with h | h <;> omega) (Below.refl _ _) ?sizes
          (fun i M W => ∃ v', AheadE W b4 v' ∧ RowAE (w.heap.size + 1) W v' ((p.open :: rest).reverse.map (·.a) ++ (ks.map (·.a)).reverse.take i) ∧ (v'.ownBlock = VV.ownBlock ∨ ∃ g', v'.ownBlock = some g' ∧ W7.heap.size ≤ g') ∧ (∀ b, M b ↔ b = b4 ∨ v'.ownBlock = some b) ∧ TurnsAt (fun b => b = b4 ∨ VV.ownBlock = some b) W7 W) (fun _ _ _ _ => False) ?stab (fun _ _ _ _ _ _ h _ _ _ => h)
          (fun b => b = b4 ∨ VV.ownBlock = some b) ?low ?start 58 59 8 (fun i => .int .i64 ((ks.length - (i + 1) : Nat) : Int)) (fun i => (Rk (ks.length - (i + 1))).val) ?assign ?body ?done ?stop
        case stop => intro D c i M W _ _ h _; exact h.elim
        case sizes =>
          intro x hx
          obtain ⟨j, _, rfl⟩ := List.mem_map.1 hx
          rfl
        case low =>
          rintro b (rfl | h)
          · exact ⟨by omega, fun h => by have := HBS.out.1; omega⟩
          · have := HGL.out b h; exact ⟨by omega, fun h => by omega⟩
        case start => exact ⟨VV, HW7.out.ah, by rw [List.take_zero, List.append_nil]; exact HW7.out.row, .inl rfl, fun b => Iff.rfl, TurnsAt.refl _ _⟩
        case stab =>
          rintro i M K A C ⟨v', h4', hrow', hv', hM, ht⟩ hlt ht' hK
          have keep : ∀ b, M b → C.heap[b]? = A.heap[b]? := fun b hb => ht'.block b (hlt b hb) (fun h => (hK b h).2 hb)
          exact ⟨v', (keep b4 ((hM b4).2 (.inl rfl))).trans h4', rowR_frame hrow' (fun b e => keep b ((hM b).2 (.inr e))), hv', hM, ht.then ht' (fun b h hb => by have := (hK b h).1; omega)⟩
        case assign =>
          intro l i hi W K hK
          rw [downS_getE Rk ks.length i hi]
          simp only [List.setIfInBounds_toArray, List.set_cons_zero, List.set_cons_succ] at hK
          gi_wp2
          exact hK
        case done =>
          rintro D M W hD hnM ⟨v', h4', hrow', hv', hM, ht⟩ hK
          rw [downS_lengthE, List.take_of_length_le (by simp)] at hrow'
          have hws := ws_growE HW7.out ht h4' hrow' HKCL.out HKGA.out HWI2.out
          have hWs := ht.size
          have HFIN : Hid (PRel d B w0 w.heap.size b4 b5 bm (ptsN t) (weight (ks ++ p.open :: rest)) o6 ({ target := .collected D, args := #[] } :: ds) W (ks ++ p.open :: rest) (done ++ hdE p.t.x) R6 K6 v') := Lib.hid
            { wt := Nat.le_refl _, wB := by have := HR.out.wB; have := HLESS.out; omega, say := HSAY.out
              gd := fun i hi => by
                rcases List.mem_append.1 hi with hi | hi
                · exact HKG.out i hi
                · rcases List.mem_cons.1 hi with rfl | hi
                  · exact (HR.out.gd p (by simp)).open
                  · exact HR.out.gd i (List.mem_cons_of_mem _ hi)
              q := HQ6.out.frame fun b hb => (ht.block b (by have := (HQ6.out.lt hb).2; omega) (fun h => HAP6.out b hb (h.elim .inl (fun h => .inr (.inr (.inr h)))))).trans (HBB7.out.block b (HQ6.out.lt hb).2)
              ws := hws
              ap := fun b hb ho => by
                have hbl := (HQ6.out.lt hb).2
                rcases ho with h | h | h | h
                · exact HAP6.out b hb (.inl h)
                · exact HAP6.out b hb (.inr (.inl h))
                · exact HAP6.out b hb (.inr (.inr (.inl h)))
                · rcases hv' with h2 | ⟨g', h2, h3⟩
                  · exact HAP6.out b hb (.inr (.inr (.inr (h2.symm.trans h))))
                  · rw [h2] at h; cases h; omega
              be := HB7.out.trans (ht.below (by omega) (fun b h => by
                rcases h with h | h
                · have := HBS.out.1; omega
                · exact (HGL.out b h).1))
              sz := by omega
              mks := Marks.cons ((HMK6.out.below HBB7.out).turns ht (fun E hE h => (HMA6.out E hE).2 (h.elim .inl (fun h => .inr (.inr (.inr h)))))) (by omega) hK (fun hm => by have := HMK6.out.lt hm; omega)
              ma := fun E hE => by
                rcases isMark_cons hE with rfl | hE
                · refine ⟨fun h => by have := (HQ6.out.lt h).2; omega, fun h => ?_⟩
                  rcases h with h | h | h | h
                  · exact hnM ((hM _).2 (.inl h))
                  · omega
                  · omega
                  · exact hnM ((hM _).2 (.inr h))
                · have hEl := HMK6.out.lt hE
                  refine ⟨(HMA6.out E hE).1, fun h => ?_⟩
                  rcases h with h | h | h | h
                  · exact (HMA6.out E hE).2 (.inl h)
                  · exact (HMA6.out E hE).2 (.inr (.inl h))
                  · exact (HMA6.out E hE).2 (.inr (.inr (.inl h)))
                  · rcases hv' with h2 | ⟨g', h2, h3⟩
                    · exact (HMA6.out E hE).2 (.inr (.inr (.inr (h2.symm.trans h))))
                    · rw [h2] at h; cases h; omega }
          clear hws h4' hrow' hv' hM ht hK
          gi_wp2
          gi_roundg (weight (ks ++ p.open :: rest))
          case measure => have := HLESS.out; have := HR.out.wt; omega
          case rel => exact ⟨ks ++ p.open :: rest, done ++ hdE p.t.x, R6, K6, v', HFIN⟩
        case body =>
          rintro l i hi M W ⟨v', h4', hrow', hv', hM, ht⟩ hMlt hsz
          simp only [List.setIfInBounds_toArray, List.set_cons_zero, List.set_cons_succ]
          rw [downS_lengthE] at hi
          have hjl : ks.length - (i + 1) < ks.length := by omega
          obtain ⟨a, rfl, hab, hka, hnl, hbk⟩ := HAT7.out _ hjl
          have same : ∀ b, b < W7.heap.size → b ≠ b4 → VV.ownBlock ≠ some b → W.heap[b]? = W7.heap[b]? := fun b h1 h2 h3 => ht.block b h1 (fun h => h.elim h2 h3)
          obtain ⟨m1, m2, m3, m4⟩ := HW7.out.map_ne
          have e5 : W.cell? ⟨b5, 0, none⟩ = some (.map (some bm)) := Boxed.cell ((same b5 HW7.out.ar.lt m4 (Boxed.not_row HW7.out.ar (by decide) HW7.out.row).symm).trans HW7.out.ar)
          have e7 : W.cell? ⟨wr.heap.size, 0, none⟩ = some (.pointer (some p.a)) := Boxed.cell ((same _ HN7.out.lt (by omega) (fun e => by have := HGL.out _ e; omega)).trans HN7.out)
          have hB : Below (w.heap.size + 1) w0 W := HB7.out.trans (ht.below (by omega) (fun b h => by
            rcases h with h | h
            · have := HBS.out.1; omega
            · exact (HGL.out b h).1))
          obtain ⟨k0, k1, k2, k3, k4, k5, k6⟩ := HEK.out W hB
          dsimp only at k0 k1 k2 k3 k4 k5 k6
          have e4 := h4'.cell
          have hps : PSet W bm (opens (p.open :: rest)).reverse := HW7.out.ps.same (same bm (HW7.out.lt (.inr (.inr (.inl rfl)))) m1 m3)
          have hnot : a.add ((ks.length - (i + 1)) * 7) ∉ (opens (p.open :: rest)).reverse := fun h => by
            obtain ⟨q, hq, _, hqa⟩ := opens_mem (List.mem_reverse.1 h)
            have h1 := HWI2.out.nd
            rw [List.map_append] at h1
            exact (List.nodup_append.1 h1).2.2 (a.add ((ks.length - (i + 1)) * 7)) (by rw [← hka]; exact List.getElem_mem _) q.a (List.mem_map.2 ⟨q, hq, rfl⟩) hqa.symm
          have hlk := run_lookup_ptr (w := W) pkey9E hps (HBLK.out _ (by rw [addr_blk]; exact hab) hbk W hB) (fun x hx => by
            obtain ⟨q, hq, _, rfl⟩ := opens_mem (List.mem_reverse.1 hx)
            exact HBLK.out _ (HW7.out.gd q hq).1 (HW7.out.gd q hq).2 W hB)
          rw [decide_eq_false hnot] at hlk
          obtain ⟨j, hj⟩ : ∃ j, j = ks.length - (i + 1) := ⟨_, rfl⟩
          have hap : AheadE (W.alloc (.cells #[.pointer (some (a.add (j * 7)))] 48)) b4 v' := Boxed.alloc h4' _
          have HAP := Lib.hid hap
          have HRA : Hid (RowAE (w.heap.size + 1) (W.alloc (.cells #[.pointer (some (a.add (j * 7)))] 48)) v' ((p.open :: rest).reverse.map (·.a) ++ (ks.map (·.a)).reverse.take i)) := Lib.hid (RowR.alloc hrow' _)
          have HNR := Lib.hid (Boxed.not_row h4' (by decide) hrow')
          have HLN : Hid (((p.open :: rest).reverse.map (·.a) ++ (ks.map (·.a)).reverse.take i).length + 1 ≤ 4194304) := Lib.hid (by
            have h1 := HST.out
            rw [List.length_append] at h1
            rw [List.length_append, List.length_map, List.length_reverse, List.length_take, List.length_reverse, List.length_map]
            omega)
          have HBW : Hid (w.heap.size + 1 ≤ (W.alloc (.cells #[.pointer (some (a.add (j * 7)))] 48)).heap.size) := Lib.hid (by rw [World.size_alloc]; omega)
          have HNW : Hid (∀ q u, (encA (a.add (j * 7)))[q]? = some u → (W.alloc (.cells #[.pointer (some (a.add (j * 7)))] 48)).cell? ((⟨W.heap.size, 0, none⟩ : Addr).add q) = some u) := Lib.hid (World.news_of_block (heap_alloc_new W _))
          have HTK : Hid ((ks.map (·.a)).reverse.take (i + 1) = (ks.map (·.a)).reverse.take i ++ [a.add (j * 7)]) := Lib.hid (by
            have hl : i < (ks.map (·.a)).reverse.length := by simp; omega
            rw [List.take_succ_eq_append_getElem hl]
            congr 2
            rw [List.getElem_reverse, hj, ← hka]
            congr 1
            simp; omega)
          have HM := Lib.hid hM
          have HT := Lib.hid ht
          have HV := Lib.hid hv'
          have HML := Lib.hid hMlt
          have hjlt : j < ks.length := by omega
          rw [← hj] at hlk ⊢
          clear hM ht hv' hMlt hrow' h4' hap hj hps hnot same hka hnl hbk hjl hi
          gi_wp2_with (first
            | (gi_at_lookup; refine wpListIn_lookup_run rfl 50 _ _ rfl _ _ _ rfl rfl hlk ?_)
            | (gi_at_builtin; refine wpListIn_rec_append encA_len (by omega) Try.underlying49 infoAdrE (by rfl) (by omega) rfl _ _ rfl (w.heap.size + 1) ((p.open :: rest).reverse.map (·.a) ++ (ks.map (·.a)).reverse.take i).length v' ((p.open :: rest).reverse.map (·.a) ++ (ks.map (·.a)).reverse.take i) (by rfl) HRA.out rfl (a.add (j * 7)) ⟨W.heap.size, 0, none⟩ 1 (by rfl) HNW.out (fun u hu => by rw [List.mem_singleton.1 hu]; rfl) HLN.out HBW.out ?_; intro v9 w9 hrow9 hg9 hv9; obtain ⟨A9, n9, c9, rfl⟩ : ∃ A n c, v9 = .slice A n c := (by obtain ⟨A, c, hv, _⟩ := RowR.has encA_len hrow9; exact ⟨A, _, c, hv⟩); have h49 : AheadE w9 b4 v' := HAP.out.kept hg9 HNR.out; have e49 := h49.cell; have f49 := h49.frozen; have HROW9 := Lib.hid hrow9; have HG9 := Lib.hid hg9; have HV9 := Lib.hid hv9; have HA9 := Lib.hid h49; clear hrow9 hg9 hv9 h49))
          have hs9 : w9.heap.size ≤ (w9.setCell ⟨b4, 0, none⟩ (Value.slice A9 n9 c9)).heap.size := (grownBy_setCell' w9 b4 _).size
          have hsA : (W.alloc (.cells #[.pointer (some (a.add (j * 7)))] 48)).heap.size = W.heap.size + 1 := by simp
          have hg9s := HG9.out.size
          have hne9 : some b4 ≠ (Value.slice A9 n9 c9).ownBlock := Boxed.not_row HA9.out (by decide) HROW9.out
          have hst9 : TurnsAt M W (w9.setCell ⟨b4, 0, none⟩ (Value.slice A9 n9 c9)) := ((below_turns (below_al (Below.refl _ W) (.cells #[.pointer (some (a.add (j * 7)))] 48))).trans (grown_turns HG9.out (fun b e => (HM.out b).2 (.inr e)))).trans (grown_turns (grownBy_setCell' w9 b4 _) (fun b e => by cases e; exact (HM.out b4).2 (.inl rfl)))
          refine ⟨fun b => b = b4 ∨ (Value.slice A9 n9 c9).ownBlock = some b, ⟨hst9, fun b hb => ?_, fun b hb => ?_⟩, (Value.slice A9 n9 c9), HA9.out.set _, ?_, ?_, fun b => Iff.rfl, HT.out.then hst9 fun b hb hlt => ?_⟩
          · rcases hb with rfl | hb
            · exact .inl ((HM.out _).2 (.inl rfl))
            · rcases HV9.out with h | h
              · exact .inl ((HM.out _).2 (.inr (h.symm.trans hb)))
              · right; rw [h] at hb; cases hb; omega
          · rcases hb with rfl | hb
            · exact Nat.lt_of_lt_of_le HA9.out.lt hs9
            · exact Nat.lt_of_lt_of_le (RowR.lt HROW9.out hb).2 hs9
          · have h9 : RowAE (w.heap.size + 1) (w9.setCell ⟨b4, 0, none⟩ (Value.slice A9 n9 c9)) (Value.slice A9 n9 c9) (((p.open :: rest).reverse.map (·.a) ++ (ks.map (·.a)).reverse.take i) ++ [a.add (j * 7)]) := ownsRow_setCell_other HROW9.out (a := ⟨b4, 0, none⟩) (fun e => hne9 e.symm) _
            have e9 : (((p.open :: rest).reverse.map (·.a) ++ (ks.map (·.a)).reverse.take i) ++ [a.add (j * 7)]) = (rest.map (·.a)).reverse ++ p.open.a :: ((ks.map (·.a)).reverse.take (i + 1)) := by rw [HTK.out]; simp
            rw [e9] at h9
            exact h9
          · rcases HV9.out with h | h
            · rcases HV.out with h2 | ⟨g', h2, h3⟩
              · exact .inl (h.trans h2)
              · exact .inr ⟨g', h.trans h2, by omega⟩
            · exact .inr ⟨_, h, by omega⟩
          · rcases (HM.out b).1 hb with h | h
            · exact .inl h
            · rcases HV.out with h2 | ⟨g', h2, h3⟩
              · exact .inr (h2 ▸ h)
              · rw [h2] at h; cases h; omega

end Go.Proofs.Ythmjffijhlkgcaa
