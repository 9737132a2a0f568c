/- MERGED for a claim: WkL WkS. -/
import Derived.Test.YtdkpleghpnflhaaTree
import Derived.RangeFuncNested
import Derived.RangeFuncBound
import Derived.RangeFuncCalls
import Derived.RangeFuncLeaves
import Derived.RangeFuncBox
import Derived.Test.YtdkpleghpnflhaaScA
import Derived.Test.YtdkpleghpnflhaaWkV
import Derived.Shelf.Abstract
import Derived.Shelf.RegionOpen
import Derived.WalkKit
import Derived.OwnWalkIn
import Derived.TacticsInMore
import Derived.LoopNIn
import Derived.LoopIn
import Derived.Maps.OwnIn
import Derived.Maps.AppendAt
set_option linter.unusedVariables false
set_option linter.unusedSimpArgs false
/- A RANGE OVER A FUNCTION WHOSE ITERATOR TURNS BLOCKS OF ITS OWN: what is told round by round is one list L; the caller's word speaks of a set M of blocks that are the caller's; what the iterator turns between the rounds lies outside it. Generic; no function is spoken of. -/
namespace Go.Proofs.Ytdkpleghpnflhaa
open Go Go.RowKit

/-- a step of the one whose blocks are M: the others are as they were; those that came to it are new -/
structure StepM (M M' : Nat → Prop) (W W' : World) : Prop where
  tu : TurnsAt M W W'
  sub : ∀ b, M' b → M b ∨ W.heap.size ≤ b
  lt : ∀ b, M' b → b < W'.heap.size
theorem StepM.refl {M : Nat → Prop} {W : World} (h : ∀ b, M b → b < W.heap.size) : StepM M M W W := ⟨TurnsAt.refl _ _, fun _ h => .inl h, h⟩
theorem StepM.trans {M M1 M2 : Nat → Prop} {A B C : World} (h : StepM M M1 A B) (k : StepM M1 M2 B C) : StepM M M2 A C := by
  refine ⟨⟨k.tu.os.trans h.tu.os, k.tu.tape.trans h.tu.tape, k.tu.output.trans h.tu.output, Nat.le_trans h.tu.size k.tu.size, fun b hb hn => ?_⟩, fun b hb => ?_, k.lt⟩
  · refine (k.tu.block b (Nat.lt_of_lt_of_le hb h.tu.size) fun h1 => ?_).trans (h.tu.block b hb hn)
    rcases h.sub b h1 with h2 | h2
    · exact hn h2
    · omega
  · rcases k.sub b hb with h1 | h1
    · exact h.sub b h1
    · exact .inr (Nat.le_trans h.tu.size h1)
/-- a step that needs no more than M -/
theorem StepM.below {M : Nat → Prop} {W W' : World} (h : ∀ b, M b → b < W.heap.size) (hb : Below W.heap.size W W') : StepM M M W W' := ⟨below_turns hb, fun _ h => .inl h, fun b hm => Nat.lt_of_lt_of_le (h b hm) hb.size⟩
/-- a word about M's blocks: it stays where only other blocks turn (from B on) -/
def Abm {β : Type} (B : Nat) (J : β → (Nat → Prop) → World → Prop) : Prop :=
  ∀ s M K W W', J s M W → (∀ b, M b → b < W.heap.size) → TurnsAt K W W' → (∀ b, K b → B ≤ b ∧ ¬ M b) → J s M W'
/-- the iterator g tells the list L, whatever the rounds do with blocks of their own; Z: the blocks that it reads, which the caller must leave alone -/
def SeqL (F : Fence) (n : Nat) (P : Program) (g : Nat) (lb : Array Value) (L : List (Array Value)) (Z : Nat → Prop) (w : World) : Prop :=
  ∀ (l : Nat) (J Jx : Nat → (Nat → Prop) → World → Prop) (M0 : Nat → Prop) (W : World), Below w.heap.size w W → Abm W.heap.size J → Abm W.heap.size Jx → (∀ b, M0 b → b < W.heap.size ∧ ¬ Z b) →
    (∀ i (hi : i < L.length) M W1, J i M W1 → (∀ b, M b → b < W1.heap.size) → YieldAt F (n - 1) P l L[i] W1 fun e W' => ∃ M', StepM M M' W1 W' ∧
      ((e = .returned (.bool true) ∧ J (i + 1) M' W') ∨ (e = .returned (.bool false) ∧ Jx (i + 1) M' W'))) →
    J 0 M0 W →
    CallsIn F n P g (#[.func (.yield l) #[] #[]] ++ lb) W fun e W' => (∃ v, e = .returned v) ∧ ((∃ M, J L.length M W') ∨ (∃ i M, Jx i M W'))
/-- how a round's body may be left -/
def postM (I : Nat → (Nat → Prop) → World → Prop) (Ix : Code → Nat → (Nat → Prop) → World → Prop) (i : Nat) (M : Nat → Prop) (W : World) : Exit → Act → World → Prop
  | .normal, _, W' => ∃ M', StepM M M' W W' ∧ I i M' W'
  | .ret, _, W' => ∃ M', StepM M M' W W' ∧ Ix .ret i M' W'
  | .exit id, _, W' => ∃ M', StepM M M' W W' ∧ Ix (.exit id) i M' W'
  | .goto t, _, W' => ∃ M', StepM M M' W W' ∧ Ix (.goto t) i M' W'
  | .panic _, _, _ => False
  | .outgrown, _, _ => False
theorem turns_putObj (W : World) (l : Nat) (o : Obj) : TurnsAt (fun b => b = l) W (W.putObj l o) := grown_turns (grownBy_putObj' W l o) fun b e => by cases e; rfl
/-- the caller's word with the loop's two blocks of book-keeping beside it -/
def JM (D : Nat) (o : Obj) (I : Nat → (Nat → Prop) → World → Prop) (i : Nat) (Mw : Nat → Prop) (W : World) : Prop :=
  ∃ M, (∀ b, Mw b ↔ M b ∨ b = D ∨ b = D + 1) ∧ ¬ M D ∧ ¬ M (D + 1) ∧ (∀ b, M b → b < W.heap.size) ∧ I i M W ∧ W.heap[D + 1]? = some o ∧ W.heap[D]? = some (.deferred (some []))
theorem keep_obj {X Y : World} {K : Nat → Prop} {b : Nat} {o : Obj} (ht : TurnsAt K X Y) (hn : ¬ K b) (ho : X.heap[b]? = some o) : Y.heap[b]? = some o := (ht.block _ (Array.getElem?_eq_some_iff.1 ho).1 hn).trans ho
theorem JM.abm {D B : Nat} {o : Obj} {I : Nat → (Nat → Prop) → World → Prop} (hB : D ≤ B) (hI : Abm D I) : Abm B (JM D o I) := by
  rintro i Mw K A C ⟨M, hM, n1, n2, hlt, hi, hl, hk⟩ _ ht hK
  exact ⟨M, hM, n1, n2, fun b h => Nat.lt_of_lt_of_le (hlt b h) ht.size, hI i M K A C hi hlt ht (fun b h => ⟨by have := (hK b h).1; omega, fun h2 => (hK b h).2 ((hM b).2 (.inl h2))⟩), keep_obj ht (fun h => (hK _ h).2 ((hM _).2 (.inr (.inr rfl)))) hl, keep_obj ht (fun h => (hK _ h).2 ((hM _).2 (.inr (.inl rfl)))) hk⟩
set_option maxHeartbeats 1000000 in
theorem wpIn_rangeFunc_ownM {F : Fence} {n : Nat} {P : Program} {g : Operand} {ps : Array Tmp} {assign body : Code} {Q : Exit → Act → World → Prop} {a : Act} {w : World}
    (hro : F.round = none) (h1 : 1 ≤ n) {gf : Nat} {lb : Array Value} (hg : a.eval g = .func (.func gf) #[] lb) (hFg : F.fn gf) (eg : ∀ args w, (callFunc gf args).run P w = .ok (.enter gf args) w)
    {L : List (Array Value)} {Z : Nat → Prop} {w0 : World} (hseq : SeqL F (n - 1) P gf lb L Z w0) (hZ : ∀ b, Z b → b < w.heap.size) (hb0 : Below w0.heap.size w0 w) (hps : ∀ x ∈ L, x.size = ps.size)
    (I : Nat → (Nat → Prop) → World → Prop) (Ix : Code → Nat → (Nat → Prop) → World → Prop) (hI : Abm w.heap.size I) (hIx : ∀ c, Abm w.heap.size (Ix c)) (M0 : Nat → Prop) (hM0' : ∀ b, M0 b → b < w.heap.size ∧ ¬ Z b) (h0 : I 0 M0 w) (a₁ : Nat → Act)
    (hassign : ∀ (l i : Nat) (hi : i < L.length) (W : World) (K : Act → World → Prop), K (a₁ i) W →
      assign.wpIn (F.inRound l) (n - 1 - 1) P (Exit.then K (fun _ _ _ => False)) { tmps := (ps.zip L[i]).foldl (fun t (p, v) => t.setIfInBounds p v) a.tmps, defers := [] } W)
    (hbody : ∀ (l i : Nat) (hi : i < L.length) (M : Nat → Prop) (W : World), I i M W → (∀ b, M b → b < W.heap.size) → w.heap.size ≤ W.heap.size → body.wpIn (F.inRound l) (n - 1 - 1) P (postM I Ix (i + 1) M W) (a₁ i) W)
    (hdone : ∀ (D : Nat) (M : Nat → Prop) (W : World), w.heap.size ≤ D → ¬ M D → I L.length M W → W.heap[D]? = some (.deferred (some [])) → Q .normal { a with defers := { target := .collected D, args := #[] } :: a.defers } W)
    (hstop : ∀ (D : Nat) (c : Code) (i : Nat) (M : Nat → Prop) (W : World), w.heap.size ≤ D → ¬ M D → Ix c i M W → W.heap[D]? = some (.deferred (some [])) → c.wpIn F n P Q { a with defers := { target := .collected D, args := #[] } :: a.defers } W) :
    (Code.rangeFunc g ps assign body).wpIn F n P Q a w := by
  refine wpIn_rangeFunc ?_
  intro fn hfn
  rw [hro]
  have hM0 : ∀ b, M0 b → b < w.heap.size := fun b h => (hM0' b h).1
  obtain ⟨rec, hrec⟩ : ∃ rec : LoopState → Option Code → Loop, rec = fun st pe => { state := st, pending := pe, fn, tmps := a.tmps, params := ps, assign, body, defers := w.heap.size } := ⟨_, rfl⟩
  obtain ⟨W1, hW1⟩ : ∃ W1, (w.alloc (.deferred (some []))).alloc (.loop (rec .ready none)) = W1 := ⟨_, rfl⟩
  have hL1 : W1.heap[w.heap.size + 1]? = some (.loop (rec .ready none)) := by
    rw [← hW1]; have := World.alloc_heap_new (w.alloc (.deferred (some []))) (.loop (rec .ready none)); rwa [World.size_alloc] at this
  have hK1 : W1.heap[w.heap.size]? = some (.deferred (some [])) := by
    rw [← hW1]; exact (Below.heap_alloc _ _ _ (by simp)).trans (World.alloc_heap_new w _)
  have hbw : Below w.heap.size w W1 := by
    rw [← hW1]; exact ((Below.refl _ w).alloc (Nat.le_refl _) _).alloc (by simp) _
  have hs1 : W1.heap.size = w.heap.size + 2 := by rw [← hW1]; simp
  have hI1 : I 0 M0 W1 := hI 0 M0 (fun _ => False) w W1 h0 hM0 (below_turns hbw) (fun _ h => h.elim)
  have hb1 : Below w0.heap.size w0 W1 := hb0.trans (hbw.mono hb0.size)
  refine ⟨w.heap.size + 1, [{ target := .collected w.heap.size, args := #[] }], W1, { target := .fn (.func gf) lb, args := #[.func (.yield (w.heap.size + 1)) #[] #[]] }, W1, gf,
    #[.func (.yield (w.heap.size + 1)) #[] #[]] ++ lb, W1, ?_, ?_, ?_, ?_, fun _ => h1, ?_⟩
  · rw [← hW1, hrec]; exact run_enterLoop_outer _ _ _ _ _
  · simp only [resolve, hg]
    simp [go_sem]
  · intro f' hf'; simp [Target.leads] at hf'; subst hf'; exact hFg
  · simp [invoke, go_sem, eg]
  · refine (hseq (w.heap.size + 1) (JM w.heap.size (.loop (rec .ready none)) I) (fun i Mw W => ∃ c, JM w.heap.size (.loop (rec .done (some c))) (Ix c) i Mw W)
      (fun b => M0 b ∨ b = w.heap.size ∨ b = w.heap.size + 1) W1 hb1 (JM.abm (by omega) hI) ?_ ?_ ?_ ?_).mono ?_
    · rintro i Mw K A C ⟨c, h⟩ hlt ht hK
      exact ⟨c, JM.abm (B := W1.heap.size) (by omega) (hIx c) i Mw K A C h hlt ht hK⟩
    · rintro b (h | h | h)
      · exact ⟨by have := hM0 b h; omega, (hM0' b h).2⟩
      · exact ⟨by omega, fun h2 => by have := hZ b h2; omega⟩
      · exact ⟨by omega, fun h2 => by have := hZ b h2; omega⟩
    · -- ONE ROUND
      rintro i hi Mw W ⟨M, hM, n1, n2, hMl, hii, hl, hk⟩ _
      have hlt : w.heap.size + 1 < W.heap.size := (Array.getElem?_eq_some_iff.1 hl).1
      have hy := run_yield (P := P) (args := L[i]) hl (by rw [hrec]; exact hps _ (List.getElem_mem hi))
      rw [hrec] at hy
      refine ⟨fn, _, assign, body, hy, roundIn_of_wpIn hfn (hassign _ i hi W _ ⟨_, run_beginRound hl (by rw [hrec]), ?_⟩)⟩
      obtain ⟨Wb, hWb⟩ : ∃ Wb, Wb = W.putObj (w.heap.size + 1) (.loop { rec .ready none with state := .busy }) := ⟨_, rfl⟩
      have hl2 : Wb.heap[w.heap.size + 1]? = some (.loop { rec .ready none with state := .busy }) := by rw [hWb]; exact World.putObj_heap_same hlt
      have hk2 : Wb.heap[w.heap.size]? = some (.deferred (some [])) := by rw [hWb]; exact (World.putObj_heap_other (by omega)).trans hk
      have ht2 : TurnsAt (fun b => b = w.heap.size + 1) W Wb := by rw [hWb]; exact turns_putObj _ _ _
      have hi2 : I i M Wb := hI i M _ W Wb hii hMl ht2 (fun b e => ⟨by omega, fun h => n2 (by rw [← e]; exact h)⟩)
      have hMl2 : ∀ b, M b → b < Wb.heap.size := fun b h => Nat.lt_of_lt_of_le (hMl b h) ht2.size
      have hbd := hbody (w.heap.size + 1) i hi M Wb hi2 hMl2 (by have := ht2.size; omega)
      rw [← hWb]
      refine wpIn_mono hbd ?_
      have fin : ∀ (jump : Option Code) (W3 : World) (M' : Nat → Prop) (I' : Nat → (Nat → Prop) → World → Prop), Abm w.heap.size I' → StepM M M' Wb W3 → I' (i + 1) M' W3 →
          ∃ w', (Instr.endRound (w.heap.size + 1) jump).run P W3 = .ok (.bool jump.isNone) w' ∧ ∃ Mn, StepM Mw Mn W w' ∧ JM w.heap.size (.loop (rec (if jump.isNone then .ready else .done) jump)) I' (i + 1) Mn w' := fun jump W3 M' I' hI' hst hi' => by
        have hl3 := keep_obj hst.tu n2 hl2
        have hk3 := keep_obj hst.tu n1 hk2
        have hlt3 := (Array.getElem?_eq_some_iff.1 hl3).1
        have hsz2 := ht2.size
        have m1 : ¬ M' w.heap.size := fun h => by
          rcases hst.sub _ h with h | h
          · exact n1 h
          · omega
        have m2 : ¬ M' (w.heap.size + 1) := fun h => by
          rcases hst.sub _ h with h | h
          · exact n2 h
          · omega
        have hr := run_endRound (P := P) jump hl3
        rw [hrec] at hr ⊢
        have htp := turns_putObj W3 (w.heap.size + 1) (.loop { state := if jump.isNone then .ready else .done, pending := jump, fn, tmps := a.tmps, params := ps, assign, body, defers := w.heap.size })
        have hp := htp.size
        refine ⟨_, hr, (fun b => M' b ∨ b = w.heap.size ∨ b = w.heap.size + 1), ⟨?_, fun b hb => ?_, fun b hb => ?_⟩, M', fun b => Iff.rfl, m1, m2, fun b h => Nat.lt_of_lt_of_le (hst.lt b h) hp, hI' _ M' _ W3 _ hi' hst.lt htp (fun b e => ⟨by omega, fun h => m2 (by rw [← e]; exact h)⟩), World.putObj_heap_same hlt3, (World.putObj_heap_other (by omega)).trans hk3⟩
        · exact ((ht2.mono (S' := Mw) fun b e _ => (hM b).2 (.inr (.inr e))).trans (hst.tu.mono fun b h _ => (hM b).2 (.inl h))).trans (htp.mono fun b e _ => (hM b).2 (.inr (.inr e)))
        · rcases hb with h | h | h
          · rcases hst.sub b h with h | h
            · exact .inl ((hM b).2 (.inl h))
            · exact .inr (Nat.le_trans hsz2 h)
          · exact .inl ((hM b).2 (.inr (.inl h)))
          · exact .inl ((hM b).2 (.inr (.inr h)))
        · rcases hb with h | h | h
          · exact Nat.lt_of_lt_of_le (hst.lt b h) hp
          · exact Nat.lt_of_lt_of_le (show b < W3.heap.size by omega) hp
          · exact Nat.lt_of_lt_of_le (show b < W3.heap.size by omega) hp
      rintro e a3 W3 hp
      cases e with
      | normal =>
        obtain ⟨M', hst, hi3⟩ := hp
        obtain ⟨w', hr, Mn, h3, h4⟩ := fin none W3 M' I hI hst hi3
        exact ⟨_, _, hr, Mn, h3, .inl ⟨rfl, h4⟩⟩
      | ret =>
        obtain ⟨M', hst, hi3⟩ := hp
        obtain ⟨w', hr, Mn, h3, h4⟩ := fin (some .ret) W3 M' _ (hIx .ret) hst hi3
        exact ⟨_, _, hr, Mn, h3, .inr ⟨rfl, .ret, h4⟩⟩
      | exit id =>
        obtain ⟨M', hst, hi3⟩ := hp
        obtain ⟨w', hr, Mn, h3, h4⟩ := fin (some (.exit id)) W3 M' _ (hIx (.exit id)) hst hi3
        exact ⟨_, _, hr, Mn, h3, .inr ⟨rfl, .exit id, h4⟩⟩
      | goto t =>
        obtain ⟨M', hst, hi3⟩ := hp
        obtain ⟨w', hr, Mn, h3, h4⟩ := fin (some (.goto t)) W3 M' _ (hIx (.goto t)) hst hi3
        exact ⟨_, _, hr, Mn, h3, .inr ⟨rfl, .goto t, h4⟩⟩
      | panic ch => exact hp.elim
      | outgrown => exact hp.elim
    · exact ⟨M0, fun b => Iff.rfl, fun h => by have := hM0 _ h; omega, fun h => by have := hM0 _ h; omega, fun b h => by have := hM0 b h; omega, hI1, hL1, hK1⟩
    · -- BEHIND THE ITERATOR
      rintro e W2 ⟨⟨v, rfl⟩, (⟨Mw, M, hM, n1, n2, hlt, hi, hl, hk⟩ | ⟨i, Mw, c, M, hM, n1, n2, hlt, hi, hl, hk⟩)⟩
      · exact ⟨none, _, by have := run_endLoop (P := P) hl (by rw [hrec]; simp); rw [hrec] at this; exact this, hdone _ M _ (Nat.le_refl _) n1 (hI _ M _ W2 _ hi hlt (turns_putObj _ _ _) (fun b e => ⟨by omega, fun h => n2 (by rw [← e]; exact h)⟩)) ((World.putObj_heap_other (by omega)).trans hk)⟩
      · exact ⟨some c, _, by have := run_endLoop (P := P) hl (by rw [hrec]; simp); rw [hrec] at this; exact this, hstop _ c _ M _ (Nat.le_refl _) n1 (hIx c _ M _ W2 _ hi hlt (turns_putObj _ _ _) (fun b e => ⟨by omega, fun h => n2 (by rw [← e]; exact h)⟩)) ((World.putObj_heap_other (by omega)).trans hk)⟩
end Go.Proofs.Ytdkpleghpnflhaa

/- CHAPTER 9, impl: slices.Backward of nodes, as an iterator that turns nothing. -/
namespace Go.Proofs.Ytdkpleghpnflhaa
open Go.RowKit Go.Shelf
attribute [local go_sem] Oper.semAt_some
set_option maxRecDepth 100000

/-- a load whose outcome is known, at the operation, inside a fence -/
theorem wpListIn_load_at {F : Fence} {n : Nat} {P : Program} {ops : Array Oper} {rest : List Oper} {op : Oper} {a : Act} {w : World} {Q : Exit → Act → World → Prop} (hgd : op.guard = none) (ty : TypeId) (x : Operand) (ho : op.op = .load ty x)
    (p : Addr) (hx : a.eval x = .pointer (some p)) (v : Value) (hl : (Instr.loadAt ty (.pointer (some p))).run P w = .ok v w)
    (h : wpListIn F n P ops Q rest (a.put op.dst v) w) : wpListIn F n P ops Q (op :: rest) a w := by
  refine wpListIn_plain hgd fun K hK => ?_
  unfold Oper.wpIn
  refine ⟨by simp [Oper.about, ho], ?_⟩
  rw [Oper.semAt_plain F _ _ (by rw [ho]; intro c hc'; cases hc')]
  simp [execOp, ho, hx, hl, Result.andThen]
  exact hK _ _ h
/-- what is left alone: the blocks Z -/
structure KeepZ (Z : Nat → Prop) (W W' : World) : Prop where
  size : W.heap.size ≤ W'.heap.size
  block : ∀ b, b < W.heap.size → Z b → W'.heap[b]? = W.heap[b]?
theorem KeepZ.refl (Z : Nat → Prop) (W : World) : KeepZ Z W W := ⟨Nat.le_refl _, fun _ _ _ => rfl⟩
theorem KeepZ.step {Z M M' : Nat → Prop} {A B C : World} (h : KeepZ Z A B) (hM : ∀ b, M b → ¬ Z b) (k : StepM M M' B C) : KeepZ Z A C :=
  ⟨Nat.le_trans h.size k.tu.size, fun b hb hz => (k.tu.block b (Nat.lt_of_lt_of_le hb h.size) fun hm => hM b hm hz).trans (h.block b hb hz)⟩
theorem KeepZ.turns {Z K : Nat → Prop} {A B C : World} (h : KeepZ Z A B) (hK : ∀ b, K b → ¬ Z b) (k : TurnsAt K B C) : KeepZ Z A C :=
  ⟨Nat.le_trans h.size k.size, fun b hb hz => (k.block b (Nat.lt_of_lt_of_le hb h.size) fun hm => hK b hm hz).trans (h.block b hb hz)⟩
theorem KeepZ.low {Z : Nat → Prop} {n : Nat} {A B : World} (h : KeepZ Z A B) (hn : n ≤ A.heap.size) (hz : ∀ b, b < n → Z b) : ∀ b, b < n → B.heap[b]? = A.heap[b]? := fun b hb => h.block b (Nat.lt_of_lt_of_le hb hn) (hz b hb)
theorem stepM_lt {Z M M' : Nat → Prop} {A B : World} (hM : ∀ b, M b → b < A.heap.size ∧ ¬ Z b) (hZ : ∀ b, Z b → b < A.heap.size) (k : StepM M M' A B) : ∀ b, M' b → b < B.heap.size ∧ ¬ Z b := fun b hb => by
  refine ⟨k.lt b hb, fun hz => ?_⟩
  rcases k.sub b hb with h | h
  · exact (hM b h).2 hz
  · have := hZ b hz; omega
/-- the cells of a record, where a few blocks lie as they lay -/
theorem Nl.at {w w' : World} {p : Addr} {r : ScR} (h : Nl w p r) (hb : w'.heap[p.block]? = w.heap[p.block]?) : Nl w' p r := fun j v hv => by
  rw [World.cell?_of_block (w := w) (by rw [addr_blk]; exact hb)]; exact h j v hv
/-- the numbers and nodes in the order in which slices.Backward tells them -/
def downS (R : Nat → ScR) (len : Nat) : List (Array Value) := ((List.range len).reverse).map fun (j : Nat) => #[.int .i64 (j : Int), (R j).val]
theorem downS_length (R : Nat → ScR) (len : Nat) : (downS R len).length = len := by simp [downS]
theorem downS_at (R : Nat → ScR) (len j : Nat) (hj : j < len) (h : len - (j + 1) < (downS R len).length) : (downS R len)[len - (j + 1)] = #[.int .i64 (j : Int), (R j).val] := by
  have e : len - 1 - (len - (j + 1)) = j := by omega
  simp only [downS, List.getElem_map, List.getElem_reverse, List.getElem_range, List.length_range, e]
theorem downS_get (R : Nat → ScR) (len i : Nat) (hi : i < (downS R len).length) : (downS R len)[i] = #[.int .i64 ((len - (i + 1) : Nat) : Int), (R (len - (i + 1))).val] := by
  have e : len - 1 - i = len - (i + 1) := by omega
  simp only [downS, List.getElem_map, List.getElem_reverse, List.getElem_range, List.length_range, e]
set_option maxHeartbeats 2000000 in
theorem backS_seq (F : Fence) (n : Nat) (hF : F.fn 55) (hro : F.round = none) (hn : 1 ≤ n) (Bs n₀ len cap : Nat) (A : Option Addr) (R : Nat → ScR) (hlen : (len : Int) ≤ 9223372036854775807) (w : World) (hn₀ : n₀ ≤ w.heap.size)
    (hBs : w.heap[Bs]? = some (.cells #[.slice A len cap] 32 (0, 0))) (hc : ∀ j, j < len → ∃ a, A = some a ∧ a.block < n₀ ∧ Nl w (a.add (j * 19)) (R j)) :
    SeqL F n Try.prog 55 #[.pointer (some ⟨Bs, 0, none⟩)] (downS R len) (fun b => b < n₀ ∨ b = Bs) w := by
  intro l J Jx M0 W hW _ _ hM0 hY h0
  have hBlt : Bs < w.heap.size := (Array.getElem?_eq_some_iff.1 hBs).1
  have hWs := hW.size
  have hBW : W.heap[Bs]? = some (.cells #[.slice A len cap] 32 (0, 0)) := (hW.block Bs hBlt).trans hBs
  have hZ : ∀ b, (b < n₀ ∨ b = Bs) → b < W.heap.size := fun b hb => by omega
  have hc' : ∀ j, j < len → ∃ a, A = some a ∧ a.block < n₀ ∧ Nl W (a.add (j * 19)) (R j) := fun j hj => by
    obtain ⟨a, h1, h2, h3⟩ := hc j hj
    exact ⟨a, h1, h2, h3.at (hW.block _ (by rw [addr_blk]; omega))⟩
  refine callsIn_of_wp Try.func55 rfl hF ?_ hro
  simp only [Try.ntmps55, List.size_toArray, List.length_cons, List.length_nil, Nat.reduceAdd, Nat.reduceSub, Array.replicate_succ, Array.replicate_zero, List.push_toArray, List.append_toArray, List.nil_append, List.cons_append]
  have hBc := cell_of_one hBW
  have HBW := Lib.hid hBW
  have HC := Lib.hid hc'
  have HM0 := Lib.hid hM0
  have HZ := Lib.hid hZ
  have HY := Lib.hid hY
  clear hc hc' hW hBs hBW hM0 hZ hY hBlt
  gi_wp2
  gi_loopw [3] (fun i wr => ∃ (k : Nat) (M : Nat → Prop), k ≤ len ∧ i = .int .i64 ((k : Int) - 1) ∧ Hid (J (len - k) M wr) ∧ Hid (∀ b, M b → b < wr.heap.size ∧ ¬ (b < n₀ ∨ b = Bs)) ∧ Hid (KeepZ (fun b => b < n₀ ∨ b = Bs) W wr))
    (fun i _ => (intOf i + 1).toNat)
  case atStart => exact ⟨len, M0, Nat.le_refl _, rfl, Lib.hid (by rw [Nat.sub_self]; exact h0), HM0, Lib.hid (KeepZ.refl _ _)⟩
  case round =>
    obtain ⟨k, M, hk, rfl, HJ, HM, HK⟩ := hrel
    have hBs' : wr.cell? ⟨Bs, 0, none⟩ = some (.slice A len cap) := cell_of_one ((HK.out.block Bs (HZ.out Bs (.inr rfl)) (.inr rfl)).trans HBW.out)
    cases k with
    | zero =>
      gi_wp2
      go_end0
      exact ⟨⟨_, rfl⟩, .inl ⟨M, by rw [downS_length]; exact HJ.out⟩⟩
    | succ j =>
      have e : ((j + 1 : Nat) : Int) - 1 = j := by omega
      rw [e]
      have hj : j < len := hk
      obtain ⟨a, rfl, hab, hpk⟩ := HC.out j hj
      have hpk' : Nl wr (a.add (j * 19)) (R j) := hpk.at (HK.out.block _ (by rw [addr_blk]; exact HZ.out _ (.inl hab)) (.inl (by rw [addr_blk]; exact hab)))
      have HL := Lib.hid hpk'
      have hi : len - (j + 1) < (downS R len).length := by rw [downS_length]; omega
      obtain ⟨fn, tmps, assign, body, hy, hR⟩ := HY.out (len - (j + 1)) hi M wr HJ.out (fun b hb => (HM.out b hb).1)
      rw [downS_at R len j hj hi] at hy
      have HR := Lib.hid hR
      obtain ⟨rv, hrv⟩ : ∃ rv, rv = (R j).val := ⟨_, rfl⟩
      have hload := HL.out.load (ty := 59) Try.underlying59 (by rfl) (by kernel_rfl)
      rw [← hrv] at hload hy
      clear hpk hpk' hR hrv
      gi_wp2_with (refine wpListIn_load_at rfl 59 _ rfl (a.add (j * 19)) (by first | rfl | (go_simp; done)) rv hload ?_)
      refine HR.out.mono ?_
      rintro e W3 ⟨M', hst, (⟨rfl, hJ3⟩ | ⟨rfl, hJx3⟩)⟩
      · gi_wp2
        go_roundw
        case rel => exact ⟨j, M', by omega, by go_num, Lib.hid (by rw [show len - j = len - (j + 1) + 1 by omega]; exact hJ3), Lib.hid (stepM_lt HM.out (fun b hb => Nat.lt_of_lt_of_le (HZ.out b hb) HK.out.size) hst), Lib.hid (HK.out.step (fun b hb => (HM.out b hb).2) hst)⟩
        case measure => first | (simp [intOf]; done) | (simp [intOf]; omega)
      · gi_wp2
        refine bodyPost_ret (results_none rfl _ _ _) rfl ?_
        exact ⟨⟨_, rfl⟩, .inr ⟨_, _, hJx3⟩⟩
end Go.Proofs.Ytdkpleghpnflhaa
