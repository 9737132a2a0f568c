/- CHAPTER 7: PlainPath of both. -/
import Derived.Test.YthmjffijhlkgcaaPthE
import Derived.Deep.RegionHeld3
import Derived.Deep.RegionLaw
set_option linter.unusedVariables false
set_option linter.unusedSimpArgs false
namespace Go.Proofs.Ythmjffijhlkgcaa
open Go.RowKit

/-- a step without its tests; the same as it lies -/
def plS (s : Stp) : Stp := ⟨s.n, []⟩
def plR (s : Stp) : StR := ⟨s.n, .slice none 0 0⟩
def plP (p : Pth) : Pth := ⟨p.root, p.ups, p.st.map plS⟩
theorem rowT_plain' {B : Nat} {w : World} {v : Value} {R : List StR} {l : List Stp} (hr : RowT7 B w v R) (hl : R.length = l.length) (hp : ∀ i (h : i < R.length) (h' : i < l.length), R[i].n = l[i].n ∧ R[i].tv = .slice none 0 0 ∧ l[i].ts = []) : ∃ S, OwnS B w v l S := by
  refine ⟨fun b => v.ownBlock = some b ∨ ∃ i, i < R.length ∧ False, ?_⟩
  refine ⟨R, fun i b => False, hr, by rw [List.length_map]; exact hl, fun i h1 h2 => ?_, fun i j b h1 h2 h3 h4 => h3.elim, fun i b h1 h2 => h2.elim, fun b => Iff.rfl⟩
  rw [List.length_map] at h2
  obtain ⟨e1, e2, e3⟩ := hp i h1 h2
  have hx : RowX B w R[i].tv l[i].ts := by rw [e2, e3]; exact ⟨by simp, .inl ⟨rfl, rfl⟩⟩
  have hn : ∀ b, R[i].tv.ownBlock ≠ some b := fun b => by rw [e2]; simp [Value.ownBlock]
  refine ⟨fun _ => False, fun _ => False, ⟨⟨?_, ?_⟩, fun b => ?_⟩, ?_, fun b _ hb => hb, fun b => ?_⟩
  · rw [List.getElem_map]; exact e1
  · rw [List.getElem_map]; exact hx
  · exact ⟨fun h => h.elim, fun h => (hn b h).elim⟩
  · rw [List.getElem_map]; exact ⟨rfl, ⟨by simp, .inl ⟨rfl, rfl⟩⟩, fun b => by simp [stK, Value.ownBlock]⟩
  · simp
theorem rowT_plain {B : Nat} {w : World} {v : Value} {l : List Stp} (h : RowT7 B w v (l.map plR)) : ∃ S, OwnS B w v (l.map plS) S :=
  rowT_plain' h (by simp) fun i h1 h2 => by simp [plR, plS]
theorem wpList_stp_append {ops : Array Oper} {rest : List Oper} {o : Oper} {a : Act} {Q : Exit → Act → World → Prop} {w : World} (hgd : o.guard = none) (s x : Operand)
    (ho : o.op = .call { callee := .builtin .append, args := #[s, x], argTypes := #[31, 31] })
    (B n : Nat) (v : Value) (L : List StR) (hs : a.eval s = v) (hrow : RowT7 B w v L) (hn : n = L.length)
    (y : ByteArray) (b : Nat) (hx : a.eval x = .slice (some ⟨b, 0, none⟩) 1 1) (hb : b = w.heap.size) (hlen : n + 1 ≤ 549755813888) (hbase : B ≤ w.heap.size) (q : Nat) (hq : q = n + 1)
    (h : ∀ g' c'' w', RowT7 B w' (.slice (some ⟨g', 0, none⟩) q c'') (L ++ [⟨y, .slice none 0 0⟩]) → (w.alloc (.cells #[.string y, .slice none 0 0] 62)).grownBy w' v.ownBlock → wpList Try.prog ops Q rest (a.put o.dst (.slice (some ⟨g', 0, none⟩) q c'')) w') :
    wpList Try.prog ops Q (o :: rest) a (w.alloc (.cells #[.string y, .slice none 0 0] 62)) := by
  obtain ⟨i0, hi, hz0, hz1, hz2⟩ := info_parts infoStp
  subst hq hn hb
  refine wpList_append_own _ hgd s x 31 ho B 62 i0 (.agg #[.string ⟨#[]⟩, .slice none 0 0]) 2 40 Try.underlying31 hi hz0 hz1 hz2 rfl (by decide) _ L.length (L.flatMap StR.enc) hs (RowR.alloc hrow _) ⟨w.heap.size, 0, none⟩ 1 1 (StR.enc ⟨y, .slice none 0 0⟩) hx rfl (World.news_of_block (heap_alloc_new w _)) (by simp [StR.enc, Value.oneCell']) (by unfold maxLen; omega) (by omega) (Nat.le_trans hbase ((Below.refl 0 w).alloc (Nat.zero_le _) _).size) ?_
  intro v' w' h2 h3 h4
  rcases h2.2 with ⟨h5, _⟩ | ⟨g', cap', cur, h5, _⟩
  · exact absurd (h4.1 h5).2 (by simp)
  · subst h5
    refine h g' cap' w' ?_ h3
    unfold RowT7 RowR
    rw [List.length_append, List.flatMap_append, List.flatMap_singleton]
    exact h2
/-- 'own = append(own, x)' of a step at a step of a region that draws its order; own may be nil -/
theorem step_stp_append {w : World} {ops : Array Oper} {o : Oper} {a : Act} {K : Act → World → Prop} {Q : Exit → Act → World → Prop} {E : Prop} (hgd : o.guard = none) (s x : Operand)
    (ho : o.op = .call { callee := .builtin .append, args := #[s, x], argTypes := #[31, 31] })
    (B n : Nat) (v : Value) (L : List StR) (hs : a.eval s = v) (hrow : RowT7 B w v L) (hn : n = L.length)
    (y : ByteArray) (ad : Addr) (c' : Nat) (hx : a.eval x = .slice (some ad) 1 c') (hnews : ∀ j u, (StR.enc ⟨y, .slice none 0 0⟩)[j]? = some u → w.cell? (ad.add j) = some u)
    (hlen : n + 1 ≤ 549755813888) (hbase : B ≤ w.heap.size) (q : Nat) (hq : q = n + 1)
    (h : ∀ g' c'' w', RowT7 B w' (.slice (some ⟨g', 0, none⟩) q c'') (L ++ [⟨y, .slice none 0 0⟩]) → w.grownBy w' v.ownBlock → K (a.put o.dst (.slice (some ⟨g', 0, none⟩) q c'')) w') :
    if Region.wanted o (yielded ops a.tmps) = true then Oper.wp Try.prog o a w K Q else E := by
  have hw : Region.wanted o (yielded ops a.tmps) = true := by simp [Region.wanted, hgd]
  rw [if_pos hw]
  obtain ⟨i0, hi, hz0, hz1, hz2⟩ := info_parts infoStp
  subst hq hn
  obtain ⟨v', w', hr, h2, h3, h4, h5⟩ := run_append_own_at (P := Try.prog) w B 31 o.type 62 i0 (.agg #[.string ⟨#[]⟩, .slice none 0 0]) 2 40 Try.underlying31 hi hz0 hz1 hz2 rfl (by decide) v L.length (L.flatMap StR.enc) hrow ad 1 c' (StR.enc ⟨y, .slice none 0 0⟩) rfl hnews (by simp [StR.enc, Value.oneCell']) (by unfold maxLen; omega) (by omega) hbase
  unfold Oper.wp execOp
  simp only [ho, resolve, invoke, builtin, Sem.run_bind, Sem.run_pure, Result.andThen_ok, List.map_toArray, List.map_cons, List.map_nil, hs, hx, hr]
  rcases h2.2 with ⟨_, h6⟩ | ⟨g', cap', cur, h6, _⟩
  · omega
  · subst h6
    refine h g' cap' w' ?_ h3
    unfold RowT7 RowR
    rw [List.length_append, List.flatMap_append, List.flatMap_singleton]
    exact h2
theorem news_stp (w : World) (y : ByteArray) (t : TypeId) : ∀ j u, (StR.enc ⟨y, .slice none 0 0⟩)[j]? = some u → (w.alloc (.cells #[.string y, .slice none 0 0] t)).cell? ((⟨w.heap.size, 0, none⟩ : Addr).add j) = some u := World.news_of_block (heap_alloc_new w _)
theorem three_fro {w : World} {b : Nat} {a0 a1 a2 : Value} {t : TypeId} (h : w.heap[b]? = some (.cells #[a0, a1, a2] t (0, 0))) :
    (w.cell? ⟨b, 0, none⟩ = some a0 ∧ w.cell? ⟨b, 1, none⟩ = some a1 ∧ w.cell? ⟨b, 2, none⟩ = some a2) ∧ w.frozen? ⟨b, 0, none⟩ = false ∧ w.frozen? ⟨b, 1, none⟩ = false ∧ w.frozen? ⟨b, 2, none⟩ = false := by
  refine ⟨⟨?_, ?_, ?_⟩, frozen_of_row _ _ 0 _ _ h, frozen_of_row _ _ 1 _ _ h, frozen_of_row _ _ 2 _ _ h⟩
  · rw [cell_of_row _ b 0 _ _ _ h]; rfl
  · rw [cell_of_row _ b 1 _ _ _ h]; rfl
  · rw [cell_of_row _ b 2 _ _ _ h]; rfl
/-- what PlainPath's two own boxes hold -/
def Two7 (B : Nat) (T : TypeId) (W : World) (r : Bool) (u : Int) (v : Value) : Prop :=
  W.heap[B + 1 + 1]? = some (.cells #[.bool r, .int .i64 u, v] T (0, 0)) ∧ W.heap[B + 1]? = some (.cells #[.bool false, .int .i64 0, .slice none 0 0] T (0, 0))
theorem Two7.lt {B : Nat} {T : TypeId} {W : World} {r : Bool} {u : Int} {v : Value} (h : Two7 B T W r u v) : B + 1 + 1 < W.heap.size := (Array.getElem?_eq_some_iff.1 h.1).1
theorem Two7.below {B : Nat} {T : TypeId} {W W' : World} {r : Bool} {u : Int} {v : Value} (h : Two7 B T W r u v) (hb : Below W.heap.size W W') : Two7 B T W' r u v :=
  ⟨(hb.block _ h.lt).trans h.1, (hb.block _ (by have := h.lt; omega)).trans h.2⟩
theorem Two7.al {B : Nat} {T : TypeId} {W : World} {r : Bool} {u : Int} {v : Value} (h : Two7 B T W r u v) (o : Obj) : Two7 B T (W.alloc o) r u v :=
  ⟨by rw [Below.heap_alloc _ _ _ h.lt]; exact h.1, by rw [Below.heap_alloc _ _ _ (by have := h.lt; omega)]; exact h.2⟩
theorem Two7.grown {B : Nat} {T : TypeId} {W W' : World} {r : Bool} {u : Int} {v : Value} {j : Option Nat} (h : Two7 B T W r u v) (hg : W.grownBy W' j) (hj : ∀ k, j = some k → B + 3 ≤ k) : Two7 B T W' r u v :=
  ⟨by rw [hg.block _ h.lt (fun e => by have := hj _ e.symm; omega)]; exact h.1, by rw [hg.block _ (by have := h.lt; omega) (fun e => by have := hj _ e.symm; omega)]; exact h.2⟩
theorem Two7.put {B : Nat} {T : TypeId} {W : World} {r : Bool} {u : Int} {v : Value} (h : Two7 B T W r u v) (v' : Value) : Two7 B T (W.setCell ⟨B + 1 + 1, 2, none⟩ v') r u v' :=
  ⟨(heap_setCell_same W (B + 1 + 1) 2 _ T v' h.1).trans rfl, (Below.heap_setCell W ⟨B + 1 + 1, 2, none⟩ _ _ (by simp)).trans h.2⟩
end Go.Proofs.Ythmjffijhlkgcaa
