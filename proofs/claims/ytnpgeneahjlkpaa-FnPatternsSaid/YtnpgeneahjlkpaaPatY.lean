/- CHAPTER 5, spec: l5Twin (the copy of a tree). -/
import Derived.Test.YtnpgeneahjlkpaaPatW
import Derived.Deep.RegionHeld3
import Derived.Deep.RegionLaw
set_option linter.unusedVariables false
set_option linter.unusedSimpArgs false
namespace Go.Proofs.Ytnpgeneahjlkpaa
open Go.RowKit

/-- 'own = append(own, x)' of a pattern at a step of a region that draws its order; own may be nil -/
theorem step_pat_append {w : World} {ops : Array Oper} {o : Oper} {a : Act} {K : Act → World → Prop} {Q : Exit → Act → World → Prop} {E : Prop} (hgd : o.guard = none) (s x : Operand)
    (ho : o.op = .call { callee := .builtin .append, args := #[s, x], argTypes := #[54, 54] })
    (B n : Nat) (v : Value) (L : List PatR) (hs : a.eval s = v) (hrow : RowP B w v L) (hn : L.length = n)
    (y : PatR) (ad : Addr) (c' : Nat) (hx : a.eval x = .slice (some ad) 1 c') (hnews : ∀ j u, y.enc[j]? = some u → w.cell? (ad.add j) = some u) (hy : ∀ u ∈ y.enc, u.oneCell' = true)
    (hlen : n + 1 ≤ 1048576) (hbase : B ≤ w.heap.size) (q : Nat) (hq : q = n + 1)
    (h : ∀ g' c'' w', RowP B w' (.slice (some ⟨g', 0, none⟩) q c'') (L ++ [y]) → w.grownBy w' v.ownBlock → (some g' = v.ownBlock ∨ g' = w.heap.size) → K (a.put o.dst (.slice (some ⟨g', 0, none⟩) q c'')) w') :
    if Region.wanted o (yielded ops a.tmps) = true then Oper.wp Try.prog o a w K Q else E := by
  have hw : Region.wanted o (yielded ops a.tmps) = true := by simp [Region.wanted, hgd]
  rw [if_pos hw]
  obtain ⟨i0, hi, hz0, hz1, hz2⟩ := info_parts infoPat
  subst hn
  subst hq
  obtain ⟨v', w', hr, h2, h3, h4, h5⟩ := run_append_own_at (P := Try.prog) w B 54 o.type 56 i0 (.agg #[.int .i64 0, .string ⟨#[]⟩, .slice none 0 0]) 3 48 Try.underlying54 hi hz0 hz1 hz2 rfl (by decide) v L.length (L.flatMap PatR.enc) hrow ad 1 c' y.enc rfl hnews hy (by unfold maxLen; omega) (by omega) hbase
  unfold Oper.wp execOp
  simp only [ho, resolve, invoke, builtin, Sem.run_bind, Sem.run_pure, Result.andThen_ok, List.map_toArray, List.map_cons, List.map_nil, hs, hx, hr]
  rcases h2.2 with ⟨_, h6⟩ | ⟨g', cap', cur, h6, _⟩
  · omega
  · subst h6
    refine h g' cap' w' ?_ h3 ?_
    · unfold RowP RowR
      rw [List.length_append, List.flatMap_append, List.flatMap_singleton]
      exact h2
    · rcases h5 with h6 | h6
      · exact .inl h6
      · exact .inr (Option.some.inj h6)
theorem news_pat (w : World) (y : PatR) (t : TypeId) : ∀ j u, y.enc[j]? = some u → (w.alloc (.cells #[.int .i64 y.op, .string y.text, y.kv] t)).cell? ((⟨w.heap.size, 0, none⟩ : Addr).add j) = some u := World.news_of_block (heap_alloc_new w _)
/-- the copy's variables, while a call works -/
theorem tw_below {b3 b1 : Nat} {p : Addr} {v kv : Value} {x : PatR} {W3 w1 w2 : World} (k : Below w1.heap.size w1 w2) (h : (w1.cell? ⟨b3, 2, none⟩ = some v ∧ w1.cell? ⟨b1, 2, none⟩ = some kv) ∧ (w1.cell? p = some (.int .i64 x.op) ∧ w1.cell? ⟨p.block, p.off + 1, none⟩ = some (.string x.text) ∧ w1.cell? ⟨p.block, p.off + 2, none⟩ = some x.kv) ∧ RT b3 W3 w1)
    (h3 : b3 < W3.heap.size) (h1 : b1 < W3.heap.size) (hp : p.block < W3.heap.size) :
    (w2.cell? ⟨b3, 2, none⟩ = some v ∧ w2.cell? ⟨b1, 2, none⟩ = some kv) ∧ (w2.cell? p = some (.int .i64 x.op) ∧ w2.cell? ⟨p.block, p.off + 1, none⟩ = some (.string x.text) ∧ w2.cell? ⟨p.block, p.off + 2, none⟩ = some x.kv) ∧ RT b3 W3 w2 := by
  obtain ⟨⟨a1, a2⟩, a3, ht⟩ := h
  have e3 : b3 < w1.heap.size := Nat.lt_of_lt_of_le h3 ht.size
  have e1 : b1 < w1.heap.size := Nat.lt_of_lt_of_le h1 ht.size
  have ep : p.block < w1.heap.size := Nat.lt_of_lt_of_le hp ht.size
  exact ⟨⟨by rw [k.cell (p := ⟨b3, 2, none⟩) e3]; exact a1, by rw [k.cell (p := ⟨b1, 2, none⟩) e1]; exact a2⟩, Pk.below a3 k ep, ht.trans (below_turns k)⟩
theorem tw_grown {b3 b1 : Nat} {p : Addr} {v kv : Value} {x : PatR} {W3 w1 w2 : World} {j : Option Nat} (k : w1.grownBy w2 j) (hj : ∀ g, j = some g → W3.heap.size ≤ g) (h : (w1.cell? ⟨b3, 2, none⟩ = some v ∧ w1.cell? ⟨b1, 2, none⟩ = some kv) ∧ (w1.cell? p = some (.int .i64 x.op) ∧ w1.cell? ⟨p.block, p.off + 1, none⟩ = some (.string x.text) ∧ w1.cell? ⟨p.block, p.off + 2, none⟩ = some x.kv) ∧ RT b3 W3 w1)
    (h3 : b3 < W3.heap.size) (h1 : b1 < W3.heap.size) (hp : p.block < W3.heap.size) :
    (w2.cell? ⟨b3, 2, none⟩ = some v ∧ w2.cell? ⟨b1, 2, none⟩ = some kv) ∧ (w2.cell? p = some (.int .i64 x.op) ∧ w2.cell? ⟨p.block, p.off + 1, none⟩ = some (.string x.text) ∧ w2.cell? ⟨p.block, p.off + 2, none⟩ = some x.kv) ∧ RT b3 W3 w2 := by
  obtain ⟨⟨a1, a2⟩, ⟨a3, a4, a5⟩, ht⟩ := h
  have hc : ∀ q : Addr, q.block < W3.heap.size → w2.cell? q = w1.cell? q := fun q hq => by
    have hb := k.block q.block (Nat.lt_of_lt_of_le hq ht.size) (fun e => absurd (hj _ e.symm) (Nat.not_le.2 hq))
    unfold World.cell?; rw [hb]
  exact ⟨⟨by rw [hc _ h3]; exact a1, by rw [hc _ h1]; exact a2⟩, ⟨by rw [hc _ hp]; exact a3, by rw [hc ⟨p.block, p.off + 1, none⟩ hp]; exact a4, by rw [hc ⟨p.block, p.off + 2, none⟩ hp]; exact a5⟩,
    ⟨k.os.trans ht.os, k.tape.trans ht.tape, k.output.trans ht.output, Nat.le_trans ht.size k.size, fun q hq hs => (k.block q (Nat.lt_of_lt_of_le hq ht.size) (fun e => absurd (hj _ e.symm) (Nat.not_le.2 hq))).trans (ht.block q hq hs)⟩⟩
theorem turns_grown' {S : Nat → Prop} {W w w' : World} {j : Option Nat} (h : TurnsAt S W w) (hg : w.grownBy w' j) (hn : ∀ g, j = some g → W.heap.size ≤ g) : TurnsAt S W w' :=
  ⟨hg.os.trans h.os, hg.tape.trans h.tape, hg.output.trans h.output, Nat.le_trans h.size hg.size, fun q hq hs => (hg.block q (Nat.lt_of_lt_of_le hq h.size) (fun e => absurd (hn _ e.symm) (Nat.not_le.2 hq))).trans (h.block q hq hs)⟩
/-- one more tree in the copy's list -/
theorem tw_round {d B n : Nat} {wr w2 : World} {v : Value} {lk : List Pat} {t : Pat} {A : Option Addr} {c : Nat} {S S' : Nat → Prop} (hO : OwL patK (d + 1) B wr v lk S) (hn : n = lk.length) (hb : Below wr.heap.size wr w2) (hB : B ≤ wr.heap.size) (hp : OwN patK d wr.heap.size w2 ⟨t.x.op, t.x.text, .slice A t.kids.length c⟩ t S') :
    ∃ R : List PatR, RowP B w2 v R ∧ R.length = n ∧ (∀ g, v.ownBlock = some g → B ≤ g ∧ g < wr.heap.size) ∧ ∀ g' c' w4 o, RowP B w4 (.slice (some ⟨g', 0, none⟩) (n + 1) c') (R ++ [⟨t.x.op, t.x.text, .slice A t.kids.length c⟩]) → (w2.alloc o).grownBy w4 v.ownBlock → (some g' = v.ownBlock ∨ g' = (w2.alloc o).heap.size) → ∃ S'', OwL patK (d + 1) B w4 (.slice (some ⟨g', 0, none⟩) (n + 1) c') (lk ++ [t]) S'' := by
  have hO2 := hO.below hb
  obtain ⟨R, hrow, hRl, hgrow⟩ := hO2.grow
  refine ⟨R, hrow, hRl.trans hn.symm, fun g hg => ?_, fun g' c' w4 o h1 h2 h3 => ?_⟩
  · rcases hO.form with ⟨rfl, _⟩ | ⟨g2, cap, rfl, h1, h2⟩
    · cases hg
    · obtain rfl : g2 = g := Option.some.inj hg
      exact ⟨h1, h2⟩
  · refine ⟨_, hgrow (hp.mono hB) (fun q h1 h2 => absurd (hO.lt q h1).2 (Nat.not_lt.2 (hp.lt q h2).1)) h1 ((World.grownBy_alloc w2 o _).trans h2) ?_⟩
    rcases h3 with h3 | h3
    · exact .inl h3
    · exact .inr ⟨g', rfl, by rw [h3]; simp⟩
/-- what a copy's call leaves -/
def TwOut (d : Nat) (t : Pat) (w : World) (e : Ending) (w' : World) : Prop := ∃ (A : Option Addr) (c : Nat) (S : Nat → Prop), e = .returned (.agg #[.int .i64 t.x.op, .string t.x.text, .slice A t.kids.length c]) ∧ OwN patK d w.heap.size w' ⟨t.x.op, t.x.text, .slice A t.kids.length c⟩ t S ∧ Below w.heap.size w w'
def TwinD (d : Nat) : Prop := ∀ (r : PatR) (t : Pat) (w : World), RdN patK d w r t → Few d t.kids → Calls Try.prog 148 #[.agg #[.int .i64 r.op, .string r.text, r.kv]] w (TwOut d t w)
set_option maxRecDepth 100000 in
set_option maxHeartbeats 2000000 in
theorem twin_of {d : Nat} (ih : TwinD d) : TwinD (d + 1) := by
  rintro ⟨op, text, kv⟩ ⟨⟨xo, xt⟩, l⟩ w ⟨⟨h1, h2⟩, hk⟩ hf
  obtain rfl : op = xo := h1
  obtain rfl : text = xt := h2
  obtain ⟨R, ⟨A, cap, hkv, hn', hc⟩, hRl, hRk⟩ := hk
  obtain rfl : kv = .slice A R.length cap := hkv
  obtain ⟨hf1, hf2⟩ := hf
  obtain ⟨n, hnn⟩ : ∃ n, n = l.length := ⟨_, rfl⟩
  have HN : Hid (n = l.length) := Lib.hid hnn
  have hn31 : n ≤ 31 := by rw [hnn]; exact hf1
  have HRL : Hid (R.length = n) := Lib.hid (hRl.trans hnn.symm)
  rw [HRL.out]
  rw [show patK.enc = PatR.enc from rfl, show patK.z = 3 from rfl] at hc
  have HC : ∀ i, i < n → ∃ (a : Addr) (x : PatR) (t : Pat), A = some a ∧ (a.add (i * 3)).block < w.heap.size ∧ Pk w (a.add (i * 3)) x ∧ Hid (l.take (i + 1) = l.take i ++ [t]) ∧ ∀ W, Below w.heap.size w W → Calls Try.prog 148 #[.agg #[.int .i64 x.op, .string x.text, x.kv]] W (TwOut d t W) := fun i hi => by
    have h1 : i < R.length := by rw [HRL.out]; exact hi
    obtain ⟨a, e1, e2, e3⟩ := HasP.pk hc i h1
    have hl : i < l.length := by rw [← hnn]; exact hi
    exact ⟨a, R[i], l[i], e1, e2, e3, Lib.hid (List.take_succ_eq_append_getElem hl), fun W hb => ih _ _ W (RdN.below (hRk i h1 hl) hb) (hf2 _ (List.getElem_mem hl))⟩
  clear hc hRk hRl hnn hf1 hf2 ih hn'
  have HO0 : Hid (∀ W, OwL patK (d + 1) (w.heap.size + 3) W (.slice none 0 0) (l.take 0) (fun _ => False)) := Lib.hid fun W => owL_nil patK (d + 1) _ W
  have hW : Hid (∀ W3, W3 = (((w.alloc (.cells #[.int .i64 op, .string text, .slice A n cap] 56)).alloc (.cells #[.int .i64 0, .string ⟨#[]⟩, .slice none 0 0] 56)).alloc (.cells #[.int .i64 op, .string text, .slice none 0 0] 56)) → W3.heap.size = w.heap.size + 3 ∧ Below w.heap.size w W3 ∧ W3.heap[w.heap.size]? = some (.cells #[.int .i64 op, .string text, .slice A n cap] 56 (0, 0)) ∧ W3.heap[w.heap.size + 1]? = some (.cells #[.int .i64 0, .string ⟨#[]⟩, .slice none 0 0] 56 (0, 0)) ∧ W3.heap[w.heap.size + 1 + 1]? = some (.cells #[.int .i64 op, .string text, .slice none 0 0] 56 (0, 0))) := Lib.hid (by
    rintro W3 rfl
    have a1 := heap_alloc_new w (.cells #[.int .i64 op, .string text, .slice A n cap] 56)
    have a2 := heap_alloc_new (w.alloc (.cells #[.int .i64 op, .string text, .slice A n cap] 56)) (.cells #[.int .i64 0, .string ⟨#[]⟩, .slice none 0 0] 56)
    have a3 := heap_alloc_new ((w.alloc (.cells #[.int .i64 op, .string text, .slice A n cap] 56)).alloc (.cells #[.int .i64 0, .string ⟨#[]⟩, .slice none 0 0] 56)) (.cells #[.int .i64 op, .string text, .slice none 0 0] 56)
    refine ⟨by simp, ((below_al (below_al (below_al (Below.refl w.heap.size w) _) _) _)), ?_, ?_, ?_⟩
    · exact ((below_al (below_al (Below.refl _ _) _) _).block _ (by simp)).trans a1
    · exact ((below_al (Below.refl _ _) _).block _ (by simp)).trans (by simpa using a2)
    · simpa using a3)
  go_enter Try.func148, Try.ntmps148
  go_wp2
  obtain ⟨W3, hW3⟩ : ∃ W3, W3 = (((w.alloc (.cells #[.int .i64 op, .string text, .slice A n cap] 56)).alloc (.cells #[.int .i64 0, .string ⟨#[]⟩, .slice none 0 0] 56)).alloc (.cells #[.int .i64 op, .string text, .slice none 0 0] 56)) := ⟨_, rfl⟩
  have HW3 := Lib.hid (hW.out W3 hW3)
  rw [← hW3]
  clear hW3 hW
  go_loopw [4] (fun i wr => ∃ (k : Nat) (v : Value) (S : Nat → Prop), k ≤ n ∧ i = .int .i64 k ∧ Hid (OwL patK (d + 1) (w.heap.size + 3) wr v (l.take k) S) ∧ wr.heap[w.heap.size + 1 + 1]? = some (.cells #[.int .i64 op, .string text, v] 56 (0, 0)) ∧ RT (w.heap.size + 1 + 1) W3 wr) (fun i _ => n - (intOf i).toNat)
  case atStart => exact ⟨0, .slice none 0 0, _, Nat.zero_le _, rfl, Lib.hid (HO0.out W3), HW3.out.2.2.2.2, TurnsAt.refl _ _⟩
  case round =>
    obtain ⟨k, v, S, hk, rfl, HO, hX, hT⟩ := hrel
    obtain ⟨hs3, hb3, hq1, hq2, _⟩ := HW3.out
    have hbel : Below w.heap.size w wr := hb3.trans (hT.below (by omega) (by rintro _ rfl; omega))
    have hr1 : wr.heap[w.heap.size]? = some (.cells #[.int .i64 op, .string text, .slice A n cap] 56 (0, 0)) := (hT.block _ (by omega) (by omega)).trans hq1
    have d2 : wr.cell? ⟨w.heap.size, 2, none⟩ = some (.slice A n cap) := by rw [cell_of_row _ w.heap.size 2 _ _ _ hr1]; rfl
    have e0 : wr.cell? ⟨w.heap.size + 1 + 1, 0, none⟩ = some (.int .i64 op) := by rw [cell_of_row _ (w.heap.size + 1 + 1) 0 _ _ _ hX]; rfl
    have e1 : wr.cell? ⟨w.heap.size + 1 + 1, 1, none⟩ = some (.string text) := by rw [cell_of_row _ (w.heap.size + 1 + 1) 1 _ _ _ hX]; rfl
    have e2 : wr.cell? ⟨w.heap.size + 1 + 1, 2, none⟩ = some v := by rw [cell_of_row _ (w.heap.size + 1 + 1) 2 _ _ _ hX]; rfl
    have f2 : wr.frozen? ⟨w.heap.size + 1 + 1, 2, none⟩ = false := by simp [World.frozen?, hX]
    have hwr3 : w.heap.size + 3 ≤ wr.heap.size := by have := hT.size; omega
    have HX := Lib.hid hX
    have HB := Lib.hid hbel
    have HT := Lib.hid hT
    clear hb3 hq1 hr1 hX HO0
    by_cases hlt : k < n
    · obtain ⟨a, x, t, rfl, hab, hx, HTK, hcall⟩ := HC k hlt
      obtain ⟨c0, c1, c2⟩ := hx.below hbel hab
      have HCALL := Lib.hid hcall
      have HSZ := Lib.hid hs3
      have HS3 : Hid (w.heap.size + 1 + 1 < W3.heap.size ∧ w.heap.size < W3.heap.size ∧ (a.add (k * 3)).block < W3.heap.size) := Lib.hid ⟨by omega, by omega, by omega⟩
      have HLK : Hid (k = (l.take k).length) := Lib.hid (by rw [List.length_take]; have := HN.out; omega)
      clear hx hcall hbel hq2 hs3 HC hT
      go_wp2
      go_region_law (first
          | (refine step_pat_append rfl _ _ (by rfl) (w.heap.size + 3) k v RR (by rfl) (RowR.alloc hrow _) hRRl ⟨t.x.op, t.x.text, .slice A' t.kids.length c'⟩ ⟨w2.heap.size, 0, none⟩ 1 (by rfl) (news_pat _ _ _) (pat_cells _ _ _ _ _) (by omega) (by have := hbm.size; simp at this ⊢; omega) (k + 1) rfl ?_
             intro g' c4 w4 hrow4 hg4 hp4
             have hX4 : w4.heap[w.heap.size + 1 + 1]? = some (.cells #[.int .i64 op, .string text, v] 56 (0, 0)) := (hg4.block _ (by have := hbm.size; simp at this ⊢; omega) (fun e => by have h1 := (hgB _ e.symm).1; omega)).trans ((((Below.refl wr.heap.size wr).drew.trans hbm).trans (by exact (below_al (Below.refl _ _) _).mono (by have := hbm.size; simpa using this))).block _ (by omega) |>.trans HX.out)
             have f4 : w4.frozen? ⟨w.heap.size + 1 + 1, 2, none⟩ = false := by simp [World.frozen?, hX4]
             have e4 : w4.cell? ⟨w.heap.size + 1 + 1, 2, none⟩ = some v := by rw [cell_of_row _ (w.heap.size + 1 + 1) 2 _ _ _ hX4]; rfl)
          | (go_simp; go_at_call 148; refine (HCALL.out _ (by first | exact HB.out.drew | exact HB.out)).mono ?_; rintro e w2 ⟨A', c', S', rfl, ho, hbm⟩; obtain ⟨RR, hrow, hRRl, hgB, hF⟩ := tw_round HO.out HLK.out (by first | exact hbm | exact ((Below.refl wr.heap.size wr).drew.trans hbm)) hwr3 ho; have HF := Lib.hid hF; clear hF ho; have hX2 : w2.heap[w.heap.size + 1 + 1]? = some (.cells #[.int .i64 op, .string text, v] 56 (0, 0)) := (((Below.refl wr.heap.size wr).drew.trans hbm).block _ (by omega)).trans HX.out; have e5 : w2.cell? ⟨w.heap.size + 1 + 1, 2, none⟩ = some v := (by rw [cell_of_row _ (w.heap.size + 1 + 1) 2 _ _ _ hX2]; rfl); have hz5 : w.heap.size + 1 + 1 < w2.heap.size := (Array.getElem?_eq_some_iff.1 hX2).1))
      all_goals
        have HR : Hid (∃ S'', Hid (OwL patK (d + 1) (w.heap.size + 3) (w4.setCell ⟨w.heap.size + 1 + 1, 2, none⟩ (.slice (some ⟨g', 0, none⟩) (k + 1) c4)) (.slice (some ⟨g', 0, none⟩) (k + 1) c4) (l.take (k + 1)) S'') ∧ (w4.setCell ⟨w.heap.size + 1 + 1, 2, none⟩ (.slice (some ⟨g', 0, none⟩) (k + 1) c4)).heap[w.heap.size + 1 + 1]? = some (.cells #[.int .i64 op, .string text, .slice (some ⟨g', 0, none⟩) (k + 1) c4] 56 (0, 0)) ∧ RT (w.heap.size + 1 + 1) W3 (w4.setCell ⟨w.heap.size + 1 + 1, 2, none⟩ (.slice (some ⟨g', 0, none⟩) (k + 1) c4))) := Lib.hid (by
          obtain ⟨S'', hS''⟩ := HF.out g' c4 w4 _ hrow4 hg4 hp4
          rw [← HTK.out] at hS''
          refine ⟨S'', Lib.hid (OwL.set hS'' (by omega)), by rw [heap_setCell_same w4 (w.heap.size + 1 + 1) 2 _ _ _ hX4]; rfl, TurnsAt.trans ?_ (turns_set _ _ _ _ rfl)⟩
          refine turns_grown' (turns_al (HT.out.trans (below_turns ((Below.refl wr.heap.size wr).drew.trans hbm))) _) hg4 (fun g hg => ?_)
          have h1 := (hgB g hg).1
          have h2 := HSZ.out
          omega)
        clear hrow4 hg4 hp4 hX4 f4 e4 hbm hrow hRRl hgB HF
        go_wp2
        go_roundw
        case rel =>
          obtain ⟨S'', h1, h2, h3⟩ := HR.out
          exact ⟨k + 1, _, S'', by omega, by go_num, h1, h2, h3⟩
        case measure => simp [intOf]; omega
    · have hkn : k = n := by omega
      have hr2 : wr.heap[w.heap.size + 1]? = some (.cells #[.int .i64 0, .string ⟨#[]⟩, .slice none 0 0] 56 (0, 0)) := (HT.out.block _ (by omega) (by omega)).trans hq2
      have g0 : wr.cell? ⟨w.heap.size + 1, 0, none⟩ = some (.int .i64 0) := by rw [cell_of_row _ (w.heap.size + 1) 0 _ _ _ hr2]; rfl
      have g1 : wr.cell? ⟨w.heap.size + 1, 1, none⟩ = some (.string ⟨#[]⟩) := by rw [cell_of_row _ (w.heap.size + 1) 1 _ _ _ hr2]; rfl
      have g2 : wr.cell? ⟨w.heap.size + 1, 2, none⟩ = some (.slice none 0 0) := by rw [cell_of_row _ (w.heap.size + 1) 2 _ _ _ hr2]; rfl
      have i0 : wr.frozen? ⟨w.heap.size + 1, 0, none⟩ = false := by simp [World.frozen?, hr2]
      have i1 : wr.frozen? ⟨w.heap.size + 1, 1, none⟩ = false := by simp [World.frozen?, hr2]
      have i2 : wr.frozen? ⟨w.heap.size + 1, 2, none⟩ = false := by simp [World.frozen?, hr2]
      have hll : l.take k = l := List.take_of_length_le (by have := HN.out; omega)
      rw [hll] at HO
      obtain ⟨A', c', rfl⟩ := (HO.out.rd).form
      have HLL : Hid (∀ x0 x1 x2, TwOut (d + 1) (.mk ⟨op, text⟩ l) w (.returned (.agg #[.int .i64 op, .string text, .slice A' l.length c'])) (((wr.setCell ⟨w.heap.size + 1, 0, none⟩ x0).setCell ⟨w.heap.size + 1, 1, none⟩ x1).setCell ⟨w.heap.size + 1, 2, none⟩ x2)) := Lib.hid fun x0 x1 x2 =>
        ⟨A', c', S, rfl, owN_of ((((OwL.set HO.out (by omega)).set (by omega)).set (by omega)).mono (by omega)), below_set (below_set (below_set hbel (by omega)) (by omega)) (by omega)⟩
      clear hr2 hq2 hs3 hkn hll HC hbel hT
      go_wp2
      refine bodyPost_ret (v := .agg #[.int .i64 op, .string text, .slice A' l.length c']) (by simp [results, Try.results148, go_sem, g0, g1, g2]) rfl ?_
      exact HLL.out _ _ _
set_option maxRecDepth 100000 in
set_option maxHeartbeats 1000000 in
theorem twin_0 : TwinD 0 := by
  rintro ⟨op, text, kv⟩ ⟨⟨xo, xt⟩, l⟩ w ⟨⟨h1, h2⟩, hl, A, cap, hkv, _⟩ hf
  obtain rfl : op = xo := h1
  obtain rfl : text = xt := h2
  obtain rfl : l = [] := hl
  obtain rfl : kv = .slice A 0 cap := hkv
  have HLL : Hid (∀ W, Below w.heap.size w W → TwOut 0 (.mk ⟨op, text⟩ []) w (.returned (.agg #[.int .i64 op, .string text, .slice none 0 0])) W) := Lib.hid fun W hb =>
    ⟨none, 0, fun _ => False, rfl, owN_leaf _ _ _ _ _, hb⟩
  clear hf
  have HB : Hid (Below w.heap.size w (((w.alloc (.cells #[.int .i64 op, .string text, .slice A 0 cap] 56)).alloc (.cells #[.int .i64 0, .string ⟨#[]⟩, .slice none 0 0] 56)).alloc (.cells #[.int .i64 op, .string text, .slice none 0 0] 56))) := Lib.hid (below_al (below_al (below_al (Below.refl w.heap.size w) _) _) _)
  go_enter Try.func148, Try.ntmps148
  go_wp2
  go_loopw [4] (fun i wr => i = .int .i64 0 ∧ wr = ((w.alloc (.cells #[.int .i64 op, .string text, .slice A 0 cap] 56)).alloc (.cells #[.int .i64 0, .string ⟨#[]⟩, .slice none 0 0] 56)).alloc (.cells #[.int .i64 op, .string text, .slice none 0 0] 56)) (fun _ _ => 0)
  case atStart => exact ⟨rfl, rfl⟩
  case round =>
    obtain ⟨rfl, rfl⟩ := hrel
    go_wp2
    refine bodyPost_ret (v := .agg #[.int .i64 op, .string text, .slice none 0 0]) (by simp [results, Try.results148, go_sem]) rfl ?_
    refine HLL.out _ ?_
    first | exact below_set (below_set (below_set HB.out (by simp)) (by simp)) (by simp) | exact below_al (below_al (below_al (Below.refl w.heap.size w) _) _) _
theorem twin_any : ∀ d, TwinD d
  | 0 => twin_0
  | d + 1 => twin_of (twin_any d)
theorem stwin : STwinC := fun d r t w h hf => twin_any d r t w h hf
end Go.Proofs.Ytnpgeneahjlkpaa
