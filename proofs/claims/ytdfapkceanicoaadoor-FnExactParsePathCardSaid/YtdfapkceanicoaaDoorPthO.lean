/- MERGED for a claim: PthJ Mark PthK PthL PthM PthN PthO. -/
import Derived.Test.YtdfapkceanicoaaDoorPthE
import Derived.Deep.RegionHeld3
import Derived.Deep.RegionLaw
import Derived.Test.YtdfapkceanicoaaDoorNumQ
import Derived.Test.YtdfapkceanicoaaDoorStrs
set_option linter.unusedVariables false
set_option linter.unusedSimpArgs false
/- CHAPTER 7: PlainPath of both. -/
namespace Go.Proofs.YtdfapkceanicoaaDoor
open Go.RowKit

/-- a step without its tests; the same as it lies -/
def plS (s : Stp) : Stp := ⟨s.n, []⟩
def plR (s : Stp) : StR := ⟨s.n, .slice none 0 0⟩
def plP (p : Pth) : Pth := ⟨p.root, p.ups, p.st.map plS⟩
theorem rowT_plain' {B : Nat} {w : World} {v : Value} {R : List StR} {l : List Stp} (hr : RowT7 B w v R) (hl : R.length = l.length) (hp : ∀ i (h : i < R.length) (h' : i < l.length), R[i].n = l[i].n ∧ R[i].tv = .slice none 0 0 ∧ l[i].ts = []) : ∃ S, OwnS B w v l S := by
  refine ⟨fun b => v.ownBlock = some b ∨ ∃ i, i < R.length ∧ False, ?_⟩
  refine ⟨R, fun i b => False, hr, by rw [List.length_map]; exact hl, fun i h1 h2 => ?_, fun i j b h1 h2 h3 h4 => h3.elim, fun i b h1 h2 => h2.elim, fun b => Iff.rfl⟩
  rw [List.length_map] at h2
  obtain ⟨e1, e2, e3⟩ := hp i h1 h2
  have hx : RowX B w R[i].tv l[i].ts := by rw [e2, e3]; exact ⟨by simp, .inl ⟨rfl, rfl⟩⟩
  have hn : ∀ b, R[i].tv.ownBlock ≠ some b := fun b => by rw [e2]; simp [Value.ownBlock]
  refine ⟨fun _ => False, fun _ => False, ⟨⟨?_, ?_⟩, fun b => ?_⟩, ?_, fun b _ hb => hb, fun b => ?_⟩
  · rw [List.getElem_map]; exact e1
  · rw [List.getElem_map]; exact hx
  · exact ⟨fun h => h.elim, fun h => (hn b h).elim⟩
  · rw [List.getElem_map]; exact ⟨rfl, ⟨by simp, .inl ⟨rfl, rfl⟩⟩, fun b => by simp [stK, Value.ownBlock]⟩
  · simp
theorem rowT_plain {B : Nat} {w : World} {v : Value} {l : List Stp} (h : RowT7 B w v (l.map plR)) : ∃ S, OwnS B w v (l.map plS) S :=
  rowT_plain' h (by simp) fun i h1 h2 => by simp [plR, plS]
theorem wpList_stp_append {ops : Array Oper} {rest : List Oper} {o : Oper} {a : Act} {Q : Exit → Act → World → Prop} {w : World} (hgd : o.guard = none) (s x : Operand)
    (ho : o.op = .call { callee := .builtin .append, args := #[s, x], argTypes := #[24, 24] })
    (B n : Nat) (v : Value) (L : List StR) (hs : a.eval s = v) (hrow : RowT7 B w v L) (hn : n = L.length)
    (y : ByteArray) (b : Nat) (hx : a.eval x = .slice (some ⟨b, 0, none⟩) 1 1) (hb : b = w.heap.size) (hlen : n + 1 ≤ 549755813888) (hbase : B ≤ w.heap.size) (q : Nat) (hq : q = n + 1)
    (h : ∀ g' c'' w', RowT7 B w' (.slice (some ⟨g', 0, none⟩) q c'') (L ++ [⟨y, .slice none 0 0⟩]) → (w.alloc (.cells #[.string y, .slice none 0 0] 50)).grownBy w' v.ownBlock → wpList Tryd.prog ops Q rest (a.put o.dst (.slice (some ⟨g', 0, none⟩) q c'')) w') :
    wpList Tryd.prog ops Q (o :: rest) a (w.alloc (.cells #[.string y, .slice none 0 0] 50)) := by
  obtain ⟨i0, hi, hz0, hz1, hz2⟩ := info_parts infoStp
  subst hq hn hb
  refine wpList_append_own _ hgd s x 24 ho B 50 i0 (.agg #[.string ⟨#[]⟩, .slice none 0 0]) 2 40 Tryd.underlying24 hi hz0 hz1 hz2 rfl (by decide) _ L.length (L.flatMap StR.enc) hs (RowR.alloc hrow _) ⟨w.heap.size, 0, none⟩ 1 1 (StR.enc ⟨y, .slice none 0 0⟩) hx rfl (World.news_of_block (heap_alloc_new w _)) (by simp [StR.enc, Value.oneCell']) (by unfold maxLen; omega) (by omega) (Nat.le_trans hbase ((Below.refl 0 w).alloc (Nat.zero_le _) _).size) ?_
  intro v' w' h2 h3 h4
  rcases h2.2 with ⟨h5, _⟩ | ⟨g', cap', cur, h5, _⟩
  · exact absurd (h4.1 h5).2 (by simp)
  · subst h5
    refine h g' cap' w' ?_ h3
    unfold RowT7 RowR
    rw [List.length_append, List.flatMap_append, List.flatMap_singleton]
    exact h2
/-- 'own = append(own, x)' of a step at a step of a region that draws its order; own may be nil -/
theorem step_stp_append {w : World} {ops : Array Oper} {o : Oper} {a : Act} {K : Act → World → Prop} {Q : Exit → Act → World → Prop} {E : Prop} (hgd : o.guard = none) (s x : Operand)
    (ho : o.op = .call { callee := .builtin .append, args := #[s, x], argTypes := #[24, 24] })
    (B n : Nat) (v : Value) (L : List StR) (hs : a.eval s = v) (hrow : RowT7 B w v L) (hn : n = L.length)
    (y : ByteArray) (ad : Addr) (c' : Nat) (hx : a.eval x = .slice (some ad) 1 c') (hnews : ∀ j u, (StR.enc ⟨y, .slice none 0 0⟩)[j]? = some u → w.cell? (ad.add j) = some u)
    (hlen : n + 1 ≤ 549755813888) (hbase : B ≤ w.heap.size) (q : Nat) (hq : q = n + 1)
    (h : ∀ g' c'' w', RowT7 B w' (.slice (some ⟨g', 0, none⟩) q c'') (L ++ [⟨y, .slice none 0 0⟩]) → w.grownBy w' v.ownBlock → K (a.put o.dst (.slice (some ⟨g', 0, none⟩) q c'')) w') :
    if Region.wanted o (yielded ops a.tmps) = true then Oper.wp Tryd.prog o a w K Q else E := by
  have hw : Region.wanted o (yielded ops a.tmps) = true := by simp [Region.wanted, hgd]
  rw [if_pos hw]
  obtain ⟨i0, hi, hz0, hz1, hz2⟩ := info_parts infoStp
  subst hq hn
  obtain ⟨v', w', hr, h2, h3, h4, h5⟩ := run_append_own_at (P := Tryd.prog) w B 24 o.type 50 i0 (.agg #[.string ⟨#[]⟩, .slice none 0 0]) 2 40 Tryd.underlying24 hi hz0 hz1 hz2 rfl (by decide) v L.length (L.flatMap StR.enc) hrow ad 1 c' (StR.enc ⟨y, .slice none 0 0⟩) rfl hnews (by simp [StR.enc, Value.oneCell']) (by unfold maxLen; omega) (by omega) hbase
  unfold Oper.wp execOp
  simp only [ho, resolve, invoke, builtin, Sem.run_bind, Sem.run_pure, Result.andThen_ok, List.map_toArray, List.map_cons, List.map_nil, hs, hx, hr]
  rcases h2.2 with ⟨_, h6⟩ | ⟨g', cap', cur, h6, _⟩
  · omega
  · subst h6
    refine h g' cap' w' ?_ h3
    unfold RowT7 RowR
    rw [List.length_append, List.flatMap_append, List.flatMap_singleton]
    exact h2
theorem news_stp (w : World) (y : ByteArray) (t : TypeId) : ∀ j u, (StR.enc ⟨y, .slice none 0 0⟩)[j]? = some u → (w.alloc (.cells #[.string y, .slice none 0 0] t)).cell? ((⟨w.heap.size, 0, none⟩ : Addr).add j) = some u := World.news_of_block (heap_alloc_new w _)
theorem three_fro {w : World} {b : Nat} {a0 a1 a2 : Value} {t : TypeId} (h : w.heap[b]? = some (.cells #[a0, a1, a2] t (0, 0))) :
    (w.cell? ⟨b, 0, none⟩ = some a0 ∧ w.cell? ⟨b, 1, none⟩ = some a1 ∧ w.cell? ⟨b, 2, none⟩ = some a2) ∧ w.frozen? ⟨b, 0, none⟩ = false ∧ w.frozen? ⟨b, 1, none⟩ = false ∧ w.frozen? ⟨b, 2, none⟩ = false := by
  refine ⟨⟨?_, ?_, ?_⟩, frozen_of_row _ _ 0 _ _ h, frozen_of_row _ _ 1 _ _ h, frozen_of_row _ _ 2 _ _ h⟩
  · rw [cell_of_row _ b 0 _ _ _ h]; rfl
  · rw [cell_of_row _ b 1 _ _ _ h]; rfl
  · rw [cell_of_row _ b 2 _ _ _ h]; rfl
/-- what PlainPath's two own boxes hold -/
def Two7 (B : Nat) (T : TypeId) (W : World) (r : Bool) (u : Int) (v : Value) : Prop :=
  W.heap[B + 1 + 1]? = some (.cells #[.bool r, .int .i64 u, v] T (0, 0)) ∧ W.heap[B + 1]? = some (.cells #[.bool false, .int .i64 0, .slice none 0 0] T (0, 0))
theorem Two7.lt {B : Nat} {T : TypeId} {W : World} {r : Bool} {u : Int} {v : Value} (h : Two7 B T W r u v) : B + 1 + 1 < W.heap.size := (Array.getElem?_eq_some_iff.1 h.1).1
theorem Two7.below {B : Nat} {T : TypeId} {W W' : World} {r : Bool} {u : Int} {v : Value} (h : Two7 B T W r u v) (hb : Below W.heap.size W W') : Two7 B T W' r u v :=
  ⟨(hb.block _ h.lt).trans h.1, (hb.block _ (by have := h.lt; omega)).trans h.2⟩
theorem Two7.al {B : Nat} {T : TypeId} {W : World} {r : Bool} {u : Int} {v : Value} (h : Two7 B T W r u v) (o : Obj) : Two7 B T (W.alloc o) r u v :=
  ⟨by rw [Below.heap_alloc _ _ _ h.lt]; exact h.1, by rw [Below.heap_alloc _ _ _ (by have := h.lt; omega)]; exact h.2⟩
theorem Two7.grown {B : Nat} {T : TypeId} {W W' : World} {r : Bool} {u : Int} {v : Value} {j : Option Nat} (h : Two7 B T W r u v) (hg : W.grownBy W' j) (hj : ∀ k, j = some k → B + 3 ≤ k) : Two7 B T W' r u v :=
  ⟨by rw [hg.block _ h.lt (fun e => by have := hj _ e.symm; omega)]; exact h.1, by rw [hg.block _ (by have := h.lt; omega) (fun e => by have := hj _ e.symm; omega)]; exact h.2⟩
theorem Two7.put {B : Nat} {T : TypeId} {W : World} {r : Bool} {u : Int} {v : Value} (h : Two7 B T W r u v) (v' : Value) : Two7 B T (W.setCell ⟨B + 1 + 1, 2, none⟩ v') r u v' :=
  ⟨(heap_setCell_same W (B + 1 + 1) 2 _ T v' h.1).trans rfl, (Below.heap_setCell W ⟨B + 1 + 1, 2, none⟩ _ _ (by simp)).trans h.2⟩
set_option maxRecDepth 100000 in
set_option maxHeartbeats 2000000 in
theorem iPlain_any (v : PthV) (p : Pth) (w : World) (h : HasP7 w v p) (hz : p.st.length ≤ 1048576) :
    Calls Tryd.prog 9 #[v.val] w fun e w' => ∃ v' : PthV, e = .returned v'.val ∧ (v'.root = p.root ∧ v'.ups = p.ups ∧ RowT7 w.heap.size w' v'.sv (p.st.map plR)) ∧ Below w.heap.size w w' := by
  obtain ⟨r, u, l⟩ := p
  obtain ⟨r', u', sv⟩ := v
  obtain ⟨rfl, rfl, hs⟩ := h
  dsimp only at hs hz ⊢
  obtain ⟨A, cap, rfl, hn', hc⟩ := hs.at
  obtain ⟨n, hnn⟩ : ∃ n, n = l.length := ⟨_, rfl⟩
  have HN : Hid (n = l.length) := Lib.hid hnn
  rw [← hnn] at hn' hz ⊢
  obtain ⟨B, hB⟩ : ∃ B, B = w.heap.size := ⟨_, rfl⟩
  have hb0 := below_al (below_al (below_al (Below.refl w.heap.size w) (.cells #[.bool r', .int .i64 u', .slice A n cap] 26)) (.cells #[.bool false, .int .i64 0, .slice none 0 0] 26)) (.cells #[.bool r', .int .i64 u', .slice none 0 0] 26)
  have ht0 : Two7 w.heap.size 26 (((w.alloc (.cells #[.bool r', .int .i64 u', .slice A n cap] 26)).alloc (.cells #[.bool false, .int .i64 0, .slice none 0 0] 26)).alloc (.cells #[.bool r', .int .i64 u', .slice none 0 0] 26)) r' u' (.slice none 0 0) :=
    ⟨alloc_new_at' _ _ (by simp), by rw [Below.heap_alloc _ _ _ (by simp)]; exact alloc_new_at' _ _ (by simp)⟩
  have hrow0 : ∀ W, RowT7 (w.heap.size + 3) W (.slice none 0 0) [] := fun W => ⟨by simp, .inl ⟨rfl, rfl⟩⟩
  have HSZ := Lib.hid hz
  clear hnn hz hs
  go_enter Tryd.func9, Tryd.ntmps9
  go_wp2
  have hsz0 : w.heap.size + 3 ≤ (((w.alloc (.cells #[.bool r', .int .i64 u', .slice A n cap] 26)).alloc (.cells #[.bool false, .int .i64 0, .slice none 0 0] 26)).alloc (.cells #[.bool r', .int .i64 u', .slice none 0 0] 26)).heap.size := by simp
  go_loopw [14] (fun i wr => ∃ (k : Nat) (D : Option Addr) (c : Nat), k ≤ n ∧ i = .int .i64 k ∧ Hid (Two7 w.heap.size 26 wr r' u' (.slice D k c)) ∧ Hid (RowT7 (w.heap.size + 3) wr (.slice D k c) ((l.take k).map plR)) ∧ Hid (w.heap.size + 3 ≤ wr.heap.size) ∧ Hid (Below w.heap.size w wr)) (fun i _ => n - (intOf i).toNat)
  case atStart => exact ⟨0, none, 0, Nat.zero_le _, rfl, Lib.hid ht0, Lib.hid (by simpa using hrow0 _), Lib.hid hsz0, Lib.hid hb0⟩
  case round =>
    clear hb0 ht0 hrow0 hsz0
    obtain ⟨k, D, c, hk, rfl, HT, HR, HG, HB⟩ := hrel
    by_cases hlt : k < n
    · have hlk : k < l.length := by rw [← HN.out]; exact hlt
      obtain ⟨a, r, rfl, hab, hcell, hrn, hrt⟩ := hc k hlk
      obtain ⟨c0, c1⟩ := hcell.below HB.out hab
      obtain ⟨rA, rc, re, -⟩ := id hrt
      have HX : Hid ((l.take (k + 1)).map plR = (l.take k).map plR ++ [⟨r.n, .slice none 0 0⟩]) := Lib.hid (by rw [List.take_succ_eq_append_getElem hlk, List.map_append, List.map_singleton]; simp [plR, hrn])
      have HK : Hid (k = ((l.take k).map plR).length) := Lib.hid (by simp; omega)
      generalize l[k].ts.length = rm at re
      obtain ⟨rn, rtv⟩ := r
      dsimp only at re c0 c1 HX
      subst re
      clear hcell hrn hrt hc
      have HM : Hid (k + 1 ≤ 549755813888) := Lib.hid (by have := HSZ.out; omega)
      have HT1 := Lib.hid (HT.out.al (.cells #[.string rn, .slice rA rm rc] 50))
      have HR1 := Lib.hid (RowR.alloc HR.out (.cells #[.string rn, .slice rA rm rc] 50))
      obtain ⟨⟨x0, x1, x2⟩, -⟩ := three_fro HT1.out.1
      have hq : w.heap.size + 1 + 1 < wr.heap.size := HT.out.lt
      go_wp2_with (at_builtin; refine wpList_stp_append rfl _ _ rfl (w.heap.size + 3) k (.slice D k c) _ (by rfl) HR1.out HK.out rn (wr.heap.size + 1) (by rfl) (by simp) HM.out (by simp; omega) (k + 1) rfl ?_; intro g' c' w4 hrow4 hg4; have HR4 := Lib.hid hrow4; have HG4 := Lib.hid hg4; have HT4 := Lib.hid ((HT1.out.al _).grown hg4 (fun q e => (RowR.lt HR.out e).1)); obtain ⟨⟨y0, y1, y2⟩, f0, f1, f2⟩ := three_fro HT4.out.1; clear hrow4 hg4)
      go_roundw
      case rel =>
        have hb := (below_al (below_al HB.out (.cells #[.string rn, .slice rA rm rc] 50)) (.cells #[.string rn, .slice none 0 0] 50))
        have hs4 : w.heap.size + 3 ≤ w4.heap.size := by have h4 := HG4.out.size; have := HG.out; simp at h4; omega
        refine ⟨k + 1, _, _, by omega, by go_num, Lib.hid (HT4.out.put _), Lib.hid ?_, Lib.hid (by simpa [World.setCell] using hs4), Lib.hid (below_set (hb.grown HG4.out hb.size (fun q e => by have := (RowR.lt HR.out e).1; omega)) (by omega))⟩
        rw [HX.out]
        exact ownsRow_setCell_other (a := ⟨w.heap.size + 1 + 1, 2, none⟩) HR4.out (fun e => by have := (RowR.lt HR4.out e).1; simp at this; omega) _
      case measure => simp [intOf]; omega
    · have hkn : k = n := by omega
      obtain ⟨⟨x0, x1, x2⟩, f0, f1, f2⟩ := three_fro HT.out.1
      obtain ⟨⟨r0, r1, r2⟩, g0, g1, g2⟩ := three_fro HT.out.2
      have HR2 : Hid (RowT7 (w.heap.size + 3) wr (.slice D k c) (l.map plR)) := Lib.hid (by have := HR.out; rwa [List.take_of_length_le (by have := HN.out; omega)] at this)
      clear hkn hc
      go_wp2
      refine bodyPost_ret (v := .agg #[.bool r', .int .i64 u', .slice D k c]) (by simp [results, Tryd.results9, go_sem, x0, x1, x2, f0, f1, f2, r0, r1, r2, g0, g1, g2]) rfl ?_
      refine ⟨⟨r', u', .slice D k c⟩, rfl, ⟨rfl, rfl, ?_⟩, ?_⟩
      · have h1 : ∀ (W : World) b j u, b < w.heap.size + 3 → RowT7 (w.heap.size + 3) W (.slice D k c) (l.map plR) → RowT7 (w.heap.size + 3) (W.setCell ⟨b, j, none⟩ u) (.slice D k c) (l.map plR) := fun W b j u hb h => ownsRow_setCell_other h (a := ⟨b, j, none⟩) (fun e => by have := (RowR.lt h e).1; simp at this; omega) _
        exact RowR.mono (h1 _ _ _ _ (by omega) (h1 _ _ _ _ (by omega) (h1 _ _ _ _ (by omega) HR2.out))) (by omega)
      · exact below_set (below_set (below_set HB.out (by omega)) (by omega)) (by omega)
end Go.Proofs.YtdfapkceanicoaaDoor

/- THE MARKS OF THE LAWS: markText, and a list of texts marked and found as marked. -/
namespace Go.Proofs.YtdfapkceanicoaaDoor
open Go.RowKit NumP

/-- the k-th mark -/
def markS (k : Nat) : ByteArray := ⟨(109 :: dec k).toArray⟩
set_option maxRecDepth 100000 in
set_option maxHeartbeats 1000000 in
theorem mark_any (m : Nat) (h0 : 0 < m) (hh : m ≤ 4611686018427387904) (w : World) :
    Calls Tryd.prog 58 #[.int .i64 m] w fun e w' => e = .returned (.string (markS m)) ∧ Below w.heap.size w w' := by
  go_enter Tryd.func58, Tryd.ntmps58
  go_wp2
  go_loopw [0, 3] (fun x s wr => ∃ (q : Nat) (l : List UInt8), q ≤ 4611686018427387904 ∧ l.length ≤ 20 ∧ x = .int .i64 q ∧ s = .string ⟨l.toArray⟩ ∧ SF m q l ∧ Below w.heap.size w wr) (fun x _ _ => (intOf x).toNat)
  case atStart => exact ⟨m, [], by omega, by simp, rfl, rfl, ⟨fun h => by omega, fun _ => by simp⟩, Below.refl _ _⟩
  case round =>
    obtain ⟨q, l, hq, hll, rfl, rfl, hsf, hbel⟩ := hrel
    by_cases hq0 : 0 < q
    · obtain ⟨b, hb⟩ : ∃ b, b = UInt8.ofNat (48 + q % 10) := ⟨_, rfl⟩
      have hcv := conv_one wr b
      have hs := SF_step (by omega) hq0 hsf
      rw [hb, digit_byte, ← hb] at hcv
      rw [← hb] at hs
      clear hb
      go_wp2
      go_roundw
      case rel =>
        exact ⟨q / 10, _, by omega, hs.2, by go_num, val_str (str_cons _ _), hs.1, hbel.alloc hbel.size _⟩
      case measure => simp [intOf]; omega
    · go_wp2
      go_ret
      exact ⟨ret_str (by unfold markS; rw [← hsf.1 (by omega)]; exact ByteArray.mk_append_mk [109] _), hbel⟩

/-- n marks from the k-th on -/
def marks (k n : Nat) : List ByteArray := (List.range n).map fun i => markS (k + i)
theorem marks_length (k n : Nat) : (marks k n).length = n := by simp [marks]
theorem marks_get (k n i : Nat) (h : i < (marks k n).length) : (marks k n)[i] = markS (k + i) := by simp [marks]
theorem marks_step {l : List ByteArray} {k i n : Nat} (hi : i < n) (hn : n = l.length) : (marks k i ++ l.drop i).set i (markS (k + i)) = marks k (i + 1) ++ l.drop (i + 1) := by
  subst hn
  rw [List.set_append_right _ _ (by rw [marks_length]; exact Nat.le_refl _), marks_length, Nat.sub_self, List.drop_eq_getElem_cons hi, List.set_cons_zero]
  unfold marks
  rw [List.range_succ, List.map_append, List.append_assoc]; rfl

theorem held_step {w w1 w2 : World} {p : Addr} {v : Option Value} (k : Below w1.heap.size w1 w2) (h : w1.cell? p = v ∧ Below w.heap.size w w1) (hp : p.block < w.heap.size) : w2.cell? p = v ∧ Below w.heap.size w w2 :=
  ⟨by rw [k.cell (Nat.lt_of_lt_of_le hp h.2.size)]; exact h.1, below_step h.2 k⟩
end Go.Proofs.YtdfapkceanicoaaDoor

/- CHAPTER 7: the marks of tests. -/
namespace Go.Proofs.YtdfapkceanicoaaDoor
open Go.RowKit NumP

/-- the test that is marked from the q-th mark on; n of them -/
def mX (q : Nat) : Tst := ⟨markS q, markS (q + 1)⟩
def marksX (k n : Nat) : List Tst := (List.range n).map fun i => mX (k + 2 * i)
theorem marksX_length (k n : Nat) : (marksX k n).length = n := by simp [marksX]
theorem marksX_get (k n i : Nat) (h : i < (marksX k n).length) : (marksX k n)[i] = mX (k + 2 * i) := by simp [marksX]
theorem marksX_step {l : List Tst} {k i n : Nat} (hi : i < n) (hn : n = l.length) : (marksX k i ++ l.drop i).set i (mX (k + 2 * i)) = marksX k (i + 1) ++ l.drop (i + 1) := by
  subst hn
  rw [List.set_append_right _ _ (by rw [marksX_length]; exact Nat.le_refl _), marksX_length, Nat.sub_self, List.drop_eq_getElem_cons hi, List.set_cons_zero]
  unfold marksX
  rw [List.range_succ, List.map_append, List.append_assoc]; rfl
theorem mark_nextX (q : Nat) (hq : q + 1 ≤ 4611686018427387904) (w : World) :
    Calls Tryd.prog 58 #[.int .i64 ((q : Int) + 1)] w fun e w' => e = .returned (.string (markS (q + 1))) ∧ Below w.heap.size w w' := by
  have h := mark_any (q + 1) (by omega) hq w
  rwa [Int.natCast_add] at h
theorem RowX.put_mk {B g n cap : Nat} {w w1 : World} {L : List Tst} {i : Nat} {x y : ByteArray} (h : RowX B w (.slice (some ⟨g, 0, none⟩) n cap) L) (hi : i < L.length) (hb : Below (w.setCell ⟨g, i * 2, none⟩ (.string x)).heap.size (w.setCell ⟨g, i * 2, none⟩ (.string x)) w1) :
    RowX B (w1.setCell ⟨g, i * 2 + 1, none⟩ (.string y)) (.slice (some ⟨g, 0, none⟩) n cap) (L.set i ⟨x, y⟩) ∧
    w.grownBy (w1.setCell ⟨g, i * 2 + 1, none⟩ (.string y)) (some g) ∧
    w1.cell? ⟨g, i * 2 + 1, none⟩ = some (.string L[i].v) ∧ w1.frozen? ⟨g, i * 2 + 1, none⟩ = false := by
  have h0 := RowR.set1 Tst.enc_len h hi 0 (by omega) (.string x) ⟨x, L[i].v⟩ rfl
  have h0' := RowR.below h0.1 hb
  have hi' : i < (L.set i ⟨x, L[i].v⟩).length := by simpa using hi
  have h1 := RowR.set1 Tst.enc_len h0' hi' 1 (by omega) (.string y) ⟨x, y⟩ (by simp [Tst.enc])
  have hc := tstCells h0' hi'
  have hg : (w.setCell ⟨g, i * 2, none⟩ (.string x)).grownBy w1 (some g) := ⟨hb.os, hb.tape, hb.output, hb.size, fun k hk _ => hb.block k hk⟩
  refine ⟨?_, (h0.2.trans hg).trans h1.2, ?_, hc.2.2⟩
  · have := h1.1
    simpa [List.set_set] using this
  · have := hc.1.2
    simpa using this
set_option maxRecDepth 100000 in
set_option maxHeartbeats 1000000 in
theorem markTsts_any (B : Nat) (v : Value) (l : List Tst) (k : Nat) (w : World) (hv : RowX B w v l) (hn : l.length ≤ 1048576) (hk0 : 0 < k) (hk : k ≤ 4398046511104) :
    Calls Tryd.prog 59 #[v, .int .i64 k] w fun e w' => e = .returned (.int .i64 ((k + 2 * l.length : Nat) : Int)) ∧ RowX B w' v (marksX k l.length) ∧ w.grownBy w' v.ownBlock := by
  rcases RowR.form hv with ⟨rfl, rfl⟩ | ⟨g, cap, rfl, hg0, hg⟩
  · go_enter Tryd.func59, Tryd.ntmps59
    go_wp2
    go_loopw [1, 5] (fun x i wr => x = .int .i64 k ∧ i = .int .i64 0 ∧ wr = w) (fun _ _ _ => 0)
    case atStart => exact ⟨rfl, rfl, rfl⟩
    case round =>
      obtain ⟨rfl, rfl, rfl⟩ := hrel
      go_wp2
      go_ret
      exact ⟨ret_int (by simp), hv, ⟨rfl, rfl, rfl, Nat.le_refl _, fun _ _ _ => rfl⟩⟩
  · obtain ⟨n, hnn⟩ : ∃ n, n = l.length := ⟨_, rfl⟩
    have HN : Hid (n = l.length) := Lib.hid hnn
    have hv0 : RowX B w (.slice (some ⟨g, 0, none⟩) n cap) (marksX k 0 ++ l.drop 0) := by rw [hnn]; simpa [marksX] using hv
    rw [← hnn] at hn ⊢
    clear hv hnn
    go_enter Tryd.func59, Tryd.ntmps59
    go_wp2
    go_loopw [1, 5] (fun x i wr => ∃ j q : Nat, j ≤ n ∧ Hid (q = k + 2 * j) ∧ (0 < q ∧ q ≤ 8796093022208) ∧ x = .int .i64 q ∧ i = .int .i64 j ∧ RowX B wr (.slice (some ⟨g, 0, none⟩) n cap) (marksX k j ++ l.drop j) ∧ w.grownBy wr (some g)) (fun _ i _ => n - (intOf i).toNat)
    case atStart => exact ⟨0, k, Nat.zero_le _, Lib.hid (by omega), by omega, rfl, rfl, hv0, ⟨rfl, rfl, rfl, Nat.le_refl _, fun _ _ _ => rfl⟩⟩
    case round =>
      obtain ⟨j, q, hj, HQ, ⟨hq0, hq⟩, rfl, rfl, hrow, hgr⟩ := hrel
      by_cases hlt : j < n
      · have hL : j < (marksX k j ++ l.drop j).length := by have := HN.out; simp [marksX_length]; omega
        have hq1 : q + 1 ≤ 4611686018427387904 := by omega
        have hq2 : q ≤ 4611686018427387904 := by omega
        go_wp2_with (first
          | (go_at_call 58; ((with_reducible refine (mark_any q hq0 hq2 _).mono ?_)); rintro e w1 ⟨rfl, hb1⟩; have hrow1 := RowR.below hrow hb1; have HG1 := Lib.hid (hgr.trans (grown_below hb1)); obtain ⟨⟨e0, e1⟩, f0, f1⟩ := tstCells hrow1 hL; clear hrow hgr hb1)
          | (go_at_call 58; ((with_reducible refine (mark_nextX q hq1 _).mono ?_)); rintro e w2 ⟨rfl, hb2⟩; obtain ⟨hp1, hp2, c1, d1⟩ := RowX.put_mk (y := markS (q + 1)) hrow1 hL hb2; have HP := Lib.hid hp1; have HG := Lib.hid (HG1.out.trans hp2); clear hrow1 hb2 hp1 hp2))
        go_roundw
        case rel =>
          refine ⟨j + 1, q + 2, by omega, Lib.hid (by have := HQ.out; omega), by have := HQ.out; omega, by go_num, by go_num, ?_, HG.out⟩
          have h := HP.out
          have e : (⟨markS q, markS (q + 1)⟩ : Tst) = mX (k + 2 * j) := by rw [← HQ.out]; rfl
          rw [e, marksX_step hlt HN.out] at h
          exact h
        case measure => simp [intOf]; omega
      · go_wp2
        go_ret
        have e : j = n := by omega
        subst e
        rw [List.drop_of_length_le (by have := HN.out; omega), List.append_nil] at hrow
        exact ⟨ret_int (by rw [HQ.out]), hrow, hgr⟩
set_option maxRecDepth 100000 in
set_option maxHeartbeats 1000000 in
theorem heldTsts_any (v : Value) (k n : Nat) (w : World) (hv : HasX w v (marksX k n)) (hn : n ≤ 1048576) (hk0 : 0 < k) (hk : k ≤ 4398046511104) :
    Calls Tryd.prog 60 #[v, .int .i64 k] w fun e w' => e = .returned (.int .i64 ((k + 2 * n : Nat) : Int)) ∧ Below w.heap.size w w' := by
  obtain ⟨A, cap, rfl, hn', hc⟩ := hv
  have hc1 : ∀ i, i < n → ∃ a, A = some a ∧ (a.add (i * 2)).block < w.heap.size ∧ Xk w (a.add (i * 2)) (mX (k + 2 * i)) := fun i hi => by
    obtain ⟨a, h1, h2, h3⟩ := HasX.xk hc i (by rw [marksX_length]; exact hi)
    exact ⟨a, h1, h2, by rw [← marksX_get k n i (by rw [marksX_length]; exact hi)]; exact h3⟩
  clear hc
  rw [marksX_length] at hn' ⊢
  go_enter Tryd.func60, Tryd.ntmps60
  go_wp2
  go_loopw [1, 5] (fun x i wr => ∃ j q : Nat, j ≤ n ∧ Hid (q = k + 2 * j) ∧ (0 < q ∧ q ≤ 8796093022208) ∧ x = .int .i64 q ∧ i = .int .i64 j ∧ Below w.heap.size w wr) (fun _ i _ => n - (intOf i).toNat)
  case atStart => exact ⟨0, k, Nat.zero_le _, Lib.hid (by omega), by omega, rfl, rfl, Below.refl _ _⟩
  case round =>
    obtain ⟨j, q, hj, HQ, ⟨hq0, hq⟩, rfl, rfl, hbel⟩ := hrel
    by_cases hlt : j < n
    · obtain ⟨a, rfl, hab, hcell⟩ := hc1 j hlt
      rw [← HQ.out] at hcell
      have HCL : Hid (∀ W, Below w.heap.size w W → W.cell? (a.add (j * 2)) = some (.string (markS q)) ∧ W.cell? ⟨(a.add (j * 2)).block, (a.add (j * 2)).off + 1, none⟩ = some (.string (markS (q + 1)))) := Lib.hid fun W hb => hcell.below hb hab
      obtain ⟨c0, -⟩ := HCL.out _ hbel
      have hq1 : q + 1 ≤ 4611686018427387904 := by omega
      have hq2 : q ≤ 4611686018427387904 := by omega
      clear hcell hc1
      go_wp2
      go_region_held3 (fun w' => w'.cell? (a.add (j * 2)) = some (.string (markS q)) ∧ Below w.heap.size w w') (first | exact ⟨c0, hbel.drew⟩ | exact held_step hbm (by assumption) hab | go_keep)
        (first | (go_at_call 58; refine (mark_any q hq0 hq2 _).mono ?_; rintro e w1 ⟨rfl, hbm⟩))
      have hB2 := (by assumption : _ ∧ Below w.heap.size w w1).2
      obtain ⟨-, c1⟩ := HCL.out _ hB2
      clear c0 hbel
      go_wp2
      go_region_held3 (fun w' => w'.cell? ⟨(a.add (j * 2)).block, (a.add (j * 2)).off + 1, none⟩ = some (.string (markS (q + 1))) ∧ Below w.heap.size w w') (first | exact ⟨c1, hB2.drew⟩ | exact held_step hbm (by assumption) hab | go_keep)
        (first | (go_at_call 58; refine (mark_nextX q hq1 _).mono ?_; rintro e w2 ⟨rfl, hbm⟩))
      have hB3 := (by assumption : _ ∧ Below w.heap.size w w2).2
      clear c1 hB2
      go_wp2
      go_roundw
      case rel => exact ⟨j + 1, q + 2, by omega, Lib.hid (by have := HQ.out; omega), by have := HQ.out; omega, by go_num, by go_num, hB3⟩
      case measure => simp [intOf]; omega
    · go_wp2
      go_ret
      have e : j = n := by omega
      subst e
      exact ⟨ret_int (by rw [HQ.out]), hbel⟩
end Go.Proofs.YtdfapkceanicoaaDoor

/- CHAPTER 7: the marks of steps without tests. -/
namespace Go.Proofs.YtdfapkceanicoaaDoor
open Go.RowKit NumP

/-- the step that bears the q-th mark; n of them from the k-th on -/
def mS (q : Nat) : StR := ⟨markS q, .slice none 0 0⟩
def marksS (k n : Nat) : List StR := (List.range n).map fun i => mS (k + i)
theorem marksS_length (k n : Nat) : (marksS k n).length = n := by simp [marksS]
theorem marksS_get (k n i : Nat) (h : i < (marksS k n).length) : (marksS k n)[i] = mS (k + i) := by simp [marksS]
theorem marksS_step {l : List StR} {k i n : Nat} (hi : i < n) (hn : n = l.length) : (marksS k i ++ l.drop i).set i (mS (k + i)) = marksS k (i + 1) ++ l.drop (i + 1) := by
  subst hn
  rw [List.set_append_right _ _ (by rw [marksS_length]; exact Nat.le_refl _), marksS_length, Nat.sub_self, List.drop_eq_getElem_cons hi, List.set_cons_zero]
  unfold marksS
  rw [List.range_succ, List.map_append, List.append_assoc]; rfl
theorem marksS_at {l : List Stp} {k j i : Nat} (hi : i < (marksS k j ++ (l.map plR).drop j).length) : (marksS k j ++ (l.map plR).drop j)[i].tv = .slice none 0 0 := by
  rw [List.getElem_append]
  split
  · rw [marksS_get]; rfl
  · rw [List.getElem_drop, List.getElem_map]; rfl
set_option maxRecDepth 100000 in
theorem markTsts_nil (x : Int) (w : World) : Calls Tryd.prog 59 #[.slice none 0 0, .int .i64 x] w fun e w' => e = .returned (.int .i64 x) ∧ w = w' := by
  go_enter Tryd.func59, Tryd.ntmps59
  go_wp2
  go_loopw [1, 5] (fun y i wr => y = .int .i64 x ∧ i = .int .i64 0 ∧ w = wr) (fun _ _ _ => 0)
  case atStart => exact ⟨rfl, rfl, rfl⟩
  case round =>
    obtain ⟨rfl, rfl, rfl⟩ := hrel
    go_wp2
    go_ret
    exact ⟨rfl, rfl⟩
set_option maxRecDepth 100000 in
theorem heldTsts_nil (x : Int) (w : World) : Calls Tryd.prog 60 #[.slice none 0 0, .int .i64 x] w fun e w' => e = .returned (.int .i64 x) ∧ w = w' := by
  go_enter Tryd.func60, Tryd.ntmps60
  go_wp2
  go_loopw [1, 5] (fun y i wr => y = .int .i64 x ∧ i = .int .i64 0 ∧ w = wr) (fun _ _ _ => 0)
  case atStart => exact ⟨rfl, rfl, rfl⟩
  case round =>
    obtain ⟨rfl, rfl, rfl⟩ := hrel
    go_wp2
    go_ret
    exact ⟨rfl, rfl⟩
set_option maxRecDepth 100000 in
set_option maxHeartbeats 1000000 in
theorem markStps0 (B : Nat) (v : Value) (l : List Stp) (w : World) (hv : RowT7 B w v (l.map plR)) (hn : l.length ≤ 1048576) :
    Calls Tryd.prog 33 #[v, .int .i64 1] w fun e w' => e = .returned (.int .i64 ((1 + l.length : Nat) : Int)) ∧ RowT7 B w' v (marksS 1 l.length) ∧ w.grownBy w' v.ownBlock := by
  rcases RowR.form hv with ⟨rfl, hl⟩ | ⟨g, cap, rfl, hg0, hg⟩
  · obtain rfl : l = [] := by simpa using hl
    go_enter Tryd.func33, Tryd.ntmps33
    go_wp2
    go_loopw [1, 5] (fun x i wr => x = .int .i64 1 ∧ i = .int .i64 0 ∧ wr = w) (fun _ _ _ => 0)
    case atStart => exact ⟨rfl, rfl, rfl⟩
    case round =>
      obtain ⟨rfl, rfl, rfl⟩ := hrel
      go_wp2
      go_ret
      exact ⟨ret_int (by simp), hv, ⟨rfl, rfl, rfl, Nat.le_refl _, fun _ _ _ => rfl⟩⟩
  · obtain ⟨n, hnn⟩ : ∃ n, n = l.length := ⟨_, rfl⟩
    have HN : Hid (n = (l.map plR).length) := Lib.hid (by rw [hnn]; simp)
    have hv0 : RowT7 B w (.slice (some ⟨g, 0, none⟩) n cap) (marksS 1 0 ++ (l.map plR).drop 0) := by rw [hnn]; simpa [marksS] using hv
    rw [List.length_map]
    rw [← hnn] at hn ⊢
    clear hv hnn
    go_enter Tryd.func33, Tryd.ntmps33
    go_wp2
    go_loopw [1, 5] (fun x i wr => ∃ j q : Nat, j ≤ n ∧ Hid (q = 1 + j) ∧ (0 < q ∧ q ≤ 2147483648) ∧ x = .int .i64 q ∧ i = .int .i64 j ∧ RowT7 B wr (.slice (some ⟨g, 0, none⟩) n cap) (marksS 1 j ++ (l.map plR).drop j) ∧ w.grownBy wr (some g)) (fun _ i _ => n - (intOf i).toNat)
    case atStart => exact ⟨0, 1, Nat.zero_le _, Lib.hid (by omega), by omega, rfl, rfl, hv0, ⟨rfl, rfl, rfl, Nat.le_refl _, fun _ _ _ => rfl⟩⟩
    case round =>
      obtain ⟨j, q, hj, HQ, ⟨hq0, hq⟩, rfl, rfl, hrow, hgr⟩ := hrel
      by_cases hlt : j < n
      · have hL : j < (marksS 1 j ++ (l.map plR).drop j).length := by have := HN.out; rw [List.length_append, marksS_length, List.length_drop]; omega
        have hq2 : q ≤ 4611686018427387904 := by omega
        have htv := marksS_at hL
        go_wp2_with (first
          | (go_at_call 58; refine (mark_any q hq0 hq2 _).mono ?_; rintro e w1 ⟨rfl, hb1⟩; have hrow1 := RowR.below hrow hb1; have HG1 := Lib.hid (hgr.trans (grown_below hb1)); obtain ⟨⟨e0, e1⟩, f0, f1⟩ := stCells hrow1 hL; rw [htv] at e1; have HP := Lib.hid (RowR.set1 StR.enc_len hrow1 hL 0 (by omega) (.string (markS q)) (mS q) (by simp [StR.enc, mS, htv])); clear hrow hgr hb1 hrow1)
          | (go_at_call 59; refine (markTsts_nil _ _).mono ?_; rintro e w2 ⟨rfl, rfl⟩))
        go_roundw
        case rel =>
          refine ⟨j + 1, q + 1, by omega, Lib.hid (by have := HQ.out; omega), by have := HQ.out; omega, by go_num, by go_num, ?_, HG1.out.trans HP.out.2⟩
          have h := HP.out.1
          rw [show mS q = mS (1 + j) by rw [HQ.out], marksS_step hlt HN.out] at h
          exact h
        case measure => simp [intOf]; omega
      · go_wp2
        go_ret
        have e : j = n := by omega
        subst e
        rw [List.drop_of_length_le (by have := HN.out; omega), List.append_nil] at hrow
        exact ⟨ret_int (by rw [HQ.out]), hrow, hgr⟩
set_option maxRecDepth 100000 in
set_option maxHeartbeats 1000000 in
theorem heldStps0 (v : Value) (n : Nat) (w : World) (hv : HasR StR.enc 2 w v (marksS 1 n)) (hn : n ≤ 1048576) :
    Calls Tryd.prog 34 #[v, .int .i64 1] w fun e w' => e = .returned (.int .i64 ((1 + n : Nat) : Int)) ∧ Below w.heap.size w w' := by
  obtain ⟨A, cap, rfl, hn', hc⟩ := hv
  have hc1 : ∀ i, i < n → ∃ a, A = some a ∧ (a.add (i * 2)).block < w.heap.size ∧ Sk w (a.add (i * 2)) (mS (1 + i)) := fun i hi => by
    obtain ⟨a, h1, h2, h3⟩ := HasSR.sk hc i (by rw [marksS_length]; exact hi)
    exact ⟨a, h1, h2, by rw [← marksS_get 1 n i (by rw [marksS_length]; exact hi)]; exact h3⟩
  clear hc
  rw [marksS_length] at hn' ⊢
  go_enter Tryd.func34, Tryd.ntmps34
  go_wp2
  go_loopw [1, 5] (fun x i wr => ∃ j q : Nat, j ≤ n ∧ Hid (q = 1 + j) ∧ (0 < q ∧ q ≤ 2147483648) ∧ x = .int .i64 q ∧ i = .int .i64 j ∧ Below w.heap.size w wr) (fun _ i _ => n - (intOf i).toNat)
  case atStart => exact ⟨0, 1, Nat.zero_le _, Lib.hid (by omega), by omega, rfl, rfl, Below.refl _ _⟩
  case round =>
    obtain ⟨j, q, hj, HQ, ⟨hq0, hq⟩, rfl, rfl, hbel⟩ := hrel
    by_cases hlt : j < n
    · obtain ⟨a, rfl, hab, hcell⟩ := hc1 j hlt
      rw [← HQ.out] at hcell
      have HCL : Hid (∀ W, Below w.heap.size w W → W.cell? (a.add (j * 2)) = some (.string (markS q)) ∧ W.cell? ⟨(a.add (j * 2)).block, (a.add (j * 2)).off + 1, none⟩ = some (.slice none 0 0)) := Lib.hid fun W hb => hcell.below hb hab
      obtain ⟨c0, -⟩ := HCL.out _ hbel
      have hq2 : q ≤ 4611686018427387904 := by omega
      clear hcell hc1
      go_wp2
      go_region_held3 (fun w' => w'.cell? (a.add (j * 2)) = some (.string (markS q)) ∧ Below w.heap.size w w') (first | exact ⟨c0, hbel.drew⟩ | exact held_step hbm (by assumption) hab | go_keep)
        (first | (go_at_call 58; refine (mark_any q hq0 hq2 _).mono ?_; rintro e w1 ⟨rfl, hbm⟩))
      have hB2 := (by assumption : _ ∧ Below w.heap.size w w1).2
      obtain ⟨-, c1⟩ := HCL.out _ hB2
      clear c0 hbel
      have hq3 : decide ((q : Int) + 1 < 0) = false := by simp; omega
      have hq4 : ¬ ((q : Int) + 1 < 0) := by omega
      go_wp2_with (go_at_call 60; refine (heldTsts_nil _ _).mono ?_; rintro e w2 ⟨rfl, rfl⟩)
      go_roundw
      case rel => exact ⟨j + 1, q + 1, by omega, Lib.hid (by have := HQ.out; omega), by have := HQ.out; omega, by go_num, by go_num, hB2⟩
      case measure => simp [intOf]; omega
    · go_wp2
      go_ret
      have e : j = n := by omega
      subst e
      exact ⟨ret_int (by rw [HQ.out]), hbel⟩
set_option maxRecDepth 100000 in
theorem markPth0 (B : Nat) (v : PthV) (l : List Stp) (w : World) (hv : RowT7 B w v.sv (l.map plR)) (hn : l.length ≤ 1048576) :
    Calls Tryd.prog 15 #[v.val, .int .i64 1] w fun e w' => e = .returned (.int .i64 ((1 + l.length : Nat) : Int)) ∧ RowT7 B w' v.sv (marksS 1 l.length) ∧ TurnsAt (fun b => v.sv.ownBlock = some b) w w' := by
  obtain ⟨r, u, sv⟩ := v
  dsimp only at hv ⊢
  obtain ⟨A, m, c, rfl⟩ : ∃ A n c, sv = .slice A n c := by obtain ⟨A, c, hv', _⟩ := RowR.has StR.enc_len hv; exact ⟨A, _, c, hv'⟩
  have HV := Lib.hid (markStps0 B _ l _ (RowR.alloc hv (.cells #[.bool r, .int .i64 u, .slice A m c] 26)) hn)
  clear hv
  go_enter Tryd.func15, Tryd.ntmps15
  go_wp2_with fail
  refine (HV.out).mono ?_
  rintro e w1 ⟨rfl, h1, h2⟩
  have hb := (below_turns (S := fun b => (Value.slice A m c).ownBlock = some b) (below_al (Below.refl w.heap.size w) (.cells #[.bool r, .int .i64 u, .slice A m c] 26))).trans (grown_turns h2 (fun b e => e))
  clear h2
  go_wp2
  go_ret
  exact ⟨rfl, h1, hb⟩
set_option maxRecDepth 100000 in
theorem heldPth0 (v : PthV) (n : Nat) (w : World) (hv : HasR StR.enc 2 w v.sv (marksS 1 n)) (hn : n ≤ 1048576) :
    Calls Tryd.prog 16 #[v.val, .int .i64 1] w fun e w' => e = .returned (.int .i64 ((1 + n : Nat) : Int)) ∧ Below w.heap.size w w' := by
  obtain ⟨r, u, sv⟩ := v
  dsimp only at hv ⊢
  obtain ⟨A, m, c, rfl⟩ : ∃ A n c, sv = .slice A n c := by obtain ⟨A, c, hv', _⟩ := hv; exact ⟨A, _, c, hv'⟩
  have HV := Lib.hid (heldStps0 _ n _ (HasR.below hv (below_al (Below.refl w.heap.size w) (.cells #[.bool r, .int .i64 u, .slice A m c] 26))) hn)
  clear hv
  go_enter Tryd.func16, Tryd.ntmps16
  go_wp2_with fail
  refine (HV.out).mono ?_
  rintro e w1 ⟨rfl, h1⟩
  have hb := below_step (below_al (Below.refl w.heap.size w) (.cells #[.bool r, .int .i64 u, .slice A m c] 26)) h1
  have q1 : ¬ ((1 + n : Nat) : Int) < 0 := by omega
  obtain ⟨q, hq⟩ : ∃ q : Int, q = ((1 + n : Nat) : Int) := ⟨_, rfl⟩
  rw [← hq] at q1 ⊢
  have HQ := Lib.hid hq
  clear h1 hq
  go_wp2
  go_ret
  exact ⟨ret_int HQ.out, hb⟩
end Go.Proofs.YtdfapkceanicoaaDoor

/- CHAPTER 7: marks written into owned steps with their tests. -/
namespace Go.Proofs.YtdfapkceanicoaaDoor
open Go.RowKit NumP

/-- steps that are being marked -/
structure MkI (B : Nat) (w : World) (v : Value) (R : List StR) (K : Nat → Nat → Prop) : Prop where
  row : RowT7 B w v R
  ts : ∀ i (h : i < R.length), ∃ ts' : List Tst, ts'.length ≤ 1048576 ∧ RowX B w R[i].tv ts' ∧ ∀ b, R[i].tv.ownBlock = some b → K i b
  dis : ∀ i j b, i < R.length → j < R.length → K i b → K j b → i = j
  nv : ∀ i b, i < R.length → K i b → v.ownBlock ≠ some b
theorem MkI.below {B : Nat} {w w' : World} {v : Value} {R : List StR} {K : Nat → Nat → Prop} (h : MkI B w v R K) (hb : Below w.heap.size w w') : MkI B w' v R K :=
  ⟨RowR.below h.row hb, fun i hi => by obtain ⟨t, h1, h2, h3⟩ := h.ts i hi; exact ⟨t, h1, RowR.below h2 hb, h3⟩, h.dis, h.nv⟩
theorem MkI.name {B g n cap : Nat} {w : World} {R : List StR} {K : Nat → Nat → Prop} (h : MkI B w (.slice (some ⟨g, 0, none⟩) n cap) R K) {j : Nat} (hj : j < R.length) (x : ByteArray) :
    MkI B (w.setCell ⟨g, j * 2, none⟩ (.string x)) (.slice (some ⟨g, 0, none⟩) n cap) (R.set j ⟨x, R[j].tv⟩) K ∧ w.grownBy (w.setCell ⟨g, j * 2, none⟩ (.string x)) (some g) := by
  have h0 := RowR.set1 StR.enc_len h.row hj 0 (by omega) (.string x) ⟨x, R[j].tv⟩ rfl
  refine ⟨⟨h0.1, fun i hi => ?_, fun i k b h1 h2 => h.dis i k b (by simpa using h1) (by simpa using h2), fun i b h1 => h.nv i b (by simpa using h1)⟩, h0.2⟩
  have hi' : i < R.length := by simpa using hi
  have e : (R.set j ⟨x, R[j].tv⟩)[i].tv = R[i].tv := by
    by_cases e : i = j
    · subst e; rw [List.getElem_set_self]
    · rw [List.getElem_set_ne (by omega)]
  rw [e]
  obtain ⟨t, h1, h2, h3⟩ := h.ts i hi'
  exact ⟨t, h1, RowR.other (u := .slice (some ⟨g, 0, none⟩) 0 0) h2 h0.2 (fun k hk e => h.nv i k hi' (h3 k hk) e), h3⟩
theorem MkI.tests {B g n cap : Nat} {w w' : World} {R : List StR} {K : Nat → Nat → Prop} (h : MkI B w (.slice (some ⟨g, 0, none⟩) n cap) R K) {j : Nat} (hj : j < R.length) {ts : List Tst} (ht : RowX B w' R[j].tv ts) (hl : ts.length ≤ 1048576)
    (hg : w.grownBy w' R[j].tv.ownBlock) : MkI B w' (.slice (some ⟨g, 0, none⟩) n cap) R K := by
  obtain ⟨_, _, _, hK⟩ := h.ts j hj
  refine ⟨RowR.other h.row hg (fun k hk e => h.nv j k hj (hK k e) hk), fun i hi => ?_, h.dis, h.nv⟩
  by_cases e : i = j
  · subst e; exact ⟨ts, hl, ht, hK⟩
  · obtain ⟨t, h1, h2, h3⟩ := h.ts i hi
    exact ⟨t, h1, RowR.other h2 hg (fun k hk e' => e (h.dis i j k hi hj (h3 k hk) (hK k e'))), h3⟩
theorem OwnS.mk {B : Nat} {w : World} {v : Value} {l : List Stp} {S : Nat → Prop} (h : OwnS B w v l S) (hs : ∀ s ∈ l, s.ts.length ≤ 1048576) :
    ∃ (R : List StR) (K : Nat → Nat → Prop), MkI B w v R K ∧ R.length = l.length ∧ (∀ b, v.ownBlock = some b → S b) ∧ ∀ i b, i < R.length → K i b → S b := by
  obtain ⟨R, K, h1, h2, h3, h4, h5, h6⟩ := OwL.parts h
  have h2' : R.length = l.length := by rw [h2, List.length_map]
  refine ⟨R, K, ⟨h1, fun i hi => ?_, h4, h5⟩, h2', fun b hb => (h6 b).2 (.inl hb), fun i b hi hb => (h6 b).2 (.inr ⟨i, hi, hb⟩)⟩
  obtain ⟨S1, S2, ⟨⟨_, q2⟩, q3⟩, _, _, q4⟩ := h3 i hi (by rw [← h2]; exact hi)
  rw [List.getElem_map] at q2
  exact ⟨l[i].ts, hs _ (List.getElem_mem _), q2, fun b hb => (q4 b).2 (.inl ((q3 b).2 hb))⟩
set_option maxRecDepth 100000 in
set_option maxHeartbeats 1000000 in
theorem markStps_any (B : Nat) (v : Value) (l : List Stp) (S : Nat → Prop) (w : World) (hv : OwnS B w v l S) (hn : l.length ≤ 1048576) (hs : ∀ s ∈ l, s.ts.length ≤ 1048576) :
    Calls Tryd.prog 33 #[v, .int .i64 1] w fun e w' => ∃ x : Int, (e = .returned (.int .i64 x) ∧ 0 ≤ x) ∧ TurnsAt S w w' := by
  obtain ⟨R0, K, hm, hl, hS1, hS2⟩ := hv.mk hs
  rcases RowR.form hm.row with ⟨rfl, hl0⟩ | ⟨g, cap, rfl, hg0, hg⟩
  · clear hm hl hl0
    go_enter Tryd.func33, Tryd.ntmps33
    go_wp2
    go_loopw [1, 5] (fun x i wr => x = .int .i64 1 ∧ i = .int .i64 0 ∧ wr = w) (fun _ _ _ => 0)
    case atStart => exact ⟨rfl, rfl, rfl⟩
    case round =>
      obtain ⟨rfl, rfl, rfl⟩ := hrel
      go_wp2
      go_ret
      exact ⟨1, ⟨rfl, by omega⟩, TurnsAt.refl _ _⟩
  · obtain ⟨n, hnn⟩ : ∃ n, n = R0.length := ⟨_, rfl⟩
    have HS1 := Lib.hid hS1
    have HS2 := Lib.hid hS2
    have HM0 := Lib.hid hm
    have HN0 := Lib.hid hnn
    rw [← hnn] at hl HM0 ⊢
    rw [← hl] at hn
    have hn2 : n ≤ 9223372036854775807 := by omega
    clear hm hS1 hS2 hv hs hnn hl
    go_enter Tryd.func33, Tryd.ntmps33
    go_wp2
    go_loopw [1, 5] (fun x i wr => ∃ (j q : Nat) (R : List StR), j ≤ n ∧ Hid (q ≤ 1 + 2097153 * j) ∧ (0 < q ∧ q ≤ 4398046511103) ∧ x = .int .i64 q ∧ i = .int .i64 j ∧ Hid (R.length = n ∧ R0.length = n) ∧ Hid (MkI B wr (.slice (some ⟨g, 0, none⟩) n cap) R K) ∧ Hid (TurnsAt S w wr)) (fun _ i _ => n - (intOf i).toNat)
    case atStart => exact ⟨0, 1, R0, Nat.zero_le _, Lib.hid (by omega), by omega, rfl, rfl, Lib.hid ⟨HN0.out.symm, HN0.out.symm⟩, HM0, Lib.hid (TurnsAt.refl _ _)⟩
    case round =>
      clear HM0 HN0
      obtain ⟨j, q, R, hj, HQ, ⟨hq0, hq⟩, rfl, rfl, HL, HM, HT⟩ := hrel
      by_cases hlt : j < n
      · have hL : j < R.length := by have := HL.out.1; omega
        have hq2 : q ≤ 4611686018427387904 := by omega
        obtain ⟨ts, ht1, ht2, ht3⟩ := HM.out.ts j hL
        obtain ⟨A', c', etv, -⟩ := RowR.hasX ht2
        have HK := Lib.hid ht3
        obtain ⟨tv, htv⟩ : ∃ tv, tv = R[j].tv := ⟨_, rfl⟩
        rw [← htv] at ht2 etv HK
        have HTV := Lib.hid htv
        have HTS := Lib.hid ht2
        obtain ⟨m, hm⟩ : ∃ m, m = ts.length := ⟨_, rfl⟩
        have HMM := Lib.hid hm
        rw [← hm] at ht1 etv
        clear ht2 ht3 htv hm
        subst etv
        obtain ⟨q', hq'⟩ : ∃ q', q' = q + 1 + 2 * m := ⟨_, rfl⟩
        have HC : Hid (∀ W, RowX B W (.slice A' m c') ts → Calls Tryd.prog 59 #[.slice A' m c', .int .i64 ((q : Int) + 1)] W fun e w' => e = .returned (.int .i64 (q' : Int)) ∧ RowX B w' (.slice A' m c') (marksX (q + 1) m) ∧ W.grownBy w' (Value.slice A' m c').ownBlock) := Lib.hid fun W h => by
          have := markTsts_any B _ ts (q + 1) W h (by have := HMM.out; omega) (by omega) (by omega)
          rw [← HMM.out, ← hq'] at this
          rwa [Int.natCast_add] at this
        have HQ' : Hid (q' ≤ 1 + 2097153 * (j + 1) ∧ 0 < q' ∧ q' ≤ 4398046511103) := Lib.hid (by have := HQ.out; omega)
        have HJN := Lib.hid hlt
        have HM7 := Lib.hid ht1
        clear hq' ht1
        go_wp2_with (first
          | (go_at_call 58; refine (mark_any q hq0 hq2 _).mono ?_; rintro e w1 ⟨rfl, hb1⟩; have HM1 := Lib.hid (HM.out.below hb1); have HT1 := Lib.hid (HT.out.trans (below_turns hb1)); obtain ⟨⟨e0, e1⟩, f0, f1⟩ := stCells HM1.out.row hL; rw [← HTV.out] at e1; have HP := Lib.hid (HM1.out.name hL (markS q)); have HX1 := Lib.hid (RowR.below HTS.out hb1); clear hb1)
          | (go_at_call 59; refine (HC.out _ (RowR.other (u := .slice (some ⟨g, 0, none⟩) 0 0) HX1.out HP.out.2 (fun k hk e => HM.out.nv j k hL (HK.out k hk) e))).mono ?_; rintro e w2 ⟨rfl, hx2, hg2⟩; have HX2 := Lib.hid hx2; have HG2 := Lib.hid hg2; clear hx2 hg2))
        go_roundw
        case rel =>
          have e : (R.set j ⟨markS q, R[j].tv⟩)[j]'(by simpa using hL) = ⟨markS q, R[j].tv⟩ := by rw [List.getElem_set_self]
          have h2 := MkI.tests (w' := w2) (ts := marksX (q + 1) m) HP.out.1 (j := j) (by simpa using hL) (by rw [e]; rw [← HTV.out]; exact HX2.out) (by rw [marksX_length]; exact HM7.out) (by rw [e]; rw [← HTV.out]; exact HG2.out)
          refine ⟨j + 1, q', _, by omega, Lib.hid HQ'.out.1, HQ'.out.2, rfl, by go_num, Lib.hid ⟨by rw [List.length_set]; exact HL.out.1, HL.out.2⟩, Lib.hid h2, Lib.hid ((HT1.out.trans (grown_turns HP.out.2 (fun b hb => HS1.out b (by rw [← hb]; rfl)))).trans (grown_turns HG2.out (fun b hb => HS2.out j b (by rw [HL.out.2]; exact HJN.out) (HK.out b hb))))⟩
        case measure => simp [intOf]; omega
      · go_wp2
        go_ret
        exact ⟨q, ⟨rfl, by omega⟩, HT.out⟩
set_option maxRecDepth 100000 in
theorem markPth_any (B : Nat) (v : PthV) (p : Pth) (S : Nat → Prop) (w : World) (hv : OwnP7 B w v p S) (hz : PthSz p) :
    Calls Tryd.prog 15 #[v.val, .int .i64 1] w fun e w' => ∃ x : Int, (e = .returned (.int .i64 x) ∧ 0 ≤ x) ∧ TurnsAt S w w' := by
  obtain ⟨-, -, hv⟩ := hv
  obtain ⟨r, u, sv⟩ := v
  dsimp only at hv ⊢
  obtain ⟨A, m, c, rfl⟩ : ∃ A n c, sv = .slice A n c := by obtain ⟨A, c, hv', _⟩ := hv.has.at; exact ⟨A, _, c, hv'⟩
  have HV := Lib.hid (markStps_any B _ p.st S _ (hv.below (below_al (Below.refl w.heap.size w) (.cells #[.bool r, .int .i64 u, .slice A m c] 26))) hz.1 (fun s hs => (hz.2 s hs).2.1))
  clear hv hz
  go_enter Tryd.func15, Tryd.ntmps15
  go_wp2_with fail
  refine (HV.out).mono ?_
  rintro e w1 ⟨x, ⟨rfl, hx⟩, h2⟩
  have hb := (below_turns (S := S) (below_al (Below.refl w.heap.size w) (.cells #[.bool r, .int .i64 u, .slice A m c] 26))).trans h2
  clear h2
  go_wp2
  go_ret
  exact ⟨x, ⟨rfl, hx⟩, hb⟩
end Go.Proofs.YtdfapkceanicoaaDoor

/- CHAPTER 7: marks written into owned steps with their tests, told; and told again when they are read. -/
namespace Go.Proofs.YtdfapkceanicoaaDoor
open Go.RowKit NumP

/-- the steps as they stand once they are marked from k on -/
def mkStp (k : Nat) (s : Stp) : Stp := ⟨markS k, marksX (k + 1) s.ts.length⟩
def mkStps : Nat → List Stp → List Stp
  | _, [] => []
  | k, s :: r => mkStp k s :: mkStps (k + 1 + 2 * s.ts.length) r
def endStps : Nat → List Stp → Nat
  | k, [] => k
  | k, s :: r => endStps (k + 1 + 2 * s.ts.length) r
theorem endStps_snoc : ∀ (k : Nat) (l : List Stp) (s : Stp), endStps k (l ++ [s]) = endStps k l + 1 + 2 * s.ts.length
  | k, [], s => rfl
  | k, x :: r, s => endStps_snoc _ r s
theorem mkStps_snoc : ∀ (k : Nat) (l : List Stp) (s : Stp), mkStps k (l ++ [s]) = mkStps k l ++ [mkStp (endStps k l) s]
  | k, [], s => rfl
  | k, x :: r, s => by show mkStp k x :: mkStps _ (r ++ [s]) = _; rw [mkStps_snoc]; rfl
theorem mkStps_len : ∀ (k : Nat) (l : List Stp), (mkStps k l).length = l.length
  | _, [] => rfl
  | k, x :: r => by show (mkStps _ r).length + 1 = _; rw [mkStps_len]; rfl
theorem endStps_ge (l : List Stp) : ∀ k, k ≤ endStps k l := by
  induction l with
  | nil => intro k; exact Nat.le_refl _
  | cons x r ih => intro k; have := ih (k + 1 + 2 * x.ts.length); show k ≤ endStps (k + 1 + 2 * x.ts.length) r; omega
theorem take_next {α : Type} {l : List α} {j : Nat} (hj : j < l.length) : l.take (j + 1) = l.take j ++ [l[j]] := by rw [List.take_add_one, List.getElem?_eq_getElem hj]; rfl
theorem endStps_next {l : List Stp} {j k : Nat} (hj : j < l.length) : endStps k (l.take (j + 1)) = endStps k (l.take j) + 1 + 2 * l[j].ts.length := by rw [take_next hj, endStps_snoc]
theorem mkStps_next {l : List Stp} {j k : Nat} (hj : j < l.length) : (mkStps k (l.take j) ++ l.drop j).set j (mkStp (endStps k (l.take j)) l[j]) = mkStps k (l.take (j + 1)) ++ l.drop (j + 1) := by
  have e : (mkStps k (l.take j)).length = j := by rw [mkStps_len, List.length_take]; omega
  rw [List.set_append_right _ _ (by rw [e]; exact Nat.le_refl _), e, Nat.sub_self, List.drop_eq_getElem_cons hj, List.set_cons_zero, take_next hj, mkStps_snoc, List.append_assoc]; rfl
theorem endStps_bd {l : List Stp} (hs : ∀ s ∈ l, s.ts.length ≤ 1048576) : ∀ j k, j ≤ l.length → endStps k (l.take j) ≤ k + 2097153 * j
  | 0, k, _ => by simp [endStps]
  | j + 1, k, h => by
    rw [endStps_next (by omega)]
    have := endStps_bd hs j k (by omega)
    have := hs _ (List.getElem_mem (l := l) (n := j) (by omega))
    omega
theorem mkStps_get (l : List Stp) : ∀ (k j : Nat) (h : j < (mkStps k l).length) (h' : j < l.length), (mkStps k l)[j] = mkStp (endStps k (l.take j)) l[j] := by
  induction l with
  | nil => intro k j h h'; simp at h'
  | cons x r ih =>
    intro k j h h'
    cases j with
    | zero => rfl
    | succ j => exact ih (k + 1 + 2 * x.ts.length) j (by simpa [mkStps] using h) (by simpa using h')
/-- steps that are being marked: M tells what they are now -/
structure MkJ (B : Nat) (w : World) (v : Value) (R : List StR) (M : List Stp) (K : Nat → Nat → Prop) : Prop where
  row : RowT7 B w v R
  len : R.length = M.length
  ts : ∀ i (h : i < R.length) (h' : i < M.length), R[i].n = M[i].n ∧ RowX B w R[i].tv M[i].ts ∧ ∀ b, R[i].tv.ownBlock = some b ↔ K i b
  dis : ∀ i j b, i < R.length → j < R.length → K i b → K j b → i = j
  nv : ∀ i b, i < R.length → K i b → v.ownBlock ≠ some b
theorem MkJ.below {B : Nat} {w w' : World} {v : Value} {R : List StR} {M : List Stp} {K : Nat → Nat → Prop} (h : MkJ B w v R M K) (hb : Below w.heap.size w w') : MkJ B w' v R M K :=
  ⟨RowR.below h.row hb, h.len, fun i hi hi' => ⟨(h.ts i hi hi').1, RowR.below (h.ts i hi hi').2.1 hb, (h.ts i hi hi').2.2⟩, h.dis, h.nv⟩
/-- the j-th step anew: its name stored, then its tests turned -/
theorem MkJ.name {B g n cap : Nat} {w : World} {R : List StR} {M : List Stp} {K : Nat → Nat → Prop} (h : MkJ B w (.slice (some ⟨g, 0, none⟩) n cap) R M K) {j : Nat} (hj : j < R.length) (hj' : j < M.length) (x : ByteArray) :
    MkJ B (w.setCell ⟨g, j * 2, none⟩ (.string x)) (.slice (some ⟨g, 0, none⟩) n cap) (R.set j ⟨x, R[j].tv⟩) (M.set j ⟨x, M[j].ts⟩) K ∧ w.grownBy (w.setCell ⟨g, j * 2, none⟩ (.string x)) (some g) := by
  have h0 := RowR.set1 StR.enc_len h.row hj 0 (by omega) (.string x) ⟨x, R[j].tv⟩ rfl
  refine ⟨⟨h0.1, by rw [List.length_set, List.length_set]; exact h.len, fun i hi hi' => ?_, fun i k b h1 h2 => h.dis i k b (by simpa using h1) (by simpa using h2), fun i b h1 => h.nv i b (by simpa using h1)⟩, h0.2⟩
  have hi1 : i < R.length := by simpa using hi
  have hi2 : i < M.length := by simpa using hi'
  obtain ⟨h1, h2, h3⟩ := h.ts i hi1 hi2
  have h2' := RowR.other (u := .slice (some ⟨g, 0, none⟩) 0 0) h2 h0.2 (fun k hk e => h.nv i k hi1 ((h3 k).1 hk) e)
  by_cases e : i = j
  · subst e; rw [List.getElem_set_self, List.getElem_set_self]; exact ⟨rfl, h2', h3⟩
  · rw [List.getElem_set_ne (by omega), List.getElem_set_ne (by omega)]; exact ⟨h1, h2', h3⟩
theorem MkJ.tests {B g n cap : Nat} {w w' : World} {R : List StR} {M : List Stp} {K : Nat → Nat → Prop} (h : MkJ B w (.slice (some ⟨g, 0, none⟩) n cap) R M K) {j : Nat} (hj : j < R.length) (hj' : j < M.length) {ts : List Tst} (ht : RowX B w' R[j].tv ts)
    (hg : w.grownBy w' R[j].tv.ownBlock) : MkJ B w' (.slice (some ⟨g, 0, none⟩) n cap) R (M.set j ⟨M[j].n, ts⟩) K := by
  obtain ⟨hjn, _, hK⟩ := h.ts j hj hj'
  refine ⟨RowR.other h.row hg (fun k hk e => h.nv j k hj ((hK k).1 e) hk), by rw [List.length_set]; exact h.len, fun i hi hi' => ?_, h.dis, h.nv⟩
  have hi2 : i < M.length := by simpa using hi'
  by_cases e : i = j
  · subst e; rw [List.getElem_set_self]; exact ⟨hjn, ht, hK⟩
  · rw [List.getElem_set_ne (by omega)]
    obtain ⟨h1, h2, h3⟩ := h.ts i hi hi2
    exact ⟨h1, RowR.other h2 hg (fun k hk e' => e (h.dis i j k hi hj ((h3 k).1 hk) ((hK k).1 e'))), h3⟩
theorem OwnS.mkJ {B : Nat} {w : World} {v : Value} {l : List Stp} {S : Nat → Prop} (h : OwnS B w v l S) :
    ∃ (R : List StR) (K : Nat → Nat → Prop), MkJ B w v R l K ∧ ∀ b, S b ↔ v.ownBlock = some b ∨ ∃ i, i < R.length ∧ K i b := by
  obtain ⟨R, K, h1, h2, h3, h4, h5, h6⟩ := OwL.parts h
  have h2' : R.length = l.length := by rw [h2, List.length_map]
  refine ⟨R, fun i b => ∃ h : i < R.length, R[i].tv.ownBlock = some b, ⟨h1, h2', fun i hi hi' => ?_, fun i j b hi hj hk hk' => ?_, fun i b hi hk => ?_⟩, fun b => (h6 b).trans (or_congr Iff.rfl (exists_congr fun i => and_congr_right fun hi => ?_))⟩
  · obtain ⟨S1, S2, ⟨⟨q1, q2⟩, q3⟩, _, _, q4⟩ := h3 i hi (by rw [← h2]; exact hi)
    rw [List.getElem_map] at q1 q2
    exact ⟨q1, q2, fun b => ⟨fun e => ⟨hi, e⟩, fun ⟨_, e⟩ => e⟩⟩
  all_goals
    have hKo : ∀ i (hi : i < R.length) b, K i b ↔ R[i].tv.ownBlock = some b := fun i hi b => by
      obtain ⟨S1, S2, ⟨⟨q1, q2⟩, q3⟩, q5, _, q4⟩ := h3 i hi (by rw [← h2]; exact hi)
      constructor
      · intro hk
        rcases (q4 b).1 hk with h | h
        · exact (q3 b).1 h
        · rw [List.getElem_map] at q5
          have := (q5.2.2 b).1 h
          simp [stK, Value.ownBlock] at this
      · intro e; exact (q4 b).2 (.inl ((q3 b).2 e))
  · obtain ⟨_, e⟩ := hk
    obtain ⟨_, e'⟩ := hk'
    exact h4 i j b hi hj ((hKo i hi b).2 e) ((hKo j hj b).2 e')
  · obtain ⟨_, e⟩ := hk
    exact h5 i b hi ((hKo i hi b).2 e)
  · rw [hKo i hi b]; exact ⟨fun e => ⟨hi, e⟩, fun ⟨_, e⟩ => e⟩
theorem MkJ.own {B : Nat} {w : World} {v : Value} {R : List StR} {M : List Stp} {K : Nat → Nat → Prop} {S : Nat → Prop} (h : MkJ B w v R M K) (hS : ∀ b, S b ↔ v.ownBlock = some b ∨ ∃ i, i < R.length ∧ K i b) : OwnS B w v M S := by
  refine OwL.whole (k := stK) (d := 0) (R := R) (K := K) h.row (by rw [List.length_map]; exact h.len) (fun i h1 h2 => ?_) h.dis h.nv hS
  have h2' : i < M.length := by rw [← h.len]; exact h1
  have := h.ts i h1 h2'
  refine ⟨fun b => R[i].tv.ownBlock = some b, fun _ => False, ⟨⟨?_, ?_⟩, fun b => Iff.rfl⟩, ?_, fun b _ hb => hb, fun b => ?_⟩
  · rw [List.getElem_map]; exact this.1
  · rw [List.getElem_map]; exact this.2.1
  · rw [List.getElem_map]; exact ⟨rfl, ⟨by simp, .inl ⟨rfl, rfl⟩⟩, fun b => by simp [stK, Value.ownBlock]⟩
  · exact ⟨fun hh => .inl ((this.2.2 b).2 hh), fun hh => hh.elim (this.2.2 b).1 False.elim⟩
theorem bd_ok {x k j n : Nat} (h : x ≤ k + 2097153 * j) (hj : j ≤ n) (hn : n ≤ 1048576) (hk : k ≤ 1048576) : x ≤ 4398046511103 := by omega
set_option maxRecDepth 100000 in
set_option maxHeartbeats 1000000 in
theorem markStpsT_any (B k : Nat) (v : Value) (l : List Stp) (S : Nat → Prop) (w : World) (hv : OwnS B w v l S) (hn : l.length ≤ 1048576) (hs : ∀ s ∈ l, s.ts.length ≤ 1048576) (hk0 : 0 < k) (hk : k ≤ 1048576) :
    Calls Tryd.prog 33 #[v, .int .i64 k] w fun e w' => e = .returned (.int .i64 (endStps k l : Nat)) ∧ OwnS B w' v (mkStps k l) S ∧ TurnsAt S w w' := by
  obtain ⟨R0, K, hm, hS⟩ := hv.mkJ
  have hl := hm.len
  rcases RowR.form hm.row with ⟨rfl, hl0⟩ | ⟨g, cap, rfl, hg0, hg⟩
  · obtain rfl : l = [] := List.length_eq_zero_iff.1 (by rw [← hl, hl0]; rfl)
    clear hm hl hl0
    go_enter Tryd.func33, Tryd.ntmps33
    go_wp2
    go_loopw [1, 5] (fun x i wr => x = .int .i64 k ∧ i = .int .i64 0 ∧ wr = w) (fun _ _ _ => 0)
    case atStart => exact ⟨rfl, rfl, rfl⟩
    case round =>
      obtain ⟨rfl, rfl, rfl⟩ := hrel
      go_wp2
      go_ret
      exact ⟨rfl, hv, TurnsAt.refl _ _⟩
  · obtain ⟨n, hnn⟩ : ∃ n, n = R0.length := ⟨_, rfl⟩
    have HS := Lib.hid hS
    have HM0 := Lib.hid hm
    have HN0 := Lib.hid hnn
    have HL0 : Hid (n = l.length) := Lib.hid (hnn.trans hl)
    have HBD := Lib.hid (fun j hj => endStps_bd hs j k hj)
    have HTS := Lib.hid hs
    have hn1 : n ≤ 1048576 := by rw [HL0.out]; exact hn
    rw [← hnn] at HM0 ⊢
    have hn2 : n ≤ 9223372036854775807 := by omega
    clear hm hv hs hnn hl hS hn
    go_enter Tryd.func33, Tryd.ntmps33
    go_wp2
    go_loopw [1, 5] (fun x i wr => ∃ (j q : Nat) (R : List StR), j ≤ n ∧ Hid (q = endStps k (l.take j)) ∧ (0 < q ∧ q ≤ 4398046511103) ∧ x = .int .i64 q ∧ i = .int .i64 j ∧ Hid (R.length = n ∧ R0.length = n) ∧ Hid (MkJ B wr (.slice (some ⟨g, 0, none⟩) n cap) R (mkStps k (l.take j) ++ l.drop j) K) ∧ Hid (TurnsAt S w wr)) (fun _ i _ => n - (intOf i).toNat)
    case atStart => exact ⟨0, k, R0, Nat.zero_le _, Lib.hid rfl, by omega, rfl, rfl, Lib.hid ⟨HN0.out.symm, HN0.out.symm⟩, Lib.hid HM0.out, Lib.hid (TurnsAt.refl _ _)⟩
    case round =>
      clear HM0 HN0
      obtain ⟨j, q, R, hj, HQ, ⟨hq0, hq⟩, rfl, rfl, HL, HM, HT⟩ := hrel
      by_cases hlt : j < n
      · have hL : j < R.length := by have := HL.out.1; omega
        have hl : j < l.length := by have := HL0.out; omega
        have hML : j < (mkStps k (l.take j) ++ l.drop j).length := by rw [← HM.out.len]; exact hL
        have eM : (mkStps k (l.take j) ++ l.drop j)[j] = l[j] := by
          have e : (mkStps k (l.take j)).length = j := by rw [mkStps_len, List.length_take]; omega
          rw [List.getElem_append_right (by rw [e]; exact Nat.le_refl _)]
          simp [e]
        have hq2 : q ≤ 4611686018427387904 := by omega
        obtain ⟨ht1, ht2, ht3⟩ := HM.out.ts j hL hML
        rw [eM] at ht2
        obtain ⟨s0, hs0⟩ : ∃ s, s = l[j] := ⟨_, rfl⟩
        rw [← hs0] at ht2
        have hm0 : s0.ts.length ≤ 1048576 := by rw [hs0]; exact HTS.out _ (List.getElem_mem _)
        have HS0 : Hid (∀ h : j < l.length, l[j] = s0) := Lib.hid fun _ => hs0.symm
        have hqb : q + 1 + 2 * s0.ts.length = endStps k (l.take (j + 1)) := by rw [endStps_next hl, ← HQ.out, hs0]
        have hML' : Hid (j < (mkStps k (l.take j) ++ l.drop j).length) := Lib.hid hML
        have HLJ := Lib.hid hl
        obtain ⟨A', c', etv, -⟩ := RowR.hasX ht2
        have HK := Lib.hid ht3
        obtain ⟨tv, htv⟩ : ∃ tv, tv = R[j].tv := ⟨_, rfl⟩
        rw [← htv] at ht2 etv HK
        have HTV := Lib.hid htv
        have HTS2 := Lib.hid ht2
        obtain ⟨m, hm⟩ : ∃ m, m = s0.ts.length := ⟨_, rfl⟩
        have HMM := Lib.hid hm
        rw [← hm] at etv hm0 hqb
        clear ht2 ht3 htv hm ht1 eM hs0
        subst etv
        obtain ⟨q', hq'⟩ : ∃ q', q' = q + 1 + 2 * m := ⟨_, rfl⟩
        have HC : Hid (∀ W, RowX B W (.slice A' m c') s0.ts → Calls Tryd.prog 59 #[.slice A' m c', .int .i64 ((q : Int) + 1)] W fun e w' => e = .returned (.int .i64 (q' : Int)) ∧ RowX B w' (.slice A' m c') (marksX (q + 1) m) ∧ W.grownBy w' (Value.slice A' m c').ownBlock) := Lib.hid fun W h => by
          have := markTsts_any B _ s0.ts (q + 1) W h (by have := HMM.out; omega) (by omega) (by omega)
          rw [← HMM.out, ← hq'] at this
          rwa [Int.natCast_add] at this
        have HQN : Hid (q' = endStps k (l.take (j + 1))) := Lib.hid (hq'.trans hqb)
        have HQ' : Hid (0 < q' ∧ q' ≤ 4398046511103) := Lib.hid ⟨by omega, by rw [HQN.out]; exact bd_ok (HBD.out (j + 1) hl) hlt hn1 hk⟩
        have HJN := Lib.hid hlt
        have HMLJ := hML'
        clear hq' hl hML hm0 hqb
        go_wp2_with (first
          | (go_at_call 58; refine (mark_any q hq0 hq2 _).mono ?_; rintro e w1 ⟨rfl, hb1⟩; have HM1 := Lib.hid (HM.out.below hb1); have HT1 := Lib.hid (HT.out.trans (below_turns hb1)); obtain ⟨⟨e0, e1⟩, f0, f1⟩ := stCells HM1.out.row hL; rw [← HTV.out] at e1; have HP := Lib.hid (HM1.out.name hL HMLJ.out (markS q)); have HX1 := Lib.hid (RowR.below HTS2.out hb1); clear hb1)
          | (go_at_call 59; refine (HC.out _ (RowR.other (u := .slice (some ⟨g, 0, none⟩) 0 0) HX1.out HP.out.2 (fun k hk e => HM.out.nv j k hL ((HK.out k).1 hk) e))).mono ?_; rintro e w2 ⟨rfl, hx2, hg2⟩; have HX2 := Lib.hid hx2; have HG2 := Lib.hid hg2; clear hx2 hg2))
        go_roundw
        case rel =>
          have e : (R.set j ⟨markS q, R[j].tv⟩)[j]'(by simpa using hL) = ⟨markS q, R[j].tv⟩ := by rw [List.getElem_set_self]
          have h2 := MkJ.tests (w' := w2) (ts := marksX (q + 1) m) HP.out.1 (j := j) (by simpa using hL) (by simpa using HMLJ.out) (by rw [e]; rw [← HTV.out]; exact HX2.out) (by rw [e]; rw [← HTV.out]; exact HG2.out)
          rw [List.getElem_set_self, List.set_set] at h2
          have e2 : (⟨markS q, marksX (q + 1) m⟩ : Stp) = mkStp (endStps k (l.take j)) (l[j]'HLJ.out) := by rw [← HQ.out]; unfold mkStp; rw [HS0.out HLJ.out, ← HMM.out]
          rw [show ((⟨(⟨markS q, ((mkStps k (l.take j) ++ l.drop j)[j]'HMLJ.out).ts⟩ : Stp).n, marksX (q + 1) m⟩ : Stp)) = mkStp (endStps k (l.take j)) (l[j]'HLJ.out) from e2, mkStps_next HLJ.out] at h2
          refine ⟨j + 1, q', _, by omega, HQN, HQ'.out, rfl, by go_num, Lib.hid ⟨by rw [List.length_set]; exact HL.out.1, HL.out.2⟩, Lib.hid h2, Lib.hid ((HT1.out.trans (grown_turns HP.out.2 (fun b hb => (HS.out b).2 (.inl (by rw [← hb]; rfl))))).trans (grown_turns HG2.out (fun b hb => (HS.out b).2 (.inr ⟨j, by rw [HL.out.2]; exact HJN.out, (HK.out b).1 hb⟩))))⟩
        case measure => simp [intOf]; omega
      · have e : j = n := by omega
        subst e
        have hd : l.drop j = [] := List.drop_eq_nil_of_le (by rw [← HL0.out]; exact Nat.le_refl _)
        have htk : l.take j = l := List.take_of_length_le (by rw [← HL0.out]; exact Nat.le_refl _)
        have HFIN : Hid (OwnS B wr (.slice (some ⟨g, 0, none⟩) j cap) (mkStps k l) S) := Lib.hid (by
          have h := HM.out
          rw [hd, htk, List.append_nil] at h
          exact h.own (fun b => by rw [HL.out.1, ← HL.out.2]; exact HS.out b))
        have HQF : Hid (q = endStps k l) := Lib.hid (by rw [HQ.out, htk])
        clear hd htk
        go_wp2
        go_ret
        rw [HQF.out]
        exact ⟨rfl, HFIN.out, HT.out⟩
end Go.Proofs.YtdfapkceanicoaaDoor

/- CHAPTER 7: marks of steps with tests: what was told is there; the same of paths. -/
namespace Go.Proofs.YtdfapkceanicoaaDoor
open Go.RowKit NumP

set_option maxRecDepth 100000 in
set_option maxHeartbeats 1000000 in
theorem heldStpsT_any (k : Nat) (v : Value) (l : List Stp) (w : World) (hv : HasS w v (mkStps k l)) (hn : l.length ≤ 1048576) (hs : ∀ s ∈ l, s.ts.length ≤ 1048576) (hk0 : 0 < k) (hk : k ≤ 1048576) :
    Calls Tryd.prog 34 #[v, .int .i64 k] w fun e w' => e = .returned (.int .i64 (endStps k l : Nat)) ∧ Below w.heap.size w w' := by
  obtain ⟨R, ⟨A, cap, rfl, hn', hc⟩, hRl, hR⟩ := hasS_iff.1 hv
  rw [mkStps_len] at hRl
  have hc1 : ∀ i (hi : i < l.length), ∃ a tv, A = some a ∧ (a.add (i * 2)).block < w.heap.size ∧ Sk w (a.add (i * 2)) ⟨markS (endStps k (l.take i)), tv⟩ ∧ HasX w tv (marksX (endStps k (l.take i) + 1) l[i].ts.length) := fun i hi => by
    obtain ⟨a, h1, h2, h3⟩ := HasSR.sk hc i (by rw [hRl]; exact hi)
    obtain ⟨h4, h5⟩ := hR i (by rw [hRl]; exact hi) (by rw [mkStps_len]; exact hi)
    rw [mkStps_get l k i _ hi] at h4 h5
    refine ⟨a, R[i].tv, h1, h2, ?_, h5⟩
    have e : R[i] = ⟨markS (endStps k (l.take i)), R[i].tv⟩ := by rw [← show R[i].n = markS (endStps k (l.take i)) from h4]
    rw [e] at h3; exact h3
  obtain ⟨n, hnn⟩ : ∃ n, n = R.length := ⟨_, rfl⟩
  have HN : Hid (n = l.length) := Lib.hid (hnn.trans hRl)
  have HBD := Lib.hid (fun j hj => endStps_bd hs j k hj)
  have HTS := Lib.hid hs
  have HC1 := Lib.hid hc1
  have hn1 : n ≤ 1048576 := by rw [HN.out]; exact hn
  rw [← hnn] at hn' ⊢
  clear hc hv hR hc1 hs hn hRl hnn
  go_enter Tryd.func34, Tryd.ntmps34
  go_wp2
  go_loopw [1, 5] (fun x i wr => ∃ j q : Nat, j ≤ n ∧ Hid (q = endStps k (l.take j)) ∧ (0 < q ∧ q ≤ 4398046511103) ∧ x = .int .i64 q ∧ i = .int .i64 j ∧ Below w.heap.size w wr) (fun _ i _ => n - (intOf i).toNat)
  case atStart => exact ⟨0, k, Nat.zero_le _, Lib.hid rfl, by omega, rfl, rfl, Below.refl _ _⟩
  case round =>
    obtain ⟨j, q, hj, HQ, ⟨hq0, hq⟩, rfl, rfl, hbel⟩ := hrel
    by_cases hlt : j < n
    · have hl : j < l.length := by rw [← HN.out]; exact hlt
      obtain ⟨a, tv, rfl, hab, hcell, htv⟩ := HC1.out j hl
      rw [← HQ.out] at hcell htv
      obtain ⟨m, hm⟩ : ∃ m, m = l[j].ts.length := ⟨_, rfl⟩
      have hm1 : m ≤ 1048576 := by rw [hm]; exact HTS.out _ (List.getElem_mem _)
      rw [← hm] at htv
      obtain ⟨At, ct, etv, -⟩ := id htv
      rw [marksX_length] at etv
      subst etv
      obtain ⟨q', hq'⟩ : ∃ q', q' = q + 1 + 2 * m := ⟨_, rfl⟩
      have hqn : q' = endStps k (l.take (j + 1)) := by rw [endStps_next hl, ← HQ.out, ← hm]; exact hq'
      have HQN := Lib.hid hqn
      have HQ' : Hid (0 < q' ∧ q' ≤ 4398046511103) := Lib.hid ⟨by omega, by rw [hqn]; exact bd_ok (HBD.out (j + 1) hl) hlt hn1 hk⟩
      have HCL : Hid (∀ W, Below w.heap.size w W → W.cell? (a.add (j * 2)) = some (.string (markS q)) ∧ W.cell? ⟨(a.add (j * 2)).block, (a.add (j * 2)).off + 1, none⟩ = some (.slice At m ct)) := Lib.hid fun W hb => hcell.below hb hab
      have HHT : Hid (∀ W, Below w.heap.size w W → Calls Tryd.prog 60 #[.slice At m ct, .int .i64 ((q : Int) + 1)] W fun e w' => e = .returned (.int .i64 (q' : Int)) ∧ Below W.heap.size W w') := Lib.hid fun W hb => by
        have := heldTsts_any _ (q + 1) m W (HasR.below htv hb) hm1 (by omega) (by omega)
        rw [← hq'] at this
        rwa [Int.natCast_add] at this
      obtain ⟨c0, -⟩ := HCL.out _ hbel
      have hq2 : q ≤ 4611686018427387904 := by omega
      have hq3 : decide ((q' : Int) < 0) = false := decide_eq_false (by omega)
      have hq4 : ¬ ((q' : Int) < 0) := by omega
      clear hcell htv hl hm hm1 hq' hqn
      go_wp2
      go_region_held3 (fun w' => w'.cell? (a.add (j * 2)) = some (.string (markS q)) ∧ Below w.heap.size w w') (first | exact ⟨c0, hbel.drew⟩ | exact held_step hbm (by assumption) hab | go_keep)
        (first | (go_at_call 58; refine (mark_any q hq0 hq2 _).mono ?_; rintro e w1 ⟨rfl, hbm⟩))
      have hB2 := (by assumption : _ ∧ Below w.heap.size w w1).2
      obtain ⟨-, c1⟩ := HCL.out _ hB2
      clear c0 hbel
      go_wp2_with (go_at_call 60; refine (HHT.out _ hB2).mono ?_; rintro e w2 ⟨rfl, hbm⟩; have HB3 := Lib.hid (below_step hB2 hbm); clear hbm)
      go_roundw
      case rel => exact ⟨j + 1, q', by omega, HQN, HQ'.out, rfl, by go_num, HB3.out⟩
      case measure => simp [intOf]; omega
    · have e : j = n := by omega
      subst e
      have HQF : Hid (q = endStps k l) := Lib.hid (by rw [HQ.out, List.take_of_length_le (by rw [← HN.out]; exact Nat.le_refl _)])
      go_wp2
      go_ret
      rw [HQF.out]
      exact ⟨rfl, hbel⟩
def endPth (p : Pth) : Nat := endStps 1 p.st
def mkPth (p : Pth) : Pth := ⟨p.root, p.ups, mkStps 1 p.st⟩
set_option maxRecDepth 100000 in
theorem markPthT_any (B : Nat) (v : PthV) (p : Pth) (S : Nat → Prop) (w : World) (hv : OwnP7 B w v p S) (hz : PthSz p) :
    Calls Tryd.prog 15 #[v.val, .int .i64 1] w fun e w' => e = .returned (.int .i64 (endPth p : Nat)) ∧ OwnP7 B w' v (mkPth p) S ∧ TurnsAt S w w' := by
  obtain ⟨h1, h2, hv⟩ := hv
  obtain ⟨r, u, sv⟩ := v
  dsimp only at h1 h2 hv ⊢
  obtain ⟨A, m, c, rfl⟩ : ∃ A n c, sv = .slice A n c := by obtain ⟨A, c, hv', _⟩ := hv.has.at; exact ⟨A, _, c, hv'⟩
  have HV := Lib.hid (markStpsT_any B 1 _ p.st S _ (OwnS.below hv (below_al (Below.refl w.heap.size w) (.cells #[.bool r, .int .i64 u, .slice A m c] 26))) hz.1 (fun s hs => (hz.2 s hs).2.1) (by omega) (by omega))
  have H12 : Hid (r = p.root ∧ u = p.ups) := Lib.hid ⟨h1, h2⟩
  have he : endPth p = endStps 1 p.st := rfl
  rw [← he] at HV
  clear hv hz h1 h2 he
  go_enter Tryd.func15, Tryd.ntmps15
  go_wp2_with fail
  refine (HV.out).mono ?_
  rintro e w1 ⟨rfl, h3, h4⟩
  have HO := Lib.hid h3
  have hb := (below_turns (S := S) (below_al (Below.refl w.heap.size w) (.cells #[.bool r, .int .i64 u, .slice A m c] 26))).trans h4
  clear h3 h4
  go_wp2
  go_ret
  exact ⟨rfl, ⟨H12.out.1, H12.out.2, HO.out⟩, hb⟩
set_option maxRecDepth 100000 in
theorem heldPthT_any (v : PthV) (p : Pth) (w : World) (hv : HasP7 w v (mkPth p)) (hz : PthSz p) :
    Calls Tryd.prog 16 #[v.val, .int .i64 1] w fun e w' => e = .returned (.int .i64 (endPth p : Nat)) ∧ Below w.heap.size w w' := by
  have hv := hv.st
  obtain ⟨r, u, sv⟩ := v
  dsimp only at hv ⊢
  obtain ⟨A, m, c, rfl⟩ : ∃ A n c, sv = .slice A n c := by obtain ⟨A, c, hv', _⟩ := hv.at; exact ⟨A, _, c, hv'⟩
  have HV := Lib.hid (heldStpsT_any 1 _ p.st _ (HasS.below hv (below_al (Below.refl w.heap.size w) (.cells #[.bool r, .int .i64 u, .slice A m c] 26))) hz.1 (fun s hs => (hz.2 s hs).2.1) (by omega) (by omega))
  have he : endPth p = endStps 1 p.st := rfl
  rw [← he] at HV
  clear hv hz he
  generalize endPth p = q at HV ⊢
  have q1 : ¬ (q : Int) < 0 := by omega
  go_enter Tryd.func16, Tryd.ntmps16
  go_wp2_with fail
  refine (HV.out).mono ?_
  rintro e w1 ⟨rfl, h1⟩
  have hb := below_step (below_al (Below.refl w.heap.size w) (.cells #[.bool r, .int .i64 u, .slice A m c] 26)) h1
  clear h1
  go_wp2
  go_ret
  exact ⟨rfl, hb⟩
end Go.Proofs.YtdfapkceanicoaaDoor
