/- CHAPTER 10: laws.toGroup, toGroupS, toAugment, toAugmentS, toModule. PRINTED by tools/gen_mo.py. -/
import Derived.Test.YtdkpleghpnflhaaMoA
import Derived.Test.YtdkpleghpnflhaaScG
set_option linter.unusedVariables false
set_option linter.unusedSimpArgs false
namespace Go.Proofs.Ytdkpleghpnflhaa
open Go.RowKit Go.ChangeShapes Go.WideShapes Go.Deep Go.Joins
set_option maxRecDepth 100000

theorem infoGrp : (Try.prog.info? 85).map (fun i => (i.zero, i.size, i.bytes)) = some (some (.agg #[.string ⟨#[]⟩, .slice none 0 0]), 2, 40) := by kernel_rfl
theorem infoAug : (Try.prog.info? 88).map (fun i => (i.zero, i.size, i.bytes)) = some (some (.agg #[.slice none 0 0, .slice none 0 0]), 2, 48) := by kernel_rfl
theorem ownSs_set {B b j : Nat} {w : World} {v u : Value} {l : List Sc} {S : Nat → Prop} (h : OwnSs B w v l S) (hb : b < B) : OwnSs B (w.setCell ⟨b, j, none⟩ u) v l S := h.imp fun _ h => OwL.set h hb
theorem ownSs_mono {B B' : Nat} {w : World} {v : Value} {l : List Sc} {S : Nat → Prop} (h : OwnSs B w v l S) (hb : B' ≤ B) : OwnSs B' w v l S := h.imp fun _ h => h.mono hb
theorem ownSs_below {B : Nat} {w w' : World} {v : Value} {l : List Sc} {S : Nat → Prop} (h : OwnSs B w v l S) (hb : Below w.heap.size w w') : OwnSs B w' v l S := h.imp fun _ h => h.below hb
theorem ownSs_form {B : Nat} {w : World} {v : Value} {l : List Sc} {S : Nat → Prop} (h : OwnSs B w v l S) : ∃ A n c, v = .slice A n c := by
  obtain ⟨d, h⟩ := h
  rcases h.form with ⟨h1, _⟩ | ⟨g, cap, h1, _⟩
  · exact ⟨_, _, _, h1⟩
  · exact ⟨_, _, _, h1⟩
theorem ownSs_lt {B : Nat} {w : World} {v : Value} {l : List Sc} {S : Nat → Prop} (h : OwnSs B w v l S) {b : Nat} (hb : S b) : B ≤ b ∧ b < w.heap.size := by obtain ⟨d, h⟩ := h; exact h.lt b hb
theorem row_setLow {B b j : Nat} {w : World} {v u : Value} {l : List ByteArray} (h : Row B w v l) (hb : b < B) : Row B (w.setCell ⟨b, j, none⟩ u) v l := row_frame h fun q e => Below.heap_setCell w ⟨b, j, none⟩ u q (fun h2 => by have := (h.lt e).1; simp at h2; omega)
/-- what a call that makes a record keeps: its argument's box, the answer's, its own -/
structure St3 (B : Nat) (T T2 : TypeId) (a r x : Array Value) (W : World) : Prop where
  a : W.heap[B]? = some (.cells a T (0, 0))
  r : W.heap[B + 1]? = some (.cells r T2 (0, 0))
  x : W.heap[B + 1 + 1]? = some (.cells x T2 (0, 0))
theorem St3.lt {B : Nat} {T T2 : TypeId} {a r x : Array Value} {W : World} (h : St3 B T T2 a r x W) : B + 3 ≤ W.heap.size := (Array.getElem?_eq_some_iff.1 h.x).1
theorem St3.below {B : Nat} {T T2 : TypeId} {a r x : Array Value} {W W' : World} (h : St3 B T T2 a r x W) (hb : Below W.heap.size W W') : St3 B T T2 a r x W' :=
  ⟨(hb.block _ (Array.getElem?_eq_some_iff.1 h.a).1).trans h.a, (hb.block _ (Array.getElem?_eq_some_iff.1 h.r).1).trans h.r, (hb.block _ (Array.getElem?_eq_some_iff.1 h.x).1).trans h.x⟩
theorem St3.put {B : Nat} {T T2 : TypeId} {a r x : Array Value} {W : World} (h : St3 B T T2 a r x W) (j : Nat) (u : Value) : St3 B T T2 a r (x.setIfInBounds j u) (W.setCell ⟨B + 1 + 1, j, none⟩ u) :=
  ⟨(Below.heap_setCell W ⟨B + 1 + 1, j, none⟩ u B (by simp; omega)).trans h.a, (Below.heap_setCell W ⟨B + 1 + 1, j, none⟩ u (B + 1) (by simp)).trans h.r, heap_setCell_same W (B + 1 + 1) j x T2 u h.x⟩
theorem St3.ca {B : Nat} {T T2 : TypeId} {a r x : Array Value} {W : World} (h : St3 B T T2 a r x W) (j : Nat) {v : Value} (hv : a[j]? = some v) : W.cell? ⟨B, j, none⟩ = some v := (cell_of_row W B j a T _ h.a).trans hv
theorem St3.cr {B : Nat} {T T2 : TypeId} {a r x : Array Value} {W : World} (h : St3 B T T2 a r x W) (j : Nat) {v : Value} (hv : r[j]? = some v) : W.cell? ⟨B + 1, j, none⟩ = some v := (cell_of_row W (B + 1) j r T2 _ h.r).trans hv
theorem St3.cx {B : Nat} {T T2 : TypeId} {a r x : Array Value} {W : World} (h : St3 B T T2 a r x W) (j : Nat) {v : Value} (hv : x[j]? = some v) : W.cell? ⟨B + 1 + 1, j, none⟩ = some v := (cell_of_row W (B + 1 + 1) j x T2 _ h.x).trans hv
theorem St3.fr {B : Nat} {T T2 : TypeId} {a r x : Array Value} {W : World} (h : St3 B T T2 a r x W) (j : Nat) : W.frozen? ⟨B + 1, j, none⟩ = false := frozen_of_row _ _ j _ _ h.r
theorem St3.fx {B : Nat} {T T2 : TypeId} {a r x : Array Value} {W : World} (h : St3 B T T2 a r x W) (j : Nat) : W.frozen? ⟨B + 1 + 1, j, none⟩ = false := frozen_of_row _ _ j _ _ h.x
theorem st3_new (w : World) (T T2 : TypeId) (a r x : Array Value) : St3 w.heap.size T T2 a r x (((w.alloc (.cells a T)).alloc (.cells r T2)).alloc (.cells x T2)) :=
  ⟨(Below.heap_alloc _ _ _ (by simp; omega)).trans ((Below.heap_alloc _ _ _ (by simp)).trans (heap_alloc_new _ _)), (Below.heap_alloc _ _ _ (by simp)).trans (alloc_new_at' _ _ (by simp)), alloc_new_at' _ _ (by simp)⟩
theorem toSs_any (v : Value) (l : List Sc) (w : World) (hv : HasSs w v l) (hz : ScsSz l) : Calls Try.prog 8 #[v] w fun e w' => ∃ (v' : Value) (S : Nat → Prop), e = .returned v' ∧ OwnSs w.heap.size w' v' l S ∧ Below w.heap.size w w' := by
  obtain ⟨d, hd⟩ := hv
  refine (toSS_any d v l w hd (hz d)).mono ?_
  rintro e w' ⟨v', S, he, h, hb⟩
  exact ⟨v', S, he, ⟨d, h⟩, hb⟩
set_option maxHeartbeats 2000000 in
theorem toGrp_any (r : GpR) (s : Grp) (w : World) (hr : gpK.rd w r s) (hz : GrpSz s) :
    Calls Try.prog 38 #[.agg #[.string r.n, r.kv]] w fun e w' => ∃ (r' : GpR) (S : Nat → Prop), e = .returned (.agg #[.string r'.n, r'.kv]) ∧ gpK.own w.heap.size w' r' s S ∧ Below w.heap.size w w' := by
  obtain ⟨n, ts⟩ := s
  obtain ⟨n', tv⟩ := r
  obtain ⟨hn, ht⟩ := hr
  dsimp only at hn ht ⊢
  subst hn
  have hz2 : ScsSz ts := hz.2
  have HR := Lib.hid (fun W (hb : Below w.heap.size w W) => toSs_any tv ts W (ht.imp fun _ h => h.below hb) hz2)
  have HB0 := Lib.hid (Below.refl w.heap.size w)
  have HS0 := Lib.hid (st3_new w 78 85 #[.string n', tv] #[.string ⟨#[]⟩, .slice none 0 0] #[.string n', .slice none 0 0])
  clear ht hz
  go_enter Try.func38, Try.ntmps38
  go_wp2_with fail
  refine (HR.out _ (below_al (below_al (below_al HB0.out _) _) _)).mono ?_
  rintro e w1 ⟨tv', S, rfl, hown, hb1⟩
  obtain ⟨D1, m1, c1, rfl⟩ := ownSs_form hown
  have HB1 := Lib.hid (below_step (below_al (below_al (below_al HB0.out _) _) _) hb1)
  have HS1 := Lib.hid (HS0.out.below hb1)
  have HO := Lib.hid (ownSs_mono hown (B' := w.heap.size + 3) (by simp))
  have x0 := HS1.out.cx 0 (v := .string n') rfl
  have x1 := HS1.out.cx 1 (v := .slice none 0 0) rfl
  have r0 := HS1.out.cr 0 (v := .string ⟨#[]⟩) rfl
  have r1 := HS1.out.cr 1 (v := .slice none 0 0) rfl
  have f0 := HS1.out.fx 0
  have f1 := HS1.out.fx 1
  have g0 := HS1.out.fr 0
  have g1 := HS1.out.fr 1
  clear hown hb1
  go_wp2
  refine bodyPost_ret (v := .agg #[.string n', .slice D1 m1 c1]) (by simp [results, Try.results38, go_sem, x0, x1, f0, f1, r0, r1, g0, g1]) rfl ?_
  refine ⟨⟨n', .slice D1 m1 c1⟩, S, rfl, ⟨rfl, ?_⟩, ?_⟩
  · exact ownSs_mono (ownSs_set (ownSs_set (ownSs_set HO.out (by omega)) (by omega)) (by omega)) (by omega)
  · exact below_set (below_set (below_set HB1.out (by omega)) (by omega)) (by omega)
set_option maxHeartbeats 2000000 in
theorem toAug_any (r : AuR) (s : Aug) (w : World) (hr : auK.rd w r s) (hz : AugSz s) :
    Calls Try.prog 39 #[.agg #[r.nv, r.kv]] w fun e w' => ∃ (r' : AuR) (S : Nat → Prop), e = .returned (.agg #[r'.nv, r'.kv]) ∧ auK.own w.heap.size w' r' s S ∧ Below w.heap.size w w' := by
  obtain ⟨ns, ts⟩ := s
  obtain ⟨nv, tv⟩ := r
  obtain ⟨hn, ht⟩ := hr
  dsimp only at hn ht ⊢
  have hz1 : ns.length ≤ 1048576 := hz.1.1
  have hz2 : ScsSz ts := hz.2
  obtain ⟨A1, n1, c1, rfl⟩ : ∃ A n c, nv = .slice A n c := by obtain ⟨A, c, h, _⟩ := hn; exact ⟨A, _, c, h⟩
  obtain ⟨A2, n2, c2, rfl⟩ : ∃ A n c, tv = .slice A n c := by obtain ⟨d, h⟩ := ht; obtain ⟨A, c, h⟩ := h.form; exact ⟨A, _, c, h⟩
  have HN := Lib.hid (fun W (hb : Below w.heap.size w W) => toStrs_any (.slice A1 n1 c1) ns W (hn.below hb) hz1)
  have HR := Lib.hid (fun W (hb : Below w.heap.size w W) => toSs_any (.slice A2 n2 c2) ts W (ht.imp fun _ h => h.below hb) hz2)
  have HB0 := Lib.hid (Below.refl w.heap.size w)
  have HS0 := Lib.hid (st3_new w 81 88 #[.slice A1 n1 c1, .slice A2 n2 c2] #[.slice none 0 0, .slice none 0 0] #[.slice none 0 0, .slice none 0 0])
  clear hn ht hz
  go_enter Try.func39, Try.ntmps39
  go_wp2_with fail
  refine (HN.out _ (below_al (below_al (below_al HB0.out _) _) _)).mono ?_
  rintro e w1 ⟨nv', rfl, hown, hb1⟩
  obtain ⟨D1, m1, d1, rfl⟩ : ∃ A n c, nv' = .slice A n c := by obtain ⟨A, c, h, _⟩ := hown.has; exact ⟨A, _, c, h⟩
  have HB1 := Lib.hid (below_step (below_al (below_al (below_al HB0.out _) _) _) hb1)
  have HS1 := Lib.hid (HS0.out.below hb1)
  have HO := Lib.hid (hown.mono (B' := w.heap.size + 3) (by simp))
  have x0 := HS1.out.cx 0 (v := .slice none 0 0) rfl
  have f0 := HS1.out.fx 0
  have a1 := HS1.out.ca 1 (v := .slice A2 n2 c2) rfl
  have HS2 := Lib.hid (HS1.out.put 0 (.slice D1 m1 d1))
  have HO2 := Lib.hid (row_setLow (b := w.heap.size + 1 + 1) (j := 0) (u := .slice D1 m1 d1) HO.out (by omega))
  have HB2 := Lib.hid (below_set HB1.out (b := w.heap.size + 1 + 1) (j := 0) (u := .slice D1 m1 d1) (by omega))
  clear hown hb1
  go_wp2_with fail
  refine (HR.out _ HB2.out).mono ?_
  rintro e w3 ⟨tv', S, rfl, hown, hb1⟩
  obtain ⟨D3, m3, d3, rfl⟩ := ownSs_form hown
  have HB3 := Lib.hid (below_step HB2.out hb1)
  have HS3 := Lib.hid (HS2.out.below hb1)
  have HSZ := Lib.hid HS2.out.lt
  have HO3 := Lib.hid (ownSs_mono hown (B' := w.heap.size + 3) HS2.out.lt)
  have HN3 := Lib.hid (HO2.out.below hb1)
  have HD := Lib.hid (fun b (h1 : (Value.slice D1 m1 d1).ownBlock = some b) (h2 : S b) => (show False from by have := (HO2.out.lt h1).2; have := (ownSs_lt hown h2).1; omega))
  have x1 := HS3.out.cx 0 (v := .slice D1 m1 d1) rfl
  have x2 := HS3.out.cx 1 (v := .slice none 0 0) rfl
  have r0 := HS3.out.cr 0 (v := .slice none 0 0) rfl
  have r1 := HS3.out.cr 1 (v := .slice none 0 0) rfl
  have f1 := HS3.out.fx 0
  have f2 := HS3.out.fx 1
  have g0 := HS3.out.fr 0
  have g1 := HS3.out.fr 1
  clear hown hb1 x0 f0 a1
  go_wp2
  refine bodyPost_ret (v := .agg #[.slice D1 m1 d1, .slice D3 m3 d3]) (by simp [results, Try.results39, go_sem, x1, x2, f1, f2, r0, r1, g0, g1]) rfl ?_
  refine ⟨⟨.slice D1 m1 d1, .slice D3 m3 d3⟩, fun b => (Value.slice D1 m1 d1).ownBlock = some b ∨ S b, rfl, ⟨S, ?_, ?_, HD.out, fun b => Iff.rfl⟩, ?_⟩
  · exact (row_setLow (row_setLow (row_setLow HN3.out (by omega)) (by omega)) (by omega)).mono (by omega)
  · exact ownSs_mono (ownSs_set (ownSs_set (ownSs_set HO3.out (by omega)) (by omega)) (by omega)) (by omega)
  · exact below_set (below_set (below_set HB3.out (by omega)) (by omega)) (by omega)
abbrev RowGroup (B : Nat) (w : World) (v : Value) (R : List GpR) : Prop := RowR GpR.enc 2 85 B w v R
theorem GpRCells {B g n cap : Nat} {w : World} {L : List GpR} (h : RowGroup B w (.slice (some ⟨g, 0, none⟩) n cap) L) {i : Nat} (hi : i < L.length) :
    (w.cell? ⟨g, i * 2, none⟩ = some (.string L[i].n) ∧ w.cell? ⟨g, i * 2 + 1, none⟩ = some L[i].kv) ∧ w.frozen? ⟨g, i * 2, none⟩ = false ∧ w.frozen? ⟨g, i * 2 + 1, none⟩ = false :=
  ⟨⟨RowR.cell GpR.enc_len h hi (j := 0) rfl, RowR.cell GpR.enc_len h hi (j := 1) rfl⟩, RowR.frozen h _, RowR.frozen h _⟩
theorem RowGroup.put {B g n cap : Nat} {w : World} {L : List GpR} (h : RowGroup B w (.slice (some ⟨g, 0, none⟩) n cap) L) {i : Nat} (hi : i < L.length) (x : GpR) :
    RowGroup B ((w.setCell ⟨g, i * 2, none⟩ (.string x.n)).setCell ⟨g, i * 2 + 1, none⟩ x.kv) (.slice (some ⟨g, 0, none⟩) n cap) (L.set i x) ∧
    w.grownBy ((w.setCell ⟨g, i * 2, none⟩ (.string x.n)).setCell ⟨g, i * 2 + 1, none⟩ x.kv) (some g) := by
  have h0 := RowR.set1 GpR.enc_len h hi 0 (by omega) (.string x.n) ⟨x.n, L[i].kv⟩ rfl
  have h1 := RowR.set1 GpR.enc_len h0.1 (i := i) (by simpa using hi) 1 (by omega) x.kv x (by simp [GpR.enc])
  have hr := h1.1
  rw [List.set_set] at hr
  exact ⟨hr, h0.2.trans h1.2⟩
set_option maxHeartbeats 4000000 in
theorem toGrps_any (v : Value) (l : List Grp) (w : World) (hv : HasGroup w v l) (hn : l.length ≤ 1048576) (hs : ∀ s ∈ l, GrpSz s) :
    Calls Try.prog 20 #[v] w fun e w' => ∃ (v' : Value) (S : Nat → Prop), e = .returned v' ∧ OwnGroup w.heap.size w' v' l S ∧ Below w.heap.size w w' := by
  obtain ⟨i0, hi, hz0, hz1, hz2⟩ := info_parts infoGrp
  obtain ⟨A, cap, rfl, hn', hc⟩ := hv.at
  obtain ⟨n, hnn⟩ : ∃ n, n = l.length := ⟨_, rfl⟩
  have HN : Hid (n = l.length) := Lib.hid hnn
  have HSZ := Lib.hid hs
  rw [← hnn] at hn hn' ⊢
  clear hnn hv hs
  go_enter Try.func20, Try.ntmps20
  have hb2 : i0.bytes * n ≤ 281474976710656 := by rw [hz2]; omega
  have hb3 : n ≤ maxLen := by unfold maxLen; omega
  have HZ : Hid (i0.bytes = 40) := Lib.hid hz2
  clear hz2
  go_wp2_with (at_make; refine wpList_make_full _ rfl _ _ 31 rfl w.heap.size 85 i0 (.agg #[.string ⟨#[]⟩, .slice none 0 0]) 2 Try.underlying31 hi hz0 hz1 _ _ _ _ n rfl rfl rfl rfl hb2 hb3 (Nat.le_refl _) ?_; intro w1 hown1 hg1)
  have hrow0 : RowGroup w.heap.size w1 (.slice (some ⟨w.heap.size, 0, none⟩) n n) (List.replicate n ⟨⟨#[]⟩, .slice none 0 0⟩) := by
    have := hown1
    rw [show (madeCells (Value.agg #[.string ⟨#[]⟩, .slice none 0 0]).cells (n * 2)).toList = (List.replicate n (⟨⟨#[]⟩, .slice none 0 0⟩ : GpR)).flatMap GpR.enc from made_flat GpR.enc_len (by omega) _ ⟨⟨#[]⟩, .slice none 0 0⟩ rfl n] at this
    unfold RowGroup RowR
    simpa using this
  have hbel1 : Below w.heap.size w w1 := (Below.refl _ _).grown hg1 (Nat.le_refl _) (by simp)
  have HG0 : Hid (w.heap.size < w1.heap.size) := Lib.hid (by
    rcases hown1.2 with ⟨h, _⟩ | ⟨g, cap, cur, h, _, h3, _⟩
    · cases h
    · cases h; exact (Array.getElem?_eq_some_iff.1 h3).1)
  have HP0 : Hid (∃ K, PartT gpK 0 w.heap.size w1 w.heap.size (List.replicate n ⟨⟨#[]⟩, .slice none 0 0⟩ : List GpR) (l.map lfG) K 0) := Lib.hid ⟨fun _ _ => False, PartT.zero (by rw [List.length_map]; exact (List.length_replicate (n := n)).trans HN.out)⟩
  clear hown1 hg1
  go_loopw [4] (fun i wr => ∃ (k : Nat) (R : List GpR), k ≤ n ∧ i = .int .i64 k ∧ RowGroup w.heap.size wr (.slice (some ⟨w.heap.size, 0, none⟩) n n) R ∧ Hid (∃ K, PartT gpK 0 w.heap.size wr w.heap.size R (l.map lfG) K k) ∧ Hid (w.heap.size < wr.heap.size) ∧ Below w.heap.size w wr) (fun i _ => n - (intOf i).toNat)
  case atStart => exact ⟨0, _, Nat.zero_le _, rfl, hrow0, HP0, HG0, hbel1⟩
  case round =>
    clear hrow0 hbel1 HP0 HG0
    obtain ⟨k, R, hk, rfl, hrow, HP, HG, hbel⟩ := hrel
    by_cases hlt : k < n
    · have hlk : k < l.length := by rw [← HN.out]; exact hlt
      have hlm : k < (l.map lfG).length := by rw [List.length_map]; exact hlk
      obtain ⟨a, r, rfl, hab, hcell, hrd⟩ := hc k hlk
      obtain ⟨c0, c1⟩ := hcell.below hbel hab
      have HC := Lib.hid (toGrp_any r l[k] _ (gpK.rd_below hrd hbel) (HSZ.out _ (List.getElem_mem hlk)))
      have HNX : Hid (∀ {W : World} {R : List GpR} {K : Nat → Nat → Prop}, PartT gpK 0 w.heap.size W w.heap.size R (l.map lfG) K k → ∀ {r : GpR} {S : Nat → Prop}, gpK.own w.heap.size W r l[k] S → ¬ S w.heap.size → (∀ i b, i < k → K i b → S b → False) → ∃ K', PartT gpK 0 w.heap.size W w.heap.size (R.set k r) (l.map lfG) K' (k + 1)) := Lib.hid fun hp _ S h1 h2 h3 => ⟨_, hp.next hlm (show OwN gpK 0 w.heap.size _ _ (l.map lfG)[k] S from by rw [List.getElem_map]; exact ⟨S, fun _ => False, h1, owL_nil gpK 0 _ _, fun _ _ h => h, fun b => by simp⟩) h2 h3⟩
      have hkR : k < R.length := by obtain ⟨K, hK⟩ := HP.out; exact Nat.lt_of_lt_of_eq hlm hK.len.symm
      have HLT : Hid (∀ {W : World} {R : List GpR} {K : Nat → Nat → Prop}, PartT gpK 0 w.heap.size W w.heap.size R (l.map lfG) K k → ∀ i b, i < k → K i b → b < W.heap.size) := Lib.hid fun hp i b hi hb => (hp.lt hi (by omega) hb).2
      obtain ⟨rA, rn, rc, re⟩ : ∃ A n c, r.kv = .slice A n c := by obtain ⟨d, h⟩ := hrd.2; obtain ⟨A, c, h⟩ := h.form; exact ⟨A, _, c, h⟩
      obtain ⟨r1, rkv⟩ := r
      dsimp only at re c0 c1 HC
      subst re
      generalize l[k] = s at HC HNX
      clear hcell hrd
      go_wp2_with fail
      refine (HC.out).mono ?_
      rintro e w2 ⟨r', S, rfl, hx2, hb2⟩
      have hrow2 := RowR.below hrow hb2
      have HP2 : Hid (∃ K, PartT gpK 0 w.heap.size w2 w.heap.size R (l.map lfG) K k ∧ ∀ i b, i < k → K i b → b < wr.heap.size) := Lib.hid (by obtain ⟨K, hK⟩ := HP.out; exact ⟨K, hK.below hb2, HLT.out hK⟩)
      have HX2 := Lib.hid hx2
      have HB2 := Lib.hid (below_step hbel hb2)
      have HSZ2 := Lib.hid hb2.size
      obtain ⟨⟨e0, e1⟩, f0, f1⟩ := GpRCells hrow2 hkR
      have HPUT := Lib.hid (RowGroup.put hrow2 hkR r')
      obtain ⟨B2, m2, b2, g2⟩ := ownSs_form HX2.out.2
      obtain ⟨rn2, rkv2⟩ := r'
      dsimp only at g2 HPUT HX2
      subst g2
      clear hrow hbel hrow2 hx2 hb2 c0 c1
      go_wp2
      go_roundw
      case rel =>
        have hS : ∀ b, S b → wr.heap.size ≤ b := fun b hb => (gpK.own_lt HX2.out b hb).1
        refine ⟨k + 1, _, by omega, by go_num, HPUT.out.1, Lib.hid ?_, Lib.hid ?_, HB2.out.grown HPUT.out.2 HB2.out.size (fun _ h => by cases h; exact Nat.le_refl _)⟩
        · obtain ⟨K, hK, hlt2⟩ := HP2.out
          refine HNX.out (hK.grown HPUT.out.2) (gpK.own_mono (gpK.own_frame HX2.out fun b hb => HPUT.out.2.block b (gpK.own_lt HX2.out b hb).2 (fun e => ?_)) (by have := HG.out; omega)) (fun h => ?_) (fun i b hi hb1 hb2 => ?_)
          · have := hS b hb; have := HG.out; have := Option.some.inj e; omega
          · have := hS _ h; have := HG.out; omega
          · have := hS b hb2; have := hlt2 i b hi hb1; omega
        · have := HPUT.out.2.size; have := HSZ2.out; have := HG.out; omega
      case measure => simp [intOf]; omega
    · have HE : Hid (∃ K, PartT gpK 0 w.heap.size wr w.heap.size R (l.map lfG) K (l.map lfG).length) := Lib.hid (by have h := HP.out; rwa [show k = (l.map lfG).length by rw [List.length_map]; have := HN.out; omega] at h)
      clear hc
      go_wp2
      go_ret
      obtain ⟨K, hK⟩ := HE.out
      exact ⟨_, _, rfl, hK.own hrow, hbel⟩
abbrev RowAugment (B : Nat) (w : World) (v : Value) (R : List AuR) : Prop := RowR AuR.enc 2 88 B w v R
theorem AuRCells {B g n cap : Nat} {w : World} {L : List AuR} (h : RowAugment B w (.slice (some ⟨g, 0, none⟩) n cap) L) {i : Nat} (hi : i < L.length) :
    (w.cell? ⟨g, i * 2, none⟩ = some (L[i].nv) ∧ w.cell? ⟨g, i * 2 + 1, none⟩ = some L[i].kv) ∧ w.frozen? ⟨g, i * 2, none⟩ = false ∧ w.frozen? ⟨g, i * 2 + 1, none⟩ = false :=
  ⟨⟨RowR.cell AuR.enc_len h hi (j := 0) rfl, RowR.cell AuR.enc_len h hi (j := 1) rfl⟩, RowR.frozen h _, RowR.frozen h _⟩
theorem RowAugment.put {B g n cap : Nat} {w : World} {L : List AuR} (h : RowAugment B w (.slice (some ⟨g, 0, none⟩) n cap) L) {i : Nat} (hi : i < L.length) (x : AuR) :
    RowAugment B ((w.setCell ⟨g, i * 2, none⟩ (x.nv)).setCell ⟨g, i * 2 + 1, none⟩ x.kv) (.slice (some ⟨g, 0, none⟩) n cap) (L.set i x) ∧
    w.grownBy ((w.setCell ⟨g, i * 2, none⟩ (x.nv)).setCell ⟨g, i * 2 + 1, none⟩ x.kv) (some g) := by
  have h0 := RowR.set1 AuR.enc_len h hi 0 (by omega) (x.nv) ⟨x.nv, L[i].kv⟩ rfl
  have h1 := RowR.set1 AuR.enc_len h0.1 (i := i) (by simpa using hi) 1 (by omega) x.kv x (by simp [AuR.enc])
  have hr := h1.1
  rw [List.set_set] at hr
  exact ⟨hr, h0.2.trans h1.2⟩
set_option maxHeartbeats 4000000 in
theorem toAugs_any (v : Value) (l : List Aug) (w : World) (hv : HasAugment w v l) (hn : l.length ≤ 1048576) (hs : ∀ s ∈ l, AugSz s) :
    Calls Try.prog 21 #[v] w fun e w' => ∃ (v' : Value) (S : Nat → Prop), e = .returned v' ∧ OwnAugment w.heap.size w' v' l S ∧ Below w.heap.size w w' := by
  obtain ⟨i0, hi, hz0, hz1, hz2⟩ := info_parts infoAug
  obtain ⟨A, cap, rfl, hn', hc⟩ := hv.at
  obtain ⟨n, hnn⟩ : ∃ n, n = l.length := ⟨_, rfl⟩
  have HN : Hid (n = l.length) := Lib.hid hnn
  have HSZ := Lib.hid hs
  rw [← hnn] at hn hn' ⊢
  clear hnn hv hs
  go_enter Try.func21, Try.ntmps21
  have hb2 : i0.bytes * n ≤ 281474976710656 := by rw [hz2]; omega
  have hb3 : n ≤ maxLen := by unfold maxLen; omega
  have HZ : Hid (i0.bytes = 48) := Lib.hid hz2
  clear hz2
  go_wp2_with (at_make; refine wpList_make_full _ rfl _ _ 33 rfl w.heap.size 88 i0 (.agg #[.slice none 0 0, .slice none 0 0]) 2 Try.underlying33 hi hz0 hz1 _ _ _ _ n rfl rfl rfl rfl hb2 hb3 (Nat.le_refl _) ?_; intro w1 hown1 hg1)
  have hrow0 : RowAugment w.heap.size w1 (.slice (some ⟨w.heap.size, 0, none⟩) n n) (List.replicate n ⟨.slice none 0 0, .slice none 0 0⟩) := by
    have := hown1
    rw [show (madeCells (Value.agg #[.slice none 0 0, .slice none 0 0]).cells (n * 2)).toList = (List.replicate n (⟨.slice none 0 0, .slice none 0 0⟩ : AuR)).flatMap AuR.enc from made_flat AuR.enc_len (by omega) _ ⟨.slice none 0 0, .slice none 0 0⟩ rfl n] at this
    unfold RowAugment RowR
    simpa using this
  have hbel1 : Below w.heap.size w w1 := (Below.refl _ _).grown hg1 (Nat.le_refl _) (by simp)
  have HG0 : Hid (w.heap.size < w1.heap.size) := Lib.hid (by
    rcases hown1.2 with ⟨h, _⟩ | ⟨g, cap, cur, h, _, h3, _⟩
    · cases h
    · cases h; exact (Array.getElem?_eq_some_iff.1 h3).1)
  have HP0 : Hid (∃ K, PartT auK 0 w.heap.size w1 w.heap.size (List.replicate n ⟨.slice none 0 0, .slice none 0 0⟩ : List AuR) (l.map lfA) K 0) := Lib.hid ⟨fun _ _ => False, PartT.zero (by rw [List.length_map]; exact (List.length_replicate (n := n)).trans HN.out)⟩
  clear hown1 hg1
  go_loopw [4] (fun i wr => ∃ (k : Nat) (R : List AuR), k ≤ n ∧ i = .int .i64 k ∧ RowAugment w.heap.size wr (.slice (some ⟨w.heap.size, 0, none⟩) n n) R ∧ Hid (∃ K, PartT auK 0 w.heap.size wr w.heap.size R (l.map lfA) K k) ∧ Hid (w.heap.size < wr.heap.size) ∧ Below w.heap.size w wr) (fun i _ => n - (intOf i).toNat)
  case atStart => exact ⟨0, _, Nat.zero_le _, rfl, hrow0, HP0, HG0, hbel1⟩
  case round =>
    clear hrow0 hbel1 HP0 HG0
    obtain ⟨k, R, hk, rfl, hrow, HP, HG, hbel⟩ := hrel
    by_cases hlt : k < n
    · have hlk : k < l.length := by rw [← HN.out]; exact hlt
      have hlm : k < (l.map lfA).length := by rw [List.length_map]; exact hlk
      obtain ⟨a, r, rfl, hab, hcell, hrd⟩ := hc k hlk
      obtain ⟨c0, c1⟩ := hcell.below hbel hab
      have HC := Lib.hid (toAug_any r l[k] _ (auK.rd_below hrd hbel) (HSZ.out _ (List.getElem_mem hlk)))
      have HNX : Hid (∀ {W : World} {R : List AuR} {K : Nat → Nat → Prop}, PartT auK 0 w.heap.size W w.heap.size R (l.map lfA) K k → ∀ {r : AuR} {S : Nat → Prop}, auK.own w.heap.size W r l[k] S → ¬ S w.heap.size → (∀ i b, i < k → K i b → S b → False) → ∃ K', PartT auK 0 w.heap.size W w.heap.size (R.set k r) (l.map lfA) K' (k + 1)) := Lib.hid fun hp _ S h1 h2 h3 => ⟨_, hp.next hlm (show OwN auK 0 w.heap.size _ _ (l.map lfA)[k] S from by rw [List.getElem_map]; exact ⟨S, fun _ => False, h1, owL_nil auK 0 _ _, fun _ _ h => h, fun b => by simp⟩) h2 h3⟩
      have hkR : k < R.length := by obtain ⟨K, hK⟩ := HP.out; exact Nat.lt_of_lt_of_eq hlm hK.len.symm
      have HLT : Hid (∀ {W : World} {R : List AuR} {K : Nat → Nat → Prop}, PartT auK 0 w.heap.size W w.heap.size R (l.map lfA) K k → ∀ i b, i < k → K i b → b < W.heap.size) := Lib.hid fun hp i b hi hb => (hp.lt hi (by omega) hb).2
      obtain ⟨pA, pn, pc, pe⟩ : ∃ A n c, r.nv = .slice A n c := by obtain ⟨A, c, h, _⟩ := hrd.1; exact ⟨A, _, c, h⟩
      obtain ⟨rA, rn, rc, re⟩ : ∃ A n c, r.kv = .slice A n c := by obtain ⟨d, h⟩ := hrd.2; obtain ⟨A, c, h⟩ := h.form; exact ⟨A, _, c, h⟩
      obtain ⟨r1, rkv⟩ := r
      dsimp only at pe re c0 c1 HC
      subst pe re
      generalize l[k] = s at HC HNX
      clear hcell hrd
      go_wp2_with fail
      refine (HC.out).mono ?_
      rintro e w2 ⟨r', S, rfl, hx2, hb2⟩
      have hrow2 := RowR.below hrow hb2
      have HP2 : Hid (∃ K, PartT auK 0 w.heap.size w2 w.heap.size R (l.map lfA) K k ∧ ∀ i b, i < k → K i b → b < wr.heap.size) := Lib.hid (by obtain ⟨K, hK⟩ := HP.out; exact ⟨K, hK.below hb2, HLT.out hK⟩)
      have HX2 := Lib.hid hx2
      have HB2 := Lib.hid (below_step hbel hb2)
      have HSZ2 := Lib.hid hb2.size
      obtain ⟨⟨e0, e1⟩, f0, f1⟩ := AuRCells hrow2 hkR
      have HPUT := Lib.hid (RowAugment.put hrow2 hkR r')
      obtain ⟨S9, q1, q2, -, -⟩ := HX2.out
      obtain ⟨B1, m1, b1, g1⟩ : ∃ A n c, r'.nv = .slice A n c := by obtain ⟨A, c, h, _⟩ := q1.has; exact ⟨A, _, c, h⟩
      obtain ⟨B2, m2, b2, g2⟩ := ownSs_form q2
      obtain ⟨rnv2, rkv2⟩ := r'
      dsimp only at g1 g2 HPUT HX2
      subst g1 g2
      clear q1 q2
      clear hrow hbel hrow2 hx2 hb2 c0 c1
      go_wp2
      go_roundw
      case rel =>
        have hS : ∀ b, S b → wr.heap.size ≤ b := fun b hb => (auK.own_lt HX2.out b hb).1
        refine ⟨k + 1, _, by omega, by go_num, HPUT.out.1, Lib.hid ?_, Lib.hid ?_, HB2.out.grown HPUT.out.2 HB2.out.size (fun _ h => by cases h; exact Nat.le_refl _)⟩
        · obtain ⟨K, hK, hlt2⟩ := HP2.out
          refine HNX.out (hK.grown HPUT.out.2) (auK.own_mono (auK.own_frame HX2.out fun b hb => HPUT.out.2.block b (auK.own_lt HX2.out b hb).2 (fun e => ?_)) (by have := HG.out; omega)) (fun h => ?_) (fun i b hi hb1 hb2 => ?_)
          · have := hS b hb; have := HG.out; have := Option.some.inj e; omega
          · have := hS _ h; have := HG.out; omega
          · have := hS b hb2; have := hlt2 i b hi hb1; omega
        · have := HPUT.out.2.size; have := HSZ2.out; have := HG.out; omega
      case measure => simp [intOf]; omega
    · have HE : Hid (∃ K, PartT auK 0 w.heap.size wr w.heap.size R (l.map lfA) K (l.map lfA).length) := Lib.hid (by have h := HP.out; rwa [show k = (l.map lfA).length by rw [List.length_map]; have := HN.out; omega] at h)
      clear hc
      go_wp2
      go_ret
      obtain ⟨K, hK⟩ := HE.out
      exact ⟨_, _, rfl, hK.own hrow, hbel⟩
set_option maxHeartbeats 4000000 in
theorem toMo_any (v : MoV) (m : Mod) (w : World) (h : HasMo w v m) (hz : ModSz m) :
    Calls Try.prog 7 #[v.val] w fun e w' => ∃ (v' : MoV) (K : Nat → Nat → Prop), e = .returned v'.val ∧ OwnMo w.heap.size w' v' m K ∧ Below w.heap.size w w' := by
  obtain ⟨na, gv, bv, av⟩ := v
  obtain ⟨h2, h3, h4, h5⟩ := h
  dsimp only at h2 h3 h4 h5 ⊢
  obtain ⟨A1, n1, c1, rfl⟩ : ∃ A n c, gv = .slice A n c := by obtain ⟨A, c, h, _⟩ := h3.at; exact ⟨A, _, c, h⟩
  obtain ⟨A2, n2, c2, rfl⟩ : ∃ A n c, bv = .slice A n c := by obtain ⟨d, h⟩ := h4; obtain ⟨A, c, h⟩ := h.form; exact ⟨A, _, c, h⟩
  obtain ⟨A3, n3, c3, rfl⟩ : ∃ A n c, av = .slice A n c := by obtain ⟨A, c, h, _⟩ := h5.at; exact ⟨A, _, c, h⟩
  have H1 := Lib.hid (fun W (hb : Below w.heap.size w W) => toGrps_any (.slice A1 n1 c1) m.gs W (RdL.below h3 hb) hz.gl hz.gs)
  have H2 := Lib.hid (fun W (hb : Below w.heap.size w W) => toSs_any (.slice A2 n2 c2) m.b W (h4.imp fun _ h => h.below hb) hz.b)
  have H3 := Lib.hid (fun W (hb : Below w.heap.size w W) => toAugs_any (.slice A3 n3 c3) m.us W (RdL.below h5 hb) hz.ul hz.us)
  have HB0 := Lib.hid (Below.refl w.heap.size w)
  have HNA := Lib.hid h2
  have HS0 := Lib.hid (st3_new w 26 35 #[.string na, .slice A1 n1 c1, .slice A2 n2 c2, .slice A3 n3 c3] #[.string ⟨#[]⟩, .slice none 0 0, .slice none 0 0, .slice none 0 0] #[.string na, .slice none 0 0, .slice none 0 0, .slice none 0 0])
  clear h2 h3 h4 h5 hz
  go_enter Try.func7, Try.ntmps7
  go_wp2_with fail
  refine (H1.out _ (below_al (below_al (below_al HB0.out _) _) _)).mono ?_
  rintro e w1 ⟨v1, S1, rfl, hown, hb1⟩
  obtain ⟨D1, m1, d1, rfl⟩ : ∃ A n c, v1 = .slice A n c := by
    rcases OwL.form hown with ⟨h1, _⟩ | ⟨g', cap', h1, _⟩
    · exact ⟨_, _, _, h1⟩
    · exact ⟨_, _, _, h1⟩
  have HB1 := Lib.hid (below_step (below_al (below_al (below_al HB0.out _) _) _) hb1)
  have HS1 := Lib.hid (HS0.out.below hb1)
  have HO1 := Lib.hid (OwL.mono hown (B' := w.heap.size + 3) (by simp))
  have x0 := HS1.out.cx 1 (v := .slice none 0 0) rfl
  have f0 := HS1.out.fx 1
  have a1 := HS1.out.ca 2 (v := .slice A2 n2 c2) rfl
  have HS2 := Lib.hid (HS1.out.put 1 (.slice D1 m1 d1))
  have HP1 := Lib.hid (OwL.set (b := w.heap.size + 1 + 1) (j := 1) (u := .slice D1 m1 d1) HO1.out (by omega))
  have HB2 := Lib.hid (below_set HB1.out (b := w.heap.size + 1 + 1) (j := 1) (u := .slice D1 m1 d1) (by omega))
  clear hown hb1
  go_wp2_with fail
  refine (H2.out _ HB2.out).mono ?_
  rintro e w3 ⟨v2, S2, rfl, hown, hb1⟩
  obtain ⟨D2, m2, d2, rfl⟩ := ownSs_form hown
  have HB3 := Lib.hid (below_step HB2.out hb1)
  have HS3 := Lib.hid (HS2.out.below hb1)
  have HP3 := Lib.hid (OwL.below HP1.out hb1)
  have HO2 := Lib.hid (ownSs_mono hown (B' := w.heap.size + 3) HS2.out.lt)
  have HD1 := Lib.hid (fun b (h1 : S1 b) (h2 : S2 b) => (show False from by have := (OwL.lt HP1.out b h1).2; have := (ownSs_lt hown h2).1; omega))
  have y0 := HS3.out.cx 2 (v := .slice none 0 0) rfl
  have y1 := HS3.out.fx 2
  have y2 := HS3.out.ca 3 (v := .slice A3 n3 c3) rfl
  have HS4 := Lib.hid (HS3.out.put 2 (.slice D2 m2 d2))
  have HP4 := Lib.hid (OwL.set (b := w.heap.size + 1 + 1) (j := 2) (u := .slice D2 m2 d2) HP3.out (by omega))
  have HO4 := Lib.hid (ownSs_set (b := w.heap.size + 1 + 1) (j := 2) (u := .slice D2 m2 d2) HO2.out (by omega))
  have HB4 := Lib.hid (below_set HB3.out (b := w.heap.size + 1 + 1) (j := 2) (u := .slice D2 m2 d2) (by omega))
  clear hown hb1 x0 f0 a1
  go_wp2_with fail
  refine (H3.out _ HB4.out).mono ?_
  rintro e w5 ⟨v3, S3, rfl, hown, hb1⟩
  obtain ⟨D3, m3, d3, rfl⟩ : ∃ A n c, v3 = .slice A n c := by
    rcases OwL.form hown with ⟨h1, _⟩ | ⟨g', cap', h1, _⟩
    · exact ⟨_, _, _, h1⟩
    · exact ⟨_, _, _, h1⟩
  have HB5 := Lib.hid (below_step HB4.out hb1)
  have HS5 := Lib.hid (HS4.out.below hb1)
  have HP5 := Lib.hid (OwL.below HP4.out hb1)
  have HO5 := Lib.hid (ownSs_below HO4.out hb1)
  have HQ5 := Lib.hid (OwL.mono hown (B' := w.heap.size + 3) HS4.out.lt)
  have HD2 := Lib.hid (fun b (h1 : S1 b) (h2 : S3 b) => (show False from by have := (OwL.lt HP4.out b h1).2; have := (OwL.lt hown b h2).1; omega))
  have HD3 := Lib.hid (fun b (h1 : S2 b) (h2 : S3 b) => (show False from by have := (ownSs_lt HO4.out h1).2; have := (OwL.lt hown b h2).1; omega))
  have x0 := HS5.out.cx 0 (v := .string na) rfl
  have x1 := HS5.out.cx 1 (v := .slice D1 m1 d1) rfl
  have x2 := HS5.out.cx 2 (v := .slice D2 m2 d2) rfl
  have x3 := HS5.out.cx 3 (v := .slice none 0 0) rfl
  have r0 := HS5.out.cr 0 (v := .string ⟨#[]⟩) rfl
  have r1 := HS5.out.cr 1 (v := .slice none 0 0) rfl
  have r2 := HS5.out.cr 2 (v := .slice none 0 0) rfl
  have r3 := HS5.out.cr 3 (v := .slice none 0 0) rfl
  have f0 := HS5.out.fx 0
  have f1 := HS5.out.fx 1
  have f2 := HS5.out.fx 2
  have f3 := HS5.out.fx 3
  have g0 := HS5.out.fr 0
  have g1 := HS5.out.fr 1
  have g2 := HS5.out.fr 2
  have g3 := HS5.out.fr 3
  clear hown hb1 y0 y1 y2
  go_wp2
  refine bodyPost_ret (v := .agg #[.string na, .slice D1 m1 d1, .slice D2 m2 d2, .slice D3 m3 d3]) (by simp [results, Try.results7, go_sem, x0, x1, x2, x3, f0, f1, f2, f3, r0, r1, r2, r3, g0, g1, g2, g3]) rfl ?_
  refine ⟨⟨na, .slice D1 m1 d1, .slice D2 m2 d2, .slice D3 m3 d3⟩, fun i b => (i = 0 ∧ S1 b) ∨ (i = 1 ∧ S2 b) ∨ (i = 2 ∧ S3 b), rfl, ⟨HNA.out, ?_, ?_, ?_, ?_⟩, ?_⟩
  · rw [show (fun b => (0 = 0 ∧ S1 b) ∨ (0 = 1 ∧ S2 b) ∨ (0 = 2 ∧ S3 b)) = S1 by funext b; simp]
    exact OwL.mono (OwL.set (OwL.set (OwL.set (OwL.set (OwL.set HP5.out (by omega)) (by omega)) (by omega)) (by omega)) (by omega)) (by omega)
  · rw [show (fun b => (1 = 0 ∧ S1 b) ∨ (1 = 1 ∧ S2 b) ∨ (1 = 2 ∧ S3 b)) = S2 by funext b; simp]
    exact ownSs_mono (ownSs_set (ownSs_set (ownSs_set (ownSs_set (ownSs_set HO5.out (by omega)) (by omega)) (by omega)) (by omega)) (by omega)) (by omega)
  · rw [show (fun b => (2 = 0 ∧ S1 b) ∨ (2 = 1 ∧ S2 b) ∨ (2 = 2 ∧ S3 b)) = S3 by funext b; simp]
    exact OwL.mono (OwL.set (OwL.set (OwL.set (OwL.set (OwL.set HQ5.out (by omega)) (by omega)) (by omega)) (by omega)) (by omega)) (by omega)
  · rintro i j b _ _ (⟨rfl, h1⟩ | ⟨rfl, h1⟩ | ⟨rfl, h1⟩) (⟨rfl, h2⟩ | ⟨rfl, h2⟩ | ⟨rfl, h2⟩)
    · rfl
    · exact (HD1.out b h1 h2).elim
    · exact (HD2.out b h1 h2).elim
    · exact (HD1.out b h2 h1).elim
    · rfl
    · exact (HD3.out b h1 h2).elim
    · exact (HD2.out b h2 h1).elim
    · exact (HD3.out b h2 h1).elim
    · rfl
  · exact below_set (below_set (below_set (below_set (below_set HB5.out (by omega)) (by omega)) (by omega)) (by omega)) (by omega)
end Go.Proofs.Ytdkpleghpnflhaa
