/- CHAPTER 6: FormatType of both. (The walks of impl's are printed by tools/gen_tyQ.py.) -/
import Derived.Test.YtkifdbeklagelaaGreatDoorTyK
set_option linter.unusedVariables false
set_option linter.unusedSimpArgs false
namespace Go.Proofs.YtkifdbeklagelaaGreatDoor
open Go.RowKit
set_option maxRecDepth 100000

theorem row_one {B b : Nat} {W : World} {y : ByteArray} (hb : W.heap[b]? = some (.cells #[.string y] 9)) (hB : B ≤ b) : Row B W (.slice (some ⟨b, 0, none⟩) 1 1) [y] := ⟨rfl, .inr ⟨b, 1, #[.string y], rfl, hB, hb, by simp, by unfold maxLen; omega, rfl, rfl⟩⟩
/-- 'append(own, list...)', the list perhaps empty or nil -/
theorem wpList_row_appends {ops : Array Oper} {rest : List Oper} {o : Oper} {a : Act} {Q : Exit → Act → World → Prop} {w : World} (hgd : o.guard = none) (s x : Operand)
    (ho : o.op = .call { callee := .builtin .append, args := #[s, x], argTypes := #[23, 23] })
    (B g n c : Nat) (L : List ByteArray) (hs : a.eval s = .slice (some ⟨g, 0, none⟩) n c) (hrow : Row B w (.slice (some ⟨g, 0, none⟩) n c) L)
    (v2 : Value) (L2 : List ByteArray) (hx : a.eval x = v2) (hv : Has w v2 L2) (hk : NilOk v2) (hn0 : 0 < n) (hlen : n + L2.length ≤ 4194304) (hbase : B ≤ w.heap.size) (q : Nat) (hq : q = n + L2.length)
    (h : ∀ g' c'' w', Row B w' (.slice (some ⟨g', 0, none⟩) q c'') (L ++ L2) → w.grownBy w' (some g) → wpList Tryz.prog ops Q rest (a.put o.dst (.slice (some ⟨g', 0, none⟩) q c'')) w') :
    wpList Tryz.prog ops Q (o :: rest) a w := by
  obtain ⟨i0, hi, hz0, hz1, hz2⟩ := info_parts infoStr
  have hnL := hrow.cap'
  subst hq
  subst hnL
  obtain ⟨A, c2, rfl, hn', hc⟩ := id hv
  cases A with
  | none =>
    obtain rfl := has_none hv
    obtain rfl := hk _ _ rfl
    refine wpList_append_own_none hgd s x 23 ho B 9 i0 1 Tryz.underlying23 hi _ L.length _ hs hrow hx ?_
    refine h g c w ?_ (grown_below (Below.refl _ _))
    rw [List.append_nil]; exact hrow
  | some p =>
    refine wpList_append_own _ hgd s x 23 ho B 9 i0 (.string ⟨#[]⟩) 1 16 Tryz.underlying23 hi hz0 hz1 hz2 rfl (by decide) _ L.length (L.map Value.string) hs hrow p L2.length c2 (L2.map Value.string) hx (by simp) (fun j u hj => strs_cells hc j u hj) (fun u hu => by obtain ⟨y, _, rfl⟩ := List.mem_map.1 hu; rfl) (by unfold maxLen; omega) (by omega) hbase ?_
    intro v' w' h2 h3 h4
    rcases h2.2 with ⟨h5, _⟩ | ⟨g', cap', cur, h5, _⟩
    · exact absurd (h4.1 h5).1 (by simp)
    · subst h5
      refine h g' cap' w' ?_ h3
      unfold Row
      rw [List.length_append, List.map_append]
      exact h2
theorem isTy_kind {t : Ty} (h : isTyB t = true) : 1 ≤ t.k ∧ t.k ≤ 6 := by
  rcases Classical.em (t.k ≠ 1 ∧ t.k ≠ 2 ∧ t.k ≠ 3 ∧ t.k ≠ 4 ∧ t.k ≠ 5 ∧ t.k ≠ 6) with hn | hn
  · obtain ⟨k, rg, nm, pt, ph⟩ := t
    rw [isTy_other rg nm pt ph hn] at h; cases h
  · omega
theorem joinC_more {c : UInt8} {xs : List ByteArray} (h : xs ≠ []) (y : ByteArray) : joinC c xs ++ ⟨#[c]⟩ ++ y = joinC c (xs ++ [y]) := (joinC_snoc h y).symm
theorem tyP_leaf {t : Ty} {L : List ByteArray} {r p h : List ByteArray} (e1 : rgL t.rg = r) (e2 : qtL t.pt = p) (e3 : qtL t.ph = h) (e : L = ((([tyW t.k] ++ r) ++ t.nm) ++ p) ++ h) : tyP4 t = L := by
  unfold tyP4 tyP3 tyP2 tyP1; rw [e1, e2, e3, e]
theorem TyBox.grown {w w' : World} {b g : Nat} {k : Int} {vr vn : Value} {pt ph : ByteArray} (h : TyBox w b k vr vn pt ph) (hg : w.grownBy w' (some g)) (hne : g ≠ b) : TyBox w' b k vr vn pt ph := (hg.block b h.lt (fun e => hne (Option.some.inj e).symm)).trans h
theorem qtL_nil : qtL ⟨#[]⟩ = [] := rfl
theorem qtL_one {s : ByteArray} (h : emB s = false) : qtL s = [quoteS s] := by unfold qtL; rw [h]; rfl
theorem rgL_nil {l : List Rg} (h : l.length = 0) : rgL l = [] := if_pos h
theorem rgL_one {l : List Rg} (h : 0 < l.length) : rgL l = [formatS l] := if_neg (by omega)
-- PRINTED
def typeWs : List (List UInt8) := [[], [105, 110, 116], [116, 101, 120, 116], [98, 111, 111, 108], [101, 110, 117, 109], [114, 101, 102], [102, 108, 97, 103]]
theorem typeWs_at {k : Int} (h1 : 1 ≤ k) (h6 : k ≤ 6) : ∃ s, typeWs[k.toNat]? = some s ∧ (⟨s.toArray⟩ : ByteArray) = tyW k := by
  have h : k = 1 ∨ k = 2 ∨ k = 3 ∨ k = 4 ∨ k = 5 ∨ k = 6 := by omega
  rcases h with rfl | rfl | rfl | rfl | rfl | rfl
  all_goals exact ⟨_, rfl, rfl⟩
set_option maxHeartbeats 8000000 in
theorem iFmtTy_any (v : TyV) (t : Ty) (w : World) (h : HasTy w v t) (hc : CapN v.vn) (hk : NilTy v) (hf : TyFm t)
    (hT : ∀ i s, i < 7 → typeWs[i]? = some s → w.cell? ⟨0, i, none⟩ = some (.string ⟨s.toArray⟩)) :
    Calls Tryz.prog 9 #[v.val] w fun e w' => e = .returned (.string (fmtTy t)) ∧ Below w.heap.size w w' := by
  have HI := Lib.hid (fun W (hb : Below w.heap.size w W) => iIsTy_any v t W (h.below hb) hc ⟨hf.sz, hf.pt, hf.ph⟩)
  have HR := Lib.hid (fun W (hb : Below w.heap.size w W) => iFormatR_any v.vr t.rg W (h.rg.below hb) hf.rg hf.wf)
  have HN := Lib.hid (fun W (hb : Below w.heap.size w W) => h.nm.below hb)
  have HNK := Lib.hid hk.2
  have HTK := Lib.hid (fun (hq : isTyB t = true) => isTy_kind hq)
  have HT : Hid (isTyB t = true → ∀ W, Below w.heap.size w W → W.cell? ⟨0, t.k.toNat, none⟩ = some (.string (tyW t.k))) := Lib.hid fun hq W hb => by
    obtain ⟨h1, h6⟩ := isTy_kind hq
    obtain ⟨s, e1, e2⟩ := typeWs_at h1 h6
    have h2 := hT _ s (by omega) e1
    rw [e2] at h2
    exact (hb.cell (lt_of_cell h2)).trans h2
  have HQ1 := Lib.hid (fun W => iQuote_any t.pt hf.pt W)
  have HQ2 := Lib.hid (fun W => iQuote_any t.ph hf.ph W)
  have HF := Lib.hid hf
  obtain ⟨A, c, h1, -⟩ := id h.rg
  obtain ⟨A', c', h2, -⟩ := id h.nm
  have hkk := h.k
  have hpt := h.pt
  have hph := h.ph
  obtain ⟨k, vr, vn, pt, ph⟩ := v
  obtain rfl : vr = _ := h1
  obtain rfl : vn = _ := h2
  obtain rfl : k = t.k := hkk
  obtain rfl : pt = t.pt := hpt
  obtain rfl : ph = t.ph := hph
  obtain ⟨Z, hZ⟩ : ∃ Z, Z = fmtTy t := ⟨_, rfl⟩
  have HZ0 : Hid (isTyB t = false → Z = ⟨#[]⟩) := Lib.hid fun hq => by rw [hZ]; unfold fmtTy; rw [hq]; rfl
  have HZ1 : Hid (isTyB t = true → Z = joinC 32 (tyP4 t)) := Lib.hid fun hq => by rw [hZ]; unfold fmtTy; rw [if_pos hq]
  have HL1 : Hid (∀ {L : List ByteArray}, tyP4 t = L → (Lib.join (L.map (·.data.toList)) [32]).length ≤ 140737488355328 ∧ L.length ≤ 1048580) := Lib.hid fun e => ⟨by rw [← e]; exact joinC_le (tyP_mem HF.out) (tyP_len HF.out), by rw [← e]; exact tyP_len HF.out⟩
  rw [← hZ]
  have HB0 := Lib.hid (below_al (Below.refl w.heap.size w) (.cells #[.int .i64 t.k, .slice A t.rg.length c, .slice A' t.nm.length c', .string t.pt, .string t.ph] 30))
  have HX0 : Hid (∀ W, Below (w.alloc (.cells #[.int .i64 t.k, .slice A t.rg.length c, .slice A' t.nm.length c', .string t.pt, .string t.ph] 30)).heap.size (w.alloc (.cells #[.int .i64 t.k, .slice A t.rg.length c, .slice A' t.nm.length c', .string t.pt, .string t.ph] 30)) W → TyBox W w.heap.size t.k (.slice A t.rg.length c) (.slice A' t.nm.length c') t.pt t.ph) := Lib.hid fun W hb => (hb.block _ (by simp)).trans (heap_alloc_new w _)
  have HNM := Lib.hid hf.nm
  have HLEAF := Lib.hid (fun (L r p q : List ByteArray) (e1 : rgL t.rg = r) (e2 : qtL t.pt = p) (e3 : qtL t.ph = q) (e : L = ((([tyW t.k] ++ r) ++ t.nm) ++ p) ++ q) => tyP_leaf (t := t) e1 e2 e3 e)
  have HRN := Lib.hid (fun (hq : t.rg.length = 0) => rgL_nil hq)
  have HRO := Lib.hid (fun (hq : 0 < t.rg.length) => rgL_one hq)
  clear h hc hk hf hT hZ
  obtain ⟨m, hm⟩ : ∃ m, m = t.nm.length := ⟨_, rfl⟩
  have HMN := Lib.hid hm
  rw [← hm] at HB0 HX0 HI HNM HN HNK ⊢
  clear hm
  generalize tyW t.k = wd at *
  generalize formatS t.rg = F at *
  generalize t.k = k at *
  generalize t.rg.length = n at *
  generalize t.nm = nm at *
  generalize t.pt = pt at *
  generalize t.ph = ph at *
  generalize isTyB t = b at *
  cases b
  · obtain rfl := HZ0.out rfl
    go_enter Tryz.func9, Tryz.ntmps9
    go_wp2_with fail
    refine (HI.out _ HB0.out).mono ?_
    rintro e w1 ⟨rfl, hb1⟩
    have HB1 := Lib.hid (below_step HB0.out hb1)
    clear hb1
    go_wp2
    go_ret
    exact ⟨rfl, HB1.out⟩
  obtain ⟨k1, k6⟩ := HTK.out rfl
  have HTT := Lib.hid (HT.out rfl)
  obtain rfl := HZ1.out rfl
  rcases Nat.eq_zero_or_pos n with hn0 | hn0
  · have hnd : decide ((0 : Int) < (n : Int)) = false := by simp; omega
    subst hn0
    rcases em_cases pt with hp | ⟨pa, pb, pc, pe⟩
    · subst hp
      rcases em_cases ph with hq | ⟨qa, qb, qc, qe⟩
      · subst hq
        go_enter Tryz.func9, Tryz.ntmps9
        go_wp2_with fail
        refine (HI.out _ HB0.out).mono ?_
        rintro e w1 ⟨rfl, hb1⟩
        have HB1 := Lib.hid (below_step HB0.out hb1)
        have HX1 := Lib.hid (HX0.out w1 hb1)
        have HZ1 : Hid (w.heap.size + 1 ≤ w1.heap.size) := Lib.hid (by have := hb1.size; simpa using this)
        obtain ⟨⟨x0, x1, x2, x3, x4⟩, -⟩ := five HX1.out
        have hlt1 : w.heap.size < w1.heap.size := HX1.out.lt
        have tc := HTT.out _ HB1.out
        clear hb1
        obtain ⟨q2, hq2⟩ : ∃ q, q = 1 + nm.length := ⟨_, rfl⟩
        have hqb2 : q2 ≤ 1048577 := by have := HNM.out; have := HMN.out; omega
        have hqi2 : 0 < q2 := by omega
        have HQ_2 := Lib.hid hq2
        clear hq2
        have hnl : nm.length ≤ 1048576 := by have := HNM.out; have := HMN.out; omega
        have hr := row_one (B := w.heap.size + 1) (heap_alloc_new w1 (.cells #[.string wd] 9)) HZ1.out
        have hbx := TyBox.below HX1.out (below_al (Below.refl _ _) (.cells #[.string wd] 9))
        have HBN := Lib.hid (below_al HB1.out (.cells #[.string wd] 9))
        have hgl : w.heap.size + 1 ≤ w1.heap.size := (hr.lt rfl).1
        have hz : w.heap.size + 1 ≤ (w1.alloc (.cells #[.string wd] 9)).heap.size := hbx.lt
        go_wp2_with (first | fail | (at_builtin; refine wpList_row_appends rfl _ _ rfl (w.heap.size + 1) w1.heap.size 1 1 _ rfl hr _ nm rfl (HN.out _ HBN.out) HNK.out (by omega) (by omega) hz q2 HQ_2.out ?_; intro g2 c2 w2 hrow hg; have HB2 := Lib.hid (HBN.out.grown hg HBN.out.size (fun j e => by cases e; omega)); have HX2 := Lib.hid (TyBox.grown hbx hg (by omega)); have HR2 := Lib.hid hrow; have HZ2 : Hid (w.heap.size + 1 ≤ w2.heap.size) := Lib.hid HX2.out.lt; clear hrow hg hr hz hgl hbx HBN x0 x1 x2 x3 x4 tc; obtain ⟨⟨x0, x1, x2, x3, x4⟩, -⟩ := five HX2.out))
        have HLF := Lib.hid (HLEAF.out ([wd] ++ nm) _ _ _ (HRN.out trivial) qtL_nil qtL_nil (by simp))
        have HJL := Lib.hid (HL1.out HLF.out)
        have hr := HR2.out
        have hln : ([wd] ++ nm).length = q2 := (hr.cap').symm
        have hJ := Tryz.strings_Join g2 0 c2 ([wd] ++ nm) ⟨#[32]⟩ w2 (fun j x hx => by
          obtain ⟨hj, rfl⟩ := List.getElem?_eq_some_iff.1 hx
          rw [Nat.zero_add]; exact hr.cell hj) (hr.lt rfl).2 (by have := HJL.out.2; omega) (by have := hr.cap; omega) (Nat.le_trans HJL.out.1 (by omega))
        rw [hln] at hJ
        obtain ⟨J, hJJ⟩ : ∃ J, J = joinC 32 ([wd] ++ nm) := ⟨_, rfl⟩
        have HJJ := Lib.hid hJJ
        have HJ : Hid (Calls Tryz.prog 30 #[.slice (some ⟨g2, 0, none⟩) q2 c2, .string ⟨#[32]⟩] w2 fun e w' => e = .returned (.string J) ∧ Below w2.heap.size w2 w') := Lib.hid (by rw [hJJ]; exact hJ)
        clear hJ hln hr hJJ
        go_wp2_with fail
        refine HJ.out.mono ?_
        rintro e wz ⟨rfl, hb⟩
        have HBZ := Lib.hid (below_step HB2.out hb)
        clear hb x0 x1 x2 x3 x4
        go_wp2
        go_ret
        exact ⟨(by rw [HLF.out, ← HJJ.out]; first | done | rfl), HBZ.out⟩
      · skip
        go_enter Tryz.func9, Tryz.ntmps9
        go_wp2_with fail
        refine (HI.out _ HB0.out).mono ?_
        rintro e w1 ⟨rfl, hb1⟩
        have HB1 := Lib.hid (below_step HB0.out hb1)
        have HX1 := Lib.hid (HX0.out w1 hb1)
        have HZ1 : Hid (w.heap.size + 1 ≤ w1.heap.size) := Lib.hid (by have := hb1.size; simpa using this)
        obtain ⟨⟨x0, x1, x2, x3, x4⟩, -⟩ := five HX1.out
        have hlt1 : w.heap.size < w1.heap.size := HX1.out.lt
        have tc := HTT.out _ HB1.out
        clear hb1
        obtain ⟨q2, hq2⟩ : ∃ q, q = 1 + nm.length := ⟨_, rfl⟩
        have hqb2 : q2 ≤ 1048577 := by have := HNM.out; have := HMN.out; omega
        have hqi2 : 0 < q2 := by omega
        have HQ_2 := Lib.hid hq2
        clear hq2
        have hnl : nm.length ≤ 1048576 := by have := HNM.out; have := HMN.out; omega
        have hr := row_one (B := w.heap.size + 1) (heap_alloc_new w1 (.cells #[.string wd] 9)) HZ1.out
        have hbx := TyBox.below HX1.out (below_al (Below.refl _ _) (.cells #[.string wd] 9))
        have HBN := Lib.hid (below_al HB1.out (.cells #[.string wd] 9))
        have hgl : w.heap.size + 1 ≤ w1.heap.size := (hr.lt rfl).1
        have hz : w.heap.size + 1 ≤ (w1.alloc (.cells #[.string wd] 9)).heap.size := hbx.lt
        go_wp2_with (first | fail | (at_builtin; refine wpList_row_appends rfl _ _ rfl (w.heap.size + 1) w1.heap.size 1 1 _ rfl hr _ nm rfl (HN.out _ HBN.out) HNK.out (by omega) (by omega) hz q2 HQ_2.out ?_; intro g2 c2 w2 hrow hg; have HB2 := Lib.hid (HBN.out.grown hg HBN.out.size (fun j e => by cases e; omega)); have HX2 := Lib.hid (TyBox.grown hbx hg (by omega)); have HR2 := Lib.hid hrow; have HZ2 : Hid (w.heap.size + 1 ≤ w2.heap.size) := Lib.hid HX2.out.lt; clear hrow hg hr hz hgl hbx HBN x0 x1 x2 x3 x4 tc; obtain ⟨⟨x0, x1, x2, x3, x4⟩, -⟩ := five HX2.out))
        go_wp2_with fail
        refine (HQ2.out _).mono ?_
        rintro e w3 ⟨rfl, hb⟩
        have HB3 := Lib.hid (below_step HB2.out hb)
        have HX3 := Lib.hid (HX2.out.below hb)
        have HR3 := Lib.hid (HR2.out.below hb)
        have HZ3 : Hid (w.heap.size + 1 ≤ w3.heap.size) := Lib.hid HX3.out.lt
        clear hb x0 x1 x2 x3 x4
        obtain ⟨⟨x0, x1, x2, x3, x4⟩, -⟩ := five HX3.out
        obtain ⟨q4, hq4⟩ : ∃ q, q = q2 + 1 := ⟨_, rfl⟩
        have hqb4 : q4 ≤ 1048578 := by omega
        have hqi4 : 0 < q4 := by omega
        have HQ_4 := Lib.hid hq4
        clear hq4
        have hr := HR3.out
        have hz := HZ3.out
        have hgl : w.heap.size + 1 ≤ g2 := (hr.lt rfl).1
        go_wp2_with (first | fail | (at_builtin; refine wpList_row_append rfl _ _ rfl (w.heap.size + 1) g2 q2 c2 _ rfl hr _ rfl (by omega) hz q4 HQ_4.out ?_; intro g4 c4 w4 hrow hg; have HB4 := Lib.hid ((below_al HB3.out (.cells #[.string (quoteS ph)] 9)).grown hg (below_al HB3.out (.cells #[.string (quoteS ph)] 9)).size (fun j e => by cases e; omega)); have HX4 := Lib.hid (TyBox.grown (TyBox.below HX3.out (below_al (Below.refl _ _) (.cells #[.string (quoteS ph)] 9))) hg (by omega)); have HR4 := Lib.hid hrow; have HZ4 : Hid (w.heap.size + 1 ≤ w4.heap.size) := Lib.hid HX4.out.lt; clear hrow hg hr hz hgl x0 x1 x2 x3 x4; obtain ⟨⟨x0, x1, x2, x3, x4⟩, -⟩ := five HX4.out))
        have HLF := Lib.hid (HLEAF.out ([wd] ++ nm ++ [(quoteS ph)]) _ _ _ (HRN.out trivial) qtL_nil (qtL_one qe) (by simp))
        have HJL := Lib.hid (HL1.out HLF.out)
        have hr := HR4.out
        have hln : ([wd] ++ nm ++ [(quoteS ph)]).length = q4 := (hr.cap').symm
        have hJ := Tryz.strings_Join g4 0 c4 ([wd] ++ nm ++ [(quoteS ph)]) ⟨#[32]⟩ w4 (fun j x hx => by
          obtain ⟨hj, rfl⟩ := List.getElem?_eq_some_iff.1 hx
          rw [Nat.zero_add]; exact hr.cell hj) (hr.lt rfl).2 (by have := HJL.out.2; omega) (by have := hr.cap; omega) (Nat.le_trans HJL.out.1 (by omega))
        rw [hln] at hJ
        obtain ⟨J, hJJ⟩ : ∃ J, J = joinC 32 ([wd] ++ nm ++ [(quoteS ph)]) := ⟨_, rfl⟩
        have HJJ := Lib.hid hJJ
        have HJ : Hid (Calls Tryz.prog 30 #[.slice (some ⟨g4, 0, none⟩) q4 c4, .string ⟨#[32]⟩] w4 fun e w' => e = .returned (.string J) ∧ Below w4.heap.size w4 w') := Lib.hid (by rw [hJJ]; exact hJ)
        clear hJ hln hr hJJ
        go_wp2_with fail
        refine HJ.out.mono ?_
        rintro e wz ⟨rfl, hb⟩
        have HBZ := Lib.hid (below_step HB4.out hb)
        clear hb x0 x1 x2 x3 x4
        go_wp2
        go_ret
        exact ⟨(by rw [HLF.out, ← HJJ.out]; first | done | rfl), HBZ.out⟩
    · skip
      rcases em_cases ph with hq | ⟨qa, qb, qc, qe⟩
      · subst hq
        go_enter Tryz.func9, Tryz.ntmps9
        go_wp2_with fail
        refine (HI.out _ HB0.out).mono ?_
        rintro e w1 ⟨rfl, hb1⟩
        have HB1 := Lib.hid (below_step HB0.out hb1)
        have HX1 := Lib.hid (HX0.out w1 hb1)
        have HZ1 : Hid (w.heap.size + 1 ≤ w1.heap.size) := Lib.hid (by have := hb1.size; simpa using this)
        obtain ⟨⟨x0, x1, x2, x3, x4⟩, -⟩ := five HX1.out
        have hlt1 : w.heap.size < w1.heap.size := HX1.out.lt
        have tc := HTT.out _ HB1.out
        clear hb1
        obtain ⟨q2, hq2⟩ : ∃ q, q = 1 + nm.length := ⟨_, rfl⟩
        have hqb2 : q2 ≤ 1048577 := by have := HNM.out; have := HMN.out; omega
        have hqi2 : 0 < q2 := by omega
        have HQ_2 := Lib.hid hq2
        clear hq2
        have hnl : nm.length ≤ 1048576 := by have := HNM.out; have := HMN.out; omega
        have hr := row_one (B := w.heap.size + 1) (heap_alloc_new w1 (.cells #[.string wd] 9)) HZ1.out
        have hbx := TyBox.below HX1.out (below_al (Below.refl _ _) (.cells #[.string wd] 9))
        have HBN := Lib.hid (below_al HB1.out (.cells #[.string wd] 9))
        have hgl : w.heap.size + 1 ≤ w1.heap.size := (hr.lt rfl).1
        have hz : w.heap.size + 1 ≤ (w1.alloc (.cells #[.string wd] 9)).heap.size := hbx.lt
        go_wp2_with (first | fail | (at_builtin; refine wpList_row_appends rfl _ _ rfl (w.heap.size + 1) w1.heap.size 1 1 _ rfl hr _ nm rfl (HN.out _ HBN.out) HNK.out (by omega) (by omega) hz q2 HQ_2.out ?_; intro g2 c2 w2 hrow hg; have HB2 := Lib.hid (HBN.out.grown hg HBN.out.size (fun j e => by cases e; omega)); have HX2 := Lib.hid (TyBox.grown hbx hg (by omega)); have HR2 := Lib.hid hrow; have HZ2 : Hid (w.heap.size + 1 ≤ w2.heap.size) := Lib.hid HX2.out.lt; clear hrow hg hr hz hgl hbx HBN x0 x1 x2 x3 x4 tc; obtain ⟨⟨x0, x1, x2, x3, x4⟩, -⟩ := five HX2.out))
        go_wp2_with fail
        refine (HQ1.out _).mono ?_
        rintro e w3 ⟨rfl, hb⟩
        have HB3 := Lib.hid (below_step HB2.out hb)
        have HX3 := Lib.hid (HX2.out.below hb)
        have HR3 := Lib.hid (HR2.out.below hb)
        have HZ3 : Hid (w.heap.size + 1 ≤ w3.heap.size) := Lib.hid HX3.out.lt
        clear hb x0 x1 x2 x3 x4
        obtain ⟨⟨x0, x1, x2, x3, x4⟩, -⟩ := five HX3.out
        obtain ⟨q4, hq4⟩ : ∃ q, q = q2 + 1 := ⟨_, rfl⟩
        have hqb4 : q4 ≤ 1048578 := by omega
        have hqi4 : 0 < q4 := by omega
        have HQ_4 := Lib.hid hq4
        clear hq4
        have hr := HR3.out
        have hz := HZ3.out
        have hgl : w.heap.size + 1 ≤ g2 := (hr.lt rfl).1
        go_wp2_with (first | fail | (at_builtin; refine wpList_row_append rfl _ _ rfl (w.heap.size + 1) g2 q2 c2 _ rfl hr _ rfl (by omega) hz q4 HQ_4.out ?_; intro g4 c4 w4 hrow hg; have HB4 := Lib.hid ((below_al HB3.out (.cells #[.string (quoteS pt)] 9)).grown hg (below_al HB3.out (.cells #[.string (quoteS pt)] 9)).size (fun j e => by cases e; omega)); have HX4 := Lib.hid (TyBox.grown (TyBox.below HX3.out (below_al (Below.refl _ _) (.cells #[.string (quoteS pt)] 9))) hg (by omega)); have HR4 := Lib.hid hrow; have HZ4 : Hid (w.heap.size + 1 ≤ w4.heap.size) := Lib.hid HX4.out.lt; clear hrow hg hr hz hgl x0 x1 x2 x3 x4; obtain ⟨⟨x0, x1, x2, x3, x4⟩, -⟩ := five HX4.out))
        have HLF := Lib.hid (HLEAF.out ([wd] ++ nm ++ [(quoteS pt)]) _ _ _ (HRN.out trivial) (qtL_one pe) qtL_nil (by simp))
        have HJL := Lib.hid (HL1.out HLF.out)
        have hr := HR4.out
        have hln : ([wd] ++ nm ++ [(quoteS pt)]).length = q4 := (hr.cap').symm
        have hJ := Tryz.strings_Join g4 0 c4 ([wd] ++ nm ++ [(quoteS pt)]) ⟨#[32]⟩ w4 (fun j x hx => by
          obtain ⟨hj, rfl⟩ := List.getElem?_eq_some_iff.1 hx
          rw [Nat.zero_add]; exact hr.cell hj) (hr.lt rfl).2 (by have := HJL.out.2; omega) (by have := hr.cap; omega) (Nat.le_trans HJL.out.1 (by omega))
        rw [hln] at hJ
        obtain ⟨J, hJJ⟩ : ∃ J, J = joinC 32 ([wd] ++ nm ++ [(quoteS pt)]) := ⟨_, rfl⟩
        have HJJ := Lib.hid hJJ
        have HJ : Hid (Calls Tryz.prog 30 #[.slice (some ⟨g4, 0, none⟩) q4 c4, .string ⟨#[32]⟩] w4 fun e w' => e = .returned (.string J) ∧ Below w4.heap.size w4 w') := Lib.hid (by rw [hJJ]; exact hJ)
        clear hJ hln hr hJJ
        go_wp2_with fail
        refine HJ.out.mono ?_
        rintro e wz ⟨rfl, hb⟩
        have HBZ := Lib.hid (below_step HB4.out hb)
        clear hb x0 x1 x2 x3 x4
        go_wp2
        go_ret
        exact ⟨(by rw [HLF.out, ← HJJ.out]; first | done | rfl), HBZ.out⟩
      · skip
        go_enter Tryz.func9, Tryz.ntmps9
        go_wp2_with fail
        refine (HI.out _ HB0.out).mono ?_
        rintro e w1 ⟨rfl, hb1⟩
        have HB1 := Lib.hid (below_step HB0.out hb1)
        have HX1 := Lib.hid (HX0.out w1 hb1)
        have HZ1 : Hid (w.heap.size + 1 ≤ w1.heap.size) := Lib.hid (by have := hb1.size; simpa using this)
        obtain ⟨⟨x0, x1, x2, x3, x4⟩, -⟩ := five HX1.out
        have hlt1 : w.heap.size < w1.heap.size := HX1.out.lt
        have tc := HTT.out _ HB1.out
        clear hb1
        obtain ⟨q2, hq2⟩ : ∃ q, q = 1 + nm.length := ⟨_, rfl⟩
        have hqb2 : q2 ≤ 1048577 := by have := HNM.out; have := HMN.out; omega
        have hqi2 : 0 < q2 := by omega
        have HQ_2 := Lib.hid hq2
        clear hq2
        have hnl : nm.length ≤ 1048576 := by have := HNM.out; have := HMN.out; omega
        have hr := row_one (B := w.heap.size + 1) (heap_alloc_new w1 (.cells #[.string wd] 9)) HZ1.out
        have hbx := TyBox.below HX1.out (below_al (Below.refl _ _) (.cells #[.string wd] 9))
        have HBN := Lib.hid (below_al HB1.out (.cells #[.string wd] 9))
        have hgl : w.heap.size + 1 ≤ w1.heap.size := (hr.lt rfl).1
        have hz : w.heap.size + 1 ≤ (w1.alloc (.cells #[.string wd] 9)).heap.size := hbx.lt
        go_wp2_with (first | fail | (at_builtin; refine wpList_row_appends rfl _ _ rfl (w.heap.size + 1) w1.heap.size 1 1 _ rfl hr _ nm rfl (HN.out _ HBN.out) HNK.out (by omega) (by omega) hz q2 HQ_2.out ?_; intro g2 c2 w2 hrow hg; have HB2 := Lib.hid (HBN.out.grown hg HBN.out.size (fun j e => by cases e; omega)); have HX2 := Lib.hid (TyBox.grown hbx hg (by omega)); have HR2 := Lib.hid hrow; have HZ2 : Hid (w.heap.size + 1 ≤ w2.heap.size) := Lib.hid HX2.out.lt; clear hrow hg hr hz hgl hbx HBN x0 x1 x2 x3 x4 tc; obtain ⟨⟨x0, x1, x2, x3, x4⟩, -⟩ := five HX2.out))
        go_wp2_with fail
        refine (HQ1.out _).mono ?_
        rintro e w3 ⟨rfl, hb⟩
        have HB3 := Lib.hid (below_step HB2.out hb)
        have HX3 := Lib.hid (HX2.out.below hb)
        have HR3 := Lib.hid (HR2.out.below hb)
        have HZ3 : Hid (w.heap.size + 1 ≤ w3.heap.size) := Lib.hid HX3.out.lt
        clear hb x0 x1 x2 x3 x4
        obtain ⟨⟨x0, x1, x2, x3, x4⟩, -⟩ := five HX3.out
        obtain ⟨q4, hq4⟩ : ∃ q, q = q2 + 1 := ⟨_, rfl⟩
        have hqb4 : q4 ≤ 1048578 := by omega
        have hqi4 : 0 < q4 := by omega
        have HQ_4 := Lib.hid hq4
        clear hq4
        have hr := HR3.out
        have hz := HZ3.out
        have hgl : w.heap.size + 1 ≤ g2 := (hr.lt rfl).1
        go_wp2_with (first | fail | (at_builtin; refine wpList_row_append rfl _ _ rfl (w.heap.size + 1) g2 q2 c2 _ rfl hr _ rfl (by omega) hz q4 HQ_4.out ?_; intro g4 c4 w4 hrow hg; have HB4 := Lib.hid ((below_al HB3.out (.cells #[.string (quoteS pt)] 9)).grown hg (below_al HB3.out (.cells #[.string (quoteS pt)] 9)).size (fun j e => by cases e; omega)); have HX4 := Lib.hid (TyBox.grown (TyBox.below HX3.out (below_al (Below.refl _ _) (.cells #[.string (quoteS pt)] 9))) hg (by omega)); have HR4 := Lib.hid hrow; have HZ4 : Hid (w.heap.size + 1 ≤ w4.heap.size) := Lib.hid HX4.out.lt; clear hrow hg hr hz hgl x0 x1 x2 x3 x4; obtain ⟨⟨x0, x1, x2, x3, x4⟩, -⟩ := five HX4.out))
        go_wp2_with fail
        refine (HQ2.out _).mono ?_
        rintro e w5 ⟨rfl, hb⟩
        have HB5 := Lib.hid (below_step HB4.out hb)
        have HX5 := Lib.hid (HX4.out.below hb)
        have HR5 := Lib.hid (HR4.out.below hb)
        have HZ5 : Hid (w.heap.size + 1 ≤ w5.heap.size) := Lib.hid HX5.out.lt
        clear hb x0 x1 x2 x3 x4
        obtain ⟨⟨x0, x1, x2, x3, x4⟩, -⟩ := five HX5.out
        obtain ⟨q6, hq6⟩ : ∃ q, q = q4 + 1 := ⟨_, rfl⟩
        have hqb6 : q6 ≤ 1048579 := by omega
        have hqi6 : 0 < q6 := by omega
        have HQ_6 := Lib.hid hq6
        clear hq6
        have hr := HR5.out
        have hz := HZ5.out
        have hgl : w.heap.size + 1 ≤ g4 := (hr.lt rfl).1
        go_wp2_with (first | fail | (at_builtin; refine wpList_row_append rfl _ _ rfl (w.heap.size + 1) g4 q4 c4 _ rfl hr _ rfl (by omega) hz q6 HQ_6.out ?_; intro g6 c6 w6 hrow hg; have HB6 := Lib.hid ((below_al HB5.out (.cells #[.string (quoteS ph)] 9)).grown hg (below_al HB5.out (.cells #[.string (quoteS ph)] 9)).size (fun j e => by cases e; omega)); have HX6 := Lib.hid (TyBox.grown (TyBox.below HX5.out (below_al (Below.refl _ _) (.cells #[.string (quoteS ph)] 9))) hg (by omega)); have HR6 := Lib.hid hrow; have HZ6 : Hid (w.heap.size + 1 ≤ w6.heap.size) := Lib.hid HX6.out.lt; clear hrow hg hr hz hgl x0 x1 x2 x3 x4; obtain ⟨⟨x0, x1, x2, x3, x4⟩, -⟩ := five HX6.out))
        have HLF := Lib.hid (HLEAF.out ([wd] ++ nm ++ [(quoteS pt)] ++ [(quoteS ph)]) _ _ _ (HRN.out trivial) (qtL_one pe) (qtL_one qe) (by simp))
        have HJL := Lib.hid (HL1.out HLF.out)
        have hr := HR6.out
        have hln : ([wd] ++ nm ++ [(quoteS pt)] ++ [(quoteS ph)]).length = q6 := (hr.cap').symm
        have hJ := Tryz.strings_Join g6 0 c6 ([wd] ++ nm ++ [(quoteS pt)] ++ [(quoteS ph)]) ⟨#[32]⟩ w6 (fun j x hx => by
          obtain ⟨hj, rfl⟩ := List.getElem?_eq_some_iff.1 hx
          rw [Nat.zero_add]; exact hr.cell hj) (hr.lt rfl).2 (by have := HJL.out.2; omega) (by have := hr.cap; omega) (Nat.le_trans HJL.out.1 (by omega))
        rw [hln] at hJ
        obtain ⟨J, hJJ⟩ : ∃ J, J = joinC 32 ([wd] ++ nm ++ [(quoteS pt)] ++ [(quoteS ph)]) := ⟨_, rfl⟩
        have HJJ := Lib.hid hJJ
        have HJ : Hid (Calls Tryz.prog 30 #[.slice (some ⟨g6, 0, none⟩) q6 c6, .string ⟨#[32]⟩] w6 fun e w' => e = .returned (.string J) ∧ Below w6.heap.size w6 w') := Lib.hid (by rw [hJJ]; exact hJ)
        clear hJ hln hr hJJ
        go_wp2_with fail
        refine HJ.out.mono ?_
        rintro e wz ⟨rfl, hb⟩
        have HBZ := Lib.hid (below_step HB6.out hb)
        clear hb x0 x1 x2 x3 x4
        go_wp2
        go_ret
        exact ⟨(by rw [HLF.out, ← HJJ.out]; first | done | rfl), HBZ.out⟩
  · have hnd : decide ((0 : Int) < (n : Int)) = true := by simp; omega
    have hnp : (0 : Int) < (n : Int) := by omega
    rcases em_cases pt with hp | ⟨pa, pb, pc, pe⟩
    · subst hp
      rcases em_cases ph with hq | ⟨qa, qb, qc, qe⟩
      · subst hq
        go_enter Tryz.func9, Tryz.ntmps9
        go_wp2_with fail
        refine (HI.out _ HB0.out).mono ?_
        rintro e w1 ⟨rfl, hb1⟩
        have HB1 := Lib.hid (below_step HB0.out hb1)
        have HX1 := Lib.hid (HX0.out w1 hb1)
        have HZ1 : Hid (w.heap.size + 1 ≤ w1.heap.size) := Lib.hid (by have := hb1.size; simpa using this)
        obtain ⟨⟨x0, x1, x2, x3, x4⟩, -⟩ := five HX1.out
        have hlt1 : w.heap.size < w1.heap.size := HX1.out.lt
        have tc := HTT.out _ HB1.out
        clear hb1
        go_wp2_with fail
        refine (HR.out _ (below_al HB1.out (.cells #[.string wd] 9))).mono ?_
        rintro e w2 ⟨rfl, hb⟩
        have HB2 := Lib.hid (below_step (below_al HB1.out (.cells #[.string wd] 9)) hb)
        have HX2 := Lib.hid (TyBox.below (TyBox.below HX1.out (below_al (Below.refl _ _) (.cells #[.string wd] 9))) hb)
        have HR2 := Lib.hid (Row.below (row_one (B := w.heap.size + 1) (heap_alloc_new w1 (.cells #[.string wd] 9)) HZ1.out) hb)
        have HZ2 : Hid (w.heap.size + 1 ≤ w2.heap.size) := Lib.hid HX2.out.lt
        clear hb x0 x1 x2 x3 x4 tc
        obtain ⟨⟨x0, x1, x2, x3, x4⟩, -⟩ := five HX2.out
        obtain ⟨q3, hq3⟩ : ∃ q, q = 1 + 1 := ⟨_, rfl⟩
        have hqb3 : q3 ≤ 2 := by omega
        have hqi3 : 0 < q3 := by omega
        have HQ_3 := Lib.hid hq3
        clear hq3
        have hr := HR2.out
        have hz := HZ2.out
        have hgl : w.heap.size + 1 ≤ w1.heap.size := (hr.lt rfl).1
        go_wp2_with (first | fail | (at_builtin; refine wpList_row_append rfl _ _ rfl (w.heap.size + 1) w1.heap.size 1 1 _ rfl hr _ rfl (by omega) hz q3 HQ_3.out ?_; intro g3 c3 w3 hrow hg; have HB3 := Lib.hid ((below_al HB2.out (.cells #[.string F] 9)).grown hg (below_al HB2.out (.cells #[.string F] 9)).size (fun j e => by cases e; omega)); have HX3 := Lib.hid (TyBox.grown (TyBox.below HX2.out (below_al (Below.refl _ _) (.cells #[.string F] 9))) hg (by omega)); have HR3 := Lib.hid hrow; have HZ3 : Hid (w.heap.size + 1 ≤ w3.heap.size) := Lib.hid HX3.out.lt; clear hrow hg hr hz hgl x0 x1 x2 x3 x4; obtain ⟨⟨x0, x1, x2, x3, x4⟩, -⟩ := five HX3.out; obtain ⟨q4, hq4⟩ : ∃ q, q = q3 + nm.length := ⟨_, rfl⟩; have hqb4 : q4 ≤ 1048578 := (by have := HNM.out; have := HMN.out; omega); have hqi4 : 0 < q4 := (by omega); have HQ_4 := Lib.hid hq4; clear hq4; have hnl : nm.length ≤ 1048576 := (by have := HNM.out; have := HMN.out; omega); have hr := HR3.out; have hbx := HX3.out; have HBN := Lib.hid HB3.out; have hgl : w.heap.size + 1 ≤ g3 := (hr.lt rfl).1; have hz : w.heap.size + 1 ≤ w3.heap.size := hbx.lt) | (at_builtin; refine wpList_row_appends rfl _ _ rfl (w.heap.size + 1) g3 q3 c3 _ rfl hr _ nm rfl (HN.out _ HBN.out) HNK.out (by omega) (by omega) hz q4 HQ_4.out ?_; intro g4 c4 w4 hrow hg; have HB4 := Lib.hid (HBN.out.grown hg HBN.out.size (fun j e => by cases e; omega)); have HX4 := Lib.hid (TyBox.grown hbx hg (by omega)); have HR4 := Lib.hid hrow; have HZ4 : Hid (w.heap.size + 1 ≤ w4.heap.size) := Lib.hid HX4.out.lt; clear hrow hg hr hz hgl hbx HBN x0 x1 x2 x3 x4; obtain ⟨⟨x0, x1, x2, x3, x4⟩, -⟩ := five HX4.out))
        have HLF := Lib.hid (HLEAF.out ([wd] ++ [F] ++ nm) _ _ _ (HRO.out hn0) qtL_nil qtL_nil (by simp))
        have HJL := Lib.hid (HL1.out HLF.out)
        have hr := HR4.out
        have hln : ([wd] ++ [F] ++ nm).length = q4 := (hr.cap').symm
        have hJ := Tryz.strings_Join g4 0 c4 ([wd] ++ [F] ++ nm) ⟨#[32]⟩ w4 (fun j x hx => by
          obtain ⟨hj, rfl⟩ := List.getElem?_eq_some_iff.1 hx
          rw [Nat.zero_add]; exact hr.cell hj) (hr.lt rfl).2 (by have := HJL.out.2; omega) (by have := hr.cap; omega) (Nat.le_trans HJL.out.1 (by omega))
        rw [hln] at hJ
        obtain ⟨J, hJJ⟩ : ∃ J, J = joinC 32 ([wd] ++ [F] ++ nm) := ⟨_, rfl⟩
        have HJJ := Lib.hid hJJ
        have HJ : Hid (Calls Tryz.prog 30 #[.slice (some ⟨g4, 0, none⟩) q4 c4, .string ⟨#[32]⟩] w4 fun e w' => e = .returned (.string J) ∧ Below w4.heap.size w4 w') := Lib.hid (by rw [hJJ]; exact hJ)
        clear hJ hln hr hJJ
        go_wp2_with fail
        refine HJ.out.mono ?_
        rintro e wz ⟨rfl, hb⟩
        have HBZ := Lib.hid (below_step HB4.out hb)
        clear hb x0 x1 x2 x3 x4
        go_wp2
        go_ret
        exact ⟨(by rw [HLF.out, ← HJJ.out]; first | done | rfl), HBZ.out⟩
      · skip
        go_enter Tryz.func9, Tryz.ntmps9
        go_wp2_with fail
        refine (HI.out _ HB0.out).mono ?_
        rintro e w1 ⟨rfl, hb1⟩
        have HB1 := Lib.hid (below_step HB0.out hb1)
        have HX1 := Lib.hid (HX0.out w1 hb1)
        have HZ1 : Hid (w.heap.size + 1 ≤ w1.heap.size) := Lib.hid (by have := hb1.size; simpa using this)
        obtain ⟨⟨x0, x1, x2, x3, x4⟩, -⟩ := five HX1.out
        have hlt1 : w.heap.size < w1.heap.size := HX1.out.lt
        have tc := HTT.out _ HB1.out
        clear hb1
        go_wp2_with fail
        refine (HR.out _ (below_al HB1.out (.cells #[.string wd] 9))).mono ?_
        rintro e w2 ⟨rfl, hb⟩
        have HB2 := Lib.hid (below_step (below_al HB1.out (.cells #[.string wd] 9)) hb)
        have HX2 := Lib.hid (TyBox.below (TyBox.below HX1.out (below_al (Below.refl _ _) (.cells #[.string wd] 9))) hb)
        have HR2 := Lib.hid (Row.below (row_one (B := w.heap.size + 1) (heap_alloc_new w1 (.cells #[.string wd] 9)) HZ1.out) hb)
        have HZ2 : Hid (w.heap.size + 1 ≤ w2.heap.size) := Lib.hid HX2.out.lt
        clear hb x0 x1 x2 x3 x4 tc
        obtain ⟨⟨x0, x1, x2, x3, x4⟩, -⟩ := five HX2.out
        obtain ⟨q3, hq3⟩ : ∃ q, q = 1 + 1 := ⟨_, rfl⟩
        have hqb3 : q3 ≤ 2 := by omega
        have hqi3 : 0 < q3 := by omega
        have HQ_3 := Lib.hid hq3
        clear hq3
        have hr := HR2.out
        have hz := HZ2.out
        have hgl : w.heap.size + 1 ≤ w1.heap.size := (hr.lt rfl).1
        go_wp2_with (first | fail | (at_builtin; refine wpList_row_append rfl _ _ rfl (w.heap.size + 1) w1.heap.size 1 1 _ rfl hr _ rfl (by omega) hz q3 HQ_3.out ?_; intro g3 c3 w3 hrow hg; have HB3 := Lib.hid ((below_al HB2.out (.cells #[.string F] 9)).grown hg (below_al HB2.out (.cells #[.string F] 9)).size (fun j e => by cases e; omega)); have HX3 := Lib.hid (TyBox.grown (TyBox.below HX2.out (below_al (Below.refl _ _) (.cells #[.string F] 9))) hg (by omega)); have HR3 := Lib.hid hrow; have HZ3 : Hid (w.heap.size + 1 ≤ w3.heap.size) := Lib.hid HX3.out.lt; clear hrow hg hr hz hgl x0 x1 x2 x3 x4; obtain ⟨⟨x0, x1, x2, x3, x4⟩, -⟩ := five HX3.out; obtain ⟨q4, hq4⟩ : ∃ q, q = q3 + nm.length := ⟨_, rfl⟩; have hqb4 : q4 ≤ 1048578 := (by have := HNM.out; have := HMN.out; omega); have hqi4 : 0 < q4 := (by omega); have HQ_4 := Lib.hid hq4; clear hq4; have hnl : nm.length ≤ 1048576 := (by have := HNM.out; have := HMN.out; omega); have hr := HR3.out; have hbx := HX3.out; have HBN := Lib.hid HB3.out; have hgl : w.heap.size + 1 ≤ g3 := (hr.lt rfl).1; have hz : w.heap.size + 1 ≤ w3.heap.size := hbx.lt) | (at_builtin; refine wpList_row_appends rfl _ _ rfl (w.heap.size + 1) g3 q3 c3 _ rfl hr _ nm rfl (HN.out _ HBN.out) HNK.out (by omega) (by omega) hz q4 HQ_4.out ?_; intro g4 c4 w4 hrow hg; have HB4 := Lib.hid (HBN.out.grown hg HBN.out.size (fun j e => by cases e; omega)); have HX4 := Lib.hid (TyBox.grown hbx hg (by omega)); have HR4 := Lib.hid hrow; have HZ4 : Hid (w.heap.size + 1 ≤ w4.heap.size) := Lib.hid HX4.out.lt; clear hrow hg hr hz hgl hbx HBN x0 x1 x2 x3 x4; obtain ⟨⟨x0, x1, x2, x3, x4⟩, -⟩ := five HX4.out))
        go_wp2_with fail
        refine (HQ2.out _).mono ?_
        rintro e w5 ⟨rfl, hb⟩
        have HB5 := Lib.hid (below_step HB4.out hb)
        have HX5 := Lib.hid (HX4.out.below hb)
        have HR5 := Lib.hid (HR4.out.below hb)
        have HZ5 : Hid (w.heap.size + 1 ≤ w5.heap.size) := Lib.hid HX5.out.lt
        clear hb x0 x1 x2 x3 x4
        obtain ⟨⟨x0, x1, x2, x3, x4⟩, -⟩ := five HX5.out
        obtain ⟨q6, hq6⟩ : ∃ q, q = q4 + 1 := ⟨_, rfl⟩
        have hqb6 : q6 ≤ 1048579 := by omega
        have hqi6 : 0 < q6 := by omega
        have HQ_6 := Lib.hid hq6
        clear hq6
        have hr := HR5.out
        have hz := HZ5.out
        have hgl : w.heap.size + 1 ≤ g4 := (hr.lt rfl).1
        go_wp2_with (first | fail | (at_builtin; refine wpList_row_append rfl _ _ rfl (w.heap.size + 1) g4 q4 c4 _ rfl hr _ rfl (by omega) hz q6 HQ_6.out ?_; intro g6 c6 w6 hrow hg; have HB6 := Lib.hid ((below_al HB5.out (.cells #[.string (quoteS ph)] 9)).grown hg (below_al HB5.out (.cells #[.string (quoteS ph)] 9)).size (fun j e => by cases e; omega)); have HX6 := Lib.hid (TyBox.grown (TyBox.below HX5.out (below_al (Below.refl _ _) (.cells #[.string (quoteS ph)] 9))) hg (by omega)); have HR6 := Lib.hid hrow; have HZ6 : Hid (w.heap.size + 1 ≤ w6.heap.size) := Lib.hid HX6.out.lt; clear hrow hg hr hz hgl x0 x1 x2 x3 x4; obtain ⟨⟨x0, x1, x2, x3, x4⟩, -⟩ := five HX6.out))
        have HLF := Lib.hid (HLEAF.out ([wd] ++ [F] ++ nm ++ [(quoteS ph)]) _ _ _ (HRO.out hn0) qtL_nil (qtL_one qe) (by simp))
        have HJL := Lib.hid (HL1.out HLF.out)
        have hr := HR6.out
        have hln : ([wd] ++ [F] ++ nm ++ [(quoteS ph)]).length = q6 := (hr.cap').symm
        have hJ := Tryz.strings_Join g6 0 c6 ([wd] ++ [F] ++ nm ++ [(quoteS ph)]) ⟨#[32]⟩ w6 (fun j x hx => by
          obtain ⟨hj, rfl⟩ := List.getElem?_eq_some_iff.1 hx
          rw [Nat.zero_add]; exact hr.cell hj) (hr.lt rfl).2 (by have := HJL.out.2; omega) (by have := hr.cap; omega) (Nat.le_trans HJL.out.1 (by omega))
        rw [hln] at hJ
        obtain ⟨J, hJJ⟩ : ∃ J, J = joinC 32 ([wd] ++ [F] ++ nm ++ [(quoteS ph)]) := ⟨_, rfl⟩
        have HJJ := Lib.hid hJJ
        have HJ : Hid (Calls Tryz.prog 30 #[.slice (some ⟨g6, 0, none⟩) q6 c6, .string ⟨#[32]⟩] w6 fun e w' => e = .returned (.string J) ∧ Below w6.heap.size w6 w') := Lib.hid (by rw [hJJ]; exact hJ)
        clear hJ hln hr hJJ
        go_wp2_with fail
        refine HJ.out.mono ?_
        rintro e wz ⟨rfl, hb⟩
        have HBZ := Lib.hid (below_step HB6.out hb)
        clear hb x0 x1 x2 x3 x4
        go_wp2
        go_ret
        exact ⟨(by rw [HLF.out, ← HJJ.out]; first | done | rfl), HBZ.out⟩
    · skip
      rcases em_cases ph with hq | ⟨qa, qb, qc, qe⟩
      · subst hq
        go_enter Tryz.func9, Tryz.ntmps9
        go_wp2_with fail
        refine (HI.out _ HB0.out).mono ?_
        rintro e w1 ⟨rfl, hb1⟩
        have HB1 := Lib.hid (below_step HB0.out hb1)
        have HX1 := Lib.hid (HX0.out w1 hb1)
        have HZ1 : Hid (w.heap.size + 1 ≤ w1.heap.size) := Lib.hid (by have := hb1.size; simpa using this)
        obtain ⟨⟨x0, x1, x2, x3, x4⟩, -⟩ := five HX1.out
        have hlt1 : w.heap.size < w1.heap.size := HX1.out.lt
        have tc := HTT.out _ HB1.out
        clear hb1
        go_wp2_with fail
        refine (HR.out _ (below_al HB1.out (.cells #[.string wd] 9))).mono ?_
        rintro e w2 ⟨rfl, hb⟩
        have HB2 := Lib.hid (below_step (below_al HB1.out (.cells #[.string wd] 9)) hb)
        have HX2 := Lib.hid (TyBox.below (TyBox.below HX1.out (below_al (Below.refl _ _) (.cells #[.string wd] 9))) hb)
        have HR2 := Lib.hid (Row.below (row_one (B := w.heap.size + 1) (heap_alloc_new w1 (.cells #[.string wd] 9)) HZ1.out) hb)
        have HZ2 : Hid (w.heap.size + 1 ≤ w2.heap.size) := Lib.hid HX2.out.lt
        clear hb x0 x1 x2 x3 x4 tc
        obtain ⟨⟨x0, x1, x2, x3, x4⟩, -⟩ := five HX2.out
        obtain ⟨q3, hq3⟩ : ∃ q, q = 1 + 1 := ⟨_, rfl⟩
        have hqb3 : q3 ≤ 2 := by omega
        have hqi3 : 0 < q3 := by omega
        have HQ_3 := Lib.hid hq3
        clear hq3
        have hr := HR2.out
        have hz := HZ2.out
        have hgl : w.heap.size + 1 ≤ w1.heap.size := (hr.lt rfl).1
        go_wp2_with (first | fail | (at_builtin; refine wpList_row_append rfl _ _ rfl (w.heap.size + 1) w1.heap.size 1 1 _ rfl hr _ rfl (by omega) hz q3 HQ_3.out ?_; intro g3 c3 w3 hrow hg; have HB3 := Lib.hid ((below_al HB2.out (.cells #[.string F] 9)).grown hg (below_al HB2.out (.cells #[.string F] 9)).size (fun j e => by cases e; omega)); have HX3 := Lib.hid (TyBox.grown (TyBox.below HX2.out (below_al (Below.refl _ _) (.cells #[.string F] 9))) hg (by omega)); have HR3 := Lib.hid hrow; have HZ3 : Hid (w.heap.size + 1 ≤ w3.heap.size) := Lib.hid HX3.out.lt; clear hrow hg hr hz hgl x0 x1 x2 x3 x4; obtain ⟨⟨x0, x1, x2, x3, x4⟩, -⟩ := five HX3.out; obtain ⟨q4, hq4⟩ : ∃ q, q = q3 + nm.length := ⟨_, rfl⟩; have hqb4 : q4 ≤ 1048578 := (by have := HNM.out; have := HMN.out; omega); have hqi4 : 0 < q4 := (by omega); have HQ_4 := Lib.hid hq4; clear hq4; have hnl : nm.length ≤ 1048576 := (by have := HNM.out; have := HMN.out; omega); have hr := HR3.out; have hbx := HX3.out; have HBN := Lib.hid HB3.out; have hgl : w.heap.size + 1 ≤ g3 := (hr.lt rfl).1; have hz : w.heap.size + 1 ≤ w3.heap.size := hbx.lt) | (at_builtin; refine wpList_row_appends rfl _ _ rfl (w.heap.size + 1) g3 q3 c3 _ rfl hr _ nm rfl (HN.out _ HBN.out) HNK.out (by omega) (by omega) hz q4 HQ_4.out ?_; intro g4 c4 w4 hrow hg; have HB4 := Lib.hid (HBN.out.grown hg HBN.out.size (fun j e => by cases e; omega)); have HX4 := Lib.hid (TyBox.grown hbx hg (by omega)); have HR4 := Lib.hid hrow; have HZ4 : Hid (w.heap.size + 1 ≤ w4.heap.size) := Lib.hid HX4.out.lt; clear hrow hg hr hz hgl hbx HBN x0 x1 x2 x3 x4; obtain ⟨⟨x0, x1, x2, x3, x4⟩, -⟩ := five HX4.out))
        go_wp2_with fail
        refine (HQ1.out _).mono ?_
        rintro e w5 ⟨rfl, hb⟩
        have HB5 := Lib.hid (below_step HB4.out hb)
        have HX5 := Lib.hid (HX4.out.below hb)
        have HR5 := Lib.hid (HR4.out.below hb)
        have HZ5 : Hid (w.heap.size + 1 ≤ w5.heap.size) := Lib.hid HX5.out.lt
        clear hb x0 x1 x2 x3 x4
        obtain ⟨⟨x0, x1, x2, x3, x4⟩, -⟩ := five HX5.out
        obtain ⟨q6, hq6⟩ : ∃ q, q = q4 + 1 := ⟨_, rfl⟩
        have hqb6 : q6 ≤ 1048579 := by omega
        have hqi6 : 0 < q6 := by omega
        have HQ_6 := Lib.hid hq6
        clear hq6
        have hr := HR5.out
        have hz := HZ5.out
        have hgl : w.heap.size + 1 ≤ g4 := (hr.lt rfl).1
        go_wp2_with (first | fail | (at_builtin; refine wpList_row_append rfl _ _ rfl (w.heap.size + 1) g4 q4 c4 _ rfl hr _ rfl (by omega) hz q6 HQ_6.out ?_; intro g6 c6 w6 hrow hg; have HB6 := Lib.hid ((below_al HB5.out (.cells #[.string (quoteS pt)] 9)).grown hg (below_al HB5.out (.cells #[.string (quoteS pt)] 9)).size (fun j e => by cases e; omega)); have HX6 := Lib.hid (TyBox.grown (TyBox.below HX5.out (below_al (Below.refl _ _) (.cells #[.string (quoteS pt)] 9))) hg (by omega)); have HR6 := Lib.hid hrow; have HZ6 : Hid (w.heap.size + 1 ≤ w6.heap.size) := Lib.hid HX6.out.lt; clear hrow hg hr hz hgl x0 x1 x2 x3 x4; obtain ⟨⟨x0, x1, x2, x3, x4⟩, -⟩ := five HX6.out))
        have HLF := Lib.hid (HLEAF.out ([wd] ++ [F] ++ nm ++ [(quoteS pt)]) _ _ _ (HRO.out hn0) (qtL_one pe) qtL_nil (by simp))
        have HJL := Lib.hid (HL1.out HLF.out)
        have hr := HR6.out
        have hln : ([wd] ++ [F] ++ nm ++ [(quoteS pt)]).length = q6 := (hr.cap').symm
        have hJ := Tryz.strings_Join g6 0 c6 ([wd] ++ [F] ++ nm ++ [(quoteS pt)]) ⟨#[32]⟩ w6 (fun j x hx => by
          obtain ⟨hj, rfl⟩ := List.getElem?_eq_some_iff.1 hx
          rw [Nat.zero_add]; exact hr.cell hj) (hr.lt rfl).2 (by have := HJL.out.2; omega) (by have := hr.cap; omega) (Nat.le_trans HJL.out.1 (by omega))
        rw [hln] at hJ
        obtain ⟨J, hJJ⟩ : ∃ J, J = joinC 32 ([wd] ++ [F] ++ nm ++ [(quoteS pt)]) := ⟨_, rfl⟩
        have HJJ := Lib.hid hJJ
        have HJ : Hid (Calls Tryz.prog 30 #[.slice (some ⟨g6, 0, none⟩) q6 c6, .string ⟨#[32]⟩] w6 fun e w' => e = .returned (.string J) ∧ Below w6.heap.size w6 w') := Lib.hid (by rw [hJJ]; exact hJ)
        clear hJ hln hr hJJ
        go_wp2_with fail
        refine HJ.out.mono ?_
        rintro e wz ⟨rfl, hb⟩
        have HBZ := Lib.hid (below_step HB6.out hb)
        clear hb x0 x1 x2 x3 x4
        go_wp2
        go_ret
        exact ⟨(by rw [HLF.out, ← HJJ.out]; first | done | rfl), HBZ.out⟩
      · skip
        go_enter Tryz.func9, Tryz.ntmps9
        go_wp2_with fail
        refine (HI.out _ HB0.out).mono ?_
        rintro e w1 ⟨rfl, hb1⟩
        have HB1 := Lib.hid (below_step HB0.out hb1)
        have HX1 := Lib.hid (HX0.out w1 hb1)
        have HZ1 : Hid (w.heap.size + 1 ≤ w1.heap.size) := Lib.hid (by have := hb1.size; simpa using this)
        obtain ⟨⟨x0, x1, x2, x3, x4⟩, -⟩ := five HX1.out
        have hlt1 : w.heap.size < w1.heap.size := HX1.out.lt
        have tc := HTT.out _ HB1.out
        clear hb1
        go_wp2_with fail
        refine (HR.out _ (below_al HB1.out (.cells #[.string wd] 9))).mono ?_
        rintro e w2 ⟨rfl, hb⟩
        have HB2 := Lib.hid (below_step (below_al HB1.out (.cells #[.string wd] 9)) hb)
        have HX2 := Lib.hid (TyBox.below (TyBox.below HX1.out (below_al (Below.refl _ _) (.cells #[.string wd] 9))) hb)
        have HR2 := Lib.hid (Row.below (row_one (B := w.heap.size + 1) (heap_alloc_new w1 (.cells #[.string wd] 9)) HZ1.out) hb)
        have HZ2 : Hid (w.heap.size + 1 ≤ w2.heap.size) := Lib.hid HX2.out.lt
        clear hb x0 x1 x2 x3 x4 tc
        obtain ⟨⟨x0, x1, x2, x3, x4⟩, -⟩ := five HX2.out
        obtain ⟨q3, hq3⟩ : ∃ q, q = 1 + 1 := ⟨_, rfl⟩
        have hqb3 : q3 ≤ 2 := by omega
        have hqi3 : 0 < q3 := by omega
        have HQ_3 := Lib.hid hq3
        clear hq3
        have hr := HR2.out
        have hz := HZ2.out
        have hgl : w.heap.size + 1 ≤ w1.heap.size := (hr.lt rfl).1
        go_wp2_with (first | fail | (at_builtin; refine wpList_row_append rfl _ _ rfl (w.heap.size + 1) w1.heap.size 1 1 _ rfl hr _ rfl (by omega) hz q3 HQ_3.out ?_; intro g3 c3 w3 hrow hg; have HB3 := Lib.hid ((below_al HB2.out (.cells #[.string F] 9)).grown hg (below_al HB2.out (.cells #[.string F] 9)).size (fun j e => by cases e; omega)); have HX3 := Lib.hid (TyBox.grown (TyBox.below HX2.out (below_al (Below.refl _ _) (.cells #[.string F] 9))) hg (by omega)); have HR3 := Lib.hid hrow; have HZ3 : Hid (w.heap.size + 1 ≤ w3.heap.size) := Lib.hid HX3.out.lt; clear hrow hg hr hz hgl x0 x1 x2 x3 x4; obtain ⟨⟨x0, x1, x2, x3, x4⟩, -⟩ := five HX3.out; obtain ⟨q4, hq4⟩ : ∃ q, q = q3 + nm.length := ⟨_, rfl⟩; have hqb4 : q4 ≤ 1048578 := (by have := HNM.out; have := HMN.out; omega); have hqi4 : 0 < q4 := (by omega); have HQ_4 := Lib.hid hq4; clear hq4; have hnl : nm.length ≤ 1048576 := (by have := HNM.out; have := HMN.out; omega); have hr := HR3.out; have hbx := HX3.out; have HBN := Lib.hid HB3.out; have hgl : w.heap.size + 1 ≤ g3 := (hr.lt rfl).1; have hz : w.heap.size + 1 ≤ w3.heap.size := hbx.lt) | (at_builtin; refine wpList_row_appends rfl _ _ rfl (w.heap.size + 1) g3 q3 c3 _ rfl hr _ nm rfl (HN.out _ HBN.out) HNK.out (by omega) (by omega) hz q4 HQ_4.out ?_; intro g4 c4 w4 hrow hg; have HB4 := Lib.hid (HBN.out.grown hg HBN.out.size (fun j e => by cases e; omega)); have HX4 := Lib.hid (TyBox.grown hbx hg (by omega)); have HR4 := Lib.hid hrow; have HZ4 : Hid (w.heap.size + 1 ≤ w4.heap.size) := Lib.hid HX4.out.lt; clear hrow hg hr hz hgl hbx HBN x0 x1 x2 x3 x4; obtain ⟨⟨x0, x1, x2, x3, x4⟩, -⟩ := five HX4.out))
        go_wp2_with fail
        refine (HQ1.out _).mono ?_
        rintro e w5 ⟨rfl, hb⟩
        have HB5 := Lib.hid (below_step HB4.out hb)
        have HX5 := Lib.hid (HX4.out.below hb)
        have HR5 := Lib.hid (HR4.out.below hb)
        have HZ5 : Hid (w.heap.size + 1 ≤ w5.heap.size) := Lib.hid HX5.out.lt
        clear hb x0 x1 x2 x3 x4
        obtain ⟨⟨x0, x1, x2, x3, x4⟩, -⟩ := five HX5.out
        obtain ⟨q6, hq6⟩ : ∃ q, q = q4 + 1 := ⟨_, rfl⟩
        have hqb6 : q6 ≤ 1048579 := by omega
        have hqi6 : 0 < q6 := by omega
        have HQ_6 := Lib.hid hq6
        clear hq6
        have hr := HR5.out
        have hz := HZ5.out
        have hgl : w.heap.size + 1 ≤ g4 := (hr.lt rfl).1
        go_wp2_with (first | fail | (at_builtin; refine wpList_row_append rfl _ _ rfl (w.heap.size + 1) g4 q4 c4 _ rfl hr _ rfl (by omega) hz q6 HQ_6.out ?_; intro g6 c6 w6 hrow hg; have HB6 := Lib.hid ((below_al HB5.out (.cells #[.string (quoteS pt)] 9)).grown hg (below_al HB5.out (.cells #[.string (quoteS pt)] 9)).size (fun j e => by cases e; omega)); have HX6 := Lib.hid (TyBox.grown (TyBox.below HX5.out (below_al (Below.refl _ _) (.cells #[.string (quoteS pt)] 9))) hg (by omega)); have HR6 := Lib.hid hrow; have HZ6 : Hid (w.heap.size + 1 ≤ w6.heap.size) := Lib.hid HX6.out.lt; clear hrow hg hr hz hgl x0 x1 x2 x3 x4; obtain ⟨⟨x0, x1, x2, x3, x4⟩, -⟩ := five HX6.out))
        go_wp2_with fail
        refine (HQ2.out _).mono ?_
        rintro e w7 ⟨rfl, hb⟩
        have HB7 := Lib.hid (below_step HB6.out hb)
        have HX7 := Lib.hid (HX6.out.below hb)
        have HR7 := Lib.hid (HR6.out.below hb)
        have HZ7 : Hid (w.heap.size + 1 ≤ w7.heap.size) := Lib.hid HX7.out.lt
        clear hb x0 x1 x2 x3 x4
        obtain ⟨⟨x0, x1, x2, x3, x4⟩, -⟩ := five HX7.out
        obtain ⟨q8, hq8⟩ : ∃ q, q = q6 + 1 := ⟨_, rfl⟩
        have hqb8 : q8 ≤ 1048580 := by omega
        have hqi8 : 0 < q8 := by omega
        have HQ_8 := Lib.hid hq8
        clear hq8
        have hr := HR7.out
        have hz := HZ7.out
        have hgl : w.heap.size + 1 ≤ g6 := (hr.lt rfl).1
        go_wp2_with (first | fail | (at_builtin; refine wpList_row_append rfl _ _ rfl (w.heap.size + 1) g6 q6 c6 _ rfl hr _ rfl (by omega) hz q8 HQ_8.out ?_; intro g8 c8 w8 hrow hg; have HB8 := Lib.hid ((below_al HB7.out (.cells #[.string (quoteS ph)] 9)).grown hg (below_al HB7.out (.cells #[.string (quoteS ph)] 9)).size (fun j e => by cases e; omega)); have HX8 := Lib.hid (TyBox.grown (TyBox.below HX7.out (below_al (Below.refl _ _) (.cells #[.string (quoteS ph)] 9))) hg (by omega)); have HR8 := Lib.hid hrow; have HZ8 : Hid (w.heap.size + 1 ≤ w8.heap.size) := Lib.hid HX8.out.lt; clear hrow hg hr hz hgl x0 x1 x2 x3 x4; obtain ⟨⟨x0, x1, x2, x3, x4⟩, -⟩ := five HX8.out))
        have HLF := Lib.hid (HLEAF.out ([wd] ++ [F] ++ nm ++ [(quoteS pt)] ++ [(quoteS ph)]) _ _ _ (HRO.out hn0) (qtL_one pe) (qtL_one qe) (by simp))
        have HJL := Lib.hid (HL1.out HLF.out)
        have hr := HR8.out
        have hln : ([wd] ++ [F] ++ nm ++ [(quoteS pt)] ++ [(quoteS ph)]).length = q8 := (hr.cap').symm
        have hJ := Tryz.strings_Join g8 0 c8 ([wd] ++ [F] ++ nm ++ [(quoteS pt)] ++ [(quoteS ph)]) ⟨#[32]⟩ w8 (fun j x hx => by
          obtain ⟨hj, rfl⟩ := List.getElem?_eq_some_iff.1 hx
          rw [Nat.zero_add]; exact hr.cell hj) (hr.lt rfl).2 (by have := HJL.out.2; omega) (by have := hr.cap; omega) (Nat.le_trans HJL.out.1 (by omega))
        rw [hln] at hJ
        obtain ⟨J, hJJ⟩ : ∃ J, J = joinC 32 ([wd] ++ [F] ++ nm ++ [(quoteS pt)] ++ [(quoteS ph)]) := ⟨_, rfl⟩
        have HJJ := Lib.hid hJJ
        have HJ : Hid (Calls Tryz.prog 30 #[.slice (some ⟨g8, 0, none⟩) q8 c8, .string ⟨#[32]⟩] w8 fun e w' => e = .returned (.string J) ∧ Below w8.heap.size w8 w') := Lib.hid (by rw [hJJ]; exact hJ)
        clear hJ hln hr hJJ
        go_wp2_with fail
        refine HJ.out.mono ?_
        rintro e wz ⟨rfl, hb⟩
        have HBZ := Lib.hid (below_step HB8.out hb)
        clear hb x0 x1 x2 x3 x4
        go_wp2
        go_ret
        exact ⟨(by rw [HLF.out, ← HJJ.out]; first | done | rfl), HBZ.out⟩

theorem tyP_pre {t : Ty} (h : TyFm t) (j : Nat) : (joinC 32 (tyP1 t ++ t.nm.take j)).size ≤ 140737488355328 :=
  tyP_take h (zs := t.nm.drop j ++ qtL t.pt ++ qtL t.ph) (by unfold tyP4 tyP3 tyP2; simp only [List.append_assoc]; rw [← List.append_assoc (t.nm.take j), List.take_append_drop])
theorem tyP_pre3 {t : Ty} (h : TyFm t) : (joinC 32 (tyP3 t)).size ≤ 140737488355328 := tyP_take h (zs := qtL t.ph) rfl
theorem joinC_single (c : UInt8) (y : ByteArray) : joinC c [y] = y := (joinC_one c y).trans (by apply ByteArray.ext; simp)
theorem next_nm {P1 nm : List ByteArray} {j : Nat} (hj : j < nm.length) (h : P1 ≠ []) : joinC 32 (P1 ++ nm.take j) ++ ⟨#[32]⟩ ++ nm[j] = joinC 32 (P1 ++ nm.take (j + 1)) := by
  rw [joinC_more (by intro e; exact h (List.append_eq_nil_iff.1 e).1), List.take_succ_eq_append_getElem hj, List.append_assoc]
set_option maxHeartbeats 8000000 in
theorem sFmtTy_any (v : TyV) (t : Ty) (w : World) (h : HasTy w v t) (hf : TyFm t) :
    Calls Tryz.prog 7 #[v.val] w fun e w' => e = .returned (.string (fmtTy t)) ∧ Below w.heap.size w w' := by
  have HI := Lib.hid (fun W (hb : Below w.heap.size w W) => sIsTy_any v t W (h.below hb) ⟨hf.sz, hf.pt, hf.ph⟩)
  have HR := Lib.hid (fun W (hb : Below w.heap.size w W) => sFormatR_any v.vr t.rg W (h.rg.below hb) hf.rg hf.wf)
  have HTK := Lib.hid (fun (hq : isTyB t = true) => isTy_kind hq)
  have HT : Hid (isTyB t = true → ∀ W : World, (W.alloc (.cells #[.string ⟨#[]⟩, .string ⟨#[105, 110, 116]⟩, .string ⟨#[116, 101, 120, 116]⟩, .string ⟨#[98, 111, 111, 108]⟩, .string ⟨#[101, 110, 117, 109]⟩, .string ⟨#[114, 101, 102]⟩, .string ⟨#[102, 108, 97, 103]⟩] 9)).cell? ⟨W.heap.size, t.k.toNat, none⟩ = some (.string (tyW t.k))) := Lib.hid fun hq W => by
    obtain ⟨h1, h6⟩ := isTy_kind hq
    have hk : t.k = 1 ∨ t.k = 2 ∨ t.k = 3 ∨ t.k = 4 ∨ t.k = 5 ∨ t.k = 6 := by omega
    rcases hk with e | e | e | e | e | e
    all_goals
      rw [e, cell_of_row _ W.heap.size _ _ _ _ (heap_alloc_new W _)]; rfl
  have HQ1 := Lib.hid (fun W => sQuote_any t.pt hf.pt W)
  have HQ2 := Lib.hid (fun W => sQuote_any t.ph hf.ph W)
  have HPRE := Lib.hid (tyP_pre hf)
  have HPR3 := Lib.hid (tyP_pre3 hf)
  have HNS := Lib.hid hf.sz
  have hz1 := tyW_size t.k
  have hz2 := formatS_le hf.rg hf.wf
  have hz3 : (quoteS t.pt).size ≤ 2097154 := by have := quoteS_sizeT t.pt; have := hf.pt; omega
  have hz4 : (quoteS t.ph).size ≤ 2097154 := by have := quoteS_sizeT t.ph; have := hf.ph; omega
  have hnm1 := hf.nm
  obtain ⟨A, c, h1, -⟩ := id h.rg
  obtain ⟨A', c', h2, -, hcn⟩ := id h.nm
  have HCN := Lib.hid hcn
  have hkk := h.k
  have hpt := h.pt
  have hph := h.ph
  obtain ⟨k, vr, vn, pt, ph⟩ := v
  obtain rfl : vr = _ := h1
  obtain rfl : vn = _ := h2
  obtain rfl : k = t.k := hkk
  obtain rfl : pt = t.pt := hpt
  obtain rfl : ph = t.ph := hph
  obtain ⟨Z, hZ⟩ : ∃ Z, Z = fmtTy t := ⟨_, rfl⟩
  have HZ0 : Hid (isTyB t = false → Z = ⟨#[]⟩) := Lib.hid fun hq => by rw [hZ]; unfold fmtTy; rw [hq]; rfl
  have HZ1 : Hid (isTyB t = true → Z = joinC 32 (((tyP1 t ++ t.nm) ++ qtL t.pt) ++ qtL t.ph)) := Lib.hid fun hq => by rw [hZ]; unfold fmtTy; rw [if_pos hq]; rfl
  have HP0 : Hid (t.rg.length = 0 → tyP1 t = [tyW t.k]) := Lib.hid fun hq => by unfold tyP1; rw [rgL_nil hq]; rfl
  have HP1 : Hid (0 < t.rg.length → tyP1 t = [tyW t.k] ++ [formatS t.rg]) := Lib.hid fun hq => by unfold tyP1; rw [rgL_one hq]
  have HPR3 : Hid ((joinC 32 ((tyP1 t ++ t.nm) ++ qtL t.pt)).size ≤ 140737488355328) := HPR3
  rw [← hZ]
  have HB0 := Lib.hid (below_al (Below.refl w.heap.size w) (.cells #[.int .i64 t.k, .slice A t.rg.length c, .slice A' t.nm.length c', .string t.pt, .string t.ph] 30))
  have HX0 : Hid (∀ W, Below (w.alloc (.cells #[.int .i64 t.k, .slice A t.rg.length c, .slice A' t.nm.length c', .string t.pt, .string t.ph] 30)).heap.size (w.alloc (.cells #[.int .i64 t.k, .slice A t.rg.length c, .slice A' t.nm.length c', .string t.pt, .string t.ph] 30)) W → TyBox W w.heap.size t.k (.slice A t.rg.length c) (.slice A' t.nm.length c') t.pt t.ph) := Lib.hid fun W hb => (hb.block _ (by simp)).trans (heap_alloc_new w _)
  clear h hf hZ hcn
  obtain ⟨m, hm⟩ : ∃ m, m = t.nm.length := ⟨_, rfl⟩
  have HMN := Lib.hid hm
  rw [← hm] at HB0 HX0 HI hnm1 ⊢
  clear hm
  generalize tyP1 t = P1 at *
  generalize tyW t.k = wd at *
  generalize formatS t.rg = F at *
  generalize t.k = k at *
  generalize t.rg.length = n at *
  generalize t.nm = nm at *
  generalize t.pt = pt at *
  generalize t.ph = ph at *
  generalize isTyB t = b at *
  cases b
  · obtain rfl := HZ0.out rfl
    go_enter Tryz.func7, Tryz.ntmps7
    go_wp2_with fail
    refine (HI.out _ HB0.out).mono ?_
    rintro e w1 ⟨rfl, hb1⟩
    have HB1 := Lib.hid (below_step HB0.out hb1)
    clear hb1
    go_wp2
    go_ret
    exact ⟨rfl, HB1.out⟩
  obtain ⟨k1, k6⟩ := HTK.out rfl
  have HTT := Lib.hid (HT.out rfl)
  obtain rfl := HZ1.out rfl
  rcases Nat.eq_zero_or_pos n with hn0 | hn0
  · have hnd : decide ((0 : Int) < (n : Int)) = false := by simp; omega
    subst hn0
    go_enter Tryz.func7, Tryz.ntmps7
    go_wp2_with fail
    refine (HI.out _ HB0.out).mono ?_
    rintro e w1 ⟨rfl, hb1⟩
    have HB1 := Lib.hid (below_step HB0.out hb1)
    have HX1 := Lib.hid (HX0.out w1 hb1)
    have HB2 := Lib.hid (below_al HB1.out (.cells #[.string ⟨#[]⟩, .string ⟨#[105, 110, 116]⟩, .string ⟨#[116, 101, 120, 116]⟩, .string ⟨#[98, 111, 111, 108]⟩, .string ⟨#[101, 110, 117, 109]⟩, .string ⟨#[114, 101, 102]⟩, .string ⟨#[102, 108, 97, 103]⟩] 9))
    have HX2 := Lib.hid (TyBox.below HX1.out (below_al (Below.refl _ _) (.cells #[.string ⟨#[]⟩, .string ⟨#[105, 110, 116]⟩, .string ⟨#[116, 101, 120, 116]⟩, .string ⟨#[98, 111, 111, 108]⟩, .string ⟨#[101, 110, 117, 109]⟩, .string ⟨#[114, 101, 102]⟩, .string ⟨#[102, 108, 97, 103]⟩] 9)))
    obtain ⟨⟨x0, x1, x2, x3, x4⟩, -⟩ := five HX1.out
    obtain ⟨⟨y0, y1, y2, y3, y4⟩, -⟩ := five HX2.out
    have hlt1 : w.heap.size < w1.heap.size := HX1.out.lt
    have tc := HTT.out w1
    clear hb1
    have HS : Hid (wd = joinC 32 (P1 ++ nm.take 0)) := Lib.hid (by rw [List.take_zero, List.append_nil, HP0.out trivial]; exact (joinC_single 32 wd).symm)
    have HB3 := HB2
    have HX3 := HX2
    have HNE : Hid (P1 ≠ []) := Lib.hid (by rw [HP0.out trivial]; simp)
    go_wp2
    go_loopw [3, 4] (fun v i wr => ∃ (j : Nat) (t : ByteArray), j ≤ m ∧ i = .int .i64 j ∧ v = .string t ∧ Hid (t = joinC 32 (P1 ++ nm.take j)) ∧ Hid (TyBox wr w.heap.size k (.slice A 0 c) (.slice A' m c') pt ph) ∧ Hid (Below w.heap.size w wr)) (fun _ i _ => m - (intOf i).toNat)
    case atStart => exact ⟨0, _, Nat.zero_le _, rfl, rfl, HS, HX3, HB3⟩
    case round =>
      clear x0 x1 x2 x3 x4 y0 y1 y2 y3 y4 tc
      clear HS HX3 HB3 HX1 HB1 HX2 HB2 HX0 HB0
      obtain ⟨j, t0, hj, rfl, rfl, HTJ, HX, HB⟩ := hrel
      obtain ⟨⟨x0, x1, x2, x3, x4⟩, -⟩ := five HX.out
      have hts : t0.size ≤ 140737488355328 := by rw [HTJ.out]; exact HPRE.out j
      have hts1 : (t0 ++ (⟨#[32]⟩ : ByteArray)).size ≤ 140737488355329 := by rw [ByteArray.size_append]; exact Nat.add_le_add_right hts 1
      by_cases hlt : j < m
      · have hlj : j < nm.length := by rw [← HMN.out]; exact hlt
        obtain ⟨a, rfl, hab, hcell⟩ := HCN.out j hlj
        have hcell := (HB.out.cell (by rw [add_blk]; exact hab)).trans hcell
        have hys := HNS.out _ (List.getElem_mem hlj)
        have HNX : Hid (t0 ++ ⟨#[32]⟩ ++ nm[j] = joinC 32 (P1 ++ nm.take (j + 1))) := Lib.hid (by rw [HTJ.out]; exact next_nm hlj HNE.out)
        generalize nm[j] = y at hcell hys HNX
        go_wp2
        go_roundw
        case rel => exact ⟨j + 1, _, by omega, by go_num, rfl, HNX, HX, HB⟩
        case measure => simp [intOf]; omega
      · have HE : Hid (t0 = joinC 32 (P1 ++ nm)) := Lib.hid (by have h := HTJ.out; rwa [List.take_of_length_le (by have := HMN.out; omega)] at h)
        rcases em_cases pt with hp | ⟨pa, pb, pc, pe⟩
        · subst hp
          rcases em_cases ph with hq | ⟨qa, qb, qc, qe⟩
          · subst hq
            have HE2 : Hid (t0 = joinC 32 ((P1 ++ nm) ++ qtL ⟨#[]⟩)) := Lib.hid (by rw [HE.out, qtL_nil, List.append_nil])
            have HE3 : Hid (t0 = joinC 32 (((P1 ++ nm) ++ qtL ⟨#[]⟩) ++ qtL ⟨#[]⟩)) := Lib.hid (by rw [HE2.out, qtL_nil]; simp only [List.append_nil])
            go_wp2
            go_ret
            exact ⟨(by rw [← HE3.out]; first | done | rfl), HB.out⟩
          · skip
            have HE2 : Hid (t0 = joinC 32 ((P1 ++ nm) ++ qtL ⟨#[]⟩)) := Lib.hid (by rw [HE.out, qtL_nil, List.append_nil])
            have HE3 : Hid ((t0) ++ ⟨#[32]⟩ ++ quoteS ph = joinC 32 (((P1 ++ nm) ++ qtL ⟨#[]⟩) ++ qtL ph)) := Lib.hid (by rw [HE2.out, qtL_one qe]; exact joinC_more (by intro e; exact HNE.out (List.append_eq_nil_iff.1 (List.append_eq_nil_iff.1 e).1).1) _)
            go_wp2_with fail
            refine (HQ2.out _).mono ?_
            rintro e w6 ⟨rfl, hb⟩
            have HB6 := Lib.hid (below_step HB.out hb)
            clear hb x0 x1 x2 x3 x4
            go_wp2
            go_ret
            exact ⟨(by rw [← HE3.out]; first | done | rfl), HB6.out⟩
        · skip
          rcases em_cases ph with hq | ⟨qa, qb, qc, qe⟩
          · subst hq
            have HE2 : Hid (t0 ++ ⟨#[32]⟩ ++ quoteS pt = joinC 32 ((P1 ++ nm) ++ qtL pt)) := Lib.hid (by rw [HE.out, qtL_one pe]; exact joinC_more (by intro e; exact HNE.out (List.append_eq_nil_iff.1 e).1) _)
            have HE3 : Hid (t0 ++ ⟨#[32]⟩ ++ quoteS pt = joinC 32 (((P1 ++ nm) ++ qtL pt) ++ qtL ⟨#[]⟩)) := Lib.hid (by rw [HE2.out, qtL_nil]; simp only [List.append_nil])
            go_wp2_with fail
            refine (HQ1.out _).mono ?_
            rintro e w5 ⟨rfl, hb⟩
            have HB5 := Lib.hid (below_step HB.out hb)
            have HX5 := Lib.hid (HX.out.below hb)
            have hts2 : (t0 ++ (⟨#[32]⟩ : ByteArray) ++ quoteS pt).size ≤ 140737488355328 := by rw [HE2.out]; exact HPR3.out
            have hts3 : (t0 ++ (⟨#[32]⟩ : ByteArray) ++ quoteS pt ++ (⟨#[32]⟩ : ByteArray)).size ≤ 140737488355329 := by rw [ByteArray.size_append]; exact Nat.add_le_add_right hts2 1
            clear hb x0 x1 x2 x3 x4
            obtain ⟨⟨x0, x1, x2, x3, x4⟩, -⟩ := five HX5.out
            go_wp2
            go_ret
            exact ⟨(by rw [← HE3.out]; first | done | rfl), HB5.out⟩
          · skip
            have HE2 : Hid (t0 ++ ⟨#[32]⟩ ++ quoteS pt = joinC 32 ((P1 ++ nm) ++ qtL pt)) := Lib.hid (by rw [HE.out, qtL_one pe]; exact joinC_more (by intro e; exact HNE.out (List.append_eq_nil_iff.1 e).1) _)
            have HE3 : Hid ((t0 ++ ⟨#[32]⟩ ++ quoteS pt) ++ ⟨#[32]⟩ ++ quoteS ph = joinC 32 (((P1 ++ nm) ++ qtL pt) ++ qtL ph)) := Lib.hid (by rw [HE2.out, qtL_one qe]; exact joinC_more (by intro e; exact HNE.out (List.append_eq_nil_iff.1 (List.append_eq_nil_iff.1 e).1).1) _)
            go_wp2_with fail
            refine (HQ1.out _).mono ?_
            rintro e w5 ⟨rfl, hb⟩
            have HB5 := Lib.hid (below_step HB.out hb)
            have HX5 := Lib.hid (HX.out.below hb)
            have hts2 : (t0 ++ (⟨#[32]⟩ : ByteArray) ++ quoteS pt).size ≤ 140737488355328 := by rw [HE2.out]; exact HPR3.out
            have hts3 : (t0 ++ (⟨#[32]⟩ : ByteArray) ++ quoteS pt ++ (⟨#[32]⟩ : ByteArray)).size ≤ 140737488355329 := by rw [ByteArray.size_append]; exact Nat.add_le_add_right hts2 1
            clear hb x0 x1 x2 x3 x4
            obtain ⟨⟨x0, x1, x2, x3, x4⟩, -⟩ := five HX5.out
            go_wp2_with fail
            refine (HQ2.out _).mono ?_
            rintro e w6 ⟨rfl, hb⟩
            have HB6 := Lib.hid (below_step HB5.out hb)
            clear hb x0 x1 x2 x3 x4
            go_wp2
            go_ret
            exact ⟨(by rw [← HE3.out]; first | done | rfl), HB6.out⟩
  · have hnd : decide ((0 : Int) < (n : Int)) = true := by simp; omega
    have hnp : (0 : Int) < (n : Int) := by omega
    go_enter Tryz.func7, Tryz.ntmps7
    go_wp2_with fail
    refine (HI.out _ HB0.out).mono ?_
    rintro e w1 ⟨rfl, hb1⟩
    have HB1 := Lib.hid (below_step HB0.out hb1)
    have HX1 := Lib.hid (HX0.out w1 hb1)
    have HB2 := Lib.hid (below_al HB1.out (.cells #[.string ⟨#[]⟩, .string ⟨#[105, 110, 116]⟩, .string ⟨#[116, 101, 120, 116]⟩, .string ⟨#[98, 111, 111, 108]⟩, .string ⟨#[101, 110, 117, 109]⟩, .string ⟨#[114, 101, 102]⟩, .string ⟨#[102, 108, 97, 103]⟩] 9))
    have HX2 := Lib.hid (TyBox.below HX1.out (below_al (Below.refl _ _) (.cells #[.string ⟨#[]⟩, .string ⟨#[105, 110, 116]⟩, .string ⟨#[116, 101, 120, 116]⟩, .string ⟨#[98, 111, 111, 108]⟩, .string ⟨#[101, 110, 117, 109]⟩, .string ⟨#[114, 101, 102]⟩, .string ⟨#[102, 108, 97, 103]⟩] 9)))
    obtain ⟨⟨x0, x1, x2, x3, x4⟩, -⟩ := five HX1.out
    obtain ⟨⟨y0, y1, y2, y3, y4⟩, -⟩ := five HX2.out
    have hlt1 : w.heap.size < w1.heap.size := HX1.out.lt
    have tc := HTT.out w1
    clear hb1
    go_wp2_with fail
    refine (HR.out _ HB2.out).mono ?_
    rintro e w3 ⟨rfl, hb⟩
    have HB3 := Lib.hid (below_step HB2.out hb)
    have HX3 := Lib.hid (HX2.out.below hb)
    have hz5 : (wd ++ (⟨#[32]⟩ : ByteArray)).size ≤ 5 := by rw [ByteArray.size_append]; exact Nat.add_le_add_right hz1 1
    have HS : Hid (wd ++ ⟨#[32]⟩ ++ F = joinC 32 (P1 ++ nm.take 0)) := Lib.hid (by rw [List.take_zero, List.append_nil, HP1.out hn0]; rw [← joinC_more (c := 32) (xs := [wd]) (by simp) F, joinC_single])
    clear hb x0 x1 x2 x3 x4 y0 y1 y2 y3 y4 tc
    obtain ⟨⟨x0, x1, x2, x3, x4⟩, -⟩ := five HX3.out
    have HNE : Hid (P1 ≠ []) := Lib.hid (by rw [HP1.out hn0]; simp)
    go_wp2
    go_loopw [3, 4] (fun v i wr => ∃ (j : Nat) (t : ByteArray), j ≤ m ∧ i = .int .i64 j ∧ v = .string t ∧ Hid (t = joinC 32 (P1 ++ nm.take j)) ∧ Hid (TyBox wr w.heap.size k (.slice A n c) (.slice A' m c') pt ph) ∧ Hid (Below w.heap.size w wr)) (fun _ i _ => m - (intOf i).toNat)
    case atStart => exact ⟨0, _, Nat.zero_le _, rfl, rfl, HS, HX3, HB3⟩
    case round =>
      clear x0 x1 x2 x3 x4
      clear HS HX3 HB3 HX1 HB1 HX2 HB2 HX0 HB0
      obtain ⟨j, t0, hj, rfl, rfl, HTJ, HX, HB⟩ := hrel
      obtain ⟨⟨x0, x1, x2, x3, x4⟩, -⟩ := five HX.out
      have hts : t0.size ≤ 140737488355328 := by rw [HTJ.out]; exact HPRE.out j
      have hts1 : (t0 ++ (⟨#[32]⟩ : ByteArray)).size ≤ 140737488355329 := by rw [ByteArray.size_append]; exact Nat.add_le_add_right hts 1
      by_cases hlt : j < m
      · have hlj : j < nm.length := by rw [← HMN.out]; exact hlt
        obtain ⟨a, rfl, hab, hcell⟩ := HCN.out j hlj
        have hcell := (HB.out.cell (by rw [add_blk]; exact hab)).trans hcell
        have hys := HNS.out _ (List.getElem_mem hlj)
        have HNX : Hid (t0 ++ ⟨#[32]⟩ ++ nm[j] = joinC 32 (P1 ++ nm.take (j + 1))) := Lib.hid (by rw [HTJ.out]; exact next_nm hlj HNE.out)
        generalize nm[j] = y at hcell hys HNX
        go_wp2
        go_roundw
        case rel => exact ⟨j + 1, _, by omega, by go_num, rfl, HNX, HX, HB⟩
        case measure => simp [intOf]; omega
      · have HE : Hid (t0 = joinC 32 (P1 ++ nm)) := Lib.hid (by have h := HTJ.out; rwa [List.take_of_length_le (by have := HMN.out; omega)] at h)
        rcases em_cases pt with hp | ⟨pa, pb, pc, pe⟩
        · subst hp
          rcases em_cases ph with hq | ⟨qa, qb, qc, qe⟩
          · subst hq
            have HE2 : Hid (t0 = joinC 32 ((P1 ++ nm) ++ qtL ⟨#[]⟩)) := Lib.hid (by rw [HE.out, qtL_nil, List.append_nil])
            have HE3 : Hid (t0 = joinC 32 (((P1 ++ nm) ++ qtL ⟨#[]⟩) ++ qtL ⟨#[]⟩)) := Lib.hid (by rw [HE2.out, qtL_nil]; simp only [List.append_nil])
            go_wp2
            go_ret
            exact ⟨(by rw [← HE3.out]; first | done | rfl), HB.out⟩
          · skip
            have HE2 : Hid (t0 = joinC 32 ((P1 ++ nm) ++ qtL ⟨#[]⟩)) := Lib.hid (by rw [HE.out, qtL_nil, List.append_nil])
            have HE3 : Hid ((t0) ++ ⟨#[32]⟩ ++ quoteS ph = joinC 32 (((P1 ++ nm) ++ qtL ⟨#[]⟩) ++ qtL ph)) := Lib.hid (by rw [HE2.out, qtL_one qe]; exact joinC_more (by intro e; exact HNE.out (List.append_eq_nil_iff.1 (List.append_eq_nil_iff.1 e).1).1) _)
            go_wp2_with fail
            refine (HQ2.out _).mono ?_
            rintro e w6 ⟨rfl, hb⟩
            have HB6 := Lib.hid (below_step HB.out hb)
            clear hb x0 x1 x2 x3 x4
            go_wp2
            go_ret
            exact ⟨(by rw [← HE3.out]; first | done | rfl), HB6.out⟩
        · skip
          rcases em_cases ph with hq | ⟨qa, qb, qc, qe⟩
          · subst hq
            have HE2 : Hid (t0 ++ ⟨#[32]⟩ ++ quoteS pt = joinC 32 ((P1 ++ nm) ++ qtL pt)) := Lib.hid (by rw [HE.out, qtL_one pe]; exact joinC_more (by intro e; exact HNE.out (List.append_eq_nil_iff.1 e).1) _)
            have HE3 : Hid (t0 ++ ⟨#[32]⟩ ++ quoteS pt = joinC 32 (((P1 ++ nm) ++ qtL pt) ++ qtL ⟨#[]⟩)) := Lib.hid (by rw [HE2.out, qtL_nil]; simp only [List.append_nil])
            go_wp2_with fail
            refine (HQ1.out _).mono ?_
            rintro e w5 ⟨rfl, hb⟩
            have HB5 := Lib.hid (below_step HB.out hb)
            have HX5 := Lib.hid (HX.out.below hb)
            have hts2 : (t0 ++ (⟨#[32]⟩ : ByteArray) ++ quoteS pt).size ≤ 140737488355328 := by rw [HE2.out]; exact HPR3.out
            have hts3 : (t0 ++ (⟨#[32]⟩ : ByteArray) ++ quoteS pt ++ (⟨#[32]⟩ : ByteArray)).size ≤ 140737488355329 := by rw [ByteArray.size_append]; exact Nat.add_le_add_right hts2 1
            clear hb x0 x1 x2 x3 x4
            obtain ⟨⟨x0, x1, x2, x3, x4⟩, -⟩ := five HX5.out
            go_wp2
            go_ret
            exact ⟨(by rw [← HE3.out]; first | done | rfl), HB5.out⟩
          · skip
            have HE2 : Hid (t0 ++ ⟨#[32]⟩ ++ quoteS pt = joinC 32 ((P1 ++ nm) ++ qtL pt)) := Lib.hid (by rw [HE.out, qtL_one pe]; exact joinC_more (by intro e; exact HNE.out (List.append_eq_nil_iff.1 e).1) _)
            have HE3 : Hid ((t0 ++ ⟨#[32]⟩ ++ quoteS pt) ++ ⟨#[32]⟩ ++ quoteS ph = joinC 32 (((P1 ++ nm) ++ qtL pt) ++ qtL ph)) := Lib.hid (by rw [HE2.out, qtL_one qe]; exact joinC_more (by intro e; exact HNE.out (List.append_eq_nil_iff.1 (List.append_eq_nil_iff.1 e).1).1) _)
            go_wp2_with fail
            refine (HQ1.out _).mono ?_
            rintro e w5 ⟨rfl, hb⟩
            have HB5 := Lib.hid (below_step HB.out hb)
            have HX5 := Lib.hid (HX.out.below hb)
            have hts2 : (t0 ++ (⟨#[32]⟩ : ByteArray) ++ quoteS pt).size ≤ 140737488355328 := by rw [HE2.out]; exact HPR3.out
            have hts3 : (t0 ++ (⟨#[32]⟩ : ByteArray) ++ quoteS pt ++ (⟨#[32]⟩ : ByteArray)).size ≤ 140737488355329 := by rw [ByteArray.size_append]; exact Nat.add_le_add_right hts2 1
            clear hb x0 x1 x2 x3 x4
            obtain ⟨⟨x0, x1, x2, x3, x4⟩, -⟩ := five HX5.out
            go_wp2_with fail
            refine (HQ2.out _).mono ?_
            rintro e w6 ⟨rfl, hb⟩
            have HB6 := Lib.hid (below_step HB5.out hb)
            clear hb x0 x1 x2 x3 x4
            go_wp2
            go_ret
            exact ⟨(by rw [← HE3.out]; first | done | rfl), HB6.out⟩
end Go.Proofs.YtkifdbeklagelaaGreatDoor
