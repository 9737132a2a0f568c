/- CHAPTER 5, impl: readClass; ParsePattern and IsPattern without a premise. -/
import Derived.Test.YtkifdbeklagelaaGreatDoorBsK
import Derived.Test.YtkifdbeklagelaaGreatDoorPatAA
import Derived.Test.YtkifdbeklagelaaGreatDoorPatK
set_option linter.unusedVariables false
set_option linter.unusedSimpArgs false
namespace Go.Proofs.YtkifdbeklagelaaGreatDoor
open Go.RowKit Go.Sort

theorem cE_map (l : List UInt8) : l.flatMap cE = l.map u8v := by induction l with | nil => rfl | cons c r ih => rw [List.flatMap_cons, ih]; rfl
theorem buf_cells {B : Nat} {v : Value} {l : List UInt8} {W w : World} (h : Buf B v l W w) (hl : l ≠ []) : ∃ g c, v = .slice (some ⟨g, 0, none⟩) l.length c ∧ ∀ j u, (l.map u8v)[j]? = some u → w.cell? ((⟨g, 0, none⟩ : Addr).add j) = some u := by
  rcases h.1.2 with ⟨rfl, h0⟩ | ⟨g, cap, cur, fz, rfl, hrest⟩
  · exact absurd (List.length_eq_zero_iff.1 h0) hl
  · exact ⟨g, cap, rfl, fun j u hu => h.1.cells (g := g) rfl j u hu⟩
/-- 'own = append(own, bytes...)' -/
theorem wpList_row_bytes {ops : Array Oper} {rest : List Oper} {o : Oper} {a : Act} {Q : Exit → Act → World → Prop} {w : World} (hgd : o.guard = none) (s x : Operand)
    (ho : o.op = .call { callee := .builtin .append, args := #[s, x], argTypes := #[84, 84] })
    (B g n c : Nat) (L : List UInt8) (hs : a.eval s = .slice (some ⟨g, 0, none⟩) n c) (hrow : RowC B w (.slice (some ⟨g, 0, none⟩) n c) L)
    (g2 n2 c2 : Nat) (L2 : List UInt8) (hx : a.eval x = .slice (some ⟨g2, 0, none⟩) n2 c2) (hl2 : n2 = L2.length) (hnews : ∀ j u, (L2.map u8v)[j]? = some u → w.cell? ((⟨g2, 0, none⟩ : Addr).add j) = some u)
    (hlen : n + n2 ≤ 549755813888) (hbase : B ≤ w.heap.size) (q : Nat) (hq : q = n + n2)
    (h : ∀ g' c'' w', RowC B w' (.slice (some ⟨g', 0, none⟩) q c'') (L ++ L2) → w.grownBy w' (some g) → wpList Tryz.prog ops Q rest (a.put o.dst (.slice (some ⟨g', 0, none⟩) q c'')) w') :
    wpList Tryz.prog ops Q (o :: rest) a w := by
  obtain ⟨i0, hi, hz0, hz1, hz2⟩ := info_parts infoU8
  have hnL := RowR.cap' hrow
  subst hq
  subst hnL
  subst hl2
  refine wpList_append_own _ hgd s x 84 ho B 5 i0 (.int .u8 0) 1 1 Tryz.underlying84 hi hz0 hz1 hz2 rfl (by decide) _ L.length (L.flatMap cE) hs hrow ⟨g2, 0, none⟩ L2.length c2 (L2.map u8v) hx (by simp) hnews (fun u hu => by obtain ⟨y, _, hy⟩ := List.mem_map.1 hu; rw [← hy]; rfl) (by unfold maxLen; omega) (by omega) hbase ?_
  intro v' w' h2 h3 h4
  rcases h2.2 with ⟨h5, _⟩ | ⟨g', cap', cur, h5, _⟩
  · exact absurd (h4.1 h5).1 (by simp)
  · subst h5
    refine h g' cap' w' ?_ h3
    unfold RowC RowR
    rw [List.length_append, List.flatMap_append, cE_map L2]
    exact h2
theorem betw_le (a b : UInt8) : (betw a b).length ≤ 256 := by unfold betw; rw [List.length_map, List.length_range]; have := b.toNat_lt; omega
theorem spanL_len {l b r : List UInt8} (h : spanL l = some (b, r)) : b.length ≤ 256 := by
  unfold spanL at h
  split at h
  · cases h
  · split at h
    · split at h
      · cases h; simp
      · split at h
        · split at h
          · cases h
          · split at h
            · cases h; exact betw_le _ _
            · cases h
        · cases h; simp
    · cases h
theorem OkC.empty {s : ByteArray} {i k : Nat} {cs : List UInt8} (h : OkC s i k cs) (hs : spanL (s.data.toList.drop k) = none) (hn : cs = []) : classL (s.data.toList.drop i) = none := by
  obtain ⟨h1, h2, h3, h4⟩ := h
  rw [spansL_none hs, hn] at h4
  unfold classL
  rw [h4]
  split
  · rfl
  · exact if_neg (fun x => x.2 rfl)
set_option maxRecDepth 100000 in
set_option maxHeartbeats 4000000 in
theorem class_any : ClassC := by
  intro s w h0 h30
  have hs9 : s.size ≤ 9223372036854775807 := by omega
  have HOK := Lib.hid (OkC.start s 1 h0)
  obtain ⟨O, hO⟩ : ∃ O, O = classL (s.data.toList.drop 1) := ⟨_, rfl⟩
  rw [← hO]
  have HO := Lib.hid hO
  have H30 := Lib.hid h30
  have hrow0 : RowC (w.heap.size + 1) ((w.alloc (.cells #[.int .i64 0, .string ⟨#[]⟩, .slice none 0 0] 124)).alloc (.cells #[] 5)) (.slice (some ⟨w.heap.size + 1, 0, none⟩) 0 0) [] := by
    have := rowR_empty (enc := cE) (z := 1) (E := 5) (B := w.heap.size + 1) (heap_alloc_new (w.alloc (.cells #[.int .i64 0, .string ⟨#[]⟩, .slice none 0 0] 124)) (.cells #[] 5)) (by simp)
    simpa using this
  have hb0 : Below (w.alloc (.cells #[.int .i64 0, .string ⟨#[]⟩, .slice none 0 0] 124)).heap.size (w.alloc (.cells #[.int .i64 0, .string ⟨#[]⟩, .slice none 0 0] 124)) ((w.alloc (.cells #[.int .i64 0, .string ⟨#[]⟩, .slice none 0 0] 124)).alloc (.cells #[] 5)) := below_al (Below.refl _ _) _
  have HR0 := Lib.hid hrow0
  have HB0 := Lib.hid hb0
  clear hO h30 hrow0 hb0
  go_enter Tryz.func207, Tryz.ntmps207
  go_wp2
  go_loopg [4, 5] (s.size + 1) (fun G v4 v5 wr => ∃ (k g c n : Nat) (cs : List UInt8), v4 = .slice (some ⟨g, 0, none⟩) n c ∧ v5 = .int .i64 k ∧ s.size + 1 - k ≤ G ∧ k ≤ s.size ∧ n ≤ 256 * k ∧ Hid (n = cs.length) ∧ Hid (OkC s 1 k cs) ∧ Hid (RowC (w.heap.size + 1) wr (.slice (some ⟨g, 0, none⟩) n c) cs) ∧ Hid (Below (w.alloc (.cells #[.int .i64 0, .string ⟨#[]⟩, .slice none 0 0] 124)).heap.size (w.alloc (.cells #[.int .i64 0, .string ⟨#[]⟩, .slice none 0 0] 124)) wr))
  case atStart => exact ⟨1, w.heap.size + 1, 0, 0, [], rfl, rfl, by omega, h0, by omega, Lib.hid rfl, HOK, HR0, HB0⟩
  case round =>
    clear HR0 HB0 HOK
    obtain ⟨k, g, c, n, cs, rfl, rfl, hG, hks, hnk, HN, HOK, HR, HB⟩ := hrel
    have hC := fun w => iSpan_any (s.extract k s.size) (by rw [ext_size]; have := H30.out; omega) w
    rw [ext_drop, ext_size] at hC
    have hkl : (k : Int) ≤ (s.size : Int) := by omega
    have hk9 : (k : Int) ≤ 30 := by have := H30.out; omega
    cases hsp : spanL (s.data.toList.drop k) with
    | some x =>
      obtain ⟨b, r⟩ := x
      rw [hsp] at hC
      have hsuf := spanL_suf hsp
      have hr := hsuf.1.drop
      have hrl := hsuf.2.1
      have hdl : (s.data.toList.drop k).length = s.size - k := by simp
      rw [hdl] at hr hrl
      rw [List.drop_drop] at hr
      obtain ⟨j, hj⟩ : ∃ j, s.size - k - r.length = j := ⟨_, rfl⟩
      rw [hj] at hr
      have hj0 : 0 < j := by omega
      have hkj : k + j ≤ s.size := by omega
      have HC : Hid (∀ w, Calls Tryz.prog 209 #[.string (s.extract k s.size)] w fun e w' => ∃ v, e = .returned (.tuple #[v, .int .i64 (j : Int)]) ∧ Buf w.heap.size v b w w') := Lib.hid (by rw [← hj]; exact hC)
      have HOK2 := Lib.hid (HOK.out.step (k' := k + j) (by omega) hkj (by rw [hsp, hr]))
      have hq0 : ((j : Int) == 0) = false := by simp only [beq_eq_false_iff_ne, ne_eq]; omega
      have hjb : (j : Int) ≤ 30 := by have := H30.out; omega
      have HBN : Hid (b ≠ []) := Lib.hid hsuf.2.2
      have hbl := spanL_len hsp
      obtain ⟨m, hm⟩ : ∃ m, m = b.length := ⟨_, rfl⟩
      have HM := Lib.hid hm
      rw [← hm] at hbl
      have hn9 : n ≤ 7680 := by have := H30.out; omega
      clear hC hsuf hr hrl hdl hj hsp hm
      go_wp2_with (first
        | (go_at_call 209; ((refine (HC.out _).mono ?_); rintro e w1 ⟨v1, rfl, hbuf⟩; obtain ⟨g2, c2, hv, hcells⟩ := buf_cells hbuf HBN.out; rw [← HM.out] at hv; subst hv; have hbw := hbuf.below; have hr1 := RowR.below HR.out hbw; have HR1 := Lib.hid hr1; have HBW := Lib.hid hbw; have HCELL := Lib.hid hcells; clear hr1 hbw hcells hbuf))
        | (at_builtin; refine wpList_row_bytes rfl _ _ rfl (w.heap.size + 1) g n c cs rfl HR1.out g2 m c2 b rfl HM.out HCELL.out (by omega) (by have h1 := HB.out.size; have h2 := HBW.out.size; simp at h1; omega) (n + m) rfl ?_; intro g' c' w2 hrow2 hg2))
      go_roundg (s.size + 1 - (k + j))
      case measure => omega
      case rel =>
        refine ⟨k + j, g', c', n + m, cs ++ b, rfl, by go_num, Nat.le_refl _, hkj, by omega, Lib.hid (by rw [List.length_append, ← HN.out, ← HM.out]), HOK2, Lib.hid hrow2, Lib.hid ?_⟩
        have h1 := below_step HB.out HBW.out
        exact h1.grown hg2 h1.size (fun q hq => by cases hq; have := (HR.out.lt (k := g) rfl).1; simpa using this)
    | none =>
      rw [hsp] at hC
      have HC : Hid (∀ w, Calls Tryz.prog 209 #[.string (s.extract k s.size)] w fun e w' => ∃ v, e = .returned (.tuple #[v, .int .i64 0]) ∧ Buf w.heap.size v [] w w') := Lib.hid hC
      have HSP := Lib.hid hsp
      clear hC hsp
      by_cases hn0 : n = 0
      · have hq1 : ((n : Int) == 0) = true := by rw [hn0]; rfl
        have HNO : Hid (O = none) := Lib.hid (by rw [HO.out]; exact HOK.out.empty HSP.out (List.length_eq_zero_iff.1 (by rw [← HN.out]; exact hn0)))
        clear hn0
        go_wp2_with (go_at_call 209; ((refine (HC.out _).mono ?_); rintro e w1 ⟨v1, rfl, hbuf⟩; have hbel1 := below_step HB.out hbuf.below; obtain ⟨⟨b0, b1, b2⟩, ⟨f0, f1, f2⟩, hz⟩ := box3p hbel1; clear hbuf))
        refine bodyPost_ret (v := .tuple #[.agg #[.int .i64 0, .string ⟨#[]⟩, .slice none 0 0], .int .i64 0]) (by simp [results, Tryz.results207, go_sem, b0, b1, b2, hz]) rfl ?_
        rw [HNO.out]
        exact tree_none hbel1
      · have hq1 : ((n : Int) == 0) = false := by rw [beq_eq_false_iff_ne]; omega
        by_cases hke : k = s.size
        · have hq2 : ((k : Int) == (s.size : Int)) = true := by rw [hke]; simp
          have hq3 : (k == s.size) = true := by rw [hke]; simp
          have HNO : Hid (O = none) := Lib.hid (by rw [HO.out]; exact HOK.out.stop HSP.out (fun h => absurd h (by omega)))
          clear hke
          go_wp2_with (go_at_call 209; ((refine (HC.out _).mono ?_); rintro e w1 ⟨v1, rfl, hbuf⟩; have hbel1 := below_step HB.out hbuf.below; obtain ⟨⟨b0, b1, b2⟩, ⟨f0, f1, f2⟩, hz⟩ := box3p hbel1; clear hbuf))
          refine bodyPost_ret (v := .tuple #[.agg #[.int .i64 0, .string ⟨#[]⟩, .slice none 0 0], .int .i64 0]) (by simp [results, Tryz.results207, go_sem, b0, b1, b2, hz]) rfl ?_
          rw [HNO.out]
          exact tree_none hbel1
        · have hq2 : ((k : Int) == (s.size : Int)) = false := by rw [beq_eq_false_iff_ne]; omega
          have hq3 : (k == s.size) = false := by rw [beq_eq_false_iff_ne]; omega
          have hlt : k < s.size := by omega
          have hltz : (k : Int) < (s.size : Int) := by omega
          by_cases h93 : s[k] = 93
          · have hq4 : ((s[k].toNat : Int) != 93) = false := by rw [h93]; rfl
            have hk1 : k ≠ 1 := fun e => hn0 (by have := HOK.out.2.2.1.2 e; rw [HN.out, this]; rfl)
            have HNO : Hid (O = some (charsP (clsL cs), s.data.toList.drop (k + 1))) := Lib.hid (by rw [HO.out, HOK.out.close hlt h93, if_neg hk1])
            have HKK : Hid (s.size - (s.data.toList.drop (k + 1)).length = k + 1) := Lib.hid (by simp; omega)
            have hn9 : n ≤ 1048576 := by have := H30.out; omega
            have HGB : Hid ((w.alloc (.cells #[.int .i64 0, .string ⟨#[]⟩, .slice none 0 0] 124)).heap.size ≤ g) := Lib.hid (by have := (HR.out.lt (k := g) rfl).1; simpa using this)
            clear h93 hk1 hke
            go_wp2_with (first
              | (go_at_call 209; ((refine (HC.out _).mono ?_); rintro e w1 ⟨v1, rfl, hbuf⟩; have hr1 := RowR.below HR.out hbuf.below; have HR1 := Lib.hid hr1; have HB1 := Lib.hid (below_step HB.out hbuf.below); clear hr1 hbuf))
              | (go_at_call 210; ((refine (bsort_any (w.heap.size + 1) g c n cs _ HN.out HR1.out hn9).mono ?_); rintro e w2 ⟨rfl, hasc⟩; have HASC := Lib.hid hasc; clear hasc))
              | (go_at_call 211; ((refine (bcompact_any g c n cs _ _ HASC.out (RowR.cap HR1.out) hn9).mono ?_); rintro e w3 ⟨rfl, hcv, hT3⟩; have hbel3 := HB1.out.trans (hT3.below HB1.out.size (fun q hq => by rw [hq]; exact HGB.out)); obtain ⟨⟨b0, b1, b2⟩, ⟨f0, f1, f2⟩, hz⟩ := box3p hbel3)))
            refine bodyPost_ret (v := .tuple #[.agg #[.int .i64 1, .string ⟨(clsL cs).toArray⟩, .slice none 0 0], .int .i64 ((k : Int) + 1)]) (by simp [results, Tryz.results207, go_sem, b0, b1, b2, hz]) rfl ?_
            rw [HNO.out]
            exact tree_some (p := charsP (clsL cs)) (d := 0) (k := k + 1) (owN_leaf _ _ _ _ _) hbel3 (Nat.le_refl _) HKK.out
          · have hq4 : ((s[k].toNat : Int) != 93) = true := by rw [bne, show ((s[k].toNat : Int) == 93) = false from byte_ne (d := 93) h93]; rfl
            have HNO : Hid (O = none) := Lib.hid (by rw [HO.out]; exact HOK.out.stop HSP.out (fun _ => h93))
            clear h93 hke
            go_wp2_with (go_at_call 209; ((refine (HC.out _).mono ?_); rintro e w1 ⟨v1, rfl, hbuf⟩; have hbel1 := below_step HB.out hbuf.below; obtain ⟨⟨b0, b1, b2⟩, ⟨f0, f1, f2⟩, hz⟩ := box3p hbel1; clear hbuf))
            refine bodyPost_ret (v := .tuple #[.agg #[.int .i64 0, .string ⟨#[]⟩, .slice none 0 0], .int .i64 0]) (by simp [results, Tryz.results207, go_sem, b0, b1, b2, hz]) rfl ?_
            rw [HNO.out]
            exact tree_none hbel1
theorem iPat_any (s : ByteArray) (hs : s.size ≤ maxLen) (w : World) : Calls Tryz.prog 156 #[.string s] w (ParseOut (patS s.data.toList) w) := iParsePat_any class_any s hs w
theorem iIs_any (s : ByteArray) (hs : s.size ≤ maxLen) (w : World) : Calls Tryz.prog 126 #[.string s] w fun e w' => e = .returned (.bool (patS s.data.toList).isSome) ∧ Below w.heap.size w w' := iIsPat_any class_any s hs w
end Go.Proofs.YtkifdbeklagelaaGreatDoor
