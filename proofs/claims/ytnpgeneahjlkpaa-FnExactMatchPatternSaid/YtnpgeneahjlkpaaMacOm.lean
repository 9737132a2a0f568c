/- CHAPTER 5, impl: MatchPattern. -/
import Derived.Test.YtnpgeneahjlkpaaMacN
set_option linter.unusedVariables false
set_option linter.unusedSimpArgs false
namespace Go.Proofs.Ytnpgeneahjlkpaa
open Go.RowKit Mac

set_option maxRecDepth 100000 in
set_option maxHeartbeats 4000000 in
theorem imatch (s : ByteArray) (hs : s.size ≤ 4611686018427387904) (d : Nat) (r : PatR) (t : Pat) (w : World) (hr : RdN patK d w r t) (hf : TxFit d t.kids) (ht : t.x.text.size ≤ 9223372036854775807) (hcnt : 1 + cntL d t.kids ≤ 2147483647) :
    Calls Try.prog 27 #[.agg #[.int .i64 r.op, .string r.text, r.kv], .string s] w fun e w' => ∃ b : Bool, e = .returned (.bool b) ∧ Hid (b = true ↔ Mt s d t 0 s.size) ∧ Below w.heap.size w w' := by
  obtain ⟨A, cap, hkv⟩ := hr.2.form
  obtain ⟨op, text, kv⟩ := r
  obtain rfl : kv = .slice A t.kids.length cap := hkv
  obtain ⟨X, hX⟩ : ∃ X : Cx, X = ⟨w, w.heap.size + 1, w.heap.size + 3, w.heap.size + 2⟩ := ⟨_, rfl⟩
  have x0 : X.w0 = w := by rw [hX]
  have xm : X.m = w.heap.size + 1 := by rw [hX]
  have xe : X.e = w.heap.size + 3 := by rw [hX]
  have xv : X.mv = w.heap.size + 2 := by rw [hX]
  obtain ⟨n, hn⟩ : ∃ n, n = t.kids.length := ⟨_, rfl⟩
  have hr' : RdN patK d X.w0 ⟨op, text, .slice A t.kids.length cap⟩ t := by rw [x0]; exact hr
  rw [← hn] at hr' ⊢
  have HDEEP := Lib.hid (rd_deep hr.2)
  have HREST := Lib.hid (And.intro ht (And.intro hf hcnt))
  obtain ⟨W0, hW0⟩ : ∃ W0, W0 = ((((w.alloc (.cells #[.int .i64 op, .string text, .slice A n cap] 56)).alloc (.cells #[.int .i64 0, .slice none 0 0, .slice none 0 0] tS)).alloc (bx (ptr (w.heap.size + 1)) tM)).alloc (bx (.int .i64 (-1)) 3)) := ⟨_, rfl⟩
  have hz0 : W0.heap.size = w.heap.size + 4 := by rw [hW0]; simp
  have hB0 : Below w.heap.size w W0 := by rw [hW0]; exact below_al (below_al (below_al (below_al (Below.refl _ _) _) _) _) _
  have hRep : Rep X (fun x => if x = w.heap.size + 2 then some (bx (ptr X.m) tM) else none) (.slice none 0 0) (.slice none 0 0) [] W0 ⟨[], [], [], 0, -1⟩ := by
    have nilrow : ∀ E : Nat, RowV E X.w0.heap.size W0 (.slice none 0 0) [] := fun E => ⟨by simp, .inl ⟨rfl, rfl⟩⟩
    refine ⟨⟨by rw [x0, xm]; omega, by rw [xm, xe]; omega, if_neg (by omega), if_neg (by omega), fun p hp => (List.not_mem_nil hp).elim, fun p hp => (List.not_mem_nil hp).elim, fun i j p q hp => (by simp at hp), fun g hg => (by cases hg), fun g hg => (by cases hg)⟩, by rw [x0]; exact hB0, fun b o hb => ?_, ?_, ?_, by rw [xv]; exact if_pos rfl, nilrow _, nilrow _, rfl, fun q hq => absurd hq (by simp), fun p hp => (List.not_mem_nil hp).elim, fun p hp => (List.not_mem_nil hp).elim, fun p hp => (List.not_mem_nil hp).elim, fun p hp => (List.not_mem_nil hp).elim, fun i hi => (List.not_mem_nil hi).elim, fun b o hb => ?_⟩
    · split at hb
      · rename_i e; cases hb; rw [e, hW0, xm, Below.heap_alloc _ _ _ (by simp)]; exact alloc_new_at _ _ (by simp)
      · cases hb
    · rw [xm, hW0, Below.heap_alloc _ _ _ (by simp), Below.heap_alloc _ _ _ (by simp)]; exact alloc_new_at _ _ (by simp)
    · rw [xe, hW0]; exact alloc_new_at _ _ (by simp)
    · split at hb
      · cases hb; rfl
      · cases hb
  have hbf := before_any hRep (t := t) (e := d) (r := ⟨op, text, .slice A n cap⟩) (nx := 0) (Nat.zero_le _) ⟨hr', ht, hf⟩
  have e0 : refV X ([] : List Pl) 0 = .func (.func 59) #[] #[ptr (w.heap.size + 2), ptr (w.heap.size + 3)] := by rw [hX]; rfl
  have HBF : Hid (Calls Try.prog 58 #[ptr (w.heap.size + 1), .agg #[.int .i64 op, .string text, .slice A n cap], .func (.func 59) #[] #[ptr (w.heap.size + 2), ptr (w.heap.size + 3)]] W0 fun e w1 => e = .returned (placeV (w.heap.size + 4)) ∧ Hid (∃ K', Rep X K' (.slice none 0 0) (.slice none 0 0) [] w1 ⟨[⟨t, d, ⟨op, text, .slice A n cap⟩, 0, w.heap.size + 4, -1, none⟩], [], [], 0, -1⟩)) := Lib.hid (by
    rw [show refV X (({ pl := [], reached := [], waiting := [], pos := 0, en := -1 } : Mc).pl) 0 = refV X ([] : List Pl) 0 from rfl, e0, xm, hz0] at hbf
    refine hbf.mono ?_
    rintro e w1 ⟨rfl, K', _, _, hR, _⟩
    exact ⟨rfl, Lib.hid ⟨K', hR⟩⟩)
  have HRUN : Hid (∀ K' w1, Rep X K' (.slice none 0 0) (.slice none 0 0) [] w1 ⟨[⟨t, d, ⟨op, text, .slice A n cap⟩, 0, w.heap.size + 4, -1, none⟩], [], [], 0, -1⟩ → Calls Try.prog 60 #[ptr (w.heap.size + 1), placeV (w.heap.size + 4), .string s] w1 fun e w2 => e = .returned (.tuple #[]) ∧ ∃ en : Int, w2.cell? ⟨w.heap.size + 3, 0, none⟩ = some (.int .i64 en) ∧ Hid (en = s.size ↔ Mt s d t 0 s.size) ∧ Hid (Below w.heap.size w w2)) := Lib.hid fun K' w1 hR => by
    have := run_any (s := s) (D := d) (N := 2147483647) hR HDEEP.out (Nat.le_refl _) HREST.out.2.2 (Nat.le_refl _) hs
    rw [xm] at this
    refine this.mono ?_
    rintro e w2 ⟨rfl, K2, vr2, vw2, cs2, S2, hR2, hiff⟩
    have hc := cell_of_one hR2.he
    rw [xe] at hc
    have hb := hR2.bel
    rw [x0] at hb
    exact ⟨rfl, S2.en, hc, Lib.hid hiff, Lib.hid hb⟩
  have HRD : Hid (∀ K' w1, Rep X K' (.slice none 0 0) (.slice none 0 0) [] w1 ⟨[⟨t, d, ⟨op, text, .slice A n cap⟩, 0, w.heap.size + 4, -1, none⟩], [], [], 0, -1⟩ → w1.cell? ⟨w.heap.size + 2, 0, none⟩ = some (ptr (w.heap.size + 1))) := Lib.hid fun K' w1 hR => by
    have := cell_of_one (hR.hk _ _ hR.hv)
    rw [xv, xm] at this; exact this
  rw [hW0] at HBF
  clear hr hf ht hcnt hX x0 xm xe xv hn hr' HDEEP HREST hW0 hz0 hB0 hRep hbf e0
  go_enter Try.func27, Try.ntmps27
  go_wp2_with fail
  refine HBF.out.mono ?_
  rintro e w1 ⟨rfl, HK⟩
  obtain ⟨K', hR⟩ := HK.out
  have c1 := HRD.out K' w1 hR
  have HC := Lib.hid (HRUN.out K' w1 hR)
  clear hR HK HRUN HRD HBF
  go_wp2_with fail
  refine HC.out.mono ?_
  rintro e w2 ⟨rfl, en, hc, HI, HB⟩
  have HE : Hid ((en == s.size) = true ↔ Mt s d t 0 s.size) := Lib.hid (by rw [← HI.out]; simp)
  clear HC c1 HI
  go_wp2
  go_ret
  exact ⟨_, rfl, HE, HB.out⟩
end Go.Proofs.Ytnpgeneahjlkpaa
