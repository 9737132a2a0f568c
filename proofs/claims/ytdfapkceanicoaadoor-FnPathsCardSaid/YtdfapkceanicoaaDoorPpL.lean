/- CHAPTER 7: PATHS READ FROM TEXTS: spec's ParsePath. -/
import Derived.Test.YtdfapkceanicoaaDoorPpK
set_option linter.unusedVariables false
set_option linter.unusedSimpArgs false
namespace Go.Proofs.YtdfapkceanicoaaDoor
open Go.RowKit NumP
set_option maxRecDepth 100000

theorem pthr_nil {res : Option (Pth × Nat)} (hr : Pthr [] res) : res = none := by
  cases hr with
  | root h => cases h
  | rootMore h => cases h
  | rootBad h => cases h
  | none => rfl
  | some h h2 =>
    exfalso
    rcases h2.way with ⟨_, _, h⟩ | ⟨k, u', st', h, _⟩
    · cases h
    · have := h.bd; simp at this; omega
theorem parPth_of {e : Option Nat} {T : List Tok} {res : Option (Pth × Nat)} {j n : Nat} {bad root : Bool} {u : Int} {st : List Stp} (hr : Pthr T res) (h : Fin7 res root u st j bad) (hn : n = T.length) (he : e.isSome = true → T = []) : parPth e T res = if (!bad && decide (j = n)) = true then some ⟨root, u, st⟩ else none := by
  subst hn
  rcases h with ⟨rfl, rfl, h3⟩ | ⟨rfl, h1⟩
  · have hen : e = none := by
      cases e with
      | none => rfl
      | some p => have := he rfl; subst this; cases pthr_nil hr
    by_cases hj : j = T.length
    · rw [if_pos (by simp [hj])]
      exact if_pos ⟨hen, hj, dB_yes h3⟩
    · rw [if_neg (by simp [hj])]
      exact if_neg fun hq => hj hq.2.1
  · rw [if_neg (by simp)]
    refine if_neg fun hq => ?_
    match res, h1, hq with
    | none, _, hq => exact pthOk_zero (dB_true hq.2.2)
    | some (p, q), h1, hq => exact h1 p q rfl (dB_true hq.2.2)
set_option maxHeartbeats 8000000 in
theorem sParPth_any (s : ByteArray) (hs : s.size ≤ 1048576) (T : List Tok) (e : Option Nat) (hL : Lx s.size s.data.toList T e) (hlen : (lexT T e).length ≤ 1048576) (hts : ∀ x ∈ lexT T e, x.t.size ≤ 1048576) (res : Option (Pth × Nat)) (hr : Pthr (lexT T e) res) (w : World) :
    Calls Tryd.prog 13 #[.string s] w fun en w' => PoV w.heap.size (parPth e (lexT T e) res) en w' ∧ Below w.heap.size w w' := by
  have HB0 := Lib.hid (below_al (Below.refl w.heap.size w) (.cells #[.bool false, .int .i64 0, .slice none 0 0] 26))
  have HX0 : Hid (∀ W, Below (w.alloc (.cells #[.bool false, .int .i64 0, .slice none 0 0] 26)).heap.size (w.alloc (.cells #[.bool false, .int .i64 0, .slice none 0 0] 26)) W → W.heap[w.heap.size]? = some (.cells #[.bool false, .int .i64 0, .slice none 0 0] 26 (0, 0))) := Lib.hid fun W hb => (hb.block _ (by simp)).trans (heap_alloc_new w _)
  have he : e.isSome = true → lexT T e = [] := fun h => by
    cases e with
    | none => cases h
    | some p => rfl
  have HNEW := Lib.hid (fun W => sNew_any s hs T e hL W)
  have HL7 := Lib.hid (fun (b n cap B : Nat) (A : Option Addr) W (hn : n ≤ 1048576) (hp : Par B b A n cap (lexT T e) 0 e.isSome W) => sPth_any B b n cap A (lexT T e) W hts hn e.isSome hp he res hr)
  have HPT := Lib.hid (fun (j n : Nat) (bad root : Bool) (u : Int) (st : List Stp) (h : Fin7 res root u st j bad) (hn : n = (lexT T e).length) => parPth_of (e := e) hr h hn he)
  have HLEN := Lib.hid hlen
  obtain ⟨Z, hZ⟩ : ∃ Z, Z = parPth e (lexT T e) res := ⟨_, rfl⟩
  rw [← hZ] at HPT ⊢
  clear hZ hL hlen hts hr he
  go_enter Tryd.func13, Tryd.ntmps13
  go_wp2_with fail
  refine (HNEW.out _).mono ?_
  rintro en w1 ⟨b, A, n, cap, rfl, hP, hb1⟩
  have HB1 := Lib.hid (below_step HB0.out hb1)
  have HX1 := Lib.hid (HX0.out w1 hb1)
  have HP1 := Lib.hid hP
  have hlo : w.heap.size + 1 ≤ b := by have := hP.lo; simpa using this
  clear hP hb1
  go_wp2_with fail
  refine (HL7.out b n cap _ A _ (by rw [HP1.out.size.1]; exact HLEN.out) HP1.out).mono ?_
  rintro en w2 ⟨root, u, sv, st, S, j, bad, rfl, hO, hP2, hG, HF⟩
  obtain ⟨F, m, d, rfl⟩ : ∃ A n c, sv = .slice A n c := by obtain ⟨A, c, hv, _⟩ := (OwnS.has hO).at; exact ⟨A, _, c, hv⟩
  have hlt1 : w.heap.size < w1.heap.size := (Array.getElem?_eq_some_iff.1 HX1.out).1
  have HPT2 := Lib.hid (HPT.out j n bad root u st HF.out hP2.size.1)
  have HB2 := Lib.hid (Below.grown HB1.out hG HB1.out.size (fun q e => by have := Option.some.inj e; omega))
  have HX2 := Lib.hid (grown_at hG HX1.out (by omega))
  have hlt2 : w.heap.size < w2.heap.size := (Array.getElem?_eq_some_iff.1 HX2.out).1
  have hb3 := below_al (Below.refl w2.heap.size w2) (.cells #[.bool root, .int .i64 u, .slice F m d] 26)
  have HB3 := Lib.hid (below_al HB2.out (.cells #[.bool root, .int .i64 u, .slice F m d] 26))
  have HX3 := Lib.hid ((hb3.block _ hlt2).trans HX2.out)
  have HY3 : Hid ((w2.alloc (.cells #[.bool root, .int .i64 u, .slice F m d] 26)).heap[w2.heap.size]? = some (.cells #[.bool root, .int .i64 u, .slice F m d] 26 (0, 0))) := Lib.hid (heap_alloc_new w2 _)
  have HO3 : Hid (OwnS (w.heap.size + 1) (w2.alloc (.cells #[.bool root, .int .i64 u, .slice F m d] 26)) (.slice F m d) st S) := Lib.hid (OwnS.below (OwL.mono hO (by omega)) hb3)
  have HP3 := Lib.hid (hP2.below hb3)
  clear hO hP2 hG HF HPT HL7 HNEW HX0 hb3
  go_wp2_with fail
  refine (sEndP_any HP3.out).mono ?_
  obtain ⟨qb, hqb⟩ : ∃ qb, qb = (!bad && decide (j = n)) := ⟨_, rfl⟩
  rw [← hqb] at HPT2 ⊢
  clear hqb
  rintro en w3 ⟨rfl, q, hq⟩
  have hb3 : Below (w2.alloc (.cells #[.bool root, .int .i64 u, .slice F m d] 26)).heap.size (w2.alloc (.cells #[.bool root, .int .i64 u, .slice F m d] 26)) w3 := by rw [hq]; exact below_drewN (Below.refl _ _) q
  have HX4 := Lib.hid ((hb3.block _ (Array.getElem?_eq_some_iff.1 HX3.out).1).trans HX3.out)
  have HY4 := Lib.hid ((hb3.block _ (Array.getElem?_eq_some_iff.1 HY3.out).1).trans HY3.out)
  have HO4 := Lib.hid (OwnS.below HO3.out hb3)
  have HBB := Lib.hid (below_step HB3.out hb3)
  obtain ⟨⟨y0, y1, y2⟩, r0, r1, r2⟩ := three_f HX4.out
  obtain ⟨⟨x0, x1, x2⟩, -⟩ := three_f HY4.out
  clear hb3 hq
  cases qb
  · have HZ : Hid (Z = none) := Lib.hid (by rw [HPT2.out]; simp)
    go_wp2
    refine bodyPost_ret (results_ct rfl _ _ ⟨w.heap.size, 0, none⟩ _ rfl (run_loadPth (pth_full HX4.out _ _ _))) rfl ?_
    rw [HZ.out]
    exact ⟨rfl, below_set3 HBB.out (Nat.le_refl _)⟩
  · have HZ : Hid (Z = some ⟨root, u, st⟩) := Lib.hid (by rw [HPT2.out]; simp)
    go_wp2
    refine bodyPost_ret (results_ct rfl _ _ ⟨w.heap.size, 0, none⟩ _ rfl (run_loadPth (pth_full HX4.out _ _ _))) rfl ?_
    rw [HZ.out]
    exact ⟨⟨_, S, rfl, OwL.mono (OwL.set (OwL.set (OwL.set HO4.out (by omega)) (by omega)) (by omega)) (by omega)⟩, below_set3 HBB.out (Nat.le_refl _)⟩
end Go.Proofs.YtdfapkceanicoaaDoor
