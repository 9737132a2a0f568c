/- CHAPTER 4, RANGES READ: spec's ParseRanges. -/
import Derived.Test.YtldjkjdmadoaoaaDoorParV
namespace Go.Proofs.YtldjkjdmadoaoaaDoor
open Go.RowKit NumP

theorem lex_texts {s : ByteArray} {T : List Tok} {e : Option Nat} (hL : Lx s.size s.data.toList T e) (hs : s.size ≤ 1048576) : ∀ x ∈ lexT T e, x.t.size ≤ 1048576 := by
  have h := hL.bd.2.1
  have h1 : s.data.toList.length = s.size := by simp
  intro x hx
  cases e with
  | some p => simp [lexT] at hx
  | none => have := (h x hx).1; omega
theorem areB_nil : areB [] = true := areB_yes ⟨by simp, .nil, by simp⟩
set_option maxRecDepth 100000 in
set_option maxHeartbeats 1000000 in
theorem sRgs_bad (B b n cap : Nat) (A : Option Addr) (T : List Tok) (w : World) (h : Par B b A n cap T 0 true w) :
    Calls Tryd.prog 36 #[.pointer (some ⟨b, 0, none⟩)] w fun e w' => ∃ v', e = .returned v' ∧ Par B b A n cap T 0 true w' ∧ Below w.heap.size w w' := by
  have hb0 : Below w.heap.size w (w.alloc (.cells #[] 33)) := below_al (Below.refl _ _) _
  have P0 := Lib.hid (h.below hb0)
  have HR0 := Lib.hid (rowG_new w w.heap.size (Nat.le_refl _))
  have HAr : Hid (areB [] = true) := Lib.hid areB_nil
  clear h
  go_enter Tryd.func36, Tryd.ntmps36
  go_wp2
  go_loopw [3] (fun u wr => u = .slice (some ⟨w.heap.size, 0, none⟩) 0 0 ∧ wr = w.alloc (.cells #[] 33)) (fun _ _ => 0)
  case atStart => exact ⟨rfl, rfl⟩
  case round =>
    obtain ⟨rfl, rfl⟩ := hrel
    have c2 := P0.out.c2
    go_wp2_with (go_at_call 56; refine (sAre_any _ [] _ HR0.out.hasG).mono ?_; rw [HAr.out]; rintro e w1 ⟨rfl, hb⟩)
    go_ret
    exact ⟨_, rfl, P0.out.below hb, below_step hb0 hb⟩
theorem parS_of {n j : Nat} {R : List Rg} {bad : Bool} {res : Option (List Rg × Nat)} (h : (bad = false ∧ res = some (R, j) ∧ Are R) ∨ (bad = true ∧ ∀ Q k, res = some (Q, k) → ¬ Are Q)) :
    ((!bad && decide (j = n)) = true → parS none n res = some R) ∧ ((!bad && decide (j = n)) = false → parS none n res = none) := by
  rcases h with ⟨rfl, rfl, ha⟩ | ⟨rfl, hno⟩
  · constructor
    · intro hq
      have : j = n := by simpa using hq
      subst this
      exact parS_ok ha
    · intro hq
      exact parS_len (by simpa using hq)
  · constructor
    · intro hq; simp at hq
    · intro _
      match res with
      | none => rfl
      | some (Q, k) => exact parS_no (hno Q k rfl)
set_option maxRecDepth 100000 in
set_option maxHeartbeats 1000000 in
theorem sPr_any (s : ByteArray) (hs : s.size ≤ 1048576) (T : List Tok) (e : Option Nat) (hL : Lx s.size s.data.toList T e) (hlen : (lexT T e).length ≤ 1048576) (hts : ∀ x ∈ lexT T e, x.t.size ≤ 1048576) (res : Option (List Rg × Nat)) (hr : Run (lexT T e) 0 [] res) (w : World) :
    Calls Tryd.prog 15 #[.string s] w fun en w' => PrV w.heap.size (parS e (lexT T e).length res) en w' ∧ Below w.heap.size w w' := by
  have HL := Lib.hid hL
  have HR := Lib.hid hr
  have HT := Lib.hid hts
  have HLEN := Lib.hid hlen
  clear hL hr hts hlen
  cases e with
  | some p =>
    rw [parS_bad]
    go_enter Tryd.func15, Tryd.ntmps15
    go_wp2_with (first
      | (go_at_call 35; refine (sNew_any s hs T _ HL.out _).mono ?_; rintro en w1 ⟨b, A, n, cap, rfl, hP, hb⟩; have P1 := Lib.hid hP; have B1 := Lib.hid hb; clear hP hb)
      | (go_at_call 36; refine (sRgs_bad _ _ _ _ _ _ _ P1.out).mono ?_; rintro en w2 ⟨v2, rfl, hP, hb⟩; have P2 := Lib.hid hP; have B2 := Lib.hid (below_step B1.out hb); clear hP hb)
      | (go_at_call 37; refine (sEndP_any P2.out).mono ?_; rw [show (!true && decide (0 = n)) = false from rfl]; rintro en w3 ⟨rfl, q, rfl⟩))
    go_ret2
    exact ⟨⟨_, rfl, rowG_new _ _ B2.out.size⟩, below_al (below_drewN B2.out q) _⟩
  | none =>
    go_enter Tryd.func15, Tryd.ntmps15
    go_wp2_with (first
      | (go_at_call 35; refine (sNew_any s hs T _ HL.out _).mono ?_; rintro en w1 ⟨b, A, n, cap, rfl, hP, hb⟩; have hn := hP.size.1; have HN := Lib.hid hn; have HBB := Lib.hid hP.lo; have P1 := Lib.hid hP; have B1 := Lib.hid hb; clear hP hb hn)
      | (go_at_call 36; refine (sRgs_any _ _ _ _ _ _ _ HT.out (by rw [HN.out]; exact HLEN.out) P1.out res HR.out).mono ?_; rintro en w2 ⟨v2, R, j, bad, rfl, hrow, hP, hG, HH⟩; have P2 := Lib.hid hP; have R2 := Lib.hid hrow; have B2 := Lib.hid (B1.out.grown hG B1.out.size (fun k hk => by cases hk; exact HBB.out)); clear hP hrow hG)
      | (go_at_call 37; refine (sEndP_any P2.out).mono ?_; generalize hq : (!bad && decide (j = n)) = qb; have HQ := Lib.hid hq; clear hq; rintro en w3 ⟨rfl, q, rfl⟩))
    all_goals
      go_ret2
      have HPS := parS_of (n := n) HH.out
      rw [HQ.out] at HPS
      first
        | (refine ⟨?_, below_drewN B2.out q⟩
           rw [← HN.out, HPS.1 (by simpa using (by assumption : (!qb) = false))]
           exact ⟨_, rfl, (show RowG w1.heap.size (w2.drewN q) _ R from R2.out).mono B1.out.size⟩)
        | (refine ⟨?_, below_al (below_drewN B2.out q) _⟩
           rw [← HN.out, HPS.2 (by simpa using (by assumption : (!qb) = true))]
           exact ⟨_, rfl, rowG_new _ _ B2.out.size⟩)
end Go.Proofs.YtldjkjdmadoaoaaDoor
