/- CHAPTER 2, SIXTH PART: spec's l2End and UnquoteText. -/
import Derived.Test.YtldjkjdmadoaoaaDoorUnq
namespace Go.Proofs.YtldjkjdmadoaoaaDoor
open Go.RowKit

set_option maxRecDepth 100000 in
set_option maxHeartbeats 1000000 in
theorem sEnd_any (s : ByteArray) (hs : s.size ≤ 1048576) (a : Nat) (ha : a < s.size) (w : World) :
    Calls Tryd.prog 85 #[.string s, .int .i64 a] w fun e w' => e = .returned (endV (rdAt s a)) ∧ w = w' := by
  go_enter Tryd.func85, Tryd.ntmps85
  go_wp2
  go_loop [5] (fun i => ∃ (k : Nat) (l : List UInt8), k ≤ s.size ∧ i = .int .i64 k ∧ Hid (Rd s (a + 1) k l)) (fun i => s.size - (intOf i).toNat)
  case atStart => exact ⟨a + 1, [], by omega, by go_num, Lib.hid (Rd.start s _)⟩
  case round =>
    obtain ⟨k, l, hk, rfl, HR⟩ := hrel
    by_cases hlt : k < s.size
    · by_cases h1 : s[k] = 34
      · have H2 : ((s[k].toNat : Int) == 34) = true := byte_is h1
        have HE := Lib.hid (rdAt_some (HR.out.done hlt h1) (by omega))
        clear h1
        go_wp2
        go_ret
        exact ⟨ret_val (by rw [HE.out]; rfl), rfl⟩
      · have H2 : ((s[k].toNat : Int) == 34) = false := byte_ne (d := 34) h1
        by_cases h2 : s[k] = 92
        · have H3 : ((s[k].toNat : Int) == 92) = true := byte_is h2
          have HX := Lib.hid h2
          clear h1 h2
          by_cases hlt2 : k + 1 < s.size
          · have hk2 : ((k : Int) + 1 == (s.size : Int)) = false := by simp only [beq_eq_false_iff_ne, ne_eq]; omega
            by_cases hc1 : s[k + 1] = 34
            · have hn := byte_bne hc1
              have HN : ((s[k + 1].toNat : Int) != 34) = false := hn
              have HC := Lib.hid (HR.out.esc hlt2 HX.out (by rw [hc1]; rfl))
              clear hc1 hn
              go_wp2
              go_round
              case rel => exact ⟨k + 2, _, by omega, by go_num, HC⟩
              case measure => simp [intOf]; omega
            · have HN : ((s[k + 1].toNat : Int) != 34) = true := byte_nbne (d := 34) hc1
              by_cases hc2 : s[k + 1] = 92
              · have HM : ((s[k + 1].toNat : Int) != 92) = false := byte_bne hc2
                have HC := Lib.hid (HR.out.esc hlt2 HX.out (by rw [hc2]; rfl))
                clear hc1 hc2
                go_wp2
                go_round
                case rel => exact ⟨k + 2, _, by omega, by go_num, HC⟩
                case measure => simp [intOf]; omega
              · have HM : ((s[k + 1].toNat : Int) != 92) = true := byte_nbne (d := 92) hc2
                have HE := Lib.hid (rdAt_none (HR.out.bad hlt2 HX.out (esc_not hc1 hc2)))
                clear hc1 hc2
                go_wp2
                go_ret
                exact ⟨ret_val (by rw [HE.out]; rfl), rfl⟩
          · have HE := Lib.hid (rdAt_none (HR.out.cut2 (by omega) HX.out))
            have hk2 : ((k : Int) + 1 == (s.size : Int)) = true := by simp only [beq_iff_eq]; omega
            go_wp2
            go_ret
            exact ⟨ret_val (by rw [HE.out]; rfl), rfl⟩
        · have H3 : ((s[k].toNat : Int) == 92) = false := byte_ne (d := 92) h2
          have HC := Lib.hid (HR.out.on hlt h1 h2)
          clear h1 h2
          go_wp2
          go_round
          case rel => exact ⟨k + 1, _, by omega, by go_num, HC⟩
          case measure => simp [intOf]; omega
    · have HE := Lib.hid (rdAt_none (HR.out.cut (by omega)))
      go_wp2
      go_ret
      exact ⟨ret_val (by rw [HE.out]; rfl), rfl⟩
theorem rdAt_of {s : ByteArray} {a : Nat} (h : a < s.size) (h' : s[a] = 34) : rdAt s a = quotedAt s a := (quotedAt_is h h').symm
theorem unq_no {s : ByteArray} (h : quotedAt s 0 = none) : unqL s = none := by unfold unqL; rw [h]; rfl
theorem unq_rest {s : ByteArray} {l : List UInt8} {k : Nat} (h : quotedAt s 0 = some (l, k)) (hk : k ≠ s.size) : unqL s = none := by unfold unqL; rw [h]; simp [hk]
theorem unq_yes {s : ByteArray} {l : List UInt8} {k : Nat} (h : quotedAt s 0 = some (l, k)) (hk : k = s.size) : unqL s = some l := by unfold unqL; rw [h]; simp [hk]
theorem quoted_one {s : ByteArray} (h : s.size < 2) : quotedAt s 0 = none := by
  cases e : quotedAt s 0 with
  | none => rfl
  | some p => have := quotedAt_bd e; omega
/-- what a text that is one quoted text means -/
theorem Rd.all {s : ByteArray} {l t : List UInt8} {k : Nat} (hq : quotedAt s 0 = some (l, s.size)) (hs : 0 < s.size) (hs0 : s[0] = 34) (h : Rd s 1 k t) :
    (∀ hk : k < s.size, s[k] = 34 → k + 1 = s.size ∧ t = l) ∧ (s.size ≤ k → False) ∧ (∀ hk : k < s.size, s[k] = 92 → ∃ hk' : k + 1 < s.size, escB s[k + 1] = true) := by
  have hr : ∀ o, rdq (s.data.toList.drop 1) = o → o ≠ none ∧ ∀ p, o = some p → p.1 = l ∧ s.size ≤ s.size - p.2.length := by
    intro o ho
    have e := quotedAt_is hs hs0
    rw [hq, Nat.zero_add, ho] at e
    cases o with
    | none => cases e
    | some p =>
      simp only [Option.map_some, Option.some.injEq, Prod.mk.injEq] at e
      exact ⟨nofun, fun q hq' => by cases hq'; exact ⟨e.1.symm, by omega⟩⟩
  refine ⟨fun hk h1 => ?_, fun hk => ?_, fun hk h1 => ?_⟩
  · have := (hr _ (h.done hk h1)).2 _ rfl
    simp only [List.length_drop, Array.length_toList] at this
    have e : s.data.size = s.size := rfl
    rw [e] at this
    exact ⟨by omega, this.1⟩
  · exact (hr _ (h.cut hk)).1 rfl
  · by_cases hk' : k + 1 < s.size
    · refine ⟨hk', ?_⟩
      cases hc : escB s[k + 1]
      · exact absurd rfl (hr _ (h.bad hk' h1 hc)).1
      · rfl
    · exact absurd rfl (hr _ (h.cut2 (by omega) h1)).1
set_option maxRecDepth 100000 in
set_option maxHeartbeats 1000000 in
theorem sUnq_any (s : ByteArray) (hs : s.size ≤ 1048576) (w : World) :
    Calls Tryd.prog 86 #[.string s] w fun e w' => e = .returned (unqV (unqL s)) ∧ Below w.heap.size w w' := by
  by_cases h2 : s.size < 2
  · have HE := Lib.hid (unq_no (quoted_one h2))
    go_enter Tryd.func86, Tryd.ntmps86
    go_wp2
    go_ret2
    exact ⟨ret_val (by rw [HE.out]; rfl), Below.refl _ _⟩
  · have hp : 0 < s.size := by omega
    by_cases h34 : s[0] = 34
    · have H1 : ((s[0].toNat : Int) != 34) = false := byte_bne h34
      have H34 := Lib.hid h34
      have HR := Lib.hid (rdAt_of hp h34)
      clear h34
      cases hq : quotedAt s 0 with
      | none =>
        have HQ := Lib.hid (HR.out.trans hq)
        have HE := Lib.hid (unq_no hq)
        clear hq
        have hk1 : ((-1 : Int) != (s.size : Int)) = true := by simp only [bne_iff_ne, ne_eq]; omega
        go_enter Tryd.func86, Tryd.ntmps86
        go_wp2_with (go_at_call 85; refine (sEnd_any _ hs 0 hp _).mono ?_; rw [HQ.out]; unfold endV; rintro e w' ⟨rfl, rfl⟩)
        go_ret2
        exact ⟨ret_val (by rw [HE.out]; rfl), Below.refl _ _⟩
      | some p =>
        obtain ⟨l, k⟩ := p
        have HQ := Lib.hid (HR.out.trans hq)
        have hbd := quotedAt_bd hq
        simp only at hbd
        obtain ⟨hb1, hb2, hb3⟩ := hbd
        by_cases hk : k = s.size
        · have HE := Lib.hid (unq_yes hq hk)
          subst hk
          have HB := Lib.hid hq
          have hk1 : ((s.size : Int) != (s.size : Int)) = false := by simp
          clear hq
          go_enter Tryd.func86, Tryd.ntmps86
          go_wp2_with (go_at_call 85; refine (sEnd_any _ hs 0 hp _).mono ?_; rw [HQ.out]; unfold endV; rintro e w' ⟨rfl, rfl⟩)
          go_loopw [4, 5] (fun v i wr => ∃ (k : Nat) (t : List UInt8), k ≤ s.size ∧ t.length + 1 ≤ k ∧ i = .int .i64 k ∧ Buf w.heap.size v t w wr ∧ Hid (Rd s 1 k t)) (fun _ i _ => s.size - (intOf i).toNat)
          case atStart => exact ⟨1, [], by omega, by simp, rfl, buf_none (Below.refl _ _), Lib.hid (Rd.start s 1)⟩
          case round =>
            obtain ⟨k, t, hk, hl, rfl, hb, HD⟩ := hrel
            obtain ⟨ha1, ha2, ha3⟩ := Rd.all HB.out hp H34.out HD.out
            by_cases hlt : k + 1 < s.size
            · have hn34 : s[k] ≠ 34 := fun e => by have := (ha1 (by omega) e).1; omega
              by_cases h92 : s[k] = 92
              · have H3 : ((s[k].toNat : Int) == 92) = true := byte_is h92
                obtain ⟨_, hesc⟩ := ha3 (by omega) h92
                have HN := Lib.hid (HD.out.esc hlt h92 hesc)
                clear hesc h92 hn34 ha1 ha2 ha3
                go_wp2_with (at_builtin; refine buf_append rfl _ _ rfl _ _ _ rfl _ _ _ hb rfl s[k + 1] rfl (by omega) ?_; clear hb; intro v1 w1 hb)
                go_roundw
                case rel => exact ⟨k + 2, _, by omega, by simp; omega, by go_num, hb, HN⟩
                case measure => simp [intOf]; omega
              · have H3 : ((s[k].toNat : Int) == 92) = false := byte_ne (d := 92) h92
                have HN := Lib.hid (HD.out.on (by omega) hn34 h92)
                clear h92 hn34 ha1 ha2 ha3
                go_wp2_with (at_builtin; refine buf_append rfl _ _ rfl _ _ _ rfl _ _ _ hb rfl s[k] rfl (by omega) ?_; clear hb; intro v1 w1 hb)
                go_roundw
                case rel => exact ⟨k + 1, _, by omega, by simp; omega, by go_num, hb, HN⟩
                case measure => simp [intOf]; omega
            · have HL : Hid (t = l) := Lib.hid (by
                by_cases hlt' : k < s.size
                · by_cases h34' : s[k] = 34
                  · exact (ha1 hlt' h34').2
                  · by_cases h92 : s[k] = 92
                    · obtain ⟨h, _⟩ := ha3 hlt' h92; omega
                    · exact absurd (Nat.le_of_not_lt (fun h => hlt h)) (fun h => (Rd.all HB.out hp H34.out (HD.out.on hlt' h34' h92)).2.1 h)
                · exact absurd (ha2 (by omega)) id)
              clear ha1 ha2 ha3
              have hcv := buf_str hb
              go_wp2
              go_ret2
              exact ⟨ret_val (by rw [HE.out, HL.out]; rfl), hb.below⟩
        · have HE := Lib.hid (unq_rest hq hk)
          have hk1 : ((k : Int) != (s.size : Int)) = true := by simp only [bne_iff_ne, ne_eq]; omega
          clear hq
          go_enter Tryd.func86, Tryd.ntmps86
          go_wp2_with (go_at_call 85; refine (sEnd_any _ hs 0 hp _).mono ?_; rw [HQ.out]; unfold endV; rintro e w' ⟨rfl, rfl⟩)
          go_ret2
          exact ⟨ret_val (by rw [HE.out]; rfl), Below.refl _ _⟩
    · have H1 : ((s[0].toNat : Int) != 34) = true := byte_nbne (d := 34) h34
      have HE := Lib.hid (unq_no (quotedAt_not hp h34))
      clear h34
      go_enter Tryd.func86, Tryd.ntmps86
      go_wp2
      go_ret2
      exact ⟨ret_val (by rw [HE.out]; rfl), Below.refl _ _⟩
end Go.Proofs.YtldjkjdmadoaoaaDoor
