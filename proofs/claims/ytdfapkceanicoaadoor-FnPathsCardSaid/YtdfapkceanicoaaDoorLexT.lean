/- MERGED for a claim: UnqB LexT. -/
import Derived.Test.YtdfapkceanicoaaDoorUnq
import Derived.Test.YtdfapkceanicoaaDoorLexC
set_option linter.unusedVariables false
set_option linter.unusedSimpArgs false
/- CHAPTER 2, SIXTH PART: spec's l2End and UnquoteText. -/
namespace Go.Proofs.YtdfapkceanicoaaDoor
open Go.RowKit

set_option maxRecDepth 100000 in
set_option maxHeartbeats 1000000 in
theorem sEnd_any (s : ByteArray) (hs : s.size ≤ 1048576) (a : Nat) (ha : a < s.size) (w : World) :
    Calls Tryd.prog 84 #[.string s, .int .i64 a] w fun e w' => e = .returned (endV (rdAt s a)) ∧ w = w' := by
  go_enter Tryd.func84, Tryd.ntmps84
  go_wp2
  go_loop [5] (fun i => ∃ (k : Nat) (l : List UInt8), k ≤ s.size ∧ i = .int .i64 k ∧ Hid (Rd s (a + 1) k l)) (fun i => s.size - (intOf i).toNat)
  case atStart => exact ⟨a + 1, [], by omega, by go_num, Lib.hid (Rd.start s _)⟩
  case round =>
    obtain ⟨k, l, hk, rfl, HR⟩ := hrel
    by_cases hlt : k < s.size
    · by_cases h1 : s[k] = 34
      · have H2 : ((s[k].toNat : Int) == 34) = true := byte_is h1
        have HE := Lib.hid (rdAt_some (HR.out.done hlt h1) (by omega))
        clear h1
        go_wp2
        go_ret
        exact ⟨ret_val (by rw [HE.out]; rfl), rfl⟩
      · have H2 : ((s[k].toNat : Int) == 34) = false := byte_ne (d := 34) h1
        by_cases h2 : s[k] = 92
        · have H3 : ((s[k].toNat : Int) == 92) = true := byte_is h2
          have HX := Lib.hid h2
          clear h1 h2
          by_cases hlt2 : k + 1 < s.size
          · have hk2 : ((k : Int) + 1 == (s.size : Int)) = false := by simp only [beq_eq_false_iff_ne, ne_eq]; omega
            by_cases hc1 : s[k + 1] = 34
            · have hn := byte_bne hc1
              have HN : ((s[k + 1].toNat : Int) != 34) = false := hn
              have HC := Lib.hid (HR.out.esc hlt2 HX.out (by rw [hc1]; rfl))
              clear hc1 hn
              go_wp2
              go_round
              case rel => exact ⟨k + 2, _, by omega, by go_num, HC⟩
              case measure => simp [intOf]; omega
            · have HN : ((s[k + 1].toNat : Int) != 34) = true := byte_nbne (d := 34) hc1
              by_cases hc2 : s[k + 1] = 92
              · have HM : ((s[k + 1].toNat : Int) != 92) = false := byte_bne hc2
                have HC := Lib.hid (HR.out.esc hlt2 HX.out (by rw [hc2]; rfl))
                clear hc1 hc2
                go_wp2
                go_round
                case rel => exact ⟨k + 2, _, by omega, by go_num, HC⟩
                case measure => simp [intOf]; omega
              · have HM : ((s[k + 1].toNat : Int) != 92) = true := byte_nbne (d := 92) hc2
                have HE := Lib.hid (rdAt_none (HR.out.bad hlt2 HX.out (esc_not hc1 hc2)))
                clear hc1 hc2
                go_wp2
                go_ret
                exact ⟨ret_val (by rw [HE.out]; rfl), rfl⟩
          · have HE := Lib.hid (rdAt_none (HR.out.cut2 (by omega) HX.out))
            have hk2 : ((k : Int) + 1 == (s.size : Int)) = true := by simp only [beq_iff_eq]; omega
            go_wp2
            go_ret
            exact ⟨ret_val (by rw [HE.out]; rfl), rfl⟩
        · have H3 : ((s[k].toNat : Int) == 92) = false := byte_ne (d := 92) h2
          have HC := Lib.hid (HR.out.on hlt h1 h2)
          clear h1 h2
          go_wp2
          go_round
          case rel => exact ⟨k + 1, _, by omega, by go_num, HC⟩
          case measure => simp [intOf]; omega
    · have HE := Lib.hid (rdAt_none (HR.out.cut (by omega)))
      go_wp2
      go_ret
      exact ⟨ret_val (by rw [HE.out]; rfl), rfl⟩
theorem rdAt_of {s : ByteArray} {a : Nat} (h : a < s.size) (h' : s[a] = 34) : rdAt s a = quotedAt s a := (quotedAt_is h h').symm
theorem unq_no {s : ByteArray} (h : quotedAt s 0 = none) : unqL s = none := by unfold unqL; rw [h]; rfl
theorem unq_rest {s : ByteArray} {l : List UInt8} {k : Nat} (h : quotedAt s 0 = some (l, k)) (hk : k ≠ s.size) : unqL s = none := by unfold unqL; rw [h]; simp [hk]
theorem unq_yes {s : ByteArray} {l : List UInt8} {k : Nat} (h : quotedAt s 0 = some (l, k)) (hk : k = s.size) : unqL s = some l := by unfold unqL; rw [h]; simp [hk]
theorem quoted_one {s : ByteArray} (h : s.size < 2) : quotedAt s 0 = none := by
  cases e : quotedAt s 0 with
  | none => rfl
  | some p => have := quotedAt_bd e; omega
/-- what a text that is one quoted text means -/
theorem Rd.all {s : ByteArray} {l t : List UInt8} {k : Nat} (hq : quotedAt s 0 = some (l, s.size)) (hs : 0 < s.size) (hs0 : s[0] = 34) (h : Rd s 1 k t) :
    (∀ hk : k < s.size, s[k] = 34 → k + 1 = s.size ∧ t = l) ∧ (s.size ≤ k → False) ∧ (∀ hk : k < s.size, s[k] = 92 → ∃ hk' : k + 1 < s.size, escB s[k + 1] = true) := by
  have hr : ∀ o, rdq (s.data.toList.drop 1) = o → o ≠ none ∧ ∀ p, o = some p → p.1 = l ∧ s.size ≤ s.size - p.2.length := by
    intro o ho
    have e := quotedAt_is hs hs0
    rw [hq, Nat.zero_add, ho] at e
    cases o with
    | none => cases e
    | some p =>
      simp only [Option.map_some, Option.some.injEq, Prod.mk.injEq] at e
      exact ⟨nofun, fun q hq' => by cases hq'; exact ⟨e.1.symm, by omega⟩⟩
  refine ⟨fun hk h1 => ?_, fun hk => ?_, fun hk h1 => ?_⟩
  · have := (hr _ (h.done hk h1)).2 _ rfl
    simp only [List.length_drop, Array.length_toList] at this
    have e : s.data.size = s.size := rfl
    rw [e] at this
    exact ⟨by omega, this.1⟩
  · exact (hr _ (h.cut hk)).1 rfl
  · by_cases hk' : k + 1 < s.size
    · refine ⟨hk', ?_⟩
      cases hc : escB s[k + 1]
      · exact absurd rfl (hr _ (h.bad hk' h1 hc)).1
      · rfl
    · exact absurd rfl (hr _ (h.cut2 (by omega) h1)).1
set_option maxRecDepth 100000 in
set_option maxHeartbeats 1000000 in
theorem sUnq_any (s : ByteArray) (hs : s.size ≤ 1048576) (w : World) :
    Calls Tryd.prog 85 #[.string s] w fun e w' => e = .returned (unqV (unqL s)) ∧ Below w.heap.size w w' := by
  by_cases h2 : s.size < 2
  · have HE := Lib.hid (unq_no (quoted_one h2))
    go_enter Tryd.func85, Tryd.ntmps85
    go_wp2
    go_ret2
    exact ⟨ret_val (by rw [HE.out]; rfl), Below.refl _ _⟩
  · have hp : 0 < s.size := by omega
    by_cases h34 : s[0] = 34
    · have H1 : ((s[0].toNat : Int) != 34) = false := byte_bne h34
      have H34 := Lib.hid h34
      have HR := Lib.hid (rdAt_of hp h34)
      clear h34
      cases hq : quotedAt s 0 with
      | none =>
        have HQ := Lib.hid (HR.out.trans hq)
        have HE := Lib.hid (unq_no hq)
        clear hq
        have hk1 : ((-1 : Int) != (s.size : Int)) = true := by simp only [bne_iff_ne, ne_eq]; omega
        go_enter Tryd.func85, Tryd.ntmps85
        go_wp2_with (go_at_call 84; refine (sEnd_any _ hs 0 hp _).mono ?_; rw [HQ.out]; unfold endV; rintro e w' ⟨rfl, rfl⟩)
        go_ret2
        exact ⟨ret_val (by rw [HE.out]; rfl), Below.refl _ _⟩
      | some p =>
        obtain ⟨l, k⟩ := p
        have HQ := Lib.hid (HR.out.trans hq)
        have hbd := quotedAt_bd hq
        simp only at hbd
        obtain ⟨hb1, hb2, hb3⟩ := hbd
        by_cases hk : k = s.size
        · have HE := Lib.hid (unq_yes hq hk)
          subst hk
          have HB := Lib.hid hq
          have hk1 : ((s.size : Int) != (s.size : Int)) = false := by simp
          clear hq
          go_enter Tryd.func85, Tryd.ntmps85
          go_wp2_with (go_at_call 84; refine (sEnd_any _ hs 0 hp _).mono ?_; rw [HQ.out]; unfold endV; rintro e w' ⟨rfl, rfl⟩)
          go_loopw [4, 5] (fun v i wr => ∃ (k : Nat) (t : List UInt8), k ≤ s.size ∧ t.length + 1 ≤ k ∧ i = .int .i64 k ∧ Buf w.heap.size v t w wr ∧ Hid (Rd s 1 k t)) (fun _ i _ => s.size - (intOf i).toNat)
          case atStart => exact ⟨1, [], by omega, by simp, rfl, buf_none (Below.refl _ _), Lib.hid (Rd.start s 1)⟩
          case round =>
            obtain ⟨k, t, hk, hl, rfl, hb, HD⟩ := hrel
            obtain ⟨ha1, ha2, ha3⟩ := Rd.all HB.out hp H34.out HD.out
            by_cases hlt : k + 1 < s.size
            · have hn34 : s[k] ≠ 34 := fun e => by have := (ha1 (by omega) e).1; omega
              by_cases h92 : s[k] = 92
              · have H3 : ((s[k].toNat : Int) == 92) = true := byte_is h92
                obtain ⟨_, hesc⟩ := ha3 (by omega) h92
                have HN := Lib.hid (HD.out.esc hlt h92 hesc)
                clear hesc h92 hn34 ha1 ha2 ha3
                go_wp2_with (at_builtin; refine buf_append rfl _ _ rfl _ _ _ rfl _ _ _ hb rfl s[k + 1] rfl (by omega) ?_; clear hb; intro v1 w1 hb)
                go_roundw
                case rel => exact ⟨k + 2, _, by omega, by simp; omega, by go_num, hb, HN⟩
                case measure => simp [intOf]; omega
              · have H3 : ((s[k].toNat : Int) == 92) = false := byte_ne (d := 92) h92
                have HN := Lib.hid (HD.out.on (by omega) hn34 h92)
                clear h92 hn34 ha1 ha2 ha3
                go_wp2_with (at_builtin; refine buf_append rfl _ _ rfl _ _ _ rfl _ _ _ hb rfl s[k] rfl (by omega) ?_; clear hb; intro v1 w1 hb)
                go_roundw
                case rel => exact ⟨k + 1, _, by omega, by simp; omega, by go_num, hb, HN⟩
                case measure => simp [intOf]; omega
            · have HL : Hid (t = l) := Lib.hid (by
                by_cases hlt' : k < s.size
                · by_cases h34' : s[k] = 34
                  · exact (ha1 hlt' h34').2
                  · by_cases h92 : s[k] = 92
                    · obtain ⟨h, _⟩ := ha3 hlt' h92; omega
                    · exact absurd (Nat.le_of_not_lt (fun h => hlt h)) (fun h => (Rd.all HB.out hp H34.out (HD.out.on hlt' h34' h92)).2.1 h)
                · exact absurd (ha2 (by omega)) id)
              clear ha1 ha2 ha3
              have hcv := buf_str hb
              go_wp2
              go_ret2
              exact ⟨ret_val (by rw [HE.out, HL.out]; rfl), hb.below⟩
        · have HE := Lib.hid (unq_rest hq hk)
          have hk1 : ((k : Int) != (s.size : Int)) = true := by simp only [bne_iff_ne, ne_eq]; omega
          clear hq
          go_enter Tryd.func85, Tryd.ntmps85
          go_wp2_with (go_at_call 84; refine (sEnd_any _ hs 0 hp _).mono ?_; rw [HQ.out]; unfold endV; rintro e w' ⟨rfl, rfl⟩)
          go_ret2
          exact ⟨ret_val (by rw [HE.out]; rfl), Below.refl _ _⟩
    · have H1 : ((s[0].toNat : Int) != 34) = true := byte_nbne (d := 34) h34
      have HE := Lib.hid (unq_no (quotedAt_not hp h34))
      clear h34
      go_enter Tryd.func85, Tryd.ntmps85
      go_wp2
      go_ret2
      exact ⟨ret_val (by rw [HE.out]; rfl), Below.refl _ _⟩
end Go.Proofs.YtdfapkceanicoaaDoor

/- CHAPTER 3, spec: Lex. -/
namespace Go.Proofs.YtdfapkceanicoaaDoor
open Go.RowKit

theorem Sf.to {s : ByteArray} {k j : Nat} {acc T' T : List Tok} {e : Option Nat} (h : Sf s k acc T' T e) (hs : skip false (s.data.toList.drop k) = skip false (s.data.toList.drop j)) : Sf s j acc T' T e := ⟨h.1.skip hs, h.2⟩
theorem Sf.one {s : ByteArray} {k : Nat} {acc T' T : List Tok} {e : Option Nat} (h : Sf s k acc T' T e) (hk : k < s.size) (h0 : skip false (s.data.toList.drop k) = s.data.toList.drop k) {kd : Int} {t : List UInt8} {z : Nat} (ht : tokL (s.data.toList.drop k) = some (kd, t, z)) :
    ∃ T2, k < k + z ∧ k + z ≤ s.size ∧ Sf s (k + z) (acc ++ [⟨kd, ⟨t.toArray⟩, k⟩]) T2 T e := by
  rcases h.parts hk h0 with ⟨h1, _, _⟩ | ⟨kd', t', z', T2, h1, h2, h3, _, h4⟩
  · rw [ht] at h1; cases h1
  · rw [ht] at h1; cases h1
    exact ⟨T2, by omega, h3, h4⟩
theorem Sf.non {s : ByteArray} {k : Nat} {acc T' T : List Tok} {e : Option Nat} (h : Sf s k acc T' T e) (hk : k < s.size) (h0 : skip false (s.data.toList.drop k) = s.data.toList.drop k) (ht : tokL (s.data.toList.drop k) = none) : e = some k := by
  rcases h.parts hk h0 with ⟨_, _, h1⟩ | ⟨kd', t', z', T2, h1, _⟩
  · exact h1
  · rw [ht] at h1; cases h1
theorem ex_to {s : ByteArray} {k m z : Nat} (h : m = k + z) : s.extract k m = ⟨((s.data.toList.drop k).take z).toArray⟩ := by subst h; exact ex_take s k z
theorem unq_ex {s : ByteArray} {k : Nat} (hk : k < s.size) (h34 : s[k] = 34) {t r : List UInt8} (hr : rdq (s.data.toList.drop (k + 1)) = some (t, r)) : unqL (s.extract k (s.size - r.length)) = some t := by
  obtain ⟨u, hu, _, hx⟩ := rdq_split _ _ t r (Nat.le_refl _) hr
  have hlen : u.length + r.length = s.size - (k + 1) := by rw [← dlen, hu, List.length_append]
  have hd : (s.extract k (s.size - r.length)).data.toList = 34 :: u := by
    rw [Lib.extract_data, data_drop s k hk, h34, hu, show s.size - r.length - k = u.length + 1 by omega, List.take_succ_cons, List.take_left]
  have hsz : (s.extract k (s.size - r.length)).size = u.length + 1 := by
    have : (s.extract k (s.size - r.length)).size = (s.extract k (s.size - r.length)).data.toList.length := by rw [Array.length_toList]; rfl
    rw [this, hd, List.length_cons]
  have hx0 := hx []
  rw [List.append_nil] at hx0
  unfold unqL quotedAt
  rw [hd]
  simp [hx0, hsz]
/-- what every way through the loop asks of its token -/
theorem Sf.word {s : ByteArray} {k : Nat} {acc T' T : List Tok} {e : Option Nat} (h : Sf s k acc T' T e) (hk : k < s.size) (h0 : skip false (s.data.toList.drop k) = s.data.toList.drop k) {kd : Int} {z : Nat} (ht : tokL (s.data.toList.drop k) = some (kd, (s.data.toList.drop k).take z, z)) :
    ∃ T2, k < k + z ∧ k + z ≤ s.size ∧ Sf s (k + z) (acc ++ [⟨kd, s.extract k (k + z), k⟩]) T2 T e := by
  rw [ex_take]; exact h.one hk h0 ht
/-- how far the loop has come -/
def At (s : ByteArray) (T : List Tok) (e : Option Nat) (w : World) (v i : Value) (wr : World) : Prop :=
  ∃ (k g c n : Nat) (acc T' : List Tok), k ≤ s.size ∧ n ≤ k ∧ i = .int .i64 k ∧ v = .slice (some ⟨g, 0, none⟩) n c ∧ RowT w.heap.size wr (.slice (some ⟨g, 0, none⟩) n c) acc ∧ Hid (Sf s k acc T' T e) ∧ Below w.heap.size w wr
set_option maxRecDepth 100000 in
set_option maxHeartbeats 4000000 in
theorem sLex_any (s : ByteArray) (hs : s.size ≤ 1048576) (T : List Tok) (e : Option Nat) (hL : Lx s.size s.data.toList T e) (w : World) :
    Calls Tryd.prog 52 #[.string s] w fun en w' => ∃ v, en = .returned (.tuple #[v, .int .i64 (lexI e)]) ∧ RowT w.heap.size w' v (lexT T e) ∧ Below w.heap.size w w' := by
  have H0 := Lib.hid (Sf.start hL)
  clear hL
  go_enter Tryd.func52, Tryd.ntmps52
  go_wp2
  go_loopw [4, 5] (fun v i wr => At s T e w v i wr) (fun _ i _ => s.size - (intOf i).toNat)
  case atStart => exact ⟨0, w.heap.size, 0, 0, [], T, Nat.zero_le _, Nat.zero_le _, rfl, rfl, rowR_empty (heap_alloc_new w _) (Nat.le_refl _), H0, below_al (Below.refl _ _) _⟩
  case round =>
    clear H0
    obtain ⟨k, g, c, n, acc, T', hk, hnk, rfl, rfl, hrow, HF, hbel⟩ := hrel
    have hgB := (RowR.lt hrow rfl).1
    by_cases hlt : k < s.size
    · have hd := data_drop s k hlt
      by_cases h32 : s[k] = 32
      · have t1 : ((s[k].toNat : Int) == 32) = true := byte_on h32
        have HN := Lib.hid (HF.out.to (j := k + 1) (by rw [hd, skip_blank (.inl h32)]))
        clear hd h32 HF
        go_wp2
        go_roundw
        case rel => exact ⟨k + 1, g, c, n, acc, T', by omega, by omega, by go_num, rfl, hrow, HN, hbel⟩
        case measure => simp [intOf]; omega
      · have t1 : ((s[k].toNat : Int) == 32) = false := byte_ne (d := 32) h32
        by_cases h10 : s[k] = 10
        · have t2 : ((s[k].toNat : Int) == 10) = true := byte_on h10
          have HN := Lib.hid (HF.out.to (j := k + 1) (by rw [hd, skip_blank (.inr h10)]))
          clear hd h32 h10 HF
          go_wp2
          go_roundw
          case rel => exact ⟨k + 1, g, c, n, acc, T', by omega, by omega, by go_num, rfl, hrow, HN, hbel⟩
          case measure => simp [intOf]; omega
        · have t2 : ((s[k].toNat : Int) == 10) = false := byte_ne (d := 10) h10
          by_cases h35 : s[k] = 35
          · have t3 : ((s[k].toNat : Int) == 35) = true := byte_on h35
            have HR := Lib.hid (by rw [hd, skip_hash h35] : skip false (s.data.toList.drop k) = skip true (s[k] :: s.data.toList.drop (k + 1)))
            rw [← hd] at HR
            clear hd h32
            go_wp2
            obtain ⟨wo, rfl⟩ : ∃ wo : World, wo = wr := ⟨_, rfl⟩
            go_loopw [5] (fun i wx => ∃ j : Nat, k ≤ j ∧ j ≤ s.size ∧ i = .int .i64 j ∧ Hid (skip false (s.data.toList.drop k) = skip true (s.data.toList.drop j)) ∧ wx = wo) (fun i _ => s.size - (intOf i).toNat)
            case atStart => exact ⟨k, Nat.le_refl _, by omega, rfl, HR, rfl⟩
            case round =>
              clear HR t1 t2 t3
              obtain ⟨j, hkj, hj, rfl, HJ, rfl⟩ := hrel
              by_cases hjl : j < s.size
              · have hd := data_drop s j hjl
                by_cases hj10 : s[j] = 10
                · have t1 : ((s[j].toNat : Int) != 10) = false := byte_bne (d := 10) hj10
                  have hne : j ≠ k := by rintro rfl; exact h10 hj10
                  have HN := Lib.hid (HF.out.to (j := j) (by rw [HJ.out, hd, skip_line hj10]))
                  clear hd hj10 h10 h35 HF
                  go_wp2
                  go_roundw
                  case rel => exact ⟨j, g, c, n, acc, T', by omega, by omega, rfl, rfl, hrow, HN, hbel⟩
                  case measure => simp [intOf]; omega
                · have t1 : ((s[j].toNat : Int) != 10) = true := byte_nbne (d := 10) hj10
                  have HN : Hid (skip false (s.data.toList.drop k) = skip true (s.data.toList.drop (j + 1))) := Lib.hid (by rw [HJ.out, hd, skip_in hj10])
                  clear hd hj10 h10 h35
                  go_wp2
                  go_roundw
                  case rel => exact ⟨j + 1, by omega, by omega, by go_num, HN, trivial⟩
                  case measure => simp [intOf]; omega
              · have HN := Lib.hid (HF.out.to (j := j) (by rw [HJ.out, List.drop_eq_nil_of_le (by simp; omega), skip_nil, skip_nil]))
                clear h10 h35 HF
                go_wp2
                go_roundw
                case rel => exact ⟨j, g, c, n, acc, T', by omega, by omega, rfl, rfl, hrow, HN, hbel⟩
                case measure => simp [intOf]; omega
          · have t3 : ((s[k].toNat : Int) == 35) = false := byte_ne (d := 35) h35
            have h0 : skip false (s.data.toList.drop k) = s.data.toList.drop k := by rw [hd]; exact skip_stop h32 h10 h35
            clear h32 h10 h35
            cases h1 : letB s[k]
            · cases h2 : digB s[k]
              · by_cases h3 : s[k] = 34
                · have t4 : ((s[k].toNat : Int) == 34) = true := byte_on h3
                  have hq := tokL_quo (r := s.data.toList.drop (k + 1)) h3
                  rw [← hd] at hq
                  have C := sEnd_any s hs k hlt
                  cases hr : rdq (s.data.toList.drop (k + 1)) with
                  | none =>
                    rw [hr] at hq
                    obtain rfl := HF.out.non hlt h0 hq
                    rw [rdAt_none hr] at C
                    simp only [endV] at C
                    clear hr hq hd h0 HF h3
                    go_wp2_with (first
                    | (go_at_call 81; refine (s3Let_any _ _).mono ?_; rw [h1]; rintro e w' ⟨rfl, rfl⟩)
                    | (go_at_call 83; refine (s3Dig_any _ _).mono ?_; rw [h2]; rintro e w' ⟨rfl, rfl⟩)
                    | (go_at_call 84; refine (C _).mono ?_; rintro e w' ⟨rfl, rfl⟩))
                    go_ret2
                    exact ⟨_, rfl, rowR_empty (heap_alloc_new _ _) hbel.size, below_al hbel _⟩
                  | some p =>
                    rw [hr] at hq
                    obtain ⟨T2, hm0, hm1, HN⟩ := HF.out.one hlt h0 hq
                    have hsh := rdq_short _ _ p.1 p.2 (Nat.le_refl _) hr
                    rw [dlen] at hsh
                    rw [dlen, show k + (s.size - (k + 1) + 1 - p.2.length) = s.size - p.2.length by omega] at HN hm0 hm1
                    have HN := Lib.hid HN
                    have hE : rdAt s k = some (p.1, s.size - p.2.length) := by unfold rdAt; rw [hr]; rfl
                    have hU := unq_ex hlt h3 hr
                    rw [hE] at C
                    simp only [endV] at C
                    have D := sUnq_any (s.extract k (s.size - p.2.length)) (by simp; omega)
                    rw [hU] at D
                    simp only [unqV] at D
                    clear hr hq hd h0 HF h3 hE hU hsh
                    generalize s.size - p.2.length = m at C D HN hm0 hm1
                    have HA : Hid (n + 1 ≤ m) := Lib.hid (by omega)
                    go_wp2_with (first
                    | (go_at_call 81; refine (s3Let_any _ _).mono ?_; rw [h1]; rintro e w' ⟨rfl, rfl⟩)
                    | (go_at_call 83; refine (s3Dig_any _ _).mono ?_; rw [h2]; rintro e w' ⟨rfl, rfl⟩)
                    | (go_at_call 84; refine (C _).mono ?_; rintro e w' ⟨rfl, rfl⟩)
                    | (go_at_call 85; refine (D _).mono ?_; rintro e w1 ⟨rfl, hb⟩; have hrow := RowR.below hrow hb; have hbel := below_step hbel hb; clear hb)
                    | (at_builtin; refine wpList_tok_append rfl _ _ rfl w.heap.size g n c _ rfl hrow ⟨3, ⟨p.1.toArray⟩, k⟩ _ rfl rfl (by omega) hbel.size (n + 1) rfl ?_; intro g' c'' w2 hrow2 hg2))
                    go_roundw
                    case rel => exact ⟨m, g', c'', n + 1, _, T2, hm1, HA.out, rfl, rfl, hrow2, HN, (below_al hbel _).grown hg2 (below_al hbel _).size (fun _ h => by cases h; exact hgB)⟩
                    case measure => simp [intOf]; omega
                · have t4 : ((s[k].toNat : Int) == 34) = false := byte_ne (d := 34) h3
                  have D := sMark_any s hs k hlt
                  by_cases h4 : mkLen (s.data.toList.drop k) = 0
                  · have hq := tokL_non (r := s.data.toList.drop (k + 1)) h1 h2 h3 (by rw [← hd]; exact h4)
                    rw [← hd] at hq
                    obtain rfl := HF.out.non hlt h0 hq
                    rw [h4] at D
                    simp only [List.take_zero] at D
                    clear hq hd h0 HF h3 h4
                    go_wp2_with (first
                    | (go_at_call 81; refine (s3Let_any _ _).mono ?_; rw [h1]; rintro e w' ⟨rfl, rfl⟩)
                    | (go_at_call 83; refine (s3Dig_any _ _).mono ?_; rw [h2]; rintro e w' ⟨rfl, rfl⟩)
                    | (go_at_call 86; refine (D _).mono ?_; rintro e w1 ⟨rfl, hb⟩; have hbel := below_step hbel hb; clear hb))
                    go_ret2
                    exact ⟨_, rfl, rowR_empty (heap_alloc_new _ _) hbel.size, below_al hbel _⟩
                  · have hq := tokL_mrk (r := s.data.toList.drop (k + 1)) h1 h2 h3 (by rw [← hd]; exact h4)
                    rw [← hd] at hq
                    obtain ⟨T2, hm0, hm1, HN⟩ := HF.out.one hlt h0 hq
                    have HN := Lib.hid HN
                    obtain ⟨ms, hms⟩ : ∃ ms : ByteArray, ms = ⟨((s.data.toList.drop k).take (mkLen (s.data.toList.drop k))).toArray⟩ := ⟨_, rfl⟩
                    have hsz : ms.size = mkLen (s.data.toList.drop k) := by
                      rw [hms]
                      show ((s.data.toList.drop k).take (mkLen (s.data.toList.drop k))).toArray.size = _
                      rw [List.size_toArray, List.length_take]
                      have := mkLen_le (s.data.toList.drop k)
                      omega
                    have hne : ms.toList.isEmpty = false := not_empty (by omega)
                    rw [← hms] at D HN
                    rw [← hsz] at HN hm0 hm1 h4
                    clear hq hd h0 HF h3 hms hsz
                    have HA : Hid (n + 1 ≤ k + ms.size) := Lib.hid (by omega)
                    go_wp2_with (first
                    | (go_at_call 81; refine (s3Let_any _ _).mono ?_; rw [h1]; rintro e w' ⟨rfl, rfl⟩)
                    | (go_at_call 83; refine (s3Dig_any _ _).mono ?_; rw [h2]; rintro e w' ⟨rfl, rfl⟩)
                    | (go_at_call 86; refine (D _).mono ?_; rintro e w1 ⟨rfl, hb⟩; have hrow := RowR.below hrow hb; have hbel := below_step hbel hb; clear hb)
                    | (at_builtin; refine wpList_tok_append rfl _ _ rfl w.heap.size g n c _ rfl hrow ⟨4, ms, k⟩ _ rfl rfl (by omega) hbel.size (n + 1) rfl ?_; intro g' c'' w2 hrow2 hg2))
                    go_roundw
                    case rel => exact ⟨k + ms.size, g', c'', n + 1, _, T2, hm1, HA.out, by go_num, rfl, hrow2, HN, (below_al hbel _).grown hg2 (below_al hbel _).size (fun _ h => by cases h; exact hgB)⟩
                    case measure => simp [intOf]; omega
              · have hd' := tokL_dig (r := s.data.toList.drop (k + 1)) h1 h2
                rw [← hd] at hd'
                obtain ⟨T2, hm0, hm1, HN⟩ := HF.out.word hlt h0 hd'
                have HN := Lib.hid HN
                clear hd hd' h0 HF
                go_wp2_with (first
                  | (go_at_call 81; refine (s3Let_any _ _).mono ?_; rw [h1]; rintro e w' ⟨rfl, rfl⟩)
                  | (go_at_call 83; refine (s3Dig_any _ _).mono ?_; rw [h2]; rintro e w' ⟨rfl, rfl⟩))
                obtain ⟨wo, rfl⟩ : ∃ wo : World, wo = wr := ⟨_, rfl⟩
                have H2 := Lib.hid h2
                clear h1 h2 t1 t2 t3
                go_loopw [5] (fun i wx => ∃ j : Nat, k ≤ j ∧ j ≤ s.size ∧ i = .int .i64 j ∧ Hid (∀ q (h : q < s.size), k ≤ q → q < j → digB s[q] = true) ∧ wx = wo) (fun i _ => s.size - (intOf i).toNat)
                case atStart => exact ⟨k, Nat.le_refl _, by omega, rfl, Lib.hid (fun _ _ _ h => by omega), rfl⟩
                case round =>
                  obtain ⟨j, hkj, hj, rfl, HJ, rfl⟩ := hrel
                  by_cases hdg : ∃ h : j < s.size, digB s[j] = true
                  · obtain ⟨hjl, hb⟩ := hdg
                    have HB := Lib.hid hb
                    have HS := Lib.hid (fun q (h : q < s.size) (hq0 : k ≤ q) (hq : q < j + 1) => if he : q < j then HJ.out q h hq0 he else (by
                      obtain rfl : q = j := by omega
                      exact hb : digB s[q] = true))
                    clear hb
                    go_wp2_with (go_at_call 83; refine (s3Dig_any _ _).mono ?_; rw [HB.out]; rintro e w' ⟨rfl, rfl⟩)
                    go_roundw
                    case rel => exact ⟨j + 1, by omega, by omega, by go_num, HS, trivial⟩
                    case measure => simp [intOf]; omega
                  · have he : ∀ h : j < s.size, digB s[j] = false := fun h => by
                      cases hb : digB s[j]
                      · rfl
                      · exact absurd ⟨h, hb⟩ hdg
                    have hlen : k + dgLen (s.data.toList.drop k) = j := by
                      unfold dgLen; rw [tw_from hkj hj HJ.out he, List.length_take, dlen]; omega
                    rw [hlen] at HN hm0 hm1
                    have HA : Hid (n + 1 ≤ j) := Lib.hid (by omega)
                    clear hlen hdg HJ
                    by_cases hjl : j < s.size
                    · have HE := Lib.hid (he hjl)
                      clear he
                      go_wp2_with (first
                        | (go_at_call 83; refine (s3Dig_any _ _).mono ?_; rw [HE.out]; rintro e w' ⟨rfl, rfl⟩)
                        | (at_builtin; refine wpList_tok_append rfl _ _ rfl w.heap.size g n c _ rfl hrow ⟨2, s.extract k j, k⟩ _ rfl rfl (by omega) hbel.size (n + 1) rfl ?_; intro g' c'' w2 hrow2 hg2))
                      go_roundw
                      case rel => exact ⟨j, g', c'', n + 1, _, T2, hm1, HA.out, rfl, rfl, hrow2, HN, (below_al hbel _).grown hg2 (below_al hbel _).size (fun _ h => by cases h; exact hgB)⟩
                      case measure => simp [intOf]; omega
                    · clear he
                      go_wp2_with (at_builtin; refine wpList_tok_append rfl _ _ rfl w.heap.size g n c _ rfl hrow ⟨2, s.extract k j, k⟩ _ rfl rfl (by omega) hbel.size (n + 1) rfl ?_; intro g' c'' w2 hrow2 hg2)
                      go_roundw
                      case rel => exact ⟨j, g', c'', n + 1, _, T2, hm1, HA.out, rfl, rfl, hrow2, HN, (below_al hbel _).grown hg2 (below_al hbel _).size (fun _ h => by cases h; exact hgB)⟩
                      case measure => simp [intOf]; omega
            · obtain ⟨T2, hm0, hm1, HN⟩ := HF.out.word hlt h0 (by rw [hd]; exact tokL_let h1)
              rw [← hd] at HN hm0 hm1
              have C := sName_any s hs k hlt h1
              have HN := Lib.hid HN
              clear hd h0 HF
              generalize k + nmLen (s.data.toList.drop k) = m at C HN hm0 hm1
              have HA : Hid (n + 1 ≤ m) := Lib.hid (by omega)
              go_wp2_with (first
                | (go_at_call 81; refine (s3Let_any _ _).mono ?_; rw [h1]; rintro e w' ⟨rfl, rfl⟩)
                | (go_at_call 82; refine (C _).mono ?_; rintro e w' ⟨rfl, rfl⟩)
                | (at_builtin; refine wpList_tok_append rfl _ _ rfl w.heap.size g n c _ rfl hrow ⟨1, s.extract k m, k⟩ _ rfl rfl (by omega) hbel.size (n + 1) rfl ?_; intro g' c'' w2 hrow2 hg2))
              go_roundw
              case rel => exact ⟨m, g', c'', n + 1, _, T2, hm1, HA.out, rfl, rfl, hrow2, HN, (below_al hbel _).grown hg2 (below_al hbel _).size (fun _ h => by cases h; exact hgB)⟩
              case measure => simp [intOf]; omega
    · obtain ⟨rfl, rfl⟩ := HF.out.done (by omega)
      go_wp2
      go_ret2
      exact ⟨_, rfl, hrow, hbel⟩
end Go.Proofs.YtdfapkceanicoaaDoor
