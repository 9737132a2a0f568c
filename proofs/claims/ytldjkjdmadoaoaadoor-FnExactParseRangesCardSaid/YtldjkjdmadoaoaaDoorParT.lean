/- THE PARSER OF SPEC OVER TOKENS, SECOND PART: l3Is, l3Eat, l3Take, l3End, l3New. -/
import Derived.Test.YtldjkjdmadoaoaaDoorParS
import Derived.IntWalk
namespace Go.Proofs.YtldjkjdmadoaoaaDoor
open Go.RowKit NumP

section
variable {B b n cap i : Nat} {A : Option Addr} {T : List Tok} {w : World}
theorem grown_drewN (w : World) (q b : Nat) : w.grownBy (w.drewN q) (some b) := ⟨rfl, rfl, rfl, Nat.le_refl _, fun _ _ _ => rfl⟩
theorem grown_trans {a b c : World} {j : Nat} (h : a.grownBy b (some j)) (k : b.grownBy c (some j)) : a.grownBy c (some j) := h.trans k
set_option maxRecDepth 100000 in
theorem sIs_bad (m : ByteArray) (h : Par B b A n cap T i true w) :
    Calls Tryd.prog 90 #[.pointer (some ⟨b, 0, none⟩), .string m] w fun e w' => e = .returned (.bool false) ∧ ∃ q, w' = w.drewN q := by
  go_enter Tryd.func90, Tryd.ntmps90
  go_wp2_with (go_at_call 106; refine (sAt_bad 4 m h).mono ?_; rintro e w1 ⟨rfl, q, rfl⟩)
  go_ret
  exact ⟨rfl, q, rfl⟩
set_option maxRecDepth 100000 in
theorem sIs_mk (m : ByteArray) (hm : m.toList.isEmpty = false) (h : Par B b A n cap T i false w) :
    Calls Tryd.prog 90 #[.pointer (some ⟨b, 0, none⟩), .string m] w fun e w' => e = .returned (.bool (mkB (T.drop i) m)) ∧ ∃ q, w' = w.drewN q := by
  generalize hr : mkB (T.drop i) m = r
  have HM := Lib.hid hr
  clear hr
  go_enter Tryd.func90, Tryd.ntmps90
  go_wp2_with (go_at_call 106; refine (sAt_mk m hm h).mono ?_; rw [HM.out]; rintro e w1 ⟨rfl, q, rfl⟩)
  go_ret
  exact ⟨rfl, q, rfl⟩
set_option maxRecDepth 100000 in
theorem sEat_bad (m : ByteArray) (h : Par B b A n cap T i true w) :
    Calls Tryd.prog 55 #[.pointer (some ⟨b, 0, none⟩), .string m] w fun e w' => e = .returned (.bool false) ∧ Par B b A n cap T i true w' ∧ w.grownBy w' (some b) := by
  have H := Lib.hid h
  clear h
  go_enter Tryd.func55, Tryd.ntmps55
  go_wp2_with (go_at_call 90; refine (sIs_bad m H.out).mono ?_; rintro e w1 ⟨rfl, q, rfl⟩)
  go_ret
  exact ⟨rfl, H.out.drewN q, grown_drewN w q b⟩
set_option maxRecDepth 100000 in
theorem sEat_no (m : ByteArray) (hm : m.toList.isEmpty = false) (h : Par B b A n cap T i false w) (hk : mkB (T.drop i) m = false) :
    Calls Tryd.prog 55 #[.pointer (some ⟨b, 0, none⟩), .string m] w fun e w' => e = .returned (.bool false) ∧ Par B b A n cap T i false w' ∧ w.grownBy w' (some b) := by
  have H := Lib.hid h
  have HK := Lib.hid hk
  clear h hk
  go_enter Tryd.func55, Tryd.ntmps55
  go_wp2_with (go_at_call 90; refine (sIs_mk m hm H.out).mono ?_; rw [HK.out]; rintro e w1 ⟨rfl, q, rfl⟩)
  go_ret
  exact ⟨rfl, H.out.drewN q, grown_drewN w q b⟩
set_option maxRecDepth 100000 in
theorem sEat_yes (m : ByteArray) (hm : m.toList.isEmpty = false) (h : Par B b A n cap T i false w) (hk : mkB (T.drop i) m = true) :
    Calls Tryd.prog 55 #[.pointer (some ⟨b, 0, none⟩), .string m] w fun e w' => e = .returned (.bool true) ∧ Par B b A n cap T (i + 1) false w' ∧ w.grownBy w' (some b) := by
  have H := Lib.hid h
  have HK := Lib.hid hk
  have hlt := mkB_len hk
  have hn := h.size.1
  have HI : Hid (i + 1 ≤ n) := Lib.hid (by omega)
  have hib : (i : Int) + 1 ≤ 9223372036854775807 := by have := h.size.2; omega
  clear h hk hn hlt
  go_enter Tryd.func55, Tryd.ntmps55
  go_wp2_with (go_at_call 90; refine (sIs_mk m hm H.out).mono ?_; rw [HK.out]; rintro e w1 ⟨rfl, q, hq⟩; have HP := Lib.hid (H.out.drewN q); rw [← hq] at HP; have HG := Lib.hid (grown_drewN w q b); rw [← hq] at HG; clear hq; have c1 := HP.out.c1; have f1 := HP.out.f1; have HS := Lib.hid (HP.out.setI HI.out); have HG2 := Lib.hid (grownBy_set w1 b 1 (.int .i64 ((i + 1 : Nat) : Int))))
  go_ret
  rw [Int.natCast_add] at HS HG2
  exact ⟨rfl, HS.out, grown_trans HG.out HG2.out⟩
theorem Par.atk {k : Nat} {bad : Bool} (h : Par B b A n cap T i bad w) (hi : k < n) : ∃ a x r, A = some a ∧ T.drop k = x :: r ∧ w.cell? (a.add (k * 3)) = some (.int .i64 x.k) ∧ w.cell? ⟨(a.add (k * 3)).block, (a.add (k * 3)).off + 1, none⟩ = some (.string x.t) := by
  obtain ⟨hn, _⟩ := h.size
  obtain ⟨A', cap', hv, _, hc⟩ := h.tk
  cases hv
  obtain ⟨a, ha, hb, hk⟩ := HasT.tk hc k (by omega)
  exact ⟨a, T[k]'(by omega), T.drop (k + 1), ha, List.drop_eq_getElem_cons (by omega), hk.1, hk.2.1⟩
set_option maxRecDepth 100000 in
theorem sTake_bad (h : Par B b A n cap T i true w) :
    Calls Tryd.prog 89 #[.pointer (some ⟨b, 0, none⟩), .int .i64 2] w fun e w' => e = .returned (.string ⟨#[]⟩) ∧ Par B b A n cap T i true w' ∧ w.grownBy w' (some b) := by
  have H := Lib.hid h
  clear h
  go_enter Tryd.func89, Tryd.ntmps89
  go_wp2_with (go_at_call 106; refine (sAt_bad 2 _ H.out).mono ?_; rintro e w1 ⟨rfl, q, hq⟩; have HP := Lib.hid (H.out.drewN q); rw [← hq] at HP; have HG := Lib.hid (grown_drewN w q b); rw [← hq] at HG; clear hq; have c2 := HP.out.c2; have f2 := HP.out.f2; have HS := Lib.hid HP.out.setBad; have HG2 := Lib.hid (grownBy_set w1 b 2 (.bool true)))
  go_ret
  exact ⟨rfl, HS.out, grown_trans HG.out HG2.out⟩
set_option maxRecDepth 100000 in
theorem sTake_no (h : Par B b A n cap T i false w) (hk : ∀ x r, T.drop i = x :: r → ¬ x.k = 2) :
    Calls Tryd.prog 89 #[.pointer (some ⟨b, 0, none⟩), .int .i64 2] w fun e w' => e = .returned (.string ⟨#[]⟩) ∧ Par B b A n cap T i true w' ∧ w.grownBy w' (some b) := by
  have H := Lib.hid h
  have HC : Hid (∀ m, Calls Tryd.prog 106 #[.pointer (some ⟨b, 0, none⟩), .int .i64 2, .string m] w fun e w' => e = .returned (.bool false) ∧ ∃ q, w' = w.drewN q) := Lib.hid fun m => by
    rcases Nat.lt_or_ge i n with hi | hi
    · obtain ⟨a, x, r, _, hx, _⟩ := h.at hi
      exact sAt_kind 2 m h hi hx (hk x r hx)
    · exact sAt_end 2 m h (by have := h.le; omega)
  clear h hk
  go_enter Tryd.func89, Tryd.ntmps89
  go_wp2_with (go_at_call 106; refine (HC.out _).mono ?_; rintro e w1 ⟨rfl, q, hq⟩; have HP := Lib.hid (H.out.drewN q); rw [← hq] at HP; have HG := Lib.hid (grown_drewN w q b); rw [← hq] at HG; clear hq; have c2 := HP.out.c2; have f2 := HP.out.f2; have HS := Lib.hid HP.out.setBad; have HG2 := Lib.hid (grownBy_set w1 b 2 (.bool true)))
  go_ret
  exact ⟨rfl, HS.out, grown_trans HG.out HG2.out⟩
set_option maxRecDepth 100000 in
set_option maxHeartbeats 1000000 in
theorem sTake_yes (h : Par B b A n cap T i false w) {x : Tok} {r : List Tok} (hx : T.drop i = x :: r) (hk : x.k = 2) :
    Calls Tryd.prog 89 #[.pointer (some ⟨b, 0, none⟩), .int .i64 2] w fun e w' => e = .returned (.string x.t) ∧ Par B b A n cap T (i + 1) false w' ∧ w.grownBy w' (some b) := by
  have H := Lib.hid h
  have hn := h.size.1
  have hn' := h.size.2
  have hi : i < n := by
    rcases Nat.lt_or_ge i n with hi | hi
    · exact hi
    · rw [List.drop_eq_nil_of_le (by omega)] at hx; cases hx
  have HC := Lib.hid (sAt_any 2 h hi hx hk)
  have HI : Hid (i + 1 ≤ n) := Lib.hid (by omega)
  obtain ⟨a, y, r', rfl, hy, _, _, _⟩ := h.at hi
  rw [hx] at hy
  cases hy
  have HX := Lib.hid hx
  have hin : (i : Int) < (n : Int) := by omega
  have hib : (i : Int) + 1 ≤ 9223372036854775807 := by omega
  clear h hx hk hn
  go_enter Tryd.func89, Tryd.ntmps89
  go_wp2_with (go_at_call 106; refine HC.out.mono ?_; rintro e w1 ⟨rfl, q, hq⟩; have HP := Lib.hid (H.out.drewN q); rw [← hq] at HP; have HG := Lib.hid (grown_drewN w q b); rw [← hq] at HG; clear hq; have c1 := HP.out.c1; have f1 := HP.out.f1; have HS := Lib.hid (HP.out.setI HI.out); have HG2 := Lib.hid (grownBy_set w1 b 1 (.int .i64 ((i + 1 : Nat) : Int))))
  have HS2 : Hid (Par B b (some a) n cap T (i + 1) false (w1.setCell ⟨b, 1, none⟩ (.int .i64 ((i : Int) + 1)))) := HS
  have HG3 : Hid (w1.grownBy (w1.setCell ⟨b, 1, none⟩ (.int .i64 ((i : Int) + 1))) (some b)) := HG2
  clear HS HG2 c1 f1
  generalize w1.setCell ⟨b, 1, none⟩ (.int .i64 ((i : Int) + 1)) = w2 at HS2 HG3 ⊢
  have c0 := HS2.out.c0
  have c1 : w2.cell? ⟨b, 1, none⟩ = some (.int .i64 ((i : Int) + 1)) := HS2.out.c1
  obtain ⟨a', y, r', ha', hy, d0, d1⟩ := HS2.out.atk hi
  cases ha'
  rw [HX.out] at hy
  cases hy
  have hs1 : (i : Int) + 1 - 1 = (i : Int) := by omega
  have hw1 : IntKind.i64.wrap ((i : Int) + 1 - 1) = (i : Int) := by rw [hs1]; exact IntWalk.i64_in _ (by omega)
  go_wp2
  go_quiet (fail)
  go_wp2
  go_ret
  exact ⟨rfl, HS2.out.drewN _, grown_trans HG.out (grown_trans HG3.out (grown_drewN _ _ b))⟩
set_option maxRecDepth 100000 in
set_option maxHeartbeats 1000000 in
theorem sEndP_any {bad : Bool} (h : Par B b A n cap T i bad w) :
    Calls Tryd.prog 37 #[.pointer (some ⟨b, 0, none⟩)] w fun e w' => e = .returned (.bool (!bad && decide (i = n))) ∧ ∃ q, w' = w.drewN q := by
  have c0 := h.c0
  have c1 := h.c1
  have c2 := h.c2
  clear h
  cases bad with
  | true =>
    go_enter Tryd.func37, Tryd.ntmps37
    go_wp2
    go_quiet (fail)
    go_wp2
    go_ret
    exact ⟨rfl, nq, rfl⟩
  | false =>
    by_cases hi : i = n
    · subst hi
      rw [show (!false && decide (i = i)) = true by simp]
      go_enter Tryd.func37, Tryd.ntmps37
      go_wp2
      go_quiet (fail)
      go_wp2
      go_ret
      exact ⟨ret_bool (by simp), nq, rfl⟩
    · rw [show (!false && decide (i = n)) = false by simp [hi]]
      have h1 : ((i : Int) == (n : Int)) = false := by simp; omega
      have h2 : (i == n) = false := by simpa using hi
      clear hi
      go_enter Tryd.func37, Tryd.ntmps37
      go_wp2
      go_quiet (fail)
      go_wp2
      go_ret
      exact ⟨rfl, nq, rfl⟩
end
end Go.Proofs.YtldjkjdmadoaoaaDoor
