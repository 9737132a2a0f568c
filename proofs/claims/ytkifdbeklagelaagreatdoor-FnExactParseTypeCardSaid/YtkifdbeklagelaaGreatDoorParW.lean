/- MERGED for a claim: ParS ParT ParU ParV ParW. -/
import Derived.Test.YtkifdbeklagelaaGreatDoorParJ
import Derived.Test.YtkifdbeklagelaaGreatDoorLexT
import Derived.IntWalk
set_option linter.unusedVariables false
set_option linter.unusedSimpArgs false
/- THE PARSER OF SPEC OVER TOKENS (chapters 4 to 10): its state in memory, l3At, l3Is, l3Eat, l3Take, l3End, l3New. -/
namespace Go.Proofs.YtkifdbeklagelaaGreatDoor
open Go.RowKit NumP

/-- at block b lies a parser over the tokens T, at the i-th, bad or not -/
structure Par (B : Nat) (b : Nat) (A : Option Addr) (n cap : Nat) (T : List Tok) (i : Nat) (bad : Bool) (w : World) : Prop where
  c0 : w.cell? ⟨b, 0, none⟩ = some (.slice A n cap)
  c1 : w.cell? ⟨b, 1, none⟩ = some (.int .i64 i)
  c2 : w.cell? ⟨b, 2, none⟩ = some (.bool bad)
  f1 : w.frozen? ⟨b, 1, none⟩ = false
  f2 : w.frozen? ⟨b, 2, none⟩ = false
  lo : B ≤ b
  hi : b < w.heap.size
  tk : HasT w (.slice A n cap) T
  tb : ∀ a, A = some a → a.block < b
  le : i ≤ n
section
variable {B b n cap i : Nat} {A : Option Addr} {T : List Tok} {bad : Bool} {w w' : World}
theorem HasR.keep {α : Type} {enc : α → List Value} {z n cap : Nat} {A : Option Addr} {l : List α} (h : HasR enc z w (.slice A n cap) l) (hs : w.heap.size ≤ w'.heap.size) (hk : ∀ p : Addr, (∃ a, A = some a ∧ p.block = a.block) → w'.cell? p = w.cell? p) : HasR enc z w' (.slice A n cap) l := by
  obtain ⟨A', cap', hv, hn, hc⟩ := h
  cases hv
  refine ⟨A, cap, rfl, hn, fun j hj => ?_⟩
  obtain ⟨a, h1, h2, h3⟩ := hc j hj
  exact ⟨a, h1, Nat.lt_of_lt_of_le h2 hs, fun k x hx => by rw [hk _ ⟨a, h1, by rw [addr_blk, addr_blk]⟩]; exact h3 k x hx⟩
theorem Par.below (h : Par B b A n cap T i bad w) (hb : Below w.heap.size w w') : Par B b A n cap T i bad w' :=
  ⟨(hb.cell (p := ⟨b, 0, none⟩) h.hi).trans h.c0, (hb.cell (p := ⟨b, 1, none⟩) h.hi).trans h.c1, (hb.cell (p := ⟨b, 2, none⟩) h.hi).trans h.c2, (hb.frozen (p := ⟨b, 1, none⟩) h.hi).trans h.f1, (hb.frozen (p := ⟨b, 2, none⟩) h.hi).trans h.f2, h.lo, Nat.lt_of_lt_of_le h.hi hb.size, HasR.below h.tk hb, h.tb, h.le⟩
theorem Par.drewN (h : Par B b A n cap T i bad w) (q : Nat) : Par B b A n cap T i bad (w.drewN q) := ⟨h.c0, h.c1, h.c2, h.f1, h.f2, h.lo, h.hi, h.tk, h.tb, h.le⟩
theorem Par.other {j : Nat} (h : Par B b A n cap T i bad w) (hg : w.grownBy w' (some j)) (hj : b < j) : Par B b A n cap T i bad w' := by
  have hk : ∀ p : Addr, p.block ≤ b → w'.cell? p = w.cell? p := fun p hp => World.cell?_of_block (hg.block p.block (Nat.lt_of_le_of_lt hp h.hi) (fun e => by have := Option.some.inj e; omega))
  have hf : ∀ p : Addr, p.block ≤ b → w'.frozen? p = w.frozen? p := fun p hp => by
    unfold World.frozen?; rw [hg.block p.block (Nat.lt_of_le_of_lt hp h.hi) (fun e => by have := Option.some.inj e; omega)]
  exact ⟨(hk ⟨b, 0, none⟩ (Nat.le_refl _)).trans h.c0, (hk ⟨b, 1, none⟩ (Nat.le_refl _)).trans h.c1, (hk ⟨b, 2, none⟩ (Nat.le_refl _)).trans h.c2, (hf ⟨b, 1, none⟩ (Nat.le_refl _)).trans h.f1, (hf ⟨b, 2, none⟩ (Nat.le_refl _)).trans h.f2, h.lo, Nat.lt_of_lt_of_le h.hi hg.size,
    HasR.keep h.tk hg.size (fun p ⟨a, h1, h2⟩ => hk p (by have := h.tb a h1; omega)), h.tb, h.le⟩
theorem grownBy_set (w : World) (b o : Nat) (v : Value) : w.grownBy (w.setCell ⟨b, o, none⟩ v) (some b) := by
  have h := Below.setCell (Below.refl b w) (p := ⟨b, o, none⟩) (Nat.le_refl _) v
  refine ⟨h.os, h.tape, h.output, h.size, fun k hk hne => ?_⟩
  have hkb : b ≠ k := fun e => hne (by rw [e])
  simp [World.setCell, Array.getElem?_modify, hkb]
theorem Par.setI (h : Par B b A n cap T i bad w) {j : Nat} (hj : j ≤ n) : Par B b A n cap T j bad (w.setCell ⟨b, 1, none⟩ (.int .i64 j)) := by
  have hs : w.heap.size ≤ (w.setCell ⟨b, 1, none⟩ (.int .i64 j)).heap.size := (grownBy_set w b 1 _).size
  have hk : ∀ p : Addr, p ≠ ⟨b, 1, none⟩ → (w.setCell ⟨b, 1, none⟩ (.int .i64 j)).cell? p = w.cell? p := fun p hp => World.cell?_setCell_other w ⟨b, 1, none⟩ p _ (fun e => hp e.symm)
  refine ⟨(hk _ (by simp)).trans h.c0, ?_, (hk _ (by simp)).trans h.c2, ?_, ?_, h.lo, Nat.lt_of_lt_of_le h.hi hs, HasR.keep h.tk hs (fun p ⟨a, h1, h2⟩ => hk p (fun e => by subst e; have := h.tb a h1; simp at h2; omega)), h.tb, hj⟩
  · exact World.cell?_setCell_same w _ _ h.c1
  · rw [World.frozen?_setCell]; exact h.f1
  · rw [World.frozen?_setCell]; exact h.f2
theorem Par.setBad (h : Par B b A n cap T i bad w) : Par B b A n cap T i true (w.setCell ⟨b, 2, none⟩ (.bool true)) := by
  have hs : w.heap.size ≤ (w.setCell ⟨b, 2, none⟩ (.bool true)).heap.size := (grownBy_set w b 2 _).size
  have hk : ∀ p : Addr, p ≠ ⟨b, 2, none⟩ → (w.setCell ⟨b, 2, none⟩ (.bool true)).cell? p = w.cell? p := fun p hp => World.cell?_setCell_other w ⟨b, 2, none⟩ p _ (fun e => hp e.symm)
  refine ⟨(hk _ (by simp)).trans h.c0, (hk _ (by simp)).trans h.c1, ?_, ?_, ?_, h.lo, Nat.lt_of_lt_of_le h.hi hs, HasR.keep h.tk hs (fun p ⟨a, h1, h2⟩ => hk p (fun e => by subst e; have := h.tb a h1; simp at h2; omega)), h.tb, h.le⟩
  · exact World.cell?_setCell_same w _ _ h.c2
  · rw [World.frozen?_setCell]; exact h.f1
  · rw [World.frozen?_setCell]; exact h.f2
theorem Par.size (h : Par B b A n cap T i bad w) : n = T.length ∧ n ≤ 9223372036854775807 := HasT.size h.tk
theorem Par.at (h : Par B b A n cap T i bad w) (hi : i < n) : ∃ a x r, A = some a ∧ T.drop i = x :: r ∧ x ∈ T ∧ w.cell? (a.add (i * 3)) = some (.int .i64 x.k) ∧ w.cell? ⟨(a.add (i * 3)).block, (a.add (i * 3)).off + 1, none⟩ = some (.string x.t) := by
  obtain ⟨hn, _⟩ := h.size
  obtain ⟨A', cap', hv, _, hc⟩ := h.tk
  cases hv
  obtain ⟨a, ha, hb, hk⟩ := HasT.tk hc i (by omega)
  exact ⟨a, T[i]'(by omega), T.drop (i + 1), ha, List.drop_eq_getElem_cons (by omega), List.getElem_mem _, hk.1, hk.2.1⟩
end
section
variable {B b n cap i : Nat} {A : Option Addr} {T : List Tok} {w : World}
set_option maxRecDepth 100000 in
theorem sAt_bad (k : Int) (m : ByteArray) (h : Par B b A n cap T i true w) :
    Calls Tryz.prog 68 #[.pointer (some ⟨b, 0, none⟩), .int .i64 k, .string m] w fun e w' => e = .returned (.bool false) ∧ ∃ q, w' = w.drewN q := by
  have c2 := h.c2
  clear h
  go_enter Tryz.func68, Tryz.ntmps68
  go_wp2
  go_quiet (fail)
  go_wp2
  go_ret
  exact ⟨rfl, nq, rfl⟩
set_option maxRecDepth 100000 in
theorem sAt_end (k : Int) (m : ByteArray) (h : Par B b A n cap T i false w) (hi : i = n) :
    Calls Tryz.prog 68 #[.pointer (some ⟨b, 0, none⟩), .int .i64 k, .string m] w fun e w' => e = .returned (.bool false) ∧ ∃ q, w' = w.drewN q := by
  have c0 := h.c0
  have c1 := h.c1
  have c2 := h.c2
  subst hi
  have hlt : decide ((i : Int) < (i : Int)) = false := by simp
  clear h
  go_enter Tryz.func68, Tryz.ntmps68
  go_wp2
  go_quiet (fail)
  go_wp2
  go_ret
  exact ⟨rfl, nq, rfl⟩
set_option maxRecDepth 100000 in
set_option maxHeartbeats 1000000 in
theorem sAt_kind (k : Int) (m : ByteArray) (h : Par B b A n cap T i false w) (hi : i < n) {x : Tok} {r : List Tok} (hx : T.drop i = x :: r) (hk : ¬ x.k = k) :
    Calls Tryz.prog 68 #[.pointer (some ⟨b, 0, none⟩), .int .i64 k, .string m] w fun e w' => e = .returned (.bool false) ∧ ∃ q, w' = w.drewN q := by
  have c0 := h.c0
  have c1 := h.c1
  have c2 := h.c2
  obtain ⟨a, y, r', rfl, hy, _, d0, d1⟩ := h.at hi
  have hn' := h.size.2
  rw [hx] at hy
  cases hy
  have hlt : decide ((i : Int) < (n : Int)) = true := by simp; omega
  have hlt2 : (i : Int) < (n : Int) := by omega
  have hlt3 : decide (i < n) = true := decide_eq_true hi
  have hk1 : (x.k == k) = false := by simpa using hk
  clear h hx hk
  go_enter Tryz.func68, Tryz.ntmps68
  go_wp2
  go_quiet (fail)
  go_wp2
  go_ret
  exact ⟨rfl, nq, rfl⟩
set_option maxRecDepth 100000 in
set_option maxHeartbeats 1000000 in
theorem sAt_any (k : Int) (h : Par B b A n cap T i false w) (hi : i < n) {x : Tok} {r : List Tok} (hx : T.drop i = x :: r) (hk : x.k = k) :
    Calls Tryz.prog 68 #[.pointer (some ⟨b, 0, none⟩), .int .i64 k, .string ⟨#[]⟩] w fun e w' => e = .returned (.bool true) ∧ ∃ q, w' = w.drewN q := by
  have c0 := h.c0
  have c1 := h.c1
  have c2 := h.c2
  obtain ⟨a, y, r', rfl, hy, _, d0, d1⟩ := h.at hi
  have hn' := h.size.2
  rw [hx] at hy
  cases hy
  have hlt : decide ((i : Int) < (n : Int)) = true := by simp; omega
  have hlt2 : (i : Int) < (n : Int) := by omega
  have hlt3 : decide (i < n) = true := decide_eq_true hi
  have hk1 : (x.k == k) = true := by simpa using hk
  clear h hx hk
  go_enter Tryz.func68, Tryz.ntmps68
  go_wp2
  go_quiet (fail)
  go_wp2
  go_ret
  exact ⟨rfl, nq, rfl⟩
set_option maxRecDepth 100000 in
set_option maxHeartbeats 1000000 in
theorem sAt_text (k : Int) (m : ByteArray) (hm : m.toList.isEmpty = false) (h : Par B b A n cap T i false w) (hi : i < n) {x : Tok} {r : List Tok} (hx : T.drop i = x :: r) (hk : x.k = k) :
    Calls Tryz.prog 68 #[.pointer (some ⟨b, 0, none⟩), .int .i64 k, .string m] w fun e w' => e = .returned (.bool (decide (x.t = m))) ∧ ∃ q, w' = w.drewN q := by
  have c0 := h.c0
  have c1 := h.c1
  have c2 := h.c2
  obtain ⟨a, y, r', rfl, hy, _, d0, d1⟩ := h.at hi
  have hn' := h.size.2
  rw [hx] at hy
  cases hy
  have hlt : decide ((i : Int) < (n : Int)) = true := by simp; omega
  have hlt2 : (i : Int) < (n : Int) := by omega
  have hlt3 : decide (i < n) = true := decide_eq_true hi
  have hk1 : (x.k == k) = true := by simpa using hk
  have hm1 : (m.toList == []) = false := by cases e : m.toList with
    | nil => rw [e] at hm; cases hm
    | cons c r => rfl
  have hm2 : ¬ m.toList = [] := by intro e; rw [e] at hm; cases hm
  by_cases ht : x.t = m
  · rw [decide_eq_true ht]
    have ht1 : (x.t.toList == m.toList) = true := by rw [ht]; simp
    clear h hx hk ht
    go_enter Tryz.func68, Tryz.ntmps68
    go_wp2
    go_quiet (fail)
    go_wp2
    go_ret
    exact ⟨rfl, nq, rfl⟩
  · rw [decide_eq_false ht]
    have ht1 : (x.t.toList == m.toList) = false := by
      simp only [beq_eq_false_iff_ne, ne_eq]
      intro e; exact ht (by rw [ByteArray.toList_eq, ByteArray.toList_eq] at e; apply ByteArray.ext; exact Array.toList_inj.1 e)
    clear h hx hk ht
    go_enter Tryz.func68, Tryz.ntmps68
    go_wp2
    go_quiet (fail)
    go_wp2
    go_ret
    exact ⟨rfl, nq, rfl⟩
/-- a mark at hand -/
theorem sAt_mk (m : ByteArray) (hm : m.toList.isEmpty = false) (h : Par B b A n cap T i false w) :
    Calls Tryz.prog 68 #[.pointer (some ⟨b, 0, none⟩), .int .i64 4, .string m] w fun e w' => e = .returned (.bool (mkB (T.drop i) m)) ∧ ∃ q, w' = w.drewN q := by
  rcases Nat.lt_or_ge i n with hi | hi
  · obtain ⟨a, x, r, _, hx, _⟩ := h.at hi
    rw [hx]
    by_cases hk : x.k = 4
    · rw [mkB_text hk]; exact sAt_text 4 m hm h hi hx hk
    · rw [mkB_kind hk]; exact sAt_kind 4 m h hi hx hk
  · have e : i = n := by have := h.le; omega
    have hn := h.size.1
    rw [List.drop_eq_nil_of_le (by omega), mkB_nil]
    exact sAt_end 4 m h e
end
end Go.Proofs.YtkifdbeklagelaaGreatDoor

/- THE PARSER OF SPEC OVER TOKENS, SECOND PART: l3Is, l3Eat, l3Take, l3End, l3New. -/
namespace Go.Proofs.YtkifdbeklagelaaGreatDoor
open Go.RowKit NumP

section
variable {B b n cap i : Nat} {A : Option Addr} {T : List Tok} {w : World}
theorem grown_drewN (w : World) (q b : Nat) : w.grownBy (w.drewN q) (some b) := ⟨rfl, rfl, rfl, Nat.le_refl _, fun _ _ _ => rfl⟩
theorem grown_trans {a b c : World} {j : Nat} (h : a.grownBy b (some j)) (k : b.grownBy c (some j)) : a.grownBy c (some j) := h.trans k
set_option maxRecDepth 100000 in
theorem sIs_bad (m : ByteArray) (h : Par B b A n cap T i true w) :
    Calls Tryz.prog 69 #[.pointer (some ⟨b, 0, none⟩), .string m] w fun e w' => e = .returned (.bool false) ∧ ∃ q, w' = w.drewN q := by
  go_enter Tryz.func69, Tryz.ntmps69
  go_wp2_with (go_at_call 68; refine (sAt_bad 4 m h).mono ?_; rintro e w1 ⟨rfl, q, rfl⟩)
  go_ret
  exact ⟨rfl, q, rfl⟩
set_option maxRecDepth 100000 in
theorem sIs_mk (m : ByteArray) (hm : m.toList.isEmpty = false) (h : Par B b A n cap T i false w) :
    Calls Tryz.prog 69 #[.pointer (some ⟨b, 0, none⟩), .string m] w fun e w' => e = .returned (.bool (mkB (T.drop i) m)) ∧ ∃ q, w' = w.drewN q := by
  generalize hr : mkB (T.drop i) m = r
  have HM := Lib.hid hr
  clear hr
  go_enter Tryz.func69, Tryz.ntmps69
  go_wp2_with (go_at_call 68; refine (sAt_mk m hm h).mono ?_; rw [HM.out]; rintro e w1 ⟨rfl, q, rfl⟩)
  go_ret
  exact ⟨rfl, q, rfl⟩
set_option maxRecDepth 100000 in
theorem sEat_bad (m : ByteArray) (h : Par B b A n cap T i true w) :
    Calls Tryz.prog 102 #[.pointer (some ⟨b, 0, none⟩), .string m] w fun e w' => e = .returned (.bool false) ∧ Par B b A n cap T i true w' ∧ w.grownBy w' (some b) := by
  have H := Lib.hid h
  clear h
  go_enter Tryz.func102, Tryz.ntmps102
  go_wp2_with (go_at_call 69; refine (sIs_bad m H.out).mono ?_; rintro e w1 ⟨rfl, q, rfl⟩)
  go_ret
  exact ⟨rfl, H.out.drewN q, grown_drewN w q b⟩
set_option maxRecDepth 100000 in
theorem sEat_no (m : ByteArray) (hm : m.toList.isEmpty = false) (h : Par B b A n cap T i false w) (hk : mkB (T.drop i) m = false) :
    Calls Tryz.prog 102 #[.pointer (some ⟨b, 0, none⟩), .string m] w fun e w' => e = .returned (.bool false) ∧ Par B b A n cap T i false w' ∧ w.grownBy w' (some b) := by
  have H := Lib.hid h
  have HK := Lib.hid hk
  clear h hk
  go_enter Tryz.func102, Tryz.ntmps102
  go_wp2_with (go_at_call 69; refine (sIs_mk m hm H.out).mono ?_; rw [HK.out]; rintro e w1 ⟨rfl, q, rfl⟩)
  go_ret
  exact ⟨rfl, H.out.drewN q, grown_drewN w q b⟩
set_option maxRecDepth 100000 in
theorem sEat_yes (m : ByteArray) (hm : m.toList.isEmpty = false) (h : Par B b A n cap T i false w) (hk : mkB (T.drop i) m = true) :
    Calls Tryz.prog 102 #[.pointer (some ⟨b, 0, none⟩), .string m] w fun e w' => e = .returned (.bool true) ∧ Par B b A n cap T (i + 1) false w' ∧ w.grownBy w' (some b) := by
  have H := Lib.hid h
  have HK := Lib.hid hk
  have hlt := mkB_len hk
  have hn := h.size.1
  have HI : Hid (i + 1 ≤ n) := Lib.hid (by omega)
  have hib : (i : Int) + 1 ≤ 9223372036854775807 := by have := h.size.2; omega
  clear h hk hn hlt
  go_enter Tryz.func102, Tryz.ntmps102
  go_wp2_with (go_at_call 69; refine (sIs_mk m hm H.out).mono ?_; rw [HK.out]; rintro e w1 ⟨rfl, q, hq⟩; have HP := Lib.hid (H.out.drewN q); rw [← hq] at HP; have HG := Lib.hid (grown_drewN w q b); rw [← hq] at HG; clear hq; have c1 := HP.out.c1; have f1 := HP.out.f1; have HS := Lib.hid (HP.out.setI HI.out); have HG2 := Lib.hid (grownBy_set w1 b 1 (.int .i64 ((i + 1 : Nat) : Int))))
  go_ret
  rw [Int.natCast_add] at HS HG2
  exact ⟨rfl, HS.out, grown_trans HG.out HG2.out⟩
theorem Par.atk {k : Nat} {bad : Bool} (h : Par B b A n cap T i bad w) (hi : k < n) : ∃ a x r, A = some a ∧ T.drop k = x :: r ∧ w.cell? (a.add (k * 3)) = some (.int .i64 x.k) ∧ w.cell? ⟨(a.add (k * 3)).block, (a.add (k * 3)).off + 1, none⟩ = some (.string x.t) := by
  obtain ⟨hn, _⟩ := h.size
  obtain ⟨A', cap', hv, _, hc⟩ := h.tk
  cases hv
  obtain ⟨a, ha, hb, hk⟩ := HasT.tk hc k (by omega)
  exact ⟨a, T[k]'(by omega), T.drop (k + 1), ha, List.drop_eq_getElem_cons (by omega), hk.1, hk.2.1⟩
set_option maxRecDepth 100000 in
theorem sTake_bad (h : Par B b A n cap T i true w) :
    Calls Tryz.prog 67 #[.pointer (some ⟨b, 0, none⟩), .int .i64 2] w fun e w' => e = .returned (.string ⟨#[]⟩) ∧ Par B b A n cap T i true w' ∧ w.grownBy w' (some b) := by
  have H := Lib.hid h
  clear h
  go_enter Tryz.func67, Tryz.ntmps67
  go_wp2_with (go_at_call 68; refine (sAt_bad 2 _ H.out).mono ?_; rintro e w1 ⟨rfl, q, hq⟩; have HP := Lib.hid (H.out.drewN q); rw [← hq] at HP; have HG := Lib.hid (grown_drewN w q b); rw [← hq] at HG; clear hq; have c2 := HP.out.c2; have f2 := HP.out.f2; have HS := Lib.hid HP.out.setBad; have HG2 := Lib.hid (grownBy_set w1 b 2 (.bool true)))
  go_ret
  exact ⟨rfl, HS.out, grown_trans HG.out HG2.out⟩
set_option maxRecDepth 100000 in
theorem sTake_no (h : Par B b A n cap T i false w) (hk : ∀ x r, T.drop i = x :: r → ¬ x.k = 2) :
    Calls Tryz.prog 67 #[.pointer (some ⟨b, 0, none⟩), .int .i64 2] w fun e w' => e = .returned (.string ⟨#[]⟩) ∧ Par B b A n cap T i true w' ∧ w.grownBy w' (some b) := by
  have H := Lib.hid h
  have HC : Hid (∀ m, Calls Tryz.prog 68 #[.pointer (some ⟨b, 0, none⟩), .int .i64 2, .string m] w fun e w' => e = .returned (.bool false) ∧ ∃ q, w' = w.drewN q) := Lib.hid fun m => by
    rcases Nat.lt_or_ge i n with hi | hi
    · obtain ⟨a, x, r, _, hx, _⟩ := h.at hi
      exact sAt_kind 2 m h hi hx (hk x r hx)
    · exact sAt_end 2 m h (by have := h.le; omega)
  clear h hk
  go_enter Tryz.func67, Tryz.ntmps67
  go_wp2_with (go_at_call 68; refine (HC.out _).mono ?_; rintro e w1 ⟨rfl, q, hq⟩; have HP := Lib.hid (H.out.drewN q); rw [← hq] at HP; have HG := Lib.hid (grown_drewN w q b); rw [← hq] at HG; clear hq; have c2 := HP.out.c2; have f2 := HP.out.f2; have HS := Lib.hid HP.out.setBad; have HG2 := Lib.hid (grownBy_set w1 b 2 (.bool true)))
  go_ret
  exact ⟨rfl, HS.out, grown_trans HG.out HG2.out⟩
set_option maxRecDepth 100000 in
set_option maxHeartbeats 1000000 in
theorem sTake_yes (h : Par B b A n cap T i false w) {x : Tok} {r : List Tok} (hx : T.drop i = x :: r) (hk : x.k = 2) :
    Calls Tryz.prog 67 #[.pointer (some ⟨b, 0, none⟩), .int .i64 2] w fun e w' => e = .returned (.string x.t) ∧ Par B b A n cap T (i + 1) false w' ∧ w.grownBy w' (some b) := by
  have H := Lib.hid h
  have hn := h.size.1
  have hn' := h.size.2
  have hi : i < n := by
    rcases Nat.lt_or_ge i n with hi | hi
    · exact hi
    · rw [List.drop_eq_nil_of_le (by omega)] at hx; cases hx
  have HC := Lib.hid (sAt_any 2 h hi hx hk)
  have HI : Hid (i + 1 ≤ n) := Lib.hid (by omega)
  obtain ⟨a, y, r', rfl, hy, _, _, _⟩ := h.at hi
  rw [hx] at hy
  cases hy
  have HX := Lib.hid hx
  have hin : (i : Int) < (n : Int) := by omega
  have hib : (i : Int) + 1 ≤ 9223372036854775807 := by omega
  clear h hx hk hn
  go_enter Tryz.func67, Tryz.ntmps67
  go_wp2_with (go_at_call 68; refine HC.out.mono ?_; rintro e w1 ⟨rfl, q, hq⟩; have HP := Lib.hid (H.out.drewN q); rw [← hq] at HP; have HG := Lib.hid (grown_drewN w q b); rw [← hq] at HG; clear hq; have c1 := HP.out.c1; have f1 := HP.out.f1; have HS := Lib.hid (HP.out.setI HI.out); have HG2 := Lib.hid (grownBy_set w1 b 1 (.int .i64 ((i + 1 : Nat) : Int))))
  have HS2 : Hid (Par B b (some a) n cap T (i + 1) false (w1.setCell ⟨b, 1, none⟩ (.int .i64 ((i : Int) + 1)))) := HS
  have HG3 : Hid (w1.grownBy (w1.setCell ⟨b, 1, none⟩ (.int .i64 ((i : Int) + 1))) (some b)) := HG2
  clear HS HG2 c1 f1
  generalize w1.setCell ⟨b, 1, none⟩ (.int .i64 ((i : Int) + 1)) = w2 at HS2 HG3 ⊢
  have c0 := HS2.out.c0
  have c1 : w2.cell? ⟨b, 1, none⟩ = some (.int .i64 ((i : Int) + 1)) := HS2.out.c1
  obtain ⟨a', y, r', ha', hy, d0, d1⟩ := HS2.out.atk hi
  cases ha'
  rw [HX.out] at hy
  cases hy
  have hs1 : (i : Int) + 1 - 1 = (i : Int) := by omega
  have hw1 : IntKind.i64.wrap ((i : Int) + 1 - 1) = (i : Int) := by rw [hs1]; exact IntWalk.i64_in _ (by omega)
  go_wp2
  go_quiet (fail)
  go_wp2
  go_ret
  exact ⟨rfl, HS2.out.drewN _, grown_trans HG.out (grown_trans HG3.out (grown_drewN _ _ b))⟩
set_option maxRecDepth 100000 in
set_option maxHeartbeats 1000000 in
theorem sEndP_any {bad : Bool} (h : Par B b A n cap T i bad w) :
    Calls Tryz.prog 35 #[.pointer (some ⟨b, 0, none⟩)] w fun e w' => e = .returned (.bool (!bad && decide (i = n))) ∧ ∃ q, w' = w.drewN q := by
  have c0 := h.c0
  have c1 := h.c1
  have c2 := h.c2
  clear h
  cases bad with
  | true =>
    go_enter Tryz.func35, Tryz.ntmps35
    go_wp2
    go_quiet (fail)
    go_wp2
    go_ret
    exact ⟨rfl, nq, rfl⟩
  | false =>
    by_cases hi : i = n
    · subst hi
      rw [show (!false && decide (i = i)) = true by simp]
      go_enter Tryz.func35, Tryz.ntmps35
      go_wp2
      go_quiet (fail)
      go_wp2
      go_ret
      exact ⟨ret_bool (by simp), nq, rfl⟩
    · rw [show (!false && decide (i = n)) = false by simp [hi]]
      have h1 : ((i : Int) == (n : Int)) = false := by simp; omega
      have h2 : (i == n) = false := by simpa using hi
      clear hi
      go_enter Tryz.func35, Tryz.ntmps35
      go_wp2
      go_quiet (fail)
      go_wp2
      go_ret
      exact ⟨rfl, nq, rfl⟩
end
end Go.Proofs.YtkifdbeklagelaaGreatDoor

/- CHAPTER 4, RANGES READ: spec's l3New, l4Int. -/
namespace Go.Proofs.YtkifdbeklagelaaGreatDoor
open Go.RowKit NumP

section
variable {B b n cap i : Nat} {A : Option Addr} {T : List Tok} {w : World}
theorem below_grown {w w' : World} {row : Option Nat} (h : Below w.heap.size w w') : w.grownBy w' row := ⟨h.os, h.tape, h.output, h.size, fun k hk _ => h.block k hk⟩
theorem parseL_nil : parseL [] = none := rfl
theorem parseL_minus : parseL [45] = none := rfl
theorem par_new {w1 : World} {o : Value} (hv : RowT B w1 (.slice A n cap) T) (bad : Bool) (t : TypeId) (hB : B ≤ w1.heap.size) : Par B w1.heap.size A n cap T 0 bad (w1.alloc (.cells #[.slice A n cap, .int .i64 0, .bool bad, o] t)) := by
  have hn := World.news_of_block (cs := #[.slice A n cap, .int .i64 0, .bool bad, o]) (t := t) (fr := (0, 0)) (heap_alloc_new w1 _)
  have hf : ∀ j, (w1.alloc (.cells #[.slice A n cap, .int .i64 0, .bool bad, o] t)).frozen? ⟨w1.heap.size, j, none⟩ = false := fun j => by
    unfold World.frozen?
    dsimp only
    rw [heap_alloc_new]
    simp
  have h0 := hn 0 _ rfl
  have h1 := hn 1 _ rfl
  have h2 := hn 2 _ rfl
  rw [addr_zero] at h0 h1 h2
  refine ⟨h0, h1, h2, hf 1, hf 2, hB, by simp, HasR.below (RowR.has Tok.enc_len hv) (below_al (Below.refl _ _) _), fun a ha => ?_, Nat.zero_le _⟩
  subst ha
  rcases RowR.form hv with ⟨h, _⟩ | ⟨g, cap', h, _, hg⟩
  · cases h
  · cases h; exact hg
set_option maxRecDepth 100000 in
theorem sNew_any (s : ByteArray) (hs : s.size ≤ 1048576) (T : List Tok) (e : Option Nat) (hL : Lx s.size s.data.toList T e) (w : World) :
    Calls Tryz.prog 33 #[.string s] w fun en w' => ∃ b A n cap, en = .returned (.pointer (some ⟨b, 0, none⟩)) ∧ Par w.heap.size b A n cap (lexT T e) 0 e.isSome w' ∧ Below w.heap.size w w' := by
  have HL := Lib.hid hL
  clear hL
  cases e with
  | none =>
    go_enter Tryz.func33, Tryz.ntmps33
    go_wp2_with (go_at_call 66; refine (sLex_any s hs T _ HL.out _).mono ?_; rintro en w1 ⟨v, rfl, hra, hb⟩; obtain ⟨A, cap, rfl⟩ := RowR.shape hra; rw [show lexI none = (-1 : Int) from rfl])
    go_ret
    exact ⟨_, _, _, _, rfl, par_new hra false _ hb.size, below_al hb _⟩
  | some p =>
    have hp0 : (0 : Int) ≤ (p : Int) := by omega
    have hp1 : decide ((0 : Int) ≤ (p : Int)) = true := decide_eq_true hp0
    go_enter Tryz.func33, Tryz.ntmps33
    go_wp2_with (go_at_call 66; refine (sLex_any s hs T _ HL.out _).mono ?_; rintro en w1 ⟨v, rfl, hra, hb⟩; obtain ⟨A, cap, rfl⟩ := RowR.shape hra; rw [show lexI (some p) = (p : Int) from rfl])
    go_ret
    exact ⟨_, _, _, _, rfl, par_new hra true _ hb.size, below_al hb _⟩
theorem sPar_none (s : ByteArray) (hs : s.size ≤ maxLen) (h : parseL s.data.toList = none) (w : World) :
    Calls Tryz.prog 134 #[.string s] w fun e w' => e = .returned (.tuple #[.int .i64 0, .bool false]) ∧ Below w.heap.size w w' :=
  (sParse_any s hs w).mono fun _ _ ⟨he, hb⟩ => ⟨by rw [he, h]; rfl, hb⟩
theorem sPar_some (s : ByteArray) (hs : s.size ≤ maxLen) (n : Int) (h : parseL s.data.toList = some n) (w : World) :
    Calls Tryz.prog 134 #[.string s] w fun e w' => e = .returned (.tuple #[.int .i64 n, .bool true]) ∧ Below w.heap.size w w' :=
  (sParse_any s hs w).mono fun _ _ ⟨he, hb⟩ => ⟨by rw [he, h]; rfl, hb⟩
/-- what l4Int leaves -/
def IntV (B b : Nat) (A : Option Addr) (n cap : Nat) (T : List Tok) (i : Nat) (o : Option (Int × Nat)) (e : Ending) (w' : World) : Prop := match o with
  | some (v, k) => e = .returned (.int .i64 v) ∧ Par B b A n cap T (i + k) false w'
  | none => ∃ (v : Int) (j : Nat), e = .returned (.int .i64 v) ∧ Par B b A n cap T j true w'
set_option maxRecDepth 100000 in
set_option maxHeartbeats 1000000 in
theorem sInt_bad (h : Par B b A n cap T i true w) :
    Calls Tryz.prog 101 #[.pointer (some ⟨b, 0, none⟩)] w fun e w' => IntV B b A n cap T i none e w' ∧ w.grownBy w' (some b) := by
  have P0 := Lib.hid h
  clear h
  have HZ : Hid (((⟨#[]⟩ : ByteArray) ++ (⟨#[]⟩ : ByteArray)).size ≤ maxLen) := Lib.hid (by decide)
  have HP : Hid (parseL ((⟨#[]⟩ : ByteArray) ++ (⟨#[]⟩ : ByteArray)).data.toList = none) := Lib.hid rfl
  go_enter Tryz.func101, Tryz.ntmps101
  go_wp2_with (first
    | (go_at_call 102; refine (sEat_bad _ P0.out).mono ?_; rintro e w1 ⟨rfl, hP, hG⟩; have P1 := Lib.hid hP; have G1 := Lib.hid hG; clear hP hG)
    | (go_at_call 67; refine (sTake_bad P1.out).mono ?_; rintro e w2 ⟨rfl, hP, hG⟩; have P2 := Lib.hid hP; have G2 := Lib.hid (grown_trans G1.out hG); clear hP hG)
    | (go_at_call 134; refine (sPar_none _ HZ.out HP.out _).mono ?_; rintro e w3 ⟨rfl, hb⟩; have P3 := Lib.hid (P2.out.below hb); have G3 := Lib.hid (grown_trans G2.out (below_grown hb)); clear hb; have c2 := P3.out.c2; have f2 := P3.out.f2))
  go_ret
  exact ⟨⟨_, _, rfl, P3.out.setBad⟩, grown_trans G3.out (grownBy_set _ _ _ _)⟩
theorem numT_cases (sg : List UInt8) (l : List Tok) : (∀ x r, l = x :: r → ¬ x.k = 2) ∨ ∃ x r, l = x :: r ∧ x.k = 2 := by
  match l with
  | [] => exact .inl (fun x r h => by cases h)
  | x :: r =>
    by_cases hk : x.k = 2
    · exact .inr ⟨x, r, rfl, hk⟩
    · exact .inl (fun y q h => by cases h; exact hk)
theorem numT_no {sg : List UInt8} {l : List Tok} (h : ∀ x r, l = x :: r → ¬ x.k = 2) : numT sg l = none := by
  match l with
  | [] => rfl
  | x :: r => exact numT_kind (h x r rfl)
set_option maxRecDepth 100000 in
set_option maxHeartbeats 1000000 in
theorem sInt_any (hts : ∀ x ∈ T, x.t.size ≤ 1048576) (h : Par B b A n cap T i false w) :
    Calls Tryz.prog 101 #[.pointer (some ⟨b, 0, none⟩)] w fun e w' => IntV B b A n cap T i (rdB (T.drop i)) e w' ∧ w.grownBy w' (some b) := by
  have P0 := Lib.hid h
  clear h
  have HM : Hid ((⟨#[45]⟩ : ByteArray).toList.isEmpty = false) := Lib.hid (by rw [ByteArray.toList_eq]; rfl)
  cases hm : mkB (T.drop i) minusT with
  | true =>
    have HK : Hid (mkB (T.drop i) ⟨#[45]⟩ = true) := Lib.hid hm
    rw [rdB_minus hm, List.drop_drop]
    clear hm
    rcases numT_cases [45] (T.drop (i + 1)) with hno | ⟨x, r, hx, hk⟩
    · rw [numT_no hno]
      have HNO := Lib.hid hno
      clear hno
      have HZ : Hid (((⟨#[45]⟩ : ByteArray) ++ (⟨#[]⟩ : ByteArray)).size ≤ maxLen) := Lib.hid (by decide)
      have HP : Hid (parseL ((⟨#[45]⟩ : ByteArray) ++ (⟨#[]⟩ : ByteArray)).data.toList = none) := Lib.hid rfl
      go_enter Tryz.func101, Tryz.ntmps101
      go_wp2_with (first
        | (go_at_call 102; refine (sEat_yes _ HM.out P0.out HK.out).mono ?_; rintro e w1 ⟨rfl, hP, hG⟩; have P1 := Lib.hid hP; have G1 := Lib.hid hG; clear hP hG)
        | (go_at_call 67; refine (sTake_no P1.out HNO.out).mono ?_; rintro e w2 ⟨rfl, hP, hG⟩; have P2 := Lib.hid hP; have G2 := Lib.hid (grown_trans G1.out hG); clear hP hG)
        | (go_at_call 134; refine (sPar_none _ HZ.out HP.out _).mono ?_; rintro e w3 ⟨rfl, hb⟩; have P3 := Lib.hid (P2.out.below hb); have G3 := Lib.hid (grown_trans G2.out (below_grown hb)); clear hb; have c2 := P3.out.c2; have f2 := P3.out.f2))
      go_ret
      exact ⟨⟨_, _, rfl, P3.out.setBad⟩, grown_trans G3.out (grownBy_set _ _ _ _)⟩
    · have HX := Lib.hid hx
      have HKX := Lib.hid hk
      have hsz : x.t.size ≤ 1048576 := hts x (List.mem_of_mem_drop (i := i + 1) (by rw [hx]; simp))
      have HZ : Hid (((⟨#[45]⟩ : ByteArray) ++ x.t).size ≤ maxLen) := Lib.hid (by rw [ByteArray.size_append]; show 1 + x.t.size ≤ maxLen; unfold maxLen; omega)
      rw [hx, numT_num hk, show ([45] ++ x.t.data.toList) = ((⟨#[45]⟩ : ByteArray) ++ x.t).data.toList by rw [data_app]]
      clear hx hk hts
      cases hp : parseL ((⟨#[45]⟩ : ByteArray) ++ x.t).data.toList with
      | none =>
        have HP := Lib.hid hp
        clear hp
        go_enter Tryz.func101, Tryz.ntmps101
        go_wp2_with (first
          | (go_at_call 102; refine (sEat_yes _ HM.out P0.out HK.out).mono ?_; rintro e w1 ⟨rfl, hP, hG⟩; have P1 := Lib.hid hP; have G1 := Lib.hid hG; clear hP hG)
          | (go_at_call 67; refine (sTake_yes P1.out HX.out HKX.out).mono ?_; rintro e w2 ⟨rfl, hP, hG⟩; have P2 := Lib.hid hP; have G2 := Lib.hid (grown_trans G1.out hG); clear hP hG)
          | (go_at_call 134; refine (sPar_none _ HZ.out HP.out _).mono ?_; rintro e w3 ⟨rfl, hb⟩; have P3 := Lib.hid (P2.out.below hb); have G3 := Lib.hid (grown_trans G2.out (below_grown hb)); clear hb; have c2 := P3.out.c2; have f2 := P3.out.f2))
        go_ret
        exact ⟨⟨_, _, rfl, P3.out.setBad⟩, grown_trans G3.out (grownBy_set _ _ _ _)⟩
      | some v =>
        have HP := Lib.hid hp
        clear hp
        go_enter Tryz.func101, Tryz.ntmps101
        go_wp2_with (first
          | (go_at_call 102; refine (sEat_yes _ HM.out P0.out HK.out).mono ?_; rintro e w1 ⟨rfl, hP, hG⟩; have P1 := Lib.hid hP; have G1 := Lib.hid hG; clear hP hG)
          | (go_at_call 67; refine (sTake_yes P1.out HX.out HKX.out).mono ?_; rintro e w2 ⟨rfl, hP, hG⟩; have P2 := Lib.hid hP; have G2 := Lib.hid (grown_trans G1.out hG); clear hP hG)
          | (go_at_call 134; refine (sPar_some _ HZ.out v HP.out _).mono ?_; rintro e w3 ⟨rfl, hb⟩; have P3 := Lib.hid (P2.out.below hb); have G3 := Lib.hid (grown_trans G2.out (below_grown hb)); clear hb))
        go_ret
        exact ⟨⟨rfl, P3.out⟩, G3.out⟩
  | false =>
    have HK : Hid (mkB (T.drop i) ⟨#[45]⟩ = false) := Lib.hid hm
    rw [rdB_plain hm]
    clear hm
    rcases numT_cases [] (T.drop i) with hno | ⟨x, r, hx, hk⟩
    · rw [numT_no hno]
      have HNO := Lib.hid hno
      clear hno
      have HZ : Hid (((⟨#[]⟩ : ByteArray) ++ (⟨#[]⟩ : ByteArray)).size ≤ maxLen) := Lib.hid (by decide)
      have HP : Hid (parseL ((⟨#[]⟩ : ByteArray) ++ (⟨#[]⟩ : ByteArray)).data.toList = none) := Lib.hid rfl
      go_enter Tryz.func101, Tryz.ntmps101
      go_wp2_with (first
        | (go_at_call 102; refine (sEat_no _ HM.out P0.out HK.out).mono ?_; rintro e w1 ⟨rfl, hP, hG⟩; have P1 := Lib.hid hP; have G1 := Lib.hid hG; clear hP hG)
        | (go_at_call 67; refine (sTake_no P1.out HNO.out).mono ?_; rintro e w2 ⟨rfl, hP, hG⟩; have P2 := Lib.hid hP; have G2 := Lib.hid (grown_trans G1.out hG); clear hP hG)
        | (go_at_call 134; refine (sPar_none _ HZ.out HP.out _).mono ?_; rintro e w3 ⟨rfl, hb⟩; have P3 := Lib.hid (P2.out.below hb); have G3 := Lib.hid (grown_trans G2.out (below_grown hb)); clear hb; have c2 := P3.out.c2; have f2 := P3.out.f2))
      go_ret
      exact ⟨⟨_, _, rfl, P3.out.setBad⟩, grown_trans G3.out (grownBy_set _ _ _ _)⟩
    · have HX := Lib.hid hx
      have HKX := Lib.hid hk
      have hsz : x.t.size ≤ 1048576 := hts x (List.mem_of_mem_drop (i := i) (by rw [hx]; simp))
      have HZ : Hid (((⟨#[]⟩ : ByteArray) ++ x.t).size ≤ maxLen) := Lib.hid (by rw [ByteArray.size_append]; show 0 + x.t.size ≤ maxLen; unfold maxLen; omega)
      rw [hx, numT_num hk, show ([] ++ x.t.data.toList) = ((⟨#[]⟩ : ByteArray) ++ x.t).data.toList by rw [data_app]]
      clear hx hk hts
      cases hp : parseL ((⟨#[]⟩ : ByteArray) ++ x.t).data.toList with
      | none =>
        have HP := Lib.hid hp
        clear hp
        go_enter Tryz.func101, Tryz.ntmps101
        go_wp2_with (first
          | (go_at_call 102; refine (sEat_no _ HM.out P0.out HK.out).mono ?_; rintro e w1 ⟨rfl, hP, hG⟩; have P1 := Lib.hid hP; have G1 := Lib.hid hG; clear hP hG)
          | (go_at_call 67; refine (sTake_yes P1.out HX.out HKX.out).mono ?_; rintro e w2 ⟨rfl, hP, hG⟩; have P2 := Lib.hid hP; have G2 := Lib.hid (grown_trans G1.out hG); clear hP hG)
          | (go_at_call 134; refine (sPar_none _ HZ.out HP.out _).mono ?_; rintro e w3 ⟨rfl, hb⟩; have P3 := Lib.hid (P2.out.below hb); have G3 := Lib.hid (grown_trans G2.out (below_grown hb)); clear hb; have c2 := P3.out.c2; have f2 := P3.out.f2))
        go_ret
        exact ⟨⟨_, _, rfl, P3.out.setBad⟩, grown_trans G3.out (grownBy_set _ _ _ _)⟩
      | some v =>
        have HP := Lib.hid hp
        clear hp
        go_enter Tryz.func101, Tryz.ntmps101
        go_wp2_with (first
          | (go_at_call 102; refine (sEat_no _ HM.out P0.out HK.out).mono ?_; rintro e w1 ⟨rfl, hP, hG⟩; have P1 := Lib.hid hP; have G1 := Lib.hid hG; clear hP hG)
          | (go_at_call 67; refine (sTake_yes P1.out HX.out HKX.out).mono ?_; rintro e w2 ⟨rfl, hP, hG⟩; have P2 := Lib.hid hP; have G2 := Lib.hid (grown_trans G1.out hG); clear hP hG)
          | (go_at_call 134; refine (sPar_some _ HZ.out v HP.out _).mono ?_; rintro e w3 ⟨rfl, hb⟩; have P3 := Lib.hid (P2.out.below hb); have G3 := Lib.hid (grown_trans G2.out (below_grown hb)); clear hb))
        go_ret
        exact ⟨⟨rfl, P3.out⟩, G3.out⟩
end
end Go.Proofs.YtkifdbeklagelaaGreatDoor

/- CHAPTER 4, RANGES READ: spec's l4Ranges, ParseRanges. -/
namespace Go.Proofs.YtkifdbeklagelaaGreatDoor
open Go.RowKit NumP

theorem rdR_noInv {l : List Tok} (h : rdR l = none) : rdB l = none ∨ ∃ lo k, rdB l = some (lo, k) ∧ mkB (l.drop k) dotsT = true ∧ rdB (l.drop (k + 1)) = none := by
  cases hb : rdB l with
  | none => exact .inl rfl
  | some p =>
    obtain ⟨lo, k⟩ := p
    cases hm : mkB (l.drop k) dotsT with
    | false => rw [rdR_one hb hm] at h; cases h
    | true =>
      rw [rdR_two hb hm] at h
      cases h2 : rdB (l.drop (k + 1)) with
      | none => exact .inr ⟨lo, k, rfl, hm, h2⟩
      | some q => rw [h2] at h; cases h
theorem rdR_inv {l : List Tok} {x : Rg} {k : Nat} (h : rdR l = some (x, k)) : (∃ lo, rdB l = some (lo, k) ∧ mkB (l.drop k) dotsT = false ∧ x = ⟨lo, lo⟩) ∨ (∃ lo k1 hi j, rdB l = some (lo, k1) ∧ mkB (l.drop k1) dotsT = true ∧ rdB (l.drop (k1 + 1)) = some (hi, j) ∧ x = ⟨lo, hi⟩ ∧ k = k1 + 1 + j) := by
  cases hb : rdB l with
  | none => rw [rdR_none hb] at h; cases h
  | some p =>
    obtain ⟨lo, k1⟩ := p
    cases hm : mkB (l.drop k1) dotsT with
    | false => rw [rdR_one hb hm] at h; cases h; exact .inl ⟨lo, rfl, hm, rfl⟩
    | true =>
      rw [rdR_two hb hm] at h
      cases h2 : rdB (l.drop (k1 + 1)) with
      | none => rw [h2] at h; cases h
      | some q => obtain ⟨hi, j⟩ := q; rw [h2] at h; cases h; exact .inr ⟨lo, k1, hi, j, rfl, hm, h2, rfl, rfl⟩
/-- what l4Ranges leaves -/
def RgsV (W0 : World) (B b : Nat) (A : Option Addr) (n cap : Nat) (T : List Tok) (res : Option (List Rg × Nat)) (e : Ending) (w' : World) : Prop :=
  ∃ (v' : Value) (R : List Rg) (j : Nat) (bad : Bool), e = .returned v' ∧ RowG W0.heap.size w' v' R ∧ Par B b A n cap T j bad w' ∧ W0.grownBy w' (some b) ∧ Hid ((bad = false ∧ res = some (R, j) ∧ Are R) ∨ (bad = true ∧ ∀ Q k, res = some (Q, k) → ¬ Are Q))
/-- within a round of l4Ranges: the parser, the list so far, the range at hand in its variable -/
structure Bod (W0 : World) (B b : Nat) (A : Option Addr) (n cap : Nat) (T : List Tok) (i : Nat) (bad : Bool) (g m c : Nat) (R : List Rg) (bx : Nat) (x : Rg) (w' : World) : Prop where
  P : Par B b A n cap T i bad w'
  G : W0.grownBy w' (some b)
  O : RowG W0.heap.size w' (.slice (some ⟨g, 0, none⟩) m c) R
  X : RowG W0.heap.size w' (.slice (some ⟨bx, 0, none⟩) 1 1) [x]
  ne : g < bx
  bl : b < W0.heap.size
section
variable {W0 w1 w2 : World} {B b n cap i i' g m c bx : Nat} {A : Option Addr} {T : List Tok} {bad bad' : Bool} {R : List Rg} {x : Rg}
theorem Bod.low (h : Bod W0 B b A n cap T i bad g m c R bx x w1) : W0.heap.size ≤ g ∧ W0.heap.size ≤ bx ∧ bx < w1.heap.size := ⟨(h.O.lt rfl).1, (h.X.lt rfl).1, (h.X.lt rfl).2⟩
theorem Bod.start (P : Par B b A n cap T i bad w1) (G : W0.grownBy w1 (some b)) (O : RowG W0.heap.size w1 (.slice (some ⟨g, 0, none⟩) m c) R) (bl : b < W0.heap.size) (v : Int) :
    Bod W0 B b A n cap T i bad g m c R w1.heap.size ⟨v, v⟩ (w1.alloc (.cells #[.int .i64 v, .int .i64 v] 81)) :=
  ⟨P.below (below_al (Below.refl _ _) _), grown_trans G (below_grown (below_al (Below.refl _ _) _)), RowR.alloc O _, rowG_box w1 ⟨v, v⟩ _ G.size, (O.lt rfl).2, bl⟩
theorem Bod.step (h : Bod W0 B b A n cap T i bad g m c R bx x w1) (hP : Par B b A n cap T i' bad' w2) (hG : w1.grownBy w2 (some b)) : Bod W0 B b A n cap T i' bad' g m c R bx x w2 := by
  have hl := h.low
  have hb := h.bl
  exact ⟨hP, grown_trans h.G hG, h.O.apart hG (by omega), h.X.apart hG (by omega), h.ne, hb⟩
theorem grown_far {k : Nat} (h : W0.grownBy w1 (some b)) (hg : w1.grownBy w2 (some k)) (hk : W0.heap.size ≤ k) : W0.grownBy w2 (some b) :=
  ⟨hg.os.trans h.os, hg.tape.trans h.tape, hg.output.trans h.output, Nat.le_trans h.size hg.size, fun j hj hne => (hg.block j (Nat.lt_of_lt_of_le hj h.size) (fun e => by have := Option.some.inj e; omega)).trans (h.block j hj hne)⟩
theorem Bod.put1 (h : Bod W0 B b A n cap T i bad g m c R bx x w1) (v : Int) : Bod W0 B b A n cap T i bad g m c R bx ⟨x.lo, v⟩ (w1.setCell ⟨bx, 1, none⟩ (.int .i64 v)) := by
  have hl := h.low
  have hb := h.bl
  have hn := h.ne
  have hp := RowG.put1 h.X (i := 0) (by simp) v
  exact ⟨h.P.other hp.2 (by omega), grown_far h.G hp.2 hl.2.1, h.O.apart hp.2 (by omega), hp.1, hn, hb⟩
theorem Bod.append {o : Obj} (h : Bod W0 B b A n cap T i bad g m c R bx x w1) (hg : (w1.alloc o).grownBy w2 (some g)) : Par B b A n cap T i bad w2 ∧ W0.grownBy w2 (some b) := by
  have hl := h.low
  have hb := h.bl
  exact ⟨(h.P.below (below_al (Below.refl _ _) o)).other hg (by omega), grown_far (grown_trans h.G (below_grown (below_al (Below.refl _ _) o))) hg hl.1⟩
end
theorem isE1 : (⟨#[46, 46]⟩ : ByteArray).toList.isEmpty = false := by rw [ByteArray.toList_eq]; rfl
theorem isE2 : (⟨#[124]⟩ : ByteArray).toList.isEmpty = false := by rw [ByteArray.toList_eq]; rfl
set_option maxRecDepth 100000 in
set_option maxHeartbeats 8000000 in
theorem sRgs_from (i0 : Nat) (B b n cap : Nat) (A : Option Addr) (T : List Tok) (w : World) (hts : ∀ x ∈ T, x.t.size ≤ 1048576) (hnb : n ≤ 1048576) (h : Par B b A n cap T i0 false w) (res : Option (List Rg × Nat)) (hr : Run T i0 [] res) :
    Calls Tryz.prog 70 #[.pointer (some ⟨b, 0, none⟩)] w fun e w' => RgsV w B b A n cap T res e w' := by
  have HTS := Lib.hid hts
  have HNB := Lib.hid hnb
  have HR := Lib.hid hr
  have HBW : Hid (b < w.heap.size) := Lib.hid h.hi
  have hi0 : i0 ≤ n := h.le
  have P0 := Lib.hid (h.below (below_al (Below.refl _ _) (.cells #[] 81)))
  have hrow0 : RowG w.heap.size (w.alloc (.cells #[] 81)) (.slice (some ⟨w.heap.size, 0, none⟩) 0 0) [] := rowG_new w _ (Nat.le_refl _)
  have hg0 : w.grownBy (w.alloc (.cells #[] 81)) (some b) := below_grown (below_al (Below.refl _ _) _)
  clear hts hnb hr h
  go_enter Tryz.func70, Tryz.ntmps70
  go_wp2
  go_loopw [3] (fun u wr => ∃ (p m g c : Nat) (R : List Rg), Hid (p ≤ n ∧ m ≤ p) ∧ u = .slice (some ⟨g, 0, none⟩) m c ∧ Hid (Run T p R res) ∧ RowG w.heap.size wr (.slice (some ⟨g, 0, none⟩) m c) R ∧ Hid (Par B b A n cap T p false wr) ∧ Hid (w.grownBy wr (some b))) (fun _ wr => n - (intOf ((wr.cell? ⟨b, 1, none⟩).getD undef)).toNat)
  case atStart => exact ⟨i0, 0, w.heap.size, 0, [], Lib.hid ⟨hi0, by omega⟩, rfl, HR, hrow0, P0, Lib.hid hg0⟩
  case round =>
    clear hrow0 hg0 P0 HR hi0
    obtain ⟨p, m, g, c, R, HPM, rfl, HRun, hrow, P, HG⟩ := hrel
    have HROW := Lib.hid hrow
    have HGB : Hid (w.heap.size ≤ g) := Lib.hid (hrow.lt rfl).1
    have HM : Hid (m + 1 ≤ 549755813888) := Lib.hid (by have := HPM.out; have := HNB.out; omega)
    have c2 := P.out.c2
    have HMEAS : Hid (intOf ((wr.cell? ⟨b, 1, none⟩).getD undef) = p) := Lib.hid (by rw [P.out.c1]; rfl)
    clear hrow
    rcases HRun.out.inv with ⟨h1, h2⟩ | ⟨x, k, h1, h2⟩
    · have HRES : Hid (res = none) := Lib.hid h2
      clear h2
      rcases rdR_noInv h1 with hb1 | ⟨lo, k1, hb1, hm1, hb2⟩
      · have HB1 := Lib.hid hb1
        clear h1 hb1
        go_wp2_with (first
          | (go_at_call 101; ((with_reducible refine (sInt_any HTS.out P.out).mono ?_)); rintro e w1 ⟨hV, hG⟩; rw [HB1.out] at hV; obtain ⟨lo, j1, rfl, hP⟩ := hV; have S1 := Lib.hid (Bod.start hP (grown_trans HG.out hG) (HROW.out.apart hG (by have := HGB.out; have := HBW.out; omega)) HBW.out lo); clear hP hG)
          | (go_at_call 102; ((with_reducible refine (sEat_bad ⟨#[46, 46]⟩ S1.out.P).mono ?_)); rintro e w2 ⟨rfl, hP, hG⟩; have S2 := Lib.hid (S1.out.step hP hG); clear hP hG; obtain ⟨e0, e1, f0, f1⟩ := RowG.box S2.out.X)
          | (at_builtin; refine wpList_rng_append rfl _ _ rfl w.heap.size g m c R (by rfl) S2.out.O ⟨lo, lo⟩ _ (by rfl) rfl HM.out S2.out.G.size (m + 1) rfl ?_; intro g' c' w5 hrow5 hg5; have P5 := Lib.hid (S2.out.append hg5).1; have G5 := Lib.hid (S2.out.append hg5).2; have R5 := Lib.hid hrow5; have HG5 : Hid (g' ≠ b) := Lib.hid (by have h9 : w.heap.size ≤ g' := (hrow5.lt rfl).1; have := HBW.out; omega); clear hrow5 hg5)
          | (go_at_call 102; ((with_reducible refine (sEat_bad ⟨#[124]⟩ P5.out).mono ?_)); rintro e w6 ⟨rfl, hP, hG⟩; have P6 := Lib.hid hP; have G6 := Lib.hid (grown_trans G5.out hG); have R6 := Lib.hid (R5.out.apart hG HG5.out); clear hP hG)
          | (go_at_call 53; refine (sAre_any _ (R ++ [⟨lo, lo⟩]) _ R6.out.hasG).mono ?_; generalize areB (R ++ [⟨lo, lo⟩]) = ra; rintro e w7 ⟨rfl, hb⟩; have P7 := Lib.hid (P6.out.below hb); have G7 := Lib.hid (grown_trans G6.out (below_grown hb)); have R7 := Lib.hid (RowR.below R6.out hb); clear hb; have c2' := P7.out.c2; have f2' := P7.out.f2))
        all_goals
          go_ret
          first
            | exact ⟨_, _, _, _, rfl, R7.out, P7.out, G7.out, Lib.hid (.inr ⟨rfl, fun Q k e => by rw [HRES.out] at e; cases e⟩)⟩
            | exact ⟨_, _, _, _, rfl, R7.out.apart (grownBy_set _ b 2 _) (fun e => HG5.out e), P7.out.setBad, grown_trans G7.out (grownBy_set _ _ _ _), Lib.hid (.inr ⟨rfl, fun Q k e => by rw [HRES.out] at e; cases e⟩)⟩
      · have HB1 := Lib.hid hb1
        have HK1 : Hid (mkB (T.drop (p + k1)) ⟨#[46, 46]⟩ = true) := Lib.hid (by rw [List.drop_drop] at hm1; exact hm1)
        have HB2 : Hid (rdB (T.drop (p + k1 + 1)) = none) := Lib.hid (by rw [List.drop_drop] at hb2; exact hb2)
        clear h1 hb1 hm1 hb2
        go_wp2_with (first
          | (go_at_call 101; ((with_reducible refine (sInt_any HTS.out P.out).mono ?_)); rintro e w1 ⟨hV, hG⟩; rw [HB1.out] at hV; obtain ⟨rfl, hP⟩ := hV; have S1 := Lib.hid (Bod.start hP (grown_trans HG.out hG) (HROW.out.apart hG (by have := HGB.out; have := HBW.out; omega)) HBW.out lo); clear hP hG)
          | (go_at_call 102; ((with_reducible refine (sEat_yes ⟨#[46, 46]⟩ isE1 S1.out.P HK1.out).mono ?_)); rintro e w2 ⟨rfl, hP, hG⟩; have S2 := Lib.hid (S1.out.step hP hG); clear hP hG; obtain ⟨e0, e1, f0, f1⟩ := RowG.box S2.out.X)
          | (go_at_call 101; ((with_reducible refine (sInt_any HTS.out S2.out.P).mono ?_)); rintro e w3 ⟨hV, hG⟩; rw [HB2.out] at hV; obtain ⟨hi, j2, rfl, hP⟩ := hV; have S3 := Lib.hid (S2.out.step hP hG); clear hP hG e0 e1 f0 f1; obtain ⟨e0, e1, f0, f1⟩ := RowG.box S3.out.X; have S4 := Lib.hid (S3.out.put1 hi))
          | (at_builtin; refine wpList_rng_append rfl _ _ rfl w.heap.size g m c R (by rfl) S4.out.O ⟨lo, hi⟩ w3.heap.size (by rfl) (by simp) HM.out S4.out.G.size (m + 1) rfl ?_; intro g' c' w5 hrow5 hg5; have P5 := Lib.hid (S4.out.append hg5).1; have G5 := Lib.hid (S4.out.append hg5).2; have R5 := Lib.hid hrow5; have HG5 : Hid (g' ≠ b) := Lib.hid (by have h9 : w.heap.size ≤ g' := (hrow5.lt rfl).1; have := HBW.out; omega); clear hrow5 hg5)
          | (go_at_call 102; ((with_reducible refine (sEat_bad ⟨#[124]⟩ P5.out).mono ?_)); rintro e w6 ⟨rfl, hP, hG⟩; have P6 := Lib.hid hP; have G6 := Lib.hid (grown_trans G5.out hG); have R6 := Lib.hid (R5.out.apart hG HG5.out); clear hP hG)
          | (go_at_call 53; refine (sAre_any _ (R ++ [⟨lo, hi⟩]) _ R6.out.hasG).mono ?_; generalize areB (R ++ [⟨lo, hi⟩]) = ra; rintro e w7 ⟨rfl, hb⟩; have P7 := Lib.hid (P6.out.below hb); have G7 := Lib.hid (grown_trans G6.out (below_grown hb)); have R7 := Lib.hid (RowR.below R6.out hb); clear hb; have c2' := P7.out.c2; have f2' := P7.out.f2))
        all_goals
          go_ret
          first
            | exact ⟨_, _, _, _, rfl, R7.out, P7.out, G7.out, Lib.hid (.inr ⟨rfl, fun Q k e => by rw [HRES.out] at e; cases e⟩)⟩
            | exact ⟨_, _, _, _, rfl, R7.out.apart (grownBy_set _ b 2 _) (fun e => HG5.out e), P7.out.setBad, grown_trans G7.out (grownBy_set _ _ _ _), Lib.hid (.inr ⟨rfl, fun Q k e => by rw [HRES.out] at e; cases e⟩)⟩
    · have hkl := (rdR_len h1).2
      rw [List.length_drop] at hkl
      rcases rdR_inv h1 with ⟨lo, hb1, hm1, rfl⟩ | ⟨lo, k1, hi, j, hb1, hm1, hb2, rfl, rfl⟩
      · have HB1 := Lib.hid hb1
        have HK1 : Hid (mkB (T.drop (p + k)) ⟨#[46, 46]⟩ = false) := Lib.hid (by rw [List.drop_drop] at hm1; exact hm1)
        clear h1 hb1 hm1 hkl
        rcases h2 with ⟨hmk, h2⟩ | ⟨hmk, h2⟩
        · have HK2 : Hid (mkB (T.drop (p + k)) ⟨#[124]⟩ = false) := Lib.hid hmk
          have HRES := Lib.hid h2
          clear hmk h2
          cases ha : areB (R ++ [⟨lo, lo⟩]) with
          | true =>
            have HAr := Lib.hid ha
            have HAre : Hid (Are (R ++ [⟨lo, lo⟩])) := Lib.hid (Classical.byContradiction fun h => by rw [areB_no h] at ha; cases ha)
            clear ha
            go_wp2_with (first
              | (go_at_call 101; ((with_reducible refine (sInt_any HTS.out P.out).mono ?_)); rintro e w1 ⟨hV, hG⟩; rw [HB1.out] at hV; obtain ⟨rfl, hP⟩ := hV; have S1 := Lib.hid (Bod.start hP (grown_trans HG.out hG) (HROW.out.apart hG (by have := HGB.out; have := HBW.out; omega)) HBW.out lo); clear hP hG)
              | (go_at_call 102; ((with_reducible refine (sEat_no ⟨#[46, 46]⟩ isE1 S1.out.P HK1.out).mono ?_)); rintro e w2 ⟨rfl, hP, hG⟩; have S2 := Lib.hid (S1.out.step hP hG); clear hP hG; obtain ⟨e0, e1, f0, f1⟩ := RowG.box S2.out.X)
              | (at_builtin; refine wpList_rng_append rfl _ _ rfl w.heap.size g m c R (by rfl) S2.out.O ⟨lo, lo⟩ _ (by rfl) rfl HM.out S2.out.G.size (m + 1) rfl ?_; intro g' c' w5 hrow5 hg5; have P5 := Lib.hid (S2.out.append hg5).1; have G5 := Lib.hid (S2.out.append hg5).2; have R5 := Lib.hid hrow5; have HG5 : Hid (g' ≠ b) := Lib.hid (by have h9 : w.heap.size ≤ g' := (hrow5.lt rfl).1; have := HBW.out; omega); clear hrow5 hg5)
              | (go_at_call 102; ((with_reducible refine (sEat_no ⟨#[124]⟩ isE2 P5.out HK2.out).mono ?_)); rintro e w6 ⟨rfl, hP, hG⟩; have P6 := Lib.hid hP; have G6 := Lib.hid (grown_trans G5.out hG); have R6 := Lib.hid (R5.out.apart hG HG5.out); clear hP hG)
              | (go_at_call 53; refine (sAre_any _ (R ++ [⟨lo, lo⟩]) _ R6.out.hasG).mono ?_; rw [HAr.out]; rintro e w7 ⟨rfl, hb⟩; have P7 := Lib.hid (P6.out.below hb); have G7 := Lib.hid (grown_trans G6.out (below_grown hb)); have R7 := Lib.hid (RowR.below R6.out hb); clear hb; have c2' := P7.out.c2; have f2' := P7.out.f2))
            go_ret
            exact ⟨_, _, _, _, rfl, R7.out, P7.out, G7.out, Lib.hid (.inl ⟨rfl, HRES.out, HAre.out⟩)⟩
          | false =>
            have HAr := Lib.hid ha
            have HAre : Hid (¬ Are (R ++ [⟨lo, lo⟩])) := Lib.hid (fun h => by rw [areB_yes h] at ha; cases ha)
            clear ha
            go_wp2_with (first
              | (go_at_call 101; ((with_reducible refine (sInt_any HTS.out P.out).mono ?_)); rintro e w1 ⟨hV, hG⟩; rw [HB1.out] at hV; obtain ⟨rfl, hP⟩ := hV; have S1 := Lib.hid (Bod.start hP (grown_trans HG.out hG) (HROW.out.apart hG (by have := HGB.out; have := HBW.out; omega)) HBW.out lo); clear hP hG)
              | (go_at_call 102; ((with_reducible refine (sEat_no ⟨#[46, 46]⟩ isE1 S1.out.P HK1.out).mono ?_)); rintro e w2 ⟨rfl, hP, hG⟩; have S2 := Lib.hid (S1.out.step hP hG); clear hP hG; obtain ⟨e0, e1, f0, f1⟩ := RowG.box S2.out.X)
              | (at_builtin; refine wpList_rng_append rfl _ _ rfl w.heap.size g m c R (by rfl) S2.out.O ⟨lo, lo⟩ _ (by rfl) rfl HM.out S2.out.G.size (m + 1) rfl ?_; intro g' c' w5 hrow5 hg5; have P5 := Lib.hid (S2.out.append hg5).1; have G5 := Lib.hid (S2.out.append hg5).2; have R5 := Lib.hid hrow5; have HG5 : Hid (g' ≠ b) := Lib.hid (by have h9 : w.heap.size ≤ g' := (hrow5.lt rfl).1; have := HBW.out; omega); clear hrow5 hg5)
              | (go_at_call 102; ((with_reducible refine (sEat_no ⟨#[124]⟩ isE2 P5.out HK2.out).mono ?_)); rintro e w6 ⟨rfl, hP, hG⟩; have P6 := Lib.hid hP; have G6 := Lib.hid (grown_trans G5.out hG); have R6 := Lib.hid (R5.out.apart hG HG5.out); clear hP hG)
              | (go_at_call 53; refine (sAre_any _ (R ++ [⟨lo, lo⟩]) _ R6.out.hasG).mono ?_; rw [HAr.out]; rintro e w7 ⟨rfl, hb⟩; have P7 := Lib.hid (P6.out.below hb); have G7 := Lib.hid (grown_trans G6.out (below_grown hb)); have R7 := Lib.hid (RowR.below R6.out hb); clear hb; have c2' := P7.out.c2; have f2' := P7.out.f2))
            go_ret
            exact ⟨_, _, _, _, rfl, R7.out.apart (grownBy_set _ b 2 _) (fun e => HG5.out e), P7.out.setBad, grown_trans G7.out (grownBy_set _ _ _ _), Lib.hid (.inr ⟨rfl, fun Q k e => by rw [HRES.out] at e; cases e; exact HAre.out⟩)⟩
        · have HK2 : Hid (mkB (T.drop (p + k)) ⟨#[124]⟩ = true) := Lib.hid hmk
          have HLT : Hid (p + k + 1 ≤ n) := Lib.hid (by have h3 := mkB_len hmk; have h4 := P.out.size.1; omega)
          have HRUN2 := Lib.hid h2
          clear hmk h2
          go_wp2_with (first
            | (go_at_call 101; ((with_reducible refine (sInt_any HTS.out P.out).mono ?_)); rintro e w1 ⟨hV, hG⟩; rw [HB1.out] at hV; obtain ⟨rfl, hP⟩ := hV; have S1 := Lib.hid (Bod.start hP (grown_trans HG.out hG) (HROW.out.apart hG (by have := HGB.out; have := HBW.out; omega)) HBW.out lo); clear hP hG)
            | (go_at_call 102; ((with_reducible refine (sEat_no ⟨#[46, 46]⟩ isE1 S1.out.P HK1.out).mono ?_)); rintro e w2 ⟨rfl, hP, hG⟩; have S2 := Lib.hid (S1.out.step hP hG); clear hP hG; obtain ⟨e0, e1, f0, f1⟩ := RowG.box S2.out.X)
            | (at_builtin; refine wpList_rng_append rfl _ _ rfl w.heap.size g m c R (by rfl) S2.out.O ⟨lo, lo⟩ _ (by rfl) rfl HM.out S2.out.G.size (m + 1) rfl ?_; intro g' c' w5 hrow5 hg5; have P5 := Lib.hid (S2.out.append hg5).1; have G5 := Lib.hid (S2.out.append hg5).2; have R5 := Lib.hid hrow5; have HG5 : Hid (g' ≠ b) := Lib.hid (by have h9 : w.heap.size ≤ g' := (hrow5.lt rfl).1; have := HBW.out; omega); clear hrow5 hg5)
            | (go_at_call 102; ((with_reducible refine (sEat_yes ⟨#[124]⟩ isE2 P5.out HK2.out).mono ?_)); rintro e w6 ⟨rfl, hP, hG⟩; have P6 := Lib.hid hP; have G6 := Lib.hid (grown_trans G5.out hG); have R6 := Lib.hid (R5.out.apart hG HG5.out); clear hP hG))
          go_roundw
          case rel => exact ⟨p + k + 1, m + 1, g', c', R ++ [⟨lo, lo⟩], Lib.hid ⟨by have := HLT.out; omega, by have := HPM.out; omega⟩, rfl, HRUN2, R6.out, P6, G6⟩
          case measure => rw [HMEAS.out, P6.out.c1]; have := HLT.out; show n - (((p + k + 1 : Nat) : Int)).toNat < n - ((p : Nat) : Int).toNat; omega
      · have HB1 := Lib.hid hb1
        have HK1 : Hid (mkB (T.drop (p + k1)) ⟨#[46, 46]⟩ = true) := Lib.hid (by rw [List.drop_drop] at hm1; exact hm1)
        have HB2 : Hid (rdB (T.drop (p + k1 + 1)) = some (hi, j)) := Lib.hid (by rw [List.drop_drop] at hb2; exact hb2)
        have HADD : Hid (p + (k1 + 1 + j) = p + k1 + 1 + j) := Lib.hid (by omega)
        clear h1 hb1 hm1 hb2 hkl
        rw [HADD.out] at h2
        rcases h2 with ⟨hmk, h2⟩ | ⟨hmk, h2⟩
        · have HK2 : Hid (mkB (T.drop (p + k1 + 1 + j)) ⟨#[124]⟩ = false) := Lib.hid hmk
          have HRES := Lib.hid h2
          clear hmk h2
          cases ha : areB (R ++ [⟨lo, hi⟩]) with
          | true =>
            have HAr := Lib.hid ha
            have HAre : Hid (Are (R ++ [⟨lo, hi⟩])) := Lib.hid (Classical.byContradiction fun h => by rw [areB_no h] at ha; cases ha)
            clear ha
            go_wp2_with (first
              | (go_at_call 101; ((with_reducible refine (sInt_any HTS.out P.out).mono ?_)); rintro e w1 ⟨hV, hG⟩; rw [HB1.out] at hV; obtain ⟨rfl, hP⟩ := hV; have S1 := Lib.hid (Bod.start hP (grown_trans HG.out hG) (HROW.out.apart hG (by have := HGB.out; have := HBW.out; omega)) HBW.out lo); clear hP hG)
              | (go_at_call 102; ((with_reducible refine (sEat_yes ⟨#[46, 46]⟩ isE1 S1.out.P HK1.out).mono ?_)); rintro e w2 ⟨rfl, hP, hG⟩; have S2 := Lib.hid (S1.out.step hP hG); clear hP hG; obtain ⟨e0, e1, f0, f1⟩ := RowG.box S2.out.X)
              | (go_at_call 101; ((with_reducible refine (sInt_any HTS.out S2.out.P).mono ?_)); rintro e w3 ⟨hV, hG⟩; rw [HB2.out] at hV; obtain ⟨rfl, hP⟩ := hV; have S3 := Lib.hid (S2.out.step hP hG); clear hP hG e0 e1 f0 f1; obtain ⟨e0, e1, f0, f1⟩ := RowG.box S3.out.X; have S4 := Lib.hid (S3.out.put1 hi))
              | (at_builtin; refine wpList_rng_append rfl _ _ rfl w.heap.size g m c R (by rfl) S4.out.O ⟨lo, hi⟩ w3.heap.size (by rfl) (by simp) HM.out S4.out.G.size (m + 1) rfl ?_; intro g' c' w5 hrow5 hg5; have P5 := Lib.hid (S4.out.append hg5).1; have G5 := Lib.hid (S4.out.append hg5).2; have R5 := Lib.hid hrow5; have HG5 : Hid (g' ≠ b) := Lib.hid (by have h9 : w.heap.size ≤ g' := (hrow5.lt rfl).1; have := HBW.out; omega); clear hrow5 hg5)
              | (go_at_call 102; ((with_reducible refine (sEat_no ⟨#[124]⟩ isE2 P5.out HK2.out).mono ?_)); rintro e w6 ⟨rfl, hP, hG⟩; have P6 := Lib.hid hP; have G6 := Lib.hid (grown_trans G5.out hG); have R6 := Lib.hid (R5.out.apart hG HG5.out); clear hP hG)
              | (go_at_call 53; refine (sAre_any _ (R ++ [⟨lo, hi⟩]) _ R6.out.hasG).mono ?_; rw [HAr.out]; rintro e w7 ⟨rfl, hb⟩; have P7 := Lib.hid (P6.out.below hb); have G7 := Lib.hid (grown_trans G6.out (below_grown hb)); have R7 := Lib.hid (RowR.below R6.out hb); clear hb; have c2' := P7.out.c2; have f2' := P7.out.f2))
            go_ret
            exact ⟨_, _, _, _, rfl, R7.out, P7.out, G7.out, Lib.hid (.inl ⟨rfl, HRES.out, HAre.out⟩)⟩
          | false =>
            have HAr := Lib.hid ha
            have HAre : Hid (¬ Are (R ++ [⟨lo, hi⟩])) := Lib.hid (fun h => by rw [areB_yes h] at ha; cases ha)
            clear ha
            go_wp2_with (first
              | (go_at_call 101; ((with_reducible refine (sInt_any HTS.out P.out).mono ?_)); rintro e w1 ⟨hV, hG⟩; rw [HB1.out] at hV; obtain ⟨rfl, hP⟩ := hV; have S1 := Lib.hid (Bod.start hP (grown_trans HG.out hG) (HROW.out.apart hG (by have := HGB.out; have := HBW.out; omega)) HBW.out lo); clear hP hG)
              | (go_at_call 102; ((with_reducible refine (sEat_yes ⟨#[46, 46]⟩ isE1 S1.out.P HK1.out).mono ?_)); rintro e w2 ⟨rfl, hP, hG⟩; have S2 := Lib.hid (S1.out.step hP hG); clear hP hG; obtain ⟨e0, e1, f0, f1⟩ := RowG.box S2.out.X)
              | (go_at_call 101; ((with_reducible refine (sInt_any HTS.out S2.out.P).mono ?_)); rintro e w3 ⟨hV, hG⟩; rw [HB2.out] at hV; obtain ⟨rfl, hP⟩ := hV; have S3 := Lib.hid (S2.out.step hP hG); clear hP hG e0 e1 f0 f1; obtain ⟨e0, e1, f0, f1⟩ := RowG.box S3.out.X; have S4 := Lib.hid (S3.out.put1 hi))
              | (at_builtin; refine wpList_rng_append rfl _ _ rfl w.heap.size g m c R (by rfl) S4.out.O ⟨lo, hi⟩ w3.heap.size (by rfl) (by simp) HM.out S4.out.G.size (m + 1) rfl ?_; intro g' c' w5 hrow5 hg5; have P5 := Lib.hid (S4.out.append hg5).1; have G5 := Lib.hid (S4.out.append hg5).2; have R5 := Lib.hid hrow5; have HG5 : Hid (g' ≠ b) := Lib.hid (by have h9 : w.heap.size ≤ g' := (hrow5.lt rfl).1; have := HBW.out; omega); clear hrow5 hg5)
              | (go_at_call 102; ((with_reducible refine (sEat_no ⟨#[124]⟩ isE2 P5.out HK2.out).mono ?_)); rintro e w6 ⟨rfl, hP, hG⟩; have P6 := Lib.hid hP; have G6 := Lib.hid (grown_trans G5.out hG); have R6 := Lib.hid (R5.out.apart hG HG5.out); clear hP hG)
              | (go_at_call 53; refine (sAre_any _ (R ++ [⟨lo, hi⟩]) _ R6.out.hasG).mono ?_; rw [HAr.out]; rintro e w7 ⟨rfl, hb⟩; have P7 := Lib.hid (P6.out.below hb); have G7 := Lib.hid (grown_trans G6.out (below_grown hb)); have R7 := Lib.hid (RowR.below R6.out hb); clear hb; have c2' := P7.out.c2; have f2' := P7.out.f2))
            go_ret
            exact ⟨_, _, _, _, rfl, R7.out.apart (grownBy_set _ b 2 _) (fun e => HG5.out e), P7.out.setBad, grown_trans G7.out (grownBy_set _ _ _ _), Lib.hid (.inr ⟨rfl, fun Q k e => by rw [HRES.out] at e; cases e; exact HAre.out⟩)⟩
        · have HK2 : Hid (mkB (T.drop (p + k1 + 1 + j)) ⟨#[124]⟩ = true) := Lib.hid hmk
          have HLT : Hid (p + k1 + 1 + j + 1 ≤ n) := Lib.hid (by have h3 := mkB_len hmk; have h4 := P.out.size.1; omega)
          have HRUN2 := Lib.hid h2
          clear hmk h2
          go_wp2_with (first
            | (go_at_call 101; ((with_reducible refine (sInt_any HTS.out P.out).mono ?_)); rintro e w1 ⟨hV, hG⟩; rw [HB1.out] at hV; obtain ⟨rfl, hP⟩ := hV; have S1 := Lib.hid (Bod.start hP (grown_trans HG.out hG) (HROW.out.apart hG (by have := HGB.out; have := HBW.out; omega)) HBW.out lo); clear hP hG)
            | (go_at_call 102; ((with_reducible refine (sEat_yes ⟨#[46, 46]⟩ isE1 S1.out.P HK1.out).mono ?_)); rintro e w2 ⟨rfl, hP, hG⟩; have S2 := Lib.hid (S1.out.step hP hG); clear hP hG; obtain ⟨e0, e1, f0, f1⟩ := RowG.box S2.out.X)
            | (go_at_call 101; ((with_reducible refine (sInt_any HTS.out S2.out.P).mono ?_)); rintro e w3 ⟨hV, hG⟩; rw [HB2.out] at hV; obtain ⟨rfl, hP⟩ := hV; have S3 := Lib.hid (S2.out.step hP hG); clear hP hG e0 e1 f0 f1; obtain ⟨e0, e1, f0, f1⟩ := RowG.box S3.out.X; have S4 := Lib.hid (S3.out.put1 hi))
            | (at_builtin; refine wpList_rng_append rfl _ _ rfl w.heap.size g m c R (by rfl) S4.out.O ⟨lo, hi⟩ w3.heap.size (by rfl) (by simp) HM.out S4.out.G.size (m + 1) rfl ?_; intro g' c' w5 hrow5 hg5; have P5 := Lib.hid (S4.out.append hg5).1; have G5 := Lib.hid (S4.out.append hg5).2; have R5 := Lib.hid hrow5; have HG5 : Hid (g' ≠ b) := Lib.hid (by have h9 : w.heap.size ≤ g' := (hrow5.lt rfl).1; have := HBW.out; omega); clear hrow5 hg5)
            | (go_at_call 102; ((with_reducible refine (sEat_yes ⟨#[124]⟩ isE2 P5.out HK2.out).mono ?_)); rintro e w6 ⟨rfl, hP, hG⟩; have P6 := Lib.hid hP; have G6 := Lib.hid (grown_trans G5.out hG); have R6 := Lib.hid (R5.out.apart hG HG5.out); clear hP hG))
          go_roundw
          case rel => exact ⟨p + k1 + 1 + j + 1, m + 1, g', c', R ++ [⟨lo, hi⟩], Lib.hid ⟨by have := HLT.out; omega, by have := HPM.out; omega⟩, rfl, HRUN2, R6.out, P6, G6⟩
          case measure => rw [HMEAS.out, P6.out.c1]; have := HLT.out; show n - (((p + k1 + 1 + j + 1 : Nat) : Int)).toNat < n - ((p : Nat) : Int).toNat; omega
theorem sRgs_any (B b n cap : Nat) (A : Option Addr) (T : List Tok) (w : World) (hts : ∀ x ∈ T, x.t.size ≤ 1048576) (hnb : n ≤ 1048576) (h : Par B b A n cap T 0 false w) (res : Option (List Rg × Nat)) (hr : Run T 0 [] res) :
    Calls Tryz.prog 70 #[.pointer (some ⟨b, 0, none⟩)] w fun e w' => RgsV w B b A n cap T res e w' := sRgs_from 0 B b n cap A T w hts hnb h res hr
end Go.Proofs.YtkifdbeklagelaaGreatDoor

/- CHAPTER 4, RANGES READ: spec's ParseRanges. -/
namespace Go.Proofs.YtkifdbeklagelaaGreatDoor
open Go.RowKit NumP

theorem lex_texts {s : ByteArray} {T : List Tok} {e : Option Nat} (hL : Lx s.size s.data.toList T e) (hs : s.size ≤ 1048576) : ∀ x ∈ lexT T e, x.t.size ≤ 1048576 := by
  have h := hL.bd.2.1
  have h1 : s.data.toList.length = s.size := by simp
  intro x hx
  cases e with
  | some p => simp [lexT] at hx
  | none => have := (h x hx).1; omega
theorem areB_nil : areB [] = true := areB_yes ⟨by simp, .nil, by simp⟩
set_option maxRecDepth 100000 in
set_option maxHeartbeats 1000000 in
theorem sRgs_bad (B b n cap : Nat) (A : Option Addr) (T : List Tok) (w : World) (h : Par B b A n cap T 0 true w) :
    Calls Tryz.prog 70 #[.pointer (some ⟨b, 0, none⟩)] w fun e w' => ∃ v', e = .returned v' ∧ Par B b A n cap T 0 true w' ∧ Below w.heap.size w w' := by
  have hb0 : Below w.heap.size w (w.alloc (.cells #[] 81)) := below_al (Below.refl _ _) _
  have P0 := Lib.hid (h.below hb0)
  have HR0 := Lib.hid (rowG_new w w.heap.size (Nat.le_refl _))
  have HAr : Hid (areB [] = true) := Lib.hid areB_nil
  clear h
  go_enter Tryz.func70, Tryz.ntmps70
  go_wp2
  go_loopw [3] (fun u wr => u = .slice (some ⟨w.heap.size, 0, none⟩) 0 0 ∧ wr = w.alloc (.cells #[] 81)) (fun _ _ => 0)
  case atStart => exact ⟨rfl, rfl⟩
  case round =>
    obtain ⟨rfl, rfl⟩ := hrel
    have c2 := P0.out.c2
    go_wp2_with (go_at_call 53; refine (sAre_any _ [] _ HR0.out.hasG).mono ?_; rw [HAr.out]; rintro e w1 ⟨rfl, hb⟩)
    go_ret
    exact ⟨_, rfl, P0.out.below hb, below_step hb0 hb⟩
theorem parS_of {n j : Nat} {R : List Rg} {bad : Bool} {res : Option (List Rg × Nat)} (h : (bad = false ∧ res = some (R, j) ∧ Are R) ∨ (bad = true ∧ ∀ Q k, res = some (Q, k) → ¬ Are Q)) :
    ((!bad && decide (j = n)) = true → parS none n res = some R) ∧ ((!bad && decide (j = n)) = false → parS none n res = none) := by
  rcases h with ⟨rfl, rfl, ha⟩ | ⟨rfl, hno⟩
  · constructor
    · intro hq
      have : j = n := by simpa using hq
      subst this
      exact parS_ok ha
    · intro hq
      exact parS_len (by simpa using hq)
  · constructor
    · intro hq; simp at hq
    · intro _
      match res with
      | none => rfl
      | some (Q, k) => exact parS_no (hno Q k rfl)
end Go.Proofs.YtkifdbeklagelaaGreatDoor
