/- MERGED for a claim: ParS ParT RngAi ParJ ParU ParV ParW ParX. -/
import Derived.Test.YtdfapkceanicoaaDoorParI
import Derived.Test.YtdfapkceanicoaaDoorLexT
import Derived.IntWalk
import Derived.Test.YtdfapkceanicoaaDoorRngA
import Derived.Test.YtdfapkceanicoaaDoorLexC
set_option linter.unusedVariables false
set_option linter.unusedSimpArgs false
/- THE PARSER OF SPEC OVER TOKENS (chapters 4 to 10): its state in memory, l3At, l3Is, l3Eat, l3Take, l3End, l3New. -/
namespace Go.Proofs.YtdfapkceanicoaaDoor
open Go.RowKit NumP

/-- at block b lies a parser over the tokens T, at the i-th, bad or not -/
structure Par (B : Nat) (b : Nat) (A : Option Addr) (n cap : Nat) (T : List Tok) (i : Nat) (bad : Bool) (w : World) : Prop where
  c0 : w.cell? ⟨b, 0, none⟩ = some (.slice A n cap)
  c1 : w.cell? ⟨b, 1, none⟩ = some (.int .i64 i)
  c2 : w.cell? ⟨b, 2, none⟩ = some (.bool bad)
  f1 : w.frozen? ⟨b, 1, none⟩ = false
  f2 : w.frozen? ⟨b, 2, none⟩ = false
  lo : B ≤ b
  hi : b < w.heap.size
  tk : HasT w (.slice A n cap) T
  tb : ∀ a, A = some a → a.block < b
  le : i ≤ n
section
variable {B b n cap i : Nat} {A : Option Addr} {T : List Tok} {bad : Bool} {w w' : World}
theorem HasR.keep {α : Type} {enc : α → List Value} {z n cap : Nat} {A : Option Addr} {l : List α} (h : HasR enc z w (.slice A n cap) l) (hs : w.heap.size ≤ w'.heap.size) (hk : ∀ p : Addr, (∃ a, A = some a ∧ p.block = a.block) → w'.cell? p = w.cell? p) : HasR enc z w' (.slice A n cap) l := by
  obtain ⟨A', cap', hv, hn, hc⟩ := h
  cases hv
  refine ⟨A, cap, rfl, hn, fun j hj => ?_⟩
  obtain ⟨a, h1, h2, h3⟩ := hc j hj
  exact ⟨a, h1, Nat.lt_of_lt_of_le h2 hs, fun k x hx => by rw [hk _ ⟨a, h1, by rw [addr_blk, addr_blk]⟩]; exact h3 k x hx⟩
theorem Par.below (h : Par B b A n cap T i bad w) (hb : Below w.heap.size w w') : Par B b A n cap T i bad w' :=
  ⟨(hb.cell (p := ⟨b, 0, none⟩) h.hi).trans h.c0, (hb.cell (p := ⟨b, 1, none⟩) h.hi).trans h.c1, (hb.cell (p := ⟨b, 2, none⟩) h.hi).trans h.c2, (hb.frozen (p := ⟨b, 1, none⟩) h.hi).trans h.f1, (hb.frozen (p := ⟨b, 2, none⟩) h.hi).trans h.f2, h.lo, Nat.lt_of_lt_of_le h.hi hb.size, HasR.below h.tk hb, h.tb, h.le⟩
theorem Par.drewN (h : Par B b A n cap T i bad w) (q : Nat) : Par B b A n cap T i bad (w.drewN q) := ⟨h.c0, h.c1, h.c2, h.f1, h.f2, h.lo, h.hi, h.tk, h.tb, h.le⟩
theorem Par.other {j : Nat} (h : Par B b A n cap T i bad w) (hg : w.grownBy w' (some j)) (hj : b < j) : Par B b A n cap T i bad w' := by
  have hk : ∀ p : Addr, p.block ≤ b → w'.cell? p = w.cell? p := fun p hp => World.cell?_of_block (hg.block p.block (Nat.lt_of_le_of_lt hp h.hi) (fun e => by have := Option.some.inj e; omega))
  have hf : ∀ p : Addr, p.block ≤ b → w'.frozen? p = w.frozen? p := fun p hp => by
    unfold World.frozen?; rw [hg.block p.block (Nat.lt_of_le_of_lt hp h.hi) (fun e => by have := Option.some.inj e; omega)]
  exact ⟨(hk ⟨b, 0, none⟩ (Nat.le_refl _)).trans h.c0, (hk ⟨b, 1, none⟩ (Nat.le_refl _)).trans h.c1, (hk ⟨b, 2, none⟩ (Nat.le_refl _)).trans h.c2, (hf ⟨b, 1, none⟩ (Nat.le_refl _)).trans h.f1, (hf ⟨b, 2, none⟩ (Nat.le_refl _)).trans h.f2, h.lo, Nat.lt_of_lt_of_le h.hi hg.size,
    HasR.keep h.tk hg.size (fun p ⟨a, h1, h2⟩ => hk p (by have := h.tb a h1; omega)), h.tb, h.le⟩
theorem grownBy_set (w : World) (b o : Nat) (v : Value) : w.grownBy (w.setCell ⟨b, o, none⟩ v) (some b) := by
  have h := Below.setCell (Below.refl b w) (p := ⟨b, o, none⟩) (Nat.le_refl _) v
  refine ⟨h.os, h.tape, h.output, h.size, fun k hk hne => ?_⟩
  have hkb : b ≠ k := fun e => hne (by rw [e])
  simp [World.setCell, Array.getElem?_modify, hkb]
theorem Par.setI (h : Par B b A n cap T i bad w) {j : Nat} (hj : j ≤ n) : Par B b A n cap T j bad (w.setCell ⟨b, 1, none⟩ (.int .i64 j)) := by
  have hs : w.heap.size ≤ (w.setCell ⟨b, 1, none⟩ (.int .i64 j)).heap.size := (grownBy_set w b 1 _).size
  have hk : ∀ p : Addr, p ≠ ⟨b, 1, none⟩ → (w.setCell ⟨b, 1, none⟩ (.int .i64 j)).cell? p = w.cell? p := fun p hp => World.cell?_setCell_other w ⟨b, 1, none⟩ p _ (fun e => hp e.symm)
  refine ⟨(hk _ (by simp)).trans h.c0, ?_, (hk _ (by simp)).trans h.c2, ?_, ?_, h.lo, Nat.lt_of_lt_of_le h.hi hs, HasR.keep h.tk hs (fun p ⟨a, h1, h2⟩ => hk p (fun e => by subst e; have := h.tb a h1; simp at h2; omega)), h.tb, hj⟩
  · exact World.cell?_setCell_same w _ _ h.c1
  · rw [World.frozen?_setCell]; exact h.f1
  · rw [World.frozen?_setCell]; exact h.f2
theorem Par.setBad (h : Par B b A n cap T i bad w) : Par B b A n cap T i true (w.setCell ⟨b, 2, none⟩ (.bool true)) := by
  have hs : w.heap.size ≤ (w.setCell ⟨b, 2, none⟩ (.bool true)).heap.size := (grownBy_set w b 2 _).size
  have hk : ∀ p : Addr, p ≠ ⟨b, 2, none⟩ → (w.setCell ⟨b, 2, none⟩ (.bool true)).cell? p = w.cell? p := fun p hp => World.cell?_setCell_other w ⟨b, 2, none⟩ p _ (fun e => hp e.symm)
  refine ⟨(hk _ (by simp)).trans h.c0, (hk _ (by simp)).trans h.c1, ?_, ?_, ?_, h.lo, Nat.lt_of_lt_of_le h.hi hs, HasR.keep h.tk hs (fun p ⟨a, h1, h2⟩ => hk p (fun e => by subst e; have := h.tb a h1; simp at h2; omega)), h.tb, h.le⟩
  · exact World.cell?_setCell_same w _ _ h.c2
  · rw [World.frozen?_setCell]; exact h.f1
  · rw [World.frozen?_setCell]; exact h.f2
theorem Par.size (h : Par B b A n cap T i bad w) : n = T.length ∧ n ≤ 9223372036854775807 := HasT.size h.tk
theorem Par.at (h : Par B b A n cap T i bad w) (hi : i < n) : ∃ a x r, A = some a ∧ T.drop i = x :: r ∧ x ∈ T ∧ w.cell? (a.add (i * 3)) = some (.int .i64 x.k) ∧ w.cell? ⟨(a.add (i * 3)).block, (a.add (i * 3)).off + 1, none⟩ = some (.string x.t) := by
  obtain ⟨hn, _⟩ := h.size
  obtain ⟨A', cap', hv, _, hc⟩ := h.tk
  cases hv
  obtain ⟨a, ha, hb, hk⟩ := HasT.tk hc i (by omega)
  exact ⟨a, T[i]'(by omega), T.drop (i + 1), ha, List.drop_eq_getElem_cons (by omega), List.getElem_mem _, hk.1, hk.2.1⟩
end
section
variable {B b n cap i : Nat} {A : Option Addr} {T : List Tok} {w : World}
set_option maxRecDepth 100000 in
theorem sAt_bad (k : Int) (m : ByteArray) (h : Par B b A n cap T i true w) :
    Calls Tryd.prog 54 #[.pointer (some ⟨b, 0, none⟩), .int .i64 k, .string m] w fun e w' => e = .returned (.bool false) ∧ ∃ q, w' = w.drewN q := by
  have c2 := h.c2
  clear h
  go_enter Tryd.func54, Tryd.ntmps54
  go_wp2
  go_quiet (fail)
  go_wp2
  go_ret
  exact ⟨rfl, nq, rfl⟩
set_option maxRecDepth 100000 in
theorem sAt_end (k : Int) (m : ByteArray) (h : Par B b A n cap T i false w) (hi : i = n) :
    Calls Tryd.prog 54 #[.pointer (some ⟨b, 0, none⟩), .int .i64 k, .string m] w fun e w' => e = .returned (.bool false) ∧ ∃ q, w' = w.drewN q := by
  have c0 := h.c0
  have c1 := h.c1
  have c2 := h.c2
  subst hi
  have hlt : decide ((i : Int) < (i : Int)) = false := by simp
  clear h
  go_enter Tryd.func54, Tryd.ntmps54
  go_wp2
  go_quiet (fail)
  go_wp2
  go_ret
  exact ⟨rfl, nq, rfl⟩
set_option maxRecDepth 100000 in
set_option maxHeartbeats 1000000 in
theorem sAt_kind (k : Int) (m : ByteArray) (h : Par B b A n cap T i false w) (hi : i < n) {x : Tok} {r : List Tok} (hx : T.drop i = x :: r) (hk : ¬ x.k = k) :
    Calls Tryd.prog 54 #[.pointer (some ⟨b, 0, none⟩), .int .i64 k, .string m] w fun e w' => e = .returned (.bool false) ∧ ∃ q, w' = w.drewN q := by
  have c0 := h.c0
  have c1 := h.c1
  have c2 := h.c2
  obtain ⟨a, y, r', rfl, hy, _, d0, d1⟩ := h.at hi
  have hn' := h.size.2
  rw [hx] at hy
  cases hy
  have hlt : decide ((i : Int) < (n : Int)) = true := by simp; omega
  have hlt2 : (i : Int) < (n : Int) := by omega
  have hlt3 : decide (i < n) = true := decide_eq_true hi
  have hk1 : (x.k == k) = false := by simpa using hk
  clear h hx hk
  go_enter Tryd.func54, Tryd.ntmps54
  go_wp2
  go_quiet (fail)
  go_wp2
  go_ret
  exact ⟨rfl, nq, rfl⟩
set_option maxRecDepth 100000 in
set_option maxHeartbeats 1000000 in
theorem sAt_any (k : Int) (h : Par B b A n cap T i false w) (hi : i < n) {x : Tok} {r : List Tok} (hx : T.drop i = x :: r) (hk : x.k = k) :
    Calls Tryd.prog 54 #[.pointer (some ⟨b, 0, none⟩), .int .i64 k, .string ⟨#[]⟩] w fun e w' => e = .returned (.bool true) ∧ ∃ q, w' = w.drewN q := by
  have c0 := h.c0
  have c1 := h.c1
  have c2 := h.c2
  obtain ⟨a, y, r', rfl, hy, _, d0, d1⟩ := h.at hi
  have hn' := h.size.2
  rw [hx] at hy
  cases hy
  have hlt : decide ((i : Int) < (n : Int)) = true := by simp; omega
  have hlt2 : (i : Int) < (n : Int) := by omega
  have hlt3 : decide (i < n) = true := decide_eq_true hi
  have hk1 : (x.k == k) = true := by simpa using hk
  clear h hx hk
  go_enter Tryd.func54, Tryd.ntmps54
  go_wp2
  go_quiet (fail)
  go_wp2
  go_ret
  exact ⟨rfl, nq, rfl⟩
set_option maxRecDepth 100000 in
set_option maxHeartbeats 1000000 in
theorem sAt_text (k : Int) (m : ByteArray) (hm : m.toList.isEmpty = false) (h : Par B b A n cap T i false w) (hi : i < n) {x : Tok} {r : List Tok} (hx : T.drop i = x :: r) (hk : x.k = k) :
    Calls Tryd.prog 54 #[.pointer (some ⟨b, 0, none⟩), .int .i64 k, .string m] w fun e w' => e = .returned (.bool (decide (x.t = m))) ∧ ∃ q, w' = w.drewN q := by
  have c0 := h.c0
  have c1 := h.c1
  have c2 := h.c2
  obtain ⟨a, y, r', rfl, hy, _, d0, d1⟩ := h.at hi
  have hn' := h.size.2
  rw [hx] at hy
  cases hy
  have hlt : decide ((i : Int) < (n : Int)) = true := by simp; omega
  have hlt2 : (i : Int) < (n : Int) := by omega
  have hlt3 : decide (i < n) = true := decide_eq_true hi
  have hk1 : (x.k == k) = true := by simpa using hk
  have hm1 : (m.toList == []) = false := by cases e : m.toList with
    | nil => rw [e] at hm; cases hm
    | cons c r => rfl
  have hm2 : ¬ m.toList = [] := by intro e; rw [e] at hm; cases hm
  by_cases ht : x.t = m
  · rw [decide_eq_true ht]
    have ht1 : (x.t.toList == m.toList) = true := by rw [ht]; simp
    clear h hx hk ht
    go_enter Tryd.func54, Tryd.ntmps54
    go_wp2
    go_quiet (fail)
    go_wp2
    go_ret
    exact ⟨rfl, nq, rfl⟩
  · rw [decide_eq_false ht]
    have ht1 : (x.t.toList == m.toList) = false := by
      simp only [beq_eq_false_iff_ne, ne_eq]
      intro e; exact ht (by rw [ByteArray.toList_eq, ByteArray.toList_eq] at e; apply ByteArray.ext; exact Array.toList_inj.1 e)
    clear h hx hk ht
    go_enter Tryd.func54, Tryd.ntmps54
    go_wp2
    go_quiet (fail)
    go_wp2
    go_ret
    exact ⟨rfl, nq, rfl⟩
/-- a mark at hand -/
theorem sAt_mk (m : ByteArray) (hm : m.toList.isEmpty = false) (h : Par B b A n cap T i false w) :
    Calls Tryd.prog 54 #[.pointer (some ⟨b, 0, none⟩), .int .i64 4, .string m] w fun e w' => e = .returned (.bool (mkB (T.drop i) m)) ∧ ∃ q, w' = w.drewN q := by
  rcases Nat.lt_or_ge i n with hi | hi
  · obtain ⟨a, x, r, _, hx, _⟩ := h.at hi
    rw [hx]
    by_cases hk : x.k = 4
    · rw [mkB_text hk]; exact sAt_text 4 m hm h hi hx hk
    · rw [mkB_kind hk]; exact sAt_kind 4 m h hi hx hk
  · have e : i = n := by have := h.le; omega
    have hn := h.size.1
    rw [List.drop_eq_nil_of_le (by omega), mkB_nil]
    exact sAt_end 4 m h e
end
end Go.Proofs.YtdfapkceanicoaaDoor

/- THE PARSER OF SPEC OVER TOKENS, SECOND PART: l3Is, l3Eat, l3Take, l3End, l3New. -/
namespace Go.Proofs.YtdfapkceanicoaaDoor
open Go.RowKit NumP

section
variable {B b n cap i : Nat} {A : Option Addr} {T : List Tok} {w : World}
theorem grown_drewN (w : World) (q b : Nat) : w.grownBy (w.drewN q) (some b) := ⟨rfl, rfl, rfl, Nat.le_refl _, fun _ _ _ => rfl⟩
theorem grown_trans {a b c : World} {j : Nat} (h : a.grownBy b (some j)) (k : b.grownBy c (some j)) : a.grownBy c (some j) := h.trans k
set_option maxRecDepth 100000 in
theorem sIs_bad (m : ByteArray) (h : Par B b A n cap T i true w) :
    Calls Tryd.prog 87 #[.pointer (some ⟨b, 0, none⟩), .string m] w fun e w' => e = .returned (.bool false) ∧ ∃ q, w' = w.drewN q := by
  go_enter Tryd.func87, Tryd.ntmps87
  go_wp2_with (go_at_call 54; refine (sAt_bad 4 m h).mono ?_; rintro e w1 ⟨rfl, q, rfl⟩)
  go_ret
  exact ⟨rfl, q, rfl⟩
set_option maxRecDepth 100000 in
theorem sIs_mk (m : ByteArray) (hm : m.toList.isEmpty = false) (h : Par B b A n cap T i false w) :
    Calls Tryd.prog 87 #[.pointer (some ⟨b, 0, none⟩), .string m] w fun e w' => e = .returned (.bool (mkB (T.drop i) m)) ∧ ∃ q, w' = w.drewN q := by
  generalize hr : mkB (T.drop i) m = r
  have HM := Lib.hid hr
  clear hr
  go_enter Tryd.func87, Tryd.ntmps87
  go_wp2_with (go_at_call 54; refine (sAt_mk m hm h).mono ?_; rw [HM.out]; rintro e w1 ⟨rfl, q, rfl⟩)
  go_ret
  exact ⟨rfl, q, rfl⟩
set_option maxRecDepth 100000 in
theorem sEat_bad (m : ByteArray) (h : Par B b A n cap T i true w) :
    Calls Tryd.prog 53 #[.pointer (some ⟨b, 0, none⟩), .string m] w fun e w' => e = .returned (.bool false) ∧ Par B b A n cap T i true w' ∧ w.grownBy w' (some b) := by
  have H := Lib.hid h
  clear h
  go_enter Tryd.func53, Tryd.ntmps53
  go_wp2_with (go_at_call 87; refine (sIs_bad m H.out).mono ?_; rintro e w1 ⟨rfl, q, rfl⟩)
  go_ret
  exact ⟨rfl, H.out.drewN q, grown_drewN w q b⟩
set_option maxRecDepth 100000 in
theorem sEat_no (m : ByteArray) (hm : m.toList.isEmpty = false) (h : Par B b A n cap T i false w) (hk : mkB (T.drop i) m = false) :
    Calls Tryd.prog 53 #[.pointer (some ⟨b, 0, none⟩), .string m] w fun e w' => e = .returned (.bool false) ∧ Par B b A n cap T i false w' ∧ w.grownBy w' (some b) := by
  have H := Lib.hid h
  have HK := Lib.hid hk
  clear h hk
  go_enter Tryd.func53, Tryd.ntmps53
  go_wp2_with (go_at_call 87; refine (sIs_mk m hm H.out).mono ?_; rw [HK.out]; rintro e w1 ⟨rfl, q, rfl⟩)
  go_ret
  exact ⟨rfl, H.out.drewN q, grown_drewN w q b⟩
set_option maxRecDepth 100000 in
theorem sEat_yes (m : ByteArray) (hm : m.toList.isEmpty = false) (h : Par B b A n cap T i false w) (hk : mkB (T.drop i) m = true) :
    Calls Tryd.prog 53 #[.pointer (some ⟨b, 0, none⟩), .string m] w fun e w' => e = .returned (.bool true) ∧ Par B b A n cap T (i + 1) false w' ∧ w.grownBy w' (some b) := by
  have H := Lib.hid h
  have HK := Lib.hid hk
  have hlt := mkB_len hk
  have hn := h.size.1
  have HI : Hid (i + 1 ≤ n) := Lib.hid (by omega)
  have hib : (i : Int) + 1 ≤ 9223372036854775807 := by have := h.size.2; omega
  clear h hk hn hlt
  go_enter Tryd.func53, Tryd.ntmps53
  go_wp2_with (go_at_call 87; refine (sIs_mk m hm H.out).mono ?_; rw [HK.out]; rintro e w1 ⟨rfl, q, hq⟩; have HP := Lib.hid (H.out.drewN q); rw [← hq] at HP; have HG := Lib.hid (grown_drewN w q b); rw [← hq] at HG; clear hq; have c1 := HP.out.c1; have f1 := HP.out.f1; have HS := Lib.hid (HP.out.setI HI.out); have HG2 := Lib.hid (grownBy_set w1 b 1 (.int .i64 ((i + 1 : Nat) : Int))))
  go_ret
  rw [Int.natCast_add] at HS HG2
  exact ⟨rfl, HS.out, grown_trans HG.out HG2.out⟩
theorem Par.atk {k : Nat} {bad : Bool} (h : Par B b A n cap T i bad w) (hi : k < n) : ∃ a x r, A = some a ∧ T.drop k = x :: r ∧ w.cell? (a.add (k * 3)) = some (.int .i64 x.k) ∧ w.cell? ⟨(a.add (k * 3)).block, (a.add (k * 3)).off + 1, none⟩ = some (.string x.t) := by
  obtain ⟨hn, _⟩ := h.size
  obtain ⟨A', cap', hv, _, hc⟩ := h.tk
  cases hv
  obtain ⟨a, ha, hb, hk⟩ := HasT.tk hc k (by omega)
  exact ⟨a, T[k]'(by omega), T.drop (k + 1), ha, List.drop_eq_getElem_cons (by omega), hk.1, hk.2.1⟩
set_option maxRecDepth 100000 in
theorem sTake_bad (h : Par B b A n cap T i true w) :
    Calls Tryd.prog 55 #[.pointer (some ⟨b, 0, none⟩), .int .i64 2] w fun e w' => e = .returned (.string ⟨#[]⟩) ∧ Par B b A n cap T i true w' ∧ w.grownBy w' (some b) := by
  have H := Lib.hid h
  clear h
  go_enter Tryd.func55, Tryd.ntmps55
  go_wp2_with (go_at_call 54; refine (sAt_bad 2 _ H.out).mono ?_; rintro e w1 ⟨rfl, q, hq⟩; have HP := Lib.hid (H.out.drewN q); rw [← hq] at HP; have HG := Lib.hid (grown_drewN w q b); rw [← hq] at HG; clear hq; have c2 := HP.out.c2; have f2 := HP.out.f2; have HS := Lib.hid HP.out.setBad; have HG2 := Lib.hid (grownBy_set w1 b 2 (.bool true)))
  go_ret
  exact ⟨rfl, HS.out, grown_trans HG.out HG2.out⟩
set_option maxRecDepth 100000 in
theorem sTake_no (h : Par B b A n cap T i false w) (hk : ∀ x r, T.drop i = x :: r → ¬ x.k = 2) :
    Calls Tryd.prog 55 #[.pointer (some ⟨b, 0, none⟩), .int .i64 2] w fun e w' => e = .returned (.string ⟨#[]⟩) ∧ Par B b A n cap T i true w' ∧ w.grownBy w' (some b) := by
  have H := Lib.hid h
  have HC : Hid (∀ m, Calls Tryd.prog 54 #[.pointer (some ⟨b, 0, none⟩), .int .i64 2, .string m] w fun e w' => e = .returned (.bool false) ∧ ∃ q, w' = w.drewN q) := Lib.hid fun m => by
    rcases Nat.lt_or_ge i n with hi | hi
    · obtain ⟨a, x, r, _, hx, _⟩ := h.at hi
      exact sAt_kind 2 m h hi hx (hk x r hx)
    · exact sAt_end 2 m h (by have := h.le; omega)
  clear h hk
  go_enter Tryd.func55, Tryd.ntmps55
  go_wp2_with (go_at_call 54; refine (HC.out _).mono ?_; rintro e w1 ⟨rfl, q, hq⟩; have HP := Lib.hid (H.out.drewN q); rw [← hq] at HP; have HG := Lib.hid (grown_drewN w q b); rw [← hq] at HG; clear hq; have c2 := HP.out.c2; have f2 := HP.out.f2; have HS := Lib.hid HP.out.setBad; have HG2 := Lib.hid (grownBy_set w1 b 2 (.bool true)))
  go_ret
  exact ⟨rfl, HS.out, grown_trans HG.out HG2.out⟩
set_option maxRecDepth 100000 in
set_option maxHeartbeats 1000000 in
theorem sTake_yes (h : Par B b A n cap T i false w) {x : Tok} {r : List Tok} (hx : T.drop i = x :: r) (hk : x.k = 2) :
    Calls Tryd.prog 55 #[.pointer (some ⟨b, 0, none⟩), .int .i64 2] w fun e w' => e = .returned (.string x.t) ∧ Par B b A n cap T (i + 1) false w' ∧ w.grownBy w' (some b) := by
  have H := Lib.hid h
  have hn := h.size.1
  have hn' := h.size.2
  have hi : i < n := by
    rcases Nat.lt_or_ge i n with hi | hi
    · exact hi
    · rw [List.drop_eq_nil_of_le (by omega)] at hx; cases hx
  have HC := Lib.hid (sAt_any 2 h hi hx hk)
  have HI : Hid (i + 1 ≤ n) := Lib.hid (by omega)
  obtain ⟨a, y, r', rfl, hy, _, _, _⟩ := h.at hi
  rw [hx] at hy
  cases hy
  have HX := Lib.hid hx
  have hin : (i : Int) < (n : Int) := by omega
  have hib : (i : Int) + 1 ≤ 9223372036854775807 := by omega
  clear h hx hk hn
  go_enter Tryd.func55, Tryd.ntmps55
  go_wp2_with (go_at_call 54; refine HC.out.mono ?_; rintro e w1 ⟨rfl, q, hq⟩; have HP := Lib.hid (H.out.drewN q); rw [← hq] at HP; have HG := Lib.hid (grown_drewN w q b); rw [← hq] at HG; clear hq; have c1 := HP.out.c1; have f1 := HP.out.f1; have HS := Lib.hid (HP.out.setI HI.out); have HG2 := Lib.hid (grownBy_set w1 b 1 (.int .i64 ((i + 1 : Nat) : Int))))
  have HS2 : Hid (Par B b (some a) n cap T (i + 1) false (w1.setCell ⟨b, 1, none⟩ (.int .i64 ((i : Int) + 1)))) := HS
  have HG3 : Hid (w1.grownBy (w1.setCell ⟨b, 1, none⟩ (.int .i64 ((i : Int) + 1))) (some b)) := HG2
  clear HS HG2 c1 f1
  generalize w1.setCell ⟨b, 1, none⟩ (.int .i64 ((i : Int) + 1)) = w2 at HS2 HG3 ⊢
  have c0 := HS2.out.c0
  have c1 : w2.cell? ⟨b, 1, none⟩ = some (.int .i64 ((i : Int) + 1)) := HS2.out.c1
  obtain ⟨a', y, r', ha', hy, d0, d1⟩ := HS2.out.atk hi
  cases ha'
  rw [HX.out] at hy
  cases hy
  have hs1 : (i : Int) + 1 - 1 = (i : Int) := by omega
  have hw1 : IntKind.i64.wrap ((i : Int) + 1 - 1) = (i : Int) := by rw [hs1]; exact IntWalk.i64_in _ (by omega)
  go_wp2
  go_quiet (fail)
  go_wp2
  go_ret
  exact ⟨rfl, HS2.out.drewN _, grown_trans HG.out (grown_trans HG3.out (grown_drewN _ _ b))⟩
set_option maxRecDepth 100000 in
set_option maxHeartbeats 1000000 in
theorem sEndP_any {bad : Bool} (h : Par B b A n cap T i bad w) :
    Calls Tryd.prog 31 #[.pointer (some ⟨b, 0, none⟩)] w fun e w' => e = .returned (.bool (!bad && decide (i = n))) ∧ ∃ q, w' = w.drewN q := by
  have c0 := h.c0
  have c1 := h.c1
  have c2 := h.c2
  clear h
  cases bad with
  | true =>
    go_enter Tryd.func31, Tryd.ntmps31
    go_wp2
    go_quiet (fail)
    go_wp2
    go_ret
    exact ⟨rfl, nq, rfl⟩
  | false =>
    by_cases hi : i = n
    · subst hi
      rw [show (!false && decide (i = i)) = true by simp]
      go_enter Tryd.func31, Tryd.ntmps31
      go_wp2
      go_quiet (fail)
      go_wp2
      go_ret
      exact ⟨ret_bool (by simp), nq, rfl⟩
    · rw [show (!false && decide (i = n)) = false by simp [hi]]
      have h1 : ((i : Int) == (n : Int)) = false := by simp; omega
      have h2 : (i == n) = false := by simpa using hi
      clear hi
      go_enter Tryd.func31, Tryd.ntmps31
      go_wp2
      go_quiet (fail)
      go_wp2
      go_ret
      exact ⟨rfl, nq, rfl⟩
end
end Go.Proofs.YtdfapkceanicoaaDoor

/- CHAPTER 4: impl.AreRanges. -/
namespace Go.Proofs.YtdfapkceanicoaaDoor
open Go.RowKit

end Go.Proofs.YtdfapkceanicoaaDoor

/- CHAPTER 4, RANGES READ: impl's readRanges, ParseRanges. -/
namespace Go.Proofs.YtdfapkceanicoaaDoor
open Go.RowKit NumP

theorem HasT.cutN {w : World} {a : Addr} {n cap : Nat} {l : List Tok} (h : HasT w (.slice (some a) n cap) l) (hc : n ≤ cap) {k : Nat} (hk : k ≤ n) (e : ¬ cap = k) : HasT w (.slice (some (a.add (k * 3))) (n - k) (cap - k)) (l.drop k) := by
  have := HasT.cut h hc hk
  rwa [if_neg e] at this
theorem HasT.cutE {w : World} {a : Addr} {n cap : Nat} {l : List Tok} (h : HasT w (.slice (some a) n cap) l) (hc : n ≤ cap) {k : Nat} (hk : k ≤ n) (e : cap = k) : HasT w (.slice (some a) (n - k) (cap - k)) (l.drop k) := by
  have := HasT.cut h hc hk
  rwa [if_pos e] at this
theorem RowR.shape {α : Type} {enc : α → List Value} {z E B : Nat} {w : World} {v : Value} {l : List α} (h : RowR enc z E B w v l) : ∃ A cap, v = .slice A l.length cap := by
  rcases RowR.form h with ⟨rfl, rfl⟩ | ⟨g, cap, rfl, _⟩
  · exact ⟨none, 0, rfl⟩
  · exact ⟨_, cap, rfl⟩
theorem parS_bad {p n : Nat} {res : Option (List Rg × Nat)} : parS (some p) n res = none := rfl
theorem parS_none {n : Nat} : parS none n none = none := rfl
theorem parS_ok {n : Nat} {R : List Rg} (h : Are R) : parS none n (some (R, n)) = some R := by unfold parS; simp [h]
theorem parS_len {n m : Nat} {R : List Rg} (h : ¬ m = n) : parS none n (some (R, m)) = none := by unfold parS; simp [h]
theorem parS_no {n m : Nat} {R : List Rg} (h : ¬ Are R) : parS none n (some (R, m)) = none := by unfold parS; simp [h]
end Go.Proofs.YtdfapkceanicoaaDoor

/- CHAPTER 4, RANGES READ: spec's l3New, l4Int. -/
namespace Go.Proofs.YtdfapkceanicoaaDoor
open Go.RowKit NumP

section
variable {B b n cap i : Nat} {A : Option Addr} {T : List Tok} {w : World}
theorem below_grown {w w' : World} {row : Option Nat} (h : Below w.heap.size w w') : w.grownBy w' row := ⟨h.os, h.tape, h.output, h.size, fun k hk _ => h.block k hk⟩
theorem parseL_nil : parseL [] = none := rfl
theorem parseL_minus : parseL [45] = none := rfl
theorem par_new {w1 : World} {o : Value} (hv : RowT B w1 (.slice A n cap) T) (bad : Bool) (t : TypeId) (hB : B ≤ w1.heap.size) : Par B w1.heap.size A n cap T 0 bad (w1.alloc (.cells #[.slice A n cap, .int .i64 0, .bool bad, o] t)) := by
  have hn := World.news_of_block (cs := #[.slice A n cap, .int .i64 0, .bool bad, o]) (t := t) (fr := (0, 0)) (heap_alloc_new w1 _)
  have hf : ∀ j, (w1.alloc (.cells #[.slice A n cap, .int .i64 0, .bool bad, o] t)).frozen? ⟨w1.heap.size, j, none⟩ = false := fun j => by
    unfold World.frozen?
    dsimp only
    rw [heap_alloc_new]
    simp
  have h0 := hn 0 _ rfl
  have h1 := hn 1 _ rfl
  have h2 := hn 2 _ rfl
  rw [addr_zero] at h0 h1 h2
  refine ⟨h0, h1, h2, hf 1, hf 2, hB, by simp, HasR.below (RowR.has Tok.enc_len hv) (below_al (Below.refl _ _) _), fun a ha => ?_, Nat.zero_le _⟩
  subst ha
  rcases RowR.form hv with ⟨h, _⟩ | ⟨g, cap', h, _, hg⟩
  · cases h
  · cases h; exact hg
set_option maxRecDepth 100000 in
theorem sNew_any (s : ByteArray) (hs : s.size ≤ 1048576) (T : List Tok) (e : Option Nat) (hL : Lx s.size s.data.toList T e) (w : World) :
    Calls Tryd.prog 29 #[.string s] w fun en w' => ∃ b A n cap, en = .returned (.pointer (some ⟨b, 0, none⟩)) ∧ Par w.heap.size b A n cap (lexT T e) 0 e.isSome w' ∧ Below w.heap.size w w' := by
  have HL := Lib.hid hL
  clear hL
  cases e with
  | none =>
    go_enter Tryd.func29, Tryd.ntmps29
    go_wp2_with (go_at_call 52; refine (sLex_any s hs T _ HL.out _).mono ?_; rintro en w1 ⟨v, rfl, hra, hb⟩; obtain ⟨A, cap, rfl⟩ := RowR.shape hra; rw [show lexI none = (-1 : Int) from rfl])
    go_ret
    exact ⟨_, _, _, _, rfl, par_new hra false _ hb.size, below_al hb _⟩
  | some p =>
    have hp0 : (0 : Int) ≤ (p : Int) := by omega
    have hp1 : decide ((0 : Int) ≤ (p : Int)) = true := decide_eq_true hp0
    go_enter Tryd.func29, Tryd.ntmps29
    go_wp2_with (go_at_call 52; refine (sLex_any s hs T _ HL.out _).mono ?_; rintro en w1 ⟨v, rfl, hra, hb⟩; obtain ⟨A, cap, rfl⟩ := RowR.shape hra; rw [show lexI (some p) = (p : Int) from rfl])
    go_ret
    exact ⟨_, _, _, _, rfl, par_new hra true _ hb.size, below_al hb _⟩
end
end Go.Proofs.YtdfapkceanicoaaDoor

/- CHAPTER 4, RANGES READ: spec's l4Ranges, ParseRanges. -/
namespace Go.Proofs.YtdfapkceanicoaaDoor
open Go.RowKit NumP

theorem rdR_noInv {l : List Tok} (h : rdR l = none) : rdB l = none ∨ ∃ lo k, rdB l = some (lo, k) ∧ mkB (l.drop k) dotsT = true ∧ rdB (l.drop (k + 1)) = none := by
  cases hb : rdB l with
  | none => exact .inl rfl
  | some p =>
    obtain ⟨lo, k⟩ := p
    cases hm : mkB (l.drop k) dotsT with
    | false => rw [rdR_one hb hm] at h; cases h
    | true =>
      rw [rdR_two hb hm] at h
      cases h2 : rdB (l.drop (k + 1)) with
      | none => exact .inr ⟨lo, k, rfl, hm, h2⟩
      | some q => rw [h2] at h; cases h
theorem rdR_inv {l : List Tok} {x : Rg} {k : Nat} (h : rdR l = some (x, k)) : (∃ lo, rdB l = some (lo, k) ∧ mkB (l.drop k) dotsT = false ∧ x = ⟨lo, lo⟩) ∨ (∃ lo k1 hi j, rdB l = some (lo, k1) ∧ mkB (l.drop k1) dotsT = true ∧ rdB (l.drop (k1 + 1)) = some (hi, j) ∧ x = ⟨lo, hi⟩ ∧ k = k1 + 1 + j) := by
  cases hb : rdB l with
  | none => rw [rdR_none hb] at h; cases h
  | some p =>
    obtain ⟨lo, k1⟩ := p
    cases hm : mkB (l.drop k1) dotsT with
    | false => rw [rdR_one hb hm] at h; cases h; exact .inl ⟨lo, rfl, hm, rfl⟩
    | true =>
      rw [rdR_two hb hm] at h
      cases h2 : rdB (l.drop (k1 + 1)) with
      | none => rw [h2] at h; cases h
      | some q => obtain ⟨hi, j⟩ := q; rw [h2] at h; cases h; exact .inr ⟨lo, k1, hi, j, rfl, hm, h2, rfl, rfl⟩
section
variable {W0 w1 w2 : World} {B b n cap i i' g m c bx : Nat} {A : Option Addr} {T : List Tok} {bad bad' : Bool} {R : List Rg} {x : Rg}
theorem grown_far {k : Nat} (h : W0.grownBy w1 (some b)) (hg : w1.grownBy w2 (some k)) (hk : W0.heap.size ≤ k) : W0.grownBy w2 (some b) :=
  ⟨hg.os.trans h.os, hg.tape.trans h.tape, hg.output.trans h.output, Nat.le_trans h.size hg.size, fun j hj hne => (hg.block j (Nat.lt_of_lt_of_le hj h.size) (fun e => by have := Option.some.inj e; omega)).trans (h.block j hj hne)⟩
end
theorem isE1 : (⟨#[46, 46]⟩ : ByteArray).toList.isEmpty = false := by rw [ByteArray.toList_eq]; rfl
theorem isE2 : (⟨#[124]⟩ : ByteArray).toList.isEmpty = false := by rw [ByteArray.toList_eq]; rfl
end Go.Proofs.YtdfapkceanicoaaDoor

/- CHAPTER 4, RANGES READ: spec's ParseRanges. -/
namespace Go.Proofs.YtdfapkceanicoaaDoor
open Go.RowKit NumP

theorem lex_texts {s : ByteArray} {T : List Tok} {e : Option Nat} (hL : Lx s.size s.data.toList T e) (hs : s.size ≤ 1048576) : ∀ x ∈ lexT T e, x.t.size ≤ 1048576 := by
  have h := hL.bd.2.1
  have h1 : s.data.toList.length = s.size := by simp
  intro x hx
  cases e with
  | some p => simp [lexT] at hx
  | none => have := (h x hx).1; omega
theorem areB_nil : areB [] = true := areB_yes ⟨by simp, .nil, by simp⟩
theorem parS_of {n j : Nat} {R : List Rg} {bad : Bool} {res : Option (List Rg × Nat)} (h : (bad = false ∧ res = some (R, j) ∧ Are R) ∨ (bad = true ∧ ∀ Q k, res = some (Q, k) → ¬ Are Q)) :
    ((!bad && decide (j = n)) = true → parS none n res = some R) ∧ ((!bad && decide (j = n)) = false → parS none n res = none) := by
  rcases h with ⟨rfl, rfl, ha⟩ | ⟨rfl, hno⟩
  · constructor
    · intro hq
      have : j = n := by simpa using hq
      subst this
      exact parS_ok ha
    · intro hq
      exact parS_len (by simpa using hq)
  · constructor
    · intro hq; simp at hq
    · intro _
      match res with
      | none => rfl
      | some (Q, k) => exact parS_no (hno Q k rfl)
end Go.Proofs.YtdfapkceanicoaaDoor

/- THE PARSER OF SPEC OVER TOKENS at any kind: l3At, l3Take; the mark bad set. (Split off TyW: chapters 6 to 12 read tokens by it.) -/
namespace Go.Proofs.YtdfapkceanicoaaDoor
open Go.RowKit NumP
set_option maxRecDepth 100000

/-- the head is of kind k -/
def kB (k : Int) : List Tok → Bool
  | [] => false
  | x :: _ => decide (x.k = k)
theorem kB_inv {k : Int} {l : List Tok} (h : kB k l = true) : ∃ x r, l = x :: r ∧ x.k = k := by
  match l, h with
  | x :: r, h => exact ⟨x, r, rfl, by simpa [kB] using h⟩
theorem mkB_inv {m : ByteArray} {l : List Tok} (h : mkB l m = true) : ∃ x r, l = x :: r ∧ x.k = 4 := by
  match l, h with
  | x :: r, h =>
    by_cases hk : x.k = 4
    · exact ⟨x, r, rfl, hk⟩
    · rw [mkB_kind hk] at h; cases h
section
variable {B b n cap i : Nat} {A : Option Addr} {T : List Tok} {bad : Bool} {w : World}
theorem sAtK (k : Int) (h : Par B b A n cap T i bad w) :
    Calls Tryd.prog 54 #[.pointer (some ⟨b, 0, none⟩), .int .i64 k, .string ⟨#[]⟩] w fun e w' => e = .returned (.bool (!bad && kB k (T.drop i))) ∧ ∃ q, w' = w.drewN q := by
  cases bad with
  | true => exact sAt_bad k _ h
  | false =>
    rcases Nat.lt_or_ge i n with hi | hi
    · obtain ⟨a, x, r, _, hx, _⟩ := h.at hi
      rw [hx]
      by_cases hk : x.k = k
      · rw [show (!false && kB k (x :: r)) = true by simp [kB, hk]]; exact sAt_any k h hi hx hk
      · rw [show (!false && kB k (x :: r)) = false by simp [kB, hk]]; exact sAt_kind k _ h hi hx hk
    · have hn := h.size.1
      rw [List.drop_eq_nil_of_le (by omega)]
      exact sAt_end k _ h (by have := h.le; omega)
theorem Par.setBadV (z : Bool) (h : Par B b A n cap T i bad w) : Par B b A n cap T i z (w.setCell ⟨b, 2, none⟩ (.bool z)) := by
  have hs : w.heap.size ≤ (w.setCell ⟨b, 2, none⟩ (.bool z)).heap.size := (grownBy_set w b 2 _).size
  have hk : ∀ p : Addr, p ≠ ⟨b, 2, none⟩ → (w.setCell ⟨b, 2, none⟩ (.bool z)).cell? p = w.cell? p := fun p hp => World.cell?_setCell_other w ⟨b, 2, none⟩ p _ (fun e => hp e.symm)
  refine ⟨(hk _ (by simp)).trans h.c0, (hk _ (by simp)).trans h.c1, ?_, ?_, ?_, h.lo, Nat.lt_of_lt_of_le h.hi hs, HasR.keep h.tk hs (fun p ⟨a, h1, h2⟩ => hk p (fun e => by subst e; have := h.tb a h1; simp at h2; omega)), h.tb, h.le⟩
  · exact World.cell?_setCell_same w _ _ h.c2
  · rw [World.frozen?_setCell]; exact h.f1
  · rw [World.frozen?_setCell]; exact h.f2
theorem sTkN (k : Int) (h : Par B b A n cap T i bad w) (hk : (!bad && kB k (T.drop i)) = false) :
    Calls Tryd.prog 55 #[.pointer (some ⟨b, 0, none⟩), .int .i64 k] w fun e w' => e = .returned (.string ⟨#[]⟩) ∧ Par B b A n cap T i true w' ∧ w.grownBy w' (some b) := by
  have H := Lib.hid h
  have HC := Lib.hid (sAtK k h)
  rw [hk] at HC
  clear h hk
  go_enter Tryd.func55, Tryd.ntmps55
  go_wp2_with (go_at_call 54; refine HC.out.mono ?_; rintro e w1 ⟨rfl, q, hq⟩; have HP := Lib.hid (H.out.drewN q); rw [← hq] at HP; have HG := Lib.hid (grown_drewN w q b); rw [← hq] at HG; clear hq; have c2 := HP.out.c2; have f2 := HP.out.f2; have HS := Lib.hid HP.out.setBad; have HG2 := Lib.hid (grownBy_set w1 b 2 (.bool true)))
  go_ret
  exact ⟨rfl, HS.out, grown_trans HG.out HG2.out⟩
set_option maxHeartbeats 1000000 in
theorem sTkY (k : Int) (h : Par B b A n cap T i false w) {x : Tok} {r : List Tok} (hx : T.drop i = x :: r) (hk : x.k = k) :
    Calls Tryd.prog 55 #[.pointer (some ⟨b, 0, none⟩), .int .i64 k] w fun e w' => e = .returned (.string x.t) ∧ Par B b A n cap T (i + 1) false w' ∧ w.grownBy w' (some b) := by
  have H := Lib.hid h
  have hn := h.size.1
  have hn' := h.size.2
  have hi : i < n := by
    rcases Nat.lt_or_ge i n with hi | hi
    · exact hi
    · rw [List.drop_eq_nil_of_le (by omega)] at hx; cases hx
  have HC := Lib.hid (sAt_any k h hi hx hk)
  have HI : Hid (i + 1 ≤ n) := Lib.hid (by omega)
  obtain ⟨a, y, r', rfl, hy, _, _, _⟩ := h.at hi
  rw [hx] at hy
  cases hy
  have HX := Lib.hid hx
  have hin : (i : Int) < (n : Int) := by omega
  have hib : (i : Int) + 1 ≤ 9223372036854775807 := by omega
  clear h hx hk hn
  go_enter Tryd.func55, Tryd.ntmps55
  go_wp2_with (go_at_call 54; refine HC.out.mono ?_; rintro e w1 ⟨rfl, q, hq⟩; have HP := Lib.hid (H.out.drewN q); rw [← hq] at HP; have HG := Lib.hid (grown_drewN w q b); rw [← hq] at HG; clear hq; have c1 := HP.out.c1; have f1 := HP.out.f1; have HS := Lib.hid (HP.out.setI HI.out); have HG2 := Lib.hid (grownBy_set w1 b 1 (.int .i64 ((i + 1 : Nat) : Int))))
  have HS2 : Hid (Par B b (some a) n cap T (i + 1) false (w1.setCell ⟨b, 1, none⟩ (.int .i64 ((i : Int) + 1)))) := HS
  have HG3 : Hid (w1.grownBy (w1.setCell ⟨b, 1, none⟩ (.int .i64 ((i : Int) + 1))) (some b)) := HG2
  clear HS HG2 c1 f1
  generalize w1.setCell ⟨b, 1, none⟩ (.int .i64 ((i : Int) + 1)) = w2 at HS2 HG3 ⊢
  have c0 := HS2.out.c0
  have c1 : w2.cell? ⟨b, 1, none⟩ = some (.int .i64 ((i : Int) + 1)) := HS2.out.c1
  obtain ⟨a', y, r', ha', hy, d0, d1⟩ := HS2.out.atk hi
  cases ha'
  rw [HX.out] at hy
  cases hy
  have hs1 : (i : Int) + 1 - 1 = (i : Int) := by omega
  have hw1 : IntKind.i64.wrap ((i : Int) + 1 - 1) = (i : Int) := by rw [hs1]; exact IntWalk.i64_in _ (by omega)
  go_wp2
  go_quiet (fail)
  go_wp2
  go_ret
  exact ⟨rfl, HS2.out.drewN _, grown_trans HG.out (grown_trans HG3.out (grown_drewN _ _ b))⟩
end
end Go.Proofs.YtdfapkceanicoaaDoor
