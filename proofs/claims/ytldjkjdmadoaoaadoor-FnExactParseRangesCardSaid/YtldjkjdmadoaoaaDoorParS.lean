/- THE PARSER OF SPEC OVER TOKENS (chapters 4 to 10): its state in memory, l3At, l3Is, l3Eat, l3Take, l3End, l3New. -/
import Derived.Test.YtldjkjdmadoaoaaDoorParI
import Derived.Test.YtldjkjdmadoaoaaDoorLexT
namespace Go.Proofs.YtldjkjdmadoaoaaDoor
open Go.RowKit NumP

/-- at block b lies a parser over the tokens T, at the i-th, bad or not -/
structure Par (B : Nat) (b : Nat) (A : Option Addr) (n cap : Nat) (T : List Tok) (i : Nat) (bad : Bool) (w : World) : Prop where
  c0 : w.cell? ⟨b, 0, none⟩ = some (.slice A n cap)
  c1 : w.cell? ⟨b, 1, none⟩ = some (.int .i64 i)
  c2 : w.cell? ⟨b, 2, none⟩ = some (.bool bad)
  f1 : w.frozen? ⟨b, 1, none⟩ = false
  f2 : w.frozen? ⟨b, 2, none⟩ = false
  lo : B ≤ b
  hi : b < w.heap.size
  tk : HasT w (.slice A n cap) T
  tb : ∀ a, A = some a → a.block < b
  le : i ≤ n
section
variable {B b n cap i : Nat} {A : Option Addr} {T : List Tok} {bad : Bool} {w w' : World}
theorem HasR.keep {α : Type} {enc : α → List Value} {z n cap : Nat} {A : Option Addr} {l : List α} (h : HasR enc z w (.slice A n cap) l) (hs : w.heap.size ≤ w'.heap.size) (hk : ∀ p : Addr, (∃ a, A = some a ∧ p.block = a.block) → w'.cell? p = w.cell? p) : HasR enc z w' (.slice A n cap) l := by
  obtain ⟨A', cap', hv, hn, hc⟩ := h
  cases hv
  refine ⟨A, cap, rfl, hn, fun j hj => ?_⟩
  obtain ⟨a, h1, h2, h3⟩ := hc j hj
  exact ⟨a, h1, Nat.lt_of_lt_of_le h2 hs, fun k x hx => by rw [hk _ ⟨a, h1, by rw [addr_blk, addr_blk]⟩]; exact h3 k x hx⟩
theorem Par.below (h : Par B b A n cap T i bad w) (hb : Below w.heap.size w w') : Par B b A n cap T i bad w' :=
  ⟨(hb.cell (p := ⟨b, 0, none⟩) h.hi).trans h.c0, (hb.cell (p := ⟨b, 1, none⟩) h.hi).trans h.c1, (hb.cell (p := ⟨b, 2, none⟩) h.hi).trans h.c2, (hb.frozen (p := ⟨b, 1, none⟩) h.hi).trans h.f1, (hb.frozen (p := ⟨b, 2, none⟩) h.hi).trans h.f2, h.lo, Nat.lt_of_lt_of_le h.hi hb.size, HasR.below h.tk hb, h.tb, h.le⟩
theorem Par.drewN (h : Par B b A n cap T i bad w) (q : Nat) : Par B b A n cap T i bad (w.drewN q) := ⟨h.c0, h.c1, h.c2, h.f1, h.f2, h.lo, h.hi, h.tk, h.tb, h.le⟩
theorem Par.other {j : Nat} (h : Par B b A n cap T i bad w) (hg : w.grownBy w' (some j)) (hj : b < j) : Par B b A n cap T i bad w' := by
  have hk : ∀ p : Addr, p.block ≤ b → w'.cell? p = w.cell? p := fun p hp => World.cell?_of_block (hg.block p.block (Nat.lt_of_le_of_lt hp h.hi) (fun e => by have := Option.some.inj e; omega))
  have hf : ∀ p : Addr, p.block ≤ b → w'.frozen? p = w.frozen? p := fun p hp => by
    unfold World.frozen?; rw [hg.block p.block (Nat.lt_of_le_of_lt hp h.hi) (fun e => by have := Option.some.inj e; omega)]
  exact ⟨(hk ⟨b, 0, none⟩ (Nat.le_refl _)).trans h.c0, (hk ⟨b, 1, none⟩ (Nat.le_refl _)).trans h.c1, (hk ⟨b, 2, none⟩ (Nat.le_refl _)).trans h.c2, (hf ⟨b, 1, none⟩ (Nat.le_refl _)).trans h.f1, (hf ⟨b, 2, none⟩ (Nat.le_refl _)).trans h.f2, h.lo, Nat.lt_of_lt_of_le h.hi hg.size,
    HasR.keep h.tk hg.size (fun p ⟨a, h1, h2⟩ => hk p (by have := h.tb a h1; omega)), h.tb, h.le⟩
theorem grownBy_set (w : World) (b o : Nat) (v : Value) : w.grownBy (w.setCell ⟨b, o, none⟩ v) (some b) := by
  have h := Below.setCell (Below.refl b w) (p := ⟨b, o, none⟩) (Nat.le_refl _) v
  refine ⟨h.os, h.tape, h.output, h.size, fun k hk hne => ?_⟩
  have hkb : b ≠ k := fun e => hne (by rw [e])
  simp [World.setCell, Array.getElem?_modify, hkb]
theorem Par.setI (h : Par B b A n cap T i bad w) {j : Nat} (hj : j ≤ n) : Par B b A n cap T j bad (w.setCell ⟨b, 1, none⟩ (.int .i64 j)) := by
  have hs : w.heap.size ≤ (w.setCell ⟨b, 1, none⟩ (.int .i64 j)).heap.size := (grownBy_set w b 1 _).size
  have hk : ∀ p : Addr, p ≠ ⟨b, 1, none⟩ → (w.setCell ⟨b, 1, none⟩ (.int .i64 j)).cell? p = w.cell? p := fun p hp => World.cell?_setCell_other w ⟨b, 1, none⟩ p _ (fun e => hp e.symm)
  refine ⟨(hk _ (by simp)).trans h.c0, ?_, (hk _ (by simp)).trans h.c2, ?_, ?_, h.lo, Nat.lt_of_lt_of_le h.hi hs, HasR.keep h.tk hs (fun p ⟨a, h1, h2⟩ => hk p (fun e => by subst e; have := h.tb a h1; simp at h2; omega)), h.tb, hj⟩
  · exact World.cell?_setCell_same w _ _ h.c1
  · rw [World.frozen?_setCell]; exact h.f1
  · rw [World.frozen?_setCell]; exact h.f2
theorem Par.setBad (h : Par B b A n cap T i bad w) : Par B b A n cap T i true (w.setCell ⟨b, 2, none⟩ (.bool true)) := by
  have hs : w.heap.size ≤ (w.setCell ⟨b, 2, none⟩ (.bool true)).heap.size := (grownBy_set w b 2 _).size
  have hk : ∀ p : Addr, p ≠ ⟨b, 2, none⟩ → (w.setCell ⟨b, 2, none⟩ (.bool true)).cell? p = w.cell? p := fun p hp => World.cell?_setCell_other w ⟨b, 2, none⟩ p _ (fun e => hp e.symm)
  refine ⟨(hk _ (by simp)).trans h.c0, (hk _ (by simp)).trans h.c1, ?_, ?_, ?_, h.lo, Nat.lt_of_lt_of_le h.hi hs, HasR.keep h.tk hs (fun p ⟨a, h1, h2⟩ => hk p (fun e => by subst e; have := h.tb a h1; simp at h2; omega)), h.tb, h.le⟩
  · exact World.cell?_setCell_same w _ _ h.c2
  · rw [World.frozen?_setCell]; exact h.f1
  · rw [World.frozen?_setCell]; exact h.f2
theorem Par.size (h : Par B b A n cap T i bad w) : n = T.length ∧ n ≤ 9223372036854775807 := HasT.size h.tk
theorem Par.at (h : Par B b A n cap T i bad w) (hi : i < n) : ∃ a x r, A = some a ∧ T.drop i = x :: r ∧ x ∈ T ∧ w.cell? (a.add (i * 3)) = some (.int .i64 x.k) ∧ w.cell? ⟨(a.add (i * 3)).block, (a.add (i * 3)).off + 1, none⟩ = some (.string x.t) := by
  obtain ⟨hn, _⟩ := h.size
  obtain ⟨A', cap', hv, _, hc⟩ := h.tk
  cases hv
  obtain ⟨a, ha, hb, hk⟩ := HasT.tk hc i (by omega)
  exact ⟨a, T[i]'(by omega), T.drop (i + 1), ha, List.drop_eq_getElem_cons (by omega), List.getElem_mem _, hk.1, hk.2.1⟩
end
section
variable {B b n cap i : Nat} {A : Option Addr} {T : List Tok} {w : World}
set_option maxRecDepth 100000 in
theorem sAt_bad (k : Int) (m : ByteArray) (h : Par B b A n cap T i true w) :
    Calls Tryd.prog 106 #[.pointer (some ⟨b, 0, none⟩), .int .i64 k, .string m] w fun e w' => e = .returned (.bool false) ∧ ∃ q, w' = w.drewN q := by
  have c2 := h.c2
  clear h
  go_enter Tryd.func106, Tryd.ntmps106
  go_wp2
  go_quiet (fail)
  go_wp2
  go_ret
  exact ⟨rfl, nq, rfl⟩
set_option maxRecDepth 100000 in
theorem sAt_end (k : Int) (m : ByteArray) (h : Par B b A n cap T i false w) (hi : i = n) :
    Calls Tryd.prog 106 #[.pointer (some ⟨b, 0, none⟩), .int .i64 k, .string m] w fun e w' => e = .returned (.bool false) ∧ ∃ q, w' = w.drewN q := by
  have c0 := h.c0
  have c1 := h.c1
  have c2 := h.c2
  subst hi
  have hlt : decide ((i : Int) < (i : Int)) = false := by simp
  clear h
  go_enter Tryd.func106, Tryd.ntmps106
  go_wp2
  go_quiet (fail)
  go_wp2
  go_ret
  exact ⟨rfl, nq, rfl⟩
set_option maxRecDepth 100000 in
set_option maxHeartbeats 1000000 in
theorem sAt_kind (k : Int) (m : ByteArray) (h : Par B b A n cap T i false w) (hi : i < n) {x : Tok} {r : List Tok} (hx : T.drop i = x :: r) (hk : ¬ x.k = k) :
    Calls Tryd.prog 106 #[.pointer (some ⟨b, 0, none⟩), .int .i64 k, .string m] w fun e w' => e = .returned (.bool false) ∧ ∃ q, w' = w.drewN q := by
  have c0 := h.c0
  have c1 := h.c1
  have c2 := h.c2
  obtain ⟨a, y, r', rfl, hy, _, d0, d1⟩ := h.at hi
  have hn' := h.size.2
  rw [hx] at hy
  cases hy
  have hlt : decide ((i : Int) < (n : Int)) = true := by simp; omega
  have hlt2 : (i : Int) < (n : Int) := by omega
  have hlt3 : decide (i < n) = true := decide_eq_true hi
  have hk1 : (x.k == k) = false := by simpa using hk
  clear h hx hk
  go_enter Tryd.func106, Tryd.ntmps106
  go_wp2
  go_quiet (fail)
  go_wp2
  go_ret
  exact ⟨rfl, nq, rfl⟩
set_option maxRecDepth 100000 in
set_option maxHeartbeats 1000000 in
theorem sAt_any (k : Int) (h : Par B b A n cap T i false w) (hi : i < n) {x : Tok} {r : List Tok} (hx : T.drop i = x :: r) (hk : x.k = k) :
    Calls Tryd.prog 106 #[.pointer (some ⟨b, 0, none⟩), .int .i64 k, .string ⟨#[]⟩] w fun e w' => e = .returned (.bool true) ∧ ∃ q, w' = w.drewN q := by
  have c0 := h.c0
  have c1 := h.c1
  have c2 := h.c2
  obtain ⟨a, y, r', rfl, hy, _, d0, d1⟩ := h.at hi
  have hn' := h.size.2
  rw [hx] at hy
  cases hy
  have hlt : decide ((i : Int) < (n : Int)) = true := by simp; omega
  have hlt2 : (i : Int) < (n : Int) := by omega
  have hlt3 : decide (i < n) = true := decide_eq_true hi
  have hk1 : (x.k == k) = true := by simpa using hk
  clear h hx hk
  go_enter Tryd.func106, Tryd.ntmps106
  go_wp2
  go_quiet (fail)
  go_wp2
  go_ret
  exact ⟨rfl, nq, rfl⟩
set_option maxRecDepth 100000 in
set_option maxHeartbeats 1000000 in
theorem sAt_text (k : Int) (m : ByteArray) (hm : m.toList.isEmpty = false) (h : Par B b A n cap T i false w) (hi : i < n) {x : Tok} {r : List Tok} (hx : T.drop i = x :: r) (hk : x.k = k) :
    Calls Tryd.prog 106 #[.pointer (some ⟨b, 0, none⟩), .int .i64 k, .string m] w fun e w' => e = .returned (.bool (decide (x.t = m))) ∧ ∃ q, w' = w.drewN q := by
  have c0 := h.c0
  have c1 := h.c1
  have c2 := h.c2
  obtain ⟨a, y, r', rfl, hy, _, d0, d1⟩ := h.at hi
  have hn' := h.size.2
  rw [hx] at hy
  cases hy
  have hlt : decide ((i : Int) < (n : Int)) = true := by simp; omega
  have hlt2 : (i : Int) < (n : Int) := by omega
  have hlt3 : decide (i < n) = true := decide_eq_true hi
  have hk1 : (x.k == k) = true := by simpa using hk
  have hm1 : (m.toList == []) = false := by cases e : m.toList with
    | nil => rw [e] at hm; cases hm
    | cons c r => rfl
  have hm2 : ¬ m.toList = [] := by intro e; rw [e] at hm; cases hm
  by_cases ht : x.t = m
  · rw [decide_eq_true ht]
    have ht1 : (x.t.toList == m.toList) = true := by rw [ht]; simp
    clear h hx hk ht
    go_enter Tryd.func106, Tryd.ntmps106
    go_wp2
    go_quiet (fail)
    go_wp2
    go_ret
    exact ⟨rfl, nq, rfl⟩
  · rw [decide_eq_false ht]
    have ht1 : (x.t.toList == m.toList) = false := by
      simp only [beq_eq_false_iff_ne, ne_eq]
      intro e; exact ht (by rw [ByteArray.toList_eq, ByteArray.toList_eq] at e; apply ByteArray.ext; exact Array.toList_inj.1 e)
    clear h hx hk ht
    go_enter Tryd.func106, Tryd.ntmps106
    go_wp2
    go_quiet (fail)
    go_wp2
    go_ret
    exact ⟨rfl, nq, rfl⟩
/-- a mark at hand -/
theorem sAt_mk (m : ByteArray) (hm : m.toList.isEmpty = false) (h : Par B b A n cap T i false w) :
    Calls Tryd.prog 106 #[.pointer (some ⟨b, 0, none⟩), .int .i64 4, .string m] w fun e w' => e = .returned (.bool (mkB (T.drop i) m)) ∧ ∃ q, w' = w.drewN q := by
  rcases Nat.lt_or_ge i n with hi | hi
  · obtain ⟨a, x, r, _, hx, _⟩ := h.at hi
    rw [hx]
    by_cases hk : x.k = 4
    · rw [mkB_text hk]; exact sAt_text 4 m hm h hi hx hk
    · rw [mkB_kind hk]; exact sAt_kind 4 m h hi hx hk
  · have e : i = n := by have := h.le; omega
    have hn := h.size.1
    rw [List.drop_eq_nil_of_le (by omega), mkB_nil]
    exact sAt_end 4 m h e
end
end Go.Proofs.YtldjkjdmadoaoaaDoor
