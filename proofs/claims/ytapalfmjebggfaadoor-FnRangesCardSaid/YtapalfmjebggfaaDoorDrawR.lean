/- DRAWS OF CHAPTER 4: a range, normal ranges, ranges as they come. -/
import Derived.Test.YtapalfmjebggfaaDoorDrawBase
import Derived.Test.YtapalfmjebggfaaDoorRngN
import Derived.Test.YtapalfmjebggfaaDoorRngOpen
import Derived.Deep.DeepCutAuto
namespace Go.Proofs.YtapalfmjebggfaaDoor
open Go.RowKit

theorem box_kept {w w1 : World} {cs : Array Value} {t : TypeId} {g : Nat} (hg : g < w.heap.size) (h : (w.alloc (.cells cs t)).grownBy w1 (some g)) : w1.heap[w.heap.size]? = some (.cells cs t (0, 0)) := by
  rw [h.block w.heap.size (by simp) (fun e => by have := Option.some.inj e; omega)]
  exact heap_alloc_new w _
theorem Cur.set {w w' : World} {g b : Nat} {A : Option Addr} {n cap : Nat} (c : Cur w' g A n cap) (hg : g < w.heap.size) (hb : b = w.heap.size) (hA : 0 < n → ∀ a, A = some a → a.block < w.heap.size) (j : Nat) (v : Value) : Cur (w'.setCell ⟨b, j, none⟩ v) g A n cap := by
  refine c.grown (r := b) ⟨rfl, rfl, rfl, by simp [World.setCell], fun i _ hne => Below.heap_setCell w' ⟨b, j, none⟩ v i (fun e => hne (by rw [e]))⟩ (by omega) (fun hn a ha => by have := hA hn a ha; omega)
theorem byG_own {w w' : World} {g : Nat} {o : Obj} (h : (w.alloc o).grownBy w' (some g)) (j : Nat) (v : Value) : w.grownBy (w'.setCell ⟨w.heap.size, j, none⟩ v) (some g) := by
  have h1 : w.grownBy w' (some g) := (byG_alloc (byG_refl w _) o).trans h
  exact ⟨h1.os, h1.tape, h1.output, by simpa [World.setCell] using h1.size, fun b hb hne => (Below.heap_setCell w' ⟨w.heap.size, j, none⟩ v b (fun e => by simp at e; omega)).trans (h1.block b hb hne)⟩
/-- what turned besides is new -/
theorem byG_past {w w1 w2 : World} {g r : Nat} (h : w.grownBy w1 (some g)) (h2 : w1.grownBy w2 (some r)) (hr : w.heap.size ≤ r) : w.grownBy w2 (some g) :=
  ⟨h2.os.trans h.os, h2.tape.trans h.tape, h2.output.trans h.output, Nat.le_trans h.size h2.size, fun b hb hne => (h2.block b (Nat.lt_of_lt_of_le hb h.size) (fun e => by have := Option.some.inj e; omega)).trans (h.block b hb hne)⟩
/-- small ranges -/
def RgSm (x : Rg) : Prop := -10 ≤ x.lo ∧ x.lo ≤ 19 ∧ x.lo - 1 ≤ x.hi ∧ x.hi ≤ 28
def RngOut (w : World) (g : Nat) (A : Option Addr) (n cap : Nat) (e : Ending) (w' : World) : Prop :=
  ∃ x : Rg, RgSm x ∧ e = .returned (.agg #[.int .i64 x.lo, .int .i64 x.hi]) ∧ Cur w' g A n cap ∧ w.grownBy w' (some g)
set_option maxRecDepth 100000 in
set_option maxHeartbeats 1000000 in
theorem range_any (g : Nat) (A : Option Addr) (n cap : Nat) (w : World) (hc : Cur w g A n cap) (hA : 0 < n → ∀ a, A = some a → a.block < w.heap.size) :
    Calls Tryd.prog 19 #[.pointer (some ⟨g, 0, none⟩)] w (RngOut w g A n cap) := by
  have hgl := hc.lt
  have hc0 := hc.alloc (.cells #[.int .i64 0, .int .i64 0] 33)
  go_enter Tryd.func19, Tryd.ntmps19
  go_wp2_with (first
    | (go_at_call 16; ((with_reducible refine (below_any g A n cap 30 (by omega) _ hc0).mono ?_); rintro e w1 ⟨x, hx0, hx1, hx2, rfl, hc1, hg1⟩; have hx3 := hx2 (by omega); clear hx1 hx2 hc0; have hgl1 := hc1.lt))
    | (go_at_call 32; ((with_reducible refine (int_any (fun v => decide (-1 ≤ v ∧ v ≤ 9) = true) g A n cap ⟨w1.heap.size, 0, none⟩ 6 6 (by omega) (by omega) _ (new_ints (fun v => decide (-1 ≤ v ∧ v ≤ 9)) (by decide) (by decide) hgl1) (hc1.alloc _)).mono ?_); rintro e w2 ⟨y, hy, rfl, hc2, hg2⟩; have hy := of_decide_eq_true hy; have hG : (w.alloc (.cells #[.int .i64 0, .int .i64 0] 33)).grownBy w2 (some g) := (byG_alloc hg1 _).trans hg2; have hbk := box_kept hgl hG; have k0 : w2.cell? ⟨w.heap.size, 0, none⟩ = some (.int .i64 0) := (by rw [cell_of_row _ w.heap.size 0 _ _ _ hbk]; rfl); have k1 : w2.cell? ⟨w.heap.size, 1, none⟩ = some (.int .i64 0) := (by rw [cell_of_row _ w.heap.size 1 _ _ _ hbk]; rfl); have f0 : w2.frozen? ⟨w.heap.size, 0, none⟩ = false := (by simp [World.frozen?, hbk]); have f1 : w2.frozen? ⟨w.heap.size, 1, none⟩ = false := (by simp [World.frozen?, hbk]); have HBK := Lib.hid hbk; clear hbk)))
  have hb1 : (w2.setCell ⟨w.heap.size, 0, none⟩ (.int .i64 (x - 10))).heap[w.heap.size]? = some (.cells #[.int .i64 (x - 10), .int .i64 0] 33 (0, 0)) := by rw [heap_setCell_same w2 w.heap.size 0 _ _ _ HBK.out]; rfl
  have hb2 : ((w2.setCell ⟨w.heap.size, 0, none⟩ (.int .i64 (x - 10))).setCell ⟨w.heap.size, 1, none⟩ (.int .i64 (x - 10 + y))).heap[w.heap.size]? = some (.cells #[.int .i64 (x - 10), .int .i64 (x - 10 + y)] 33 (0, 0)) := by rw [heap_setCell_same _ w.heap.size 1 _ _ _ hb1]; rfl
  have e0 := cell_of_row _ w.heap.size 0 _ _ _ hb2
  have e1 := cell_of_row _ w.heap.size 1 _ _ _ hb2
  generalize HW : ((w2.setCell ⟨w.heap.size, 0, none⟩ (.int .i64 (x - 10))).setCell ⟨w.heap.size, 1, none⟩ (.int .i64 (x - 10 + y))) = wz at e0 e1 ⊢
  have e0' : wz.cell? ⟨w.heap.size, 0, none⟩ = some (.int .i64 (x - 10)) := e0
  have e1' : wz.cell? ⟨w.heap.size, 1, none⟩ = some (.int .i64 (x - 10 + y)) := e1
  clear e0 e1 hb1 hb2 k0 k1
  refine bodyPost_ret (v := .agg #[.int .i64 (x - 10), .int .i64 (x - 10 + y)]) (by simp [results, Tryd.results19, go_sem, e0', e1']) rfl ⟨⟨x - 10, x - 10 + y⟩, ?_, rfl, ?_, ?_⟩
  · clear HW; unfold RgSm; simp only; omega
  all_goals subst HW
  · exact (hc2.set hgl rfl hA _ _).set hgl rfl hA _ _
  · exact byG_past (byG_own hG _ _) (byG_set (byG_refl _ _) _ _) (Nat.le_refl _)
def RgsOut (B k : Nat) (w : World) (g : Nat) (A : Option Addr) (n cap : Nat) (e : Ending) (w' : World) : Prop :=
  ∃ (v : Value) (L : List Rg), e = .returned v ∧ RowG B w' v L ∧ Nrm L ∧ L.length ≤ k ∧ Cur w' g A n cap ∧ w.grownBy w' (some g)
set_option maxRecDepth 100000 in
set_option maxHeartbeats 1000000 in
theorem rngs_any (g : Nat) (A : Option Addr) (n cap : Nat) (w : World) (hc : Cur w g A n cap) (hA : 0 < n → ∀ a, A = some a → a.block < w.heap.size) :
    Calls Tryd.prog 15 #[.pointer (some ⟨g, 0, none⟩)] w (RgsOut w.heap.size 3 w g A n cap) := by
  have hgl := hc.lt
  have hc0 := hc.alloc (.cells #[] 33)
  have hrow0 : RowG w.heap.size (w.alloc (.cells #[] 33)) (.slice (some ⟨w.heap.size, 0, none⟩) 0 0) [] := rowG_new w _ (Nat.le_refl _)
  go_enter Tryd.func15, Tryd.ntmps15
  go_wp2_with (first
    | (go_at_call 16; ((with_reducible refine (below_any g A n cap 4 (by omega) _ hc0).mono ?_); rintro e w1 ⟨x, hx0, hx1, hx2, rfl, hc1, hg1⟩; have hx3 := hx2 (by omega); clear hx1 hx2 hc0; have hrow1 := RowR.apart hrow0 hg1 (Nat.ne_of_gt hgl); have hG1 : w.grownBy w1 (some g) := (byG_alloc (byG_refl w _) _).trans hg1; clear hrow0 hg1)))
  go_loopw [3, 4] (fun u i wr => ∃ (k r c : Nat) (L : List Rg), u = .slice (some ⟨r, 0, none⟩) L.length c ∧ i = .int .i64 k ∧ L.length + k ≤ 3 ∧ RowG w.heap.size wr (.slice (some ⟨r, 0, none⟩) L.length c) L ∧ Cur wr g A n cap ∧ w.grownBy wr (some g)) (fun _ i _ => (intOf i).toNat)
  case atStart => exact ⟨x.toNat, w.heap.size, 0, [], rfl, by rw [Int.toNat_of_nonneg hx0], by simp; omega, hrow1, hc1, hG1⟩
  case round =>
    obtain ⟨k, r, c, L, rfl, rfl, hk, hrow, hcur, hgr⟩ := hrel
    by_cases hk0 : 0 < k
    · obtain ⟨m, hm⟩ : ∃ m, m = L.length := ⟨_, rfl⟩
      have HM : Hid (m = L.length) := Lib.hid hm
      rw [← hm] at hk hrow ⊢
      clear hm
      go_wp2_with (first
        | (go_at_call 19; ((with_reducible refine (range_any _ _ _ _ _ hcur (fun hn a ha => Nat.lt_of_lt_of_le (hA hn a ha) hgr.size)).mono ?_); rintro e w3 ⟨y, hy, rfl, hc3, hg3⟩; have hrow3 := RowR.apart hrow hg3 (Nat.ne_of_gt (Nat.lt_of_lt_of_le hgl (hrow.lt rfl).1)); have hG3 := hgr.trans hg3; clear hrow hg3 hgr hcur))
        | (at_builtin; refine wpList_rng_append rfl _ _ rfl w.heap.size r m c L rfl hrow3 y w3.heap.size rfl rfl (by omega) hG3.size (m + 1) rfl ?_; intro r4 c4 w4 hrow4 hg4))
      go_roundw
      case rel =>
        have hrl : w.heap.size ≤ r := (hrow3.lt rfl).1
        have hl : (L ++ [y]).length = m + 1 := by rw [List.length_append, ← HM.out]; rfl
        exact ⟨k - 1, r4, c4, L ++ [y], by rw [hl], by go_num, by rw [hl]; omega, by rw [hl]; exact hrow4, (hc3.alloc _).grown hg4 (by omega) (fun hn a ha => by have := hA hn a ha; omega), byG_past (byG_alloc hG3 _) hg4 hrl⟩
      case measure => simp [intOf]; omega
    · have hL : L.length ≤ 274877906944 := by omega
      have hbd := normS_length L
      go_wp2_with (go_at_call 30; ((refine (sNorm_any _ L _ hrow.hasG hL).mono ?_); rintro e w5 ⟨v, rfl, hrow5, hb5⟩))
      go_ret
      exact ⟨v, normS L, rfl, RowR.mono hrow5 hgr.size, (normS_is L).1, by omega, hcur.below hb5, hgr.trans (byG_below hb5 _)⟩
def TwoNew (w : World) (e : Ending) (w' : World) : Prop := ∃ (u v : Value) (a b : List Rg), e = .returned (.tuple #[u, v]) ∧ RowG w.heap.size w' u a ∧ RowG w.heap.size w' v b ∧ Nrm a ∧ Nrm b ∧ a.length ≤ 3 ∧ b.length ≤ 3 ∧ Below w.heap.size w w'
theorem hA_of {w : World} {A : Option Addr} {n : Nat} (hs : Src w A n) : 0 < n → ∀ a, A = some a → a.block < w.heap.size := fun hn a ha => by
  obtain ⟨a', _, h1, h2, _⟩ := hs.2 0 hn
  rw [h1] at ha; cases ha; exact h2
set_option maxRecDepth 100000 in
set_option maxHeartbeats 1000000 in
theorem drawMR_any (A : Option Addr) (n cap : Nat) (w : World) (hs : Src w A n) :
    Calls Tryd.prog 5 #[.slice A n cap] w (TwoNew w) := by
  have hA := hA_of hs
  go_enter Tryd.func5, Tryd.ntmps5
  go_wp2_with (first
    | (go_at_call 14; ((with_reducible refine (new_any A n cap _ hs).mono ?_); rintro e w1 ⟨g, rfl, hg, hc, hb⟩; have hA1 : 0 < n → ∀ a, A = some a → a.block < w1.heap.size := (fun hn a ha => Nat.lt_of_lt_of_le (hA hn a ha) hb.size)))
    | (go_at_call 15; ((with_reducible refine (rngs_any _ _ _ _ _ hc hA1).mono ?_); rintro e w2 ⟨u, a, rfl, hra, hna, hla, hc2, hg2⟩; have hA2 : 0 < n → ∀ a, A = some a → a.block < w2.heap.size := (fun hn a ha => Nat.lt_of_lt_of_le (hA1 hn a ha) hg2.size); have hgl := hc.lt; clear hc))
    | (go_at_call 15; ((with_reducible refine (rngs_any _ _ _ _ _ hc2 hA2).mono ?_); rintro e w3 ⟨v, b, rfl, hrb, hnb, hlb, hc3, hg3⟩)))
  go_ret2
  refine ⟨u, v, a, b, rfl, RowR.mono (RowR.other (u := .slice (some ⟨g, 0, none⟩) 0 0) hra hg3 (fun k hk e => ?_)) hb.size, RowR.mono hrb (Nat.le_trans hb.size hg2.size), hna, hnb, hla, hlb, below_new hb hg (hg2.trans hg3)⟩
  have := (RowR.lt hra hk).1
  have := Option.some.inj e
  simp at this; omega
def InNew (w : World) (e : Ending) (w' : World) : Prop := ∃ (u : Value) (q : Int), e = .returned (.tuple #[u, .int .i64 q]) ∧ -15 ≤ q ∧ q ≤ 34 ∧ Below w.heap.size w w'
set_option maxRecDepth 100000 in
set_option maxHeartbeats 1000000 in
theorem drawIR_any (A : Option Addr) (n cap : Nat) (w : World) (hs : Src w A n) :
    Calls Tryd.prog 6 #[.slice A n cap] w (InNew w) := by
  have hA := hA_of hs
  go_enter Tryd.func6, Tryd.ntmps6
  go_wp2_with (first
    | (go_at_call 14; ((with_reducible refine (new_any A n cap _ hs).mono ?_); rintro e w1 ⟨g, rfl, hg, hc, hb⟩; have hA1 : 0 < n → ∀ a, A = some a → a.block < w1.heap.size := (fun hn a ha => Nat.lt_of_lt_of_le (hA hn a ha) hb.size)))
    | (go_at_call 15; ((with_reducible refine (rngs_any _ _ _ _ _ hc hA1).mono ?_); rintro e w2 ⟨u, a, rfl, hra, hna, hla, hc2, hg2⟩; clear hc))
    | (go_at_call 16; ((with_reducible refine (below_any _ A n cap 50 (by omega) _ hc2).mono ?_); rintro e w3 ⟨x, hx0, hx1, hx2, rfl, hc3, hg3⟩; have hx3 := hx2 (by omega); clear hx1 hx2)))
  go_ret2
  exact ⟨u, _, rfl, by omega, by omega, below_new hb hg (hg2.trans hg3)⟩
def RawOut (w : World) (e : Ending) (w' : World) : Prop := ∃ (u : Value) (L : List Rg), e = .returned u ∧ RowG w.heap.size w' u L ∧ L.length ≤ 7 ∧ (∀ x ∈ L, RgWf x) ∧ Below w.heap.size w w'
def i64B (v : Int) : Bool := decide (-9223372036854775808 ≤ v ∧ v ≤ 9223372036854775807)
set_option maxRecDepth 100000 in
theorem odd_any (g : Nat) (A : Option Addr) (n cap : Nat) (w : World) (hc : Cur w g A n cap) :
    Calls Tryd.prog 21 #[.pointer (some ⟨g, 0, none⟩)] w (IntOut (fun v => i64B v = true) w g A n cap) := by
  go_enter Tryd.func21, Tryd.ntmps21
  go_wp2_with (go_at_call 32; refine (int_any (fun v => i64B v = true) g A n cap ⟨w.heap.size, 0, none⟩ 14 14 (by omega) (by omega) _ (new_ints i64B (by decide) (by decide) hc.lt) (hc.alloc _)).mono ?_; rintro e w' ⟨v, hv, rfl, hc1, hg1⟩)
  go_ret
  exact ⟨v, hv, rfl, hc1, (byG_alloc (byG_refl w _) _).trans hg1⟩
set_option maxRecDepth 100000 in
set_option maxHeartbeats 2000000 in
theorem drawNR_any (A : Option Addr) (n cap : Nat) (w : World) (hs : Src w A n) :
    Calls Tryd.prog 9 #[.slice A n cap] w (RawOut w) := by
  have hA := hA_of hs
  go_enter Tryd.func9, Tryd.ntmps9
  go_wp2_with (first
    | (go_at_call 14; ((with_reducible refine (new_any A n cap _ hs).mono ?_); rintro e w1 ⟨g, rfl, hg, hc, hb⟩; have hgl := hc.lt; have hA1 : 0 < n → ∀ a, A = some a → a.block < w1.heap.size := (fun hn a ha => Nat.lt_of_lt_of_le (hA hn a ha) hb.size); have hc0 := hc.alloc (.cells #[] 33); have hrow0 : RowG w1.heap.size (w1.alloc (.cells #[] 33)) (.slice (some ⟨w1.heap.size, 0, none⟩) 0 0) [] := rowG_new w1 _ (Nat.le_refl _); clear hc))
    | (go_at_call 16; ((with_reducible refine (below_any _ A n cap 7 (by omega) _ hc0).mono ?_); rintro e w2 ⟨x, hx0, hx1, hx2, rfl, hc2, hg2⟩; have hx3 := hx2 (by omega); clear hx1 hx2 hc0; have hrow2 := RowR.apart hrow0 hg2 (Nat.ne_of_gt hgl); have hG2 : w1.grownBy w2 (some g) := (byG_alloc (byG_refl w1 _) _).trans hg2; clear hrow0 hg2)))
  go_loopw [4, 5] (fun u i wr => ∃ (k r c : Nat) (L : List Rg), u = .slice (some ⟨r, 0, none⟩) L.length c ∧ i = .int .i64 k ∧ L.length + k ≤ 6 ∧ RowG w1.heap.size wr (.slice (some ⟨r, 0, none⟩) L.length c) L ∧ Hid (∀ x ∈ L, RgWf x) ∧ Cur wr g A n cap ∧ w1.grownBy wr (some g)) (fun _ i _ => (intOf i).toNat)
  case atStart => exact ⟨x.toNat, w1.heap.size, 0, [], rfl, by rw [Int.toNat_of_nonneg hx0], by simp; omega, hrow2, Lib.hid (by simp), hc2, hG2⟩
  case round =>
    obtain ⟨k, r, c, L, rfl, rfl, hk, hrow, HW, hcur, hgr⟩ := hrel
    obtain ⟨m, hm⟩ : ∃ m, m = L.length := ⟨_, rfl⟩
    have HM : Hid (m = L.length) := Lib.hid hm
    rw [← hm] at hk hrow ⊢
    clear hm
    have hrl : w1.heap.size ≤ r := (hrow.lt rfl).1
    by_cases hk0 : 0 < k
    · go_wp2_with (first
        | (go_at_call 19; ((with_reducible refine (range_any _ _ _ _ _ hcur (fun hn a ha => Nat.lt_of_lt_of_le (hA1 hn a ha) hgr.size)).mono ?_); rintro e w3 ⟨y, hy, rfl, hc3, hg3⟩; have hrow3 := RowR.apart hrow hg3 (Nat.ne_of_gt (Nat.lt_of_lt_of_le hgl hrl)); have hG3 := hgr.trans hg3; clear hrow hg3 hgr hcur))
        | (at_builtin; refine wpList_rng_append rfl _ _ rfl w1.heap.size r m c L rfl hrow3 y w3.heap.size rfl rfl (by omega) hG3.size (m + 1) rfl ?_; intro r4 c4 w4 hrow4 hg4))
      go_roundw
      case rel =>
        have hl : (L ++ [y]).length = m + 1 := by rw [List.length_append, ← HM.out]; rfl
        exact ⟨k - 1, r4, c4, L ++ [y], by rw [hl], by go_num, by rw [hl]; omega, by rw [hl]; exact hrow4, Lib.hid (fun z hz => by
          rcases List.mem_append.1 hz with hz | hz
          · exact HW.out z hz
          · rw [List.mem_singleton.1 hz]; unfold RgSm at hy; unfold RgWf; omega), (hc3.alloc _).grown hg4 (by omega) (fun hn a ha => by have := hA1 hn a ha; omega), byG_past (byG_alloc hG3 _) hg4 hrl⟩
      case measure => simp [intOf]; omega
    · go_wp2_with (go_at_call 20; ((with_reducible refine (once_any _ A n cap 8 (by omega) _ hcur).mono ?_); rintro e w3 ⟨b, rfl, hc3, hg3⟩; have hrow3 := RowR.apart hrow hg3 (Nat.ne_of_gt (Nat.lt_of_lt_of_le hgl hrl)); have hG3 := hgr.trans hg3; clear hrow hg3 hgr hcur; cases b))
      · go_ret
        exact ⟨_, L, rfl, RowR.mono hrow3 hb.size, by have := HM.out; omega, HW.out, below_new hb hg hG3⟩
      · go_wp2_with (first
          | (go_at_call 21; ((with_reducible refine (odd_any _ _ _ _ _ hc3).mono ?_); rintro e w4 ⟨y, hy, rfl, hc4, hg4⟩; have hrow4 := RowR.apart hrow3 hg4 (Nat.ne_of_gt (Nat.lt_of_lt_of_le hgl hrl)); have hG4 := hG3.trans hg4; clear hrow3 hg4 hG3 hc3))
          | (go_at_call 21; ((with_reducible refine (odd_any _ _ _ _ _ hc4).mono ?_); rintro e w5 ⟨z, hz, rfl, hc5, hg5⟩; have hrow5 := RowR.apart hrow4 hg5 (Nat.ne_of_gt (Nat.lt_of_lt_of_le hgl hrl)); have hG5 := hG4.trans hg5; clear hrow4 hg5 hG4 hc4))
          | (at_builtin; refine wpList_rng_append rfl _ _ rfl w1.heap.size r m c L rfl hrow5 ⟨y, z⟩ w5.heap.size rfl rfl (by omega) hG5.size (m + 1) rfl ?_; intro r6 c6 w6 hrow6 hg6))
        go_ret
        have hy := of_decide_eq_true hy
        have hz := of_decide_eq_true hz
        exact ⟨_, L ++ [⟨y, z⟩], rfl, RowR.mono hrow6 hb.size, by rw [List.length_append, ← HM.out]; simp; omega, fun q hq => by
          rcases List.mem_append.1 hq with hq | hq
          · exact HW.out q hq
          · rw [List.mem_singleton.1 hq]; unfold RgWf; simp only; omega, below_new hb hg (byG_past (byG_alloc hG5 _) hg6 hrl)⟩
end Go.Proofs.YtapalfmjebggfaaDoor
