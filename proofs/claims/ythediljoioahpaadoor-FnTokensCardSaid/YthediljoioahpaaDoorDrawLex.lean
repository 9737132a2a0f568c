/- DRAWS OF CHAPTER 3: a source text, its tokens. -/
import Derived.Test.YthediljoioahpaaDoorDrawT
import Derived.Test.YthediljoioahpaaDoorLexT
import Derived.Test.YthediljoioahpaaDoorLexK
namespace Go.Proofs.YthediljoioahpaaDoor
open Go.RowKit

def SrcOut (w : World) (g : Nat) (A : Option Addr) (n cap : Nat) (e : Ending) (w' : World) : Prop := ∃ v : ByteArray, v.size ≤ 4000 ∧ e = .returned (.string v) ∧ Cur w' g A n cap ∧ w.grownBy w' (some g)
set_option maxHeartbeats 2000000 in
theorem source_any (g : Nat) (A : Option Addr) (n cap : Nat) (w : World) (hc : Cur w g A n cap) :
    Calls Tryd.prog 15 #[.pointer (some ⟨g, 0, none⟩)] w (SrcOut w g A n cap) := by
  go_enter Tryd.func15, Tryd.ntmps15
  go_wp2_with (go_at_call 28; ((with_reducible refine (below_any g A n cap 9 (by omega) _ hc).mono ?_); rintro e w1 ⟨x, hx0, hx1, hx2, rfl, hc1, hg1⟩; have hx3 := hx2 (by omega); clear hx1 hx2))
  go_loopw [3, 4] (fun s i wr => ∃ (k : Nat) (v : ByteArray), i = .int .i64 k ∧ s = .string v ∧ k ≤ 8 ∧ v.size + 400 * k ≤ 3600 ∧ Cur wr g A n cap ∧ w.grownBy wr (some g)) (fun _ i _ => (intOf i).toNat)
  case atStart => exact ⟨x.toNat, ⟨#[]⟩, by rw [Int.toNat_of_nonneg hx0], rfl, by omega, by show 0 + _ ≤ _; omega, hc1, hg1⟩
  case round =>
    obtain ⟨k, v, rfl, rfl, hk8, hv, hcur, hgr⟩ := hrel
    by_cases hk0 : 0 < k
    · have hv2 : v.size ≤ 3600 := by omega
      go_wp2_with (first
        | (go_at_call 28; ((with_reducible refine (below_any g A n cap 5 (by omega) _ hcur).mono ?_); rintro e w2 ⟨y, hy0, hy1, hy2, rfl, hc2, hg2⟩; have hG2 := hgr.trans hg2; clear hy1 hy2 hcur hgr hg2))
        | (go_at_call 29; ((with_reducible refine (name_any _ _ _ _ _ hc2).mono ?_); rintro e w4 ⟨u, hu, rfl, hc4, hg4⟩; have hG4 := hG2.trans hg4; have hu4 : u.size ≤ 122 := Nat.le_trans (of_decide_eq_true hu) (by omega); clear hc2 hg4 hG2 hu))
        | (go_at_call 31; ((with_reducible refine (text_any _ _ _ _ _ hc2).mono ?_); rintro e w3 ⟨u, hu, rfl, hc3, hg3⟩; have hG3 := hG2.trans hg3; have hu3 : u.size ≤ 60 := of_decide_eq_true hu; have hu4 : (quoteS u).size ≤ 122 := Nat.le_trans (quoteS_size u) (by omega); clear hc2 hg3 hG2 hu))
        | (go_at_call 30; ((with_reducible refine (sQuote_any u (by omega) _).mono ?_); rintro e w4 ⟨rfl, hb⟩; have hG4 := hG3.trans (byG_below hb (some g)); have hc4 := hc3.below hb; clear hb hG3 hc3))
        | (go_at_call 32; ((with_reducible refine (str_any (fun s => small s = true) g A n cap ⟨w2.heap.size, 0, none⟩ 7 7 (by omega) (by omega) _ (new_strs small (by decide) (by decide) hc2.lt) (hc2.alloc _)).mono ?_); rintro e w4 ⟨u, hu, rfl, hc4, hg4⟩; have hG4 := (byG_alloc hG2 _).trans hg4; have hu4 : u.size ≤ 122 := Nat.le_trans (of_decide_eq_true hu) (by omega); clear hc2 hg4 hG2 hu))
        | (go_at_call 32; ((with_reducible refine (str_any (fun s => small s = true) g A n cap ⟨w2.heap.size, 0, none⟩ 18 18 (by omega) (by omega) _ (new_strs small (by decide) (by decide) hc2.lt) (hc2.alloc _)).mono ?_); rintro e w4 ⟨u, hu, rfl, hc4, hg4⟩; have hG4 := (byG_alloc hG2 _).trans hg4; have hu4 : u.size ≤ 122 := Nat.le_trans (of_decide_eq_true hu) (by omega); clear hc2 hg4 hG2 hu))
        | (go_at_call 32; ((with_reducible refine (str_any (fun s => small s = true) g A n cap ⟨w4.heap.size, 0, none⟩ 4 4 (by omega) (by omega) _ (new_strs small (by decide) (by decide) hc4.lt) (hc4.alloc _)).mono ?_); rintro e w5 ⟨z, hz, rfl, hc5, hg5⟩; have hG5 := (byG_alloc hG4 _).trans hg5; have hz5 : z.size ≤ 60 := of_decide_eq_true hz; clear hc4 hg5 hG4 hz)))
      all_goals
        go_roundw
        case rel => exact ⟨k - 1, _, by go_num, rfl, by omega, by rw [ByteArray.size_append, ByteArray.size_append]; omega, hc5, hG5⟩
        case measure => simp [intOf]; omega
    · go_wp2
      go_ret
      exact ⟨v, by omega, rfl, hcur, hgr⟩
def ToksNew (w : World) (e : Ending) (w' : World) : Prop := ∃ (v : Value) (L : List Tok), e = .returned v ∧ RowT w.heap.size w' v L ∧ (∀ x ∈ L, Good x) ∧ sumT L ≤ 8000 ∧ Below w.heap.size w w'
set_option maxHeartbeats 1000000 in
theorem drawJ_any (A : Option Addr) (n cap : Nat) (w : World) (hs : Src w A n) :
    Calls Tryd.prog 6 #[.slice A n cap] w (ToksNew w) := by
  go_enter Tryd.func6, Tryd.ntmps6
  go_wp2_with (first
    | (go_at_call 14; ((with_reducible refine (new_any A n cap _ hs).mono ?_); rintro e w1 ⟨g, rfl, hg, hc, hb⟩))
    | (go_at_call 15; ((with_reducible refine (source_any _ _ _ _ _ hc).mono ?_); rintro e w2 ⟨s, hsz, rfl, hc2, hg2⟩; have hB2 := below_new hb hg hg2; obtain ⟨T, e', hL⟩ := Lx.exists s.size s.data.toList; have hgd := hL.good; have C := sLex_any s (by omega) T e' hL))
    | (go_at_call 10; ((refine (C _).mono ?_); rintro e w3 ⟨v, rfl, hr, hb3⟩)))
  go_ret
  have e1 : s.data.toList.length = s.size := by simp
  have hsum : sumT (lexT T e') ≤ 8000 := by
    cases e' with
    | none => have := hgd.2; show sumT T ≤ _; omega
    | some p => show sumT [] ≤ _; simp [sumT]
  have hgood : ∀ x ∈ lexT T e', Good x := by
    cases e' with
    | none => exact hgd.1
    | some p => intro x hx; cases hx
  exact ⟨v, _, rfl, RowR.mono hr hB2.size, hgood, hsum, below_step hB2 hb3⟩
theorem held_toks3 {w w1 w2 : World} {p q r : Addr} {x : Tok} {y : Tok} {t : ByteArray} (k : Below w1.heap.size w1 w2)
    (h : (w1.cell? p = some (.int .i64 x.k) ∧ w1.cell? ⟨p.block, p.off + 1, none⟩ = some (.string x.t) ∧ w1.cell? ⟨p.block, p.off + 2, none⟩ = some (.int .i64 x.p)) ∧ (w1.cell? q = some (.int .i64 y.k) ∧ w1.cell? ⟨q.block, q.off + 1, none⟩ = some (.string y.t) ∧ w1.cell? ⟨q.block, q.off + 2, none⟩ = some (.int .i64 y.p)) ∧ w1.cell? ⟨r.block, r.off + 1, none⟩ = some (.string t) ∧ Below w.heap.size w w1)
    (hp : p.block < w.heap.size) (hq : q.block < w.heap.size) (hr : r.block < w.heap.size) :
    (w2.cell? p = some (.int .i64 x.k) ∧ w2.cell? ⟨p.block, p.off + 1, none⟩ = some (.string x.t) ∧ w2.cell? ⟨p.block, p.off + 2, none⟩ = some (.int .i64 x.p)) ∧ (w2.cell? q = some (.int .i64 y.k) ∧ w2.cell? ⟨q.block, q.off + 1, none⟩ = some (.string y.t) ∧ w2.cell? ⟨q.block, q.off + 2, none⟩ = some (.int .i64 y.p)) ∧ w2.cell? ⟨r.block, r.off + 1, none⟩ = some (.string t) ∧ Below w.heap.size w w2 :=
  ⟨Tk.below h.1 k (Nat.lt_of_lt_of_le hp h.2.2.2.size), Tk.below h.2.1 k (Nat.lt_of_lt_of_le hq h.2.2.2.size), by rw [k.cell (p := ⟨r.block, r.off + 1, none⟩) (Nat.lt_of_lt_of_le hr h.2.2.2.size)]; exact h.2.2.1, below_step h.2.2.2 k⟩
end Go.Proofs.YthediljoioahpaaDoor
