/- DRAWS OF CHAPTER 2: a text, two texts put together, a list of texts. -/
import Derived.Test.YtkefbfljgoglhaaDrawBase
import Derived.Test.YtkefbfljgoglhaaStrs
namespace Go.Proofs.Ytkefbfljgoglhaa
open Go.RowKit

theorem text_any (g : Nat) (A : Option Addr) (n cap : Nat) (w : World) (hc : Cur w g A n cap) :
    Calls Try.prog 28 #[.pointer (some ⟨g, 0, none⟩)] w (StrOut (fun s => small s = true) w g A n cap) := by
  go_enter Try.func28, Try.ntmps28
  go_wp2_with (go_at_call 38; refine (str_any (fun s => small s = true) g A n cap ⟨w.heap.size, 0, none⟩ 14 14 (by omega) (by omega) _ (new_strs small (by decide) (by decide) hc.lt) (hc.alloc _)).mono ?_; rintro e w' ⟨v, hv, rfl, hc1, hg1⟩)
  go_ret
  exact ⟨v, hv, rfl, hc1, (byG_alloc (byG_refl w _) _).trans hg1⟩
def midS (s : ByteArray) : Bool := decide (s.size ≤ 200)
theorem drawQ_any (A : Option Addr) (n cap : Nat) (w : World) (hs : Src w A n) :
    Calls Try.prog 10 #[.slice A n cap] w (StrNew (fun s => midS s = true) w) := by
  go_enter Try.func10, Try.ntmps10
  go_wp2_with (first
    | (go_at_call 27; ((with_reducible refine (new_any A n cap _ hs).mono ?_); rintro e w1 ⟨g, rfl, hg, hc, hb⟩))
    | (go_at_call 28; ((with_reducible refine (text_any _ _ _ _ _ hc).mono ?_); rintro e w2 ⟨u, hu, rfl, hc2, hg2⟩; have hu' : u.size ≤ 60 := of_decide_eq_true hu; clear hc))
    | (go_at_call 28; ((with_reducible refine (text_any _ _ _ _ _ hc2).mono ?_); rintro e w3 ⟨v, hv, rfl, hc3, hg3⟩; have hv' : v.size ≤ 60 := of_decide_eq_true hv)))
  go_ret
  exact ⟨_, decide_eq_true (by rw [ByteArray.size_append]; omega), rfl, below_new hb hg (hg2.trans hg3)⟩
def ListNew (B k : Nat) (w : World) (e : Ending) (w' : World) : Prop := ∃ (v : Value) (L : List ByteArray), L.length ≤ k ∧ e = .returned v ∧ Row B w' v L ∧ Below w.heap.size w w'
set_option maxHeartbeats 1000000 in
theorem drawL_any (A : Option Addr) (n cap : Nat) (w : World) (hs : Src w A n) :
    Calls Try.prog 13 #[.slice A n cap] w (ListNew w.heap.size 5 w) := by
  have hA : 0 < n → ∀ a, A = some a → a.block < w.heap.size := fun hn a ha => by
    obtain ⟨a', _, h1, h2, _⟩ := hs.2 0 hn
    rw [h1] at ha; cases ha; exact h2
  go_enter Try.func13, Try.ntmps13
  go_wp2_with (first
    | (go_at_call 27; ((with_reducible refine (new_any A n cap _ hs).mono ?_); rintro e w1 ⟨g, rfl, hg, hc, hb⟩; have hgl := hc.lt; have hrow0 : Row w1.heap.size (w1.alloc (.cells #[] 9)) (.slice (some ⟨w1.heap.size, 0, none⟩) 0 0) [] := row_empty (heap_alloc_new w1 _) (Nat.le_refl _); have hc1 := hc.alloc (.cells #[] 9); have hb1 := hb.alloc hb.size (.cells #[] 9); clear hc))
    | (go_at_call 31; ((with_reducible refine (below_any _ A n cap 6 (by omega) _ hc1).mono ?_); rintro e w2 ⟨x, hx0, hx1, hx2, rfl, hc2, hg2⟩; have hx3 := hx2 (by omega); clear hx1 hx2; have hrow2 : Row w1.heap.size w2 (.slice (some ⟨w1.heap.size, 0, none⟩) 0 0) [] := World.ownsRow.kept hrow0 hg2 (.inr (fun e => Nat.ne_of_gt hgl (Option.some.inj e))); have hb2 := hb1.grown hg2 hb1.size (fun k e => Option.some.inj e ▸ hg))))
  go_loopw [4, 5] (fun u i wr => ∃ (k r c : Nat) (L : List ByteArray), u = .slice (some ⟨r, 0, none⟩) L.length c ∧ i = .int .i64 k ∧ L.length + k ≤ 5 ∧ Row w1.heap.size wr (.slice (some ⟨r, 0, none⟩) L.length c) L ∧ Cur wr g A n cap ∧ Below w.heap.size w wr ∧ w1.heap.size ≤ wr.heap.size) (fun _ i _ => (intOf i).toNat)
  case atStart => exact ⟨x.toNat, w1.heap.size, 0, [], rfl, by rw [Int.toNat_of_nonneg hx0], by simp; omega, hrow2, hc2, hb2, by have := hg2.size; have := ((Below.refl w1.heap.size w1).alloc (Nat.le_refl _) (.cells #[] 9)).size; omega⟩
  case round =>
    obtain ⟨k, r, c, L, rfl, rfl, hk, hrow, hcur, hbel, hsz⟩ := hrel
    by_cases hk0 : 0 < k
    · obtain ⟨m, hm⟩ : ∃ m, m = L.length := ⟨_, rfl⟩
      have HM : Hid (m = L.length) := Lib.hid hm
      rw [← hm] at hk hrow ⊢
      clear hm
      go_wp2_with (first
        | (go_at_call 28; ((with_reducible refine (text_any _ _ _ _ _ hcur).mono ?_); rintro e w3 ⟨y, hy, rfl, hc3, hg3⟩; have hrow3 : Row w1.heap.size w3 (.slice (some ⟨r, 0, none⟩) m c) L := World.ownsRow.kept hrow hg3 (.inr (fun e => Nat.ne_of_gt (Nat.lt_of_lt_of_le hgl (hrow.lt rfl).1) (Option.some.inj e))); have hb3 := hbel.grown hg3 hbel.size (fun k e => Option.some.inj e ▸ hg); have hsz3 := Nat.le_trans hsz hg3.size))
        | (at_builtin; refine wpList_row_append rfl _ _ rfl w1.heap.size r m c L rfl hrow3 y rfl (by omega) hsz3 (m + 1) rfl ?_; intro r4 c4 w4 hrow4 hg4))
      go_roundw
      case rel =>
        have hrl : w1.heap.size ≤ r := (hrow3.lt rfl).1
        have hl : (L ++ [y]).length = m + 1 := by rw [List.length_append, ← HM.out]; rfl
        exact ⟨k - 1, r4, c4, L ++ [y], by rw [hl], by go_num, by rw [hl]; omega, by rw [hl]; exact hrow4, (hc3.alloc _).grown hg4 (by omega) (fun hn a ha => by have := hA hn a ha; have := hb.size; omega), (hb3.alloc hb3.size _).grown hg4 (hb3.alloc hb3.size _).size (fun k e => Option.some.inj e ▸ Nat.le_trans hb.size hrl), Nat.le_trans hsz3 (Nat.le_trans ((Below.refl 0 w3).alloc (Nat.zero_le _) _).size hg4.size)⟩
      case measure => simp [intOf]; omega
    · go_wp2
      go_ret
      exact ⟨_, L, by omega, rfl, hrow.mono hb.size, hbel⟩
end Go.Proofs.Ytkefbfljgoglhaa
