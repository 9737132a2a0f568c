/- DRAWS OF CHAPTER 2: a text, two texts put together, a list of texts. -/
import Derived.Test.YthediljoioahpaaDoorDrawBase
import Derived.Test.YthediljoioahpaaDoorStrs
namespace Go.Proofs.YthediljoioahpaaDoor
open Go.RowKit

theorem text_any (g : Nat) (A : Option Addr) (n cap : Nat) (w : World) (hc : Cur w g A n cap) :
    Calls Tryd.prog 31 #[.pointer (some ⟨g, 0, none⟩)] w (StrOut (fun s => small s = true) w g A n cap) := by
  go_enter Tryd.func31, Tryd.ntmps31
  go_wp2_with (go_at_call 32; refine (str_any (fun s => small s = true) g A n cap ⟨w.heap.size, 0, none⟩ 14 14 (by omega) (by omega) _ (new_strs small (by decide) (by decide) hc.lt) (hc.alloc _)).mono ?_; rintro e w' ⟨v, hv, rfl, hc1, hg1⟩)
  go_ret
  exact ⟨v, hv, rfl, hc1, (byG_alloc (byG_refl w _) _).trans hg1⟩
def midS (s : ByteArray) : Bool := decide (s.size ≤ 200)
def ListNew (B k : Nat) (w : World) (e : Ending) (w' : World) : Prop := ∃ (v : Value) (L : List ByteArray), L.length ≤ k ∧ e = .returned v ∧ Row B w' v L ∧ Below w.heap.size w w'
theorem name_any (g : Nat) (A : Option Addr) (n cap : Nat) (w : World) (hc : Cur w g A n cap) :
    Calls Tryd.prog 29 #[.pointer (some ⟨g, 0, none⟩)] w (StrOut (fun s => small s = true) w g A n cap) := by
  go_enter Tryd.func29, Tryd.ntmps29
  go_wp2_with (go_at_call 32; refine (str_any (fun s => small s = true) g A n cap ⟨w.heap.size, 0, none⟩ 9 9 (by omega) (by omega) _ (new_strs small (by decide) (by decide) hc.lt) (hc.alloc _)).mono ?_; rintro e w' ⟨v, hv, rfl, hc1, hg1⟩)
  go_ret
  exact ⟨v, hv, rfl, hc1, (byG_alloc (byG_refl w _) _).trans hg1⟩
end Go.Proofs.YthediljoioahpaaDoor
