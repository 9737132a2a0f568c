/- CHAPTER 8: the sizes of an expression's paths. -/
import Derived.Test.YthmjffijhlkgcaaPtsG
import Derived.Test.YthmjffijhlkgcaaPtsC
set_option linter.unusedVariables false
set_option linter.unusedSimpArgs false
namespace Go.Proofs.Ythmjffijhlkgcaa
open Go.RowKit NumP

mutual
theorem ptsN_sz : ∀ t : Ex, ExSz t.x → (∀ e, SizT ExSz e t.kids) → ∀ p ∈ ptsN t, PthSz p
  | .mk x l, hx, hk, p, hp => by
    rw [ptsN] at hp
    rcases List.mem_append.1 hp with h | h
    · unfold hdE at h
      split at h
      · rw [List.mem_singleton.1 h]; exact hx.2
      · cases h
    · exact ptsL_sz l (fun t ht => ⟨((hk 1).2 t ht).1, fun e => ((hk (e + 1)).2 t ht).2⟩) p h
theorem ptsL_sz : ∀ l : List Ex, (∀ t ∈ l, ExSz t.x ∧ ∀ e, SizT ExSz e t.kids) → ∀ p ∈ ptsL l, PthSz p
  | [], _, p, hp => by rw [ptsL] at hp; cases hp
  | t :: l, h, p, hp => by
    rw [ptsL] at hp
    rcases List.mem_append.1 hp with h1 | h1
    · exact ptsN_sz t (h t (by simp)).1 (h t (by simp)).2 p h1
    · exact ptsL_sz l (fun u hu => h u (List.mem_cons_of_mem _ hu)) p h1
end
theorem ptsN_ok {t : Ex} (hx : ExSz t.x) (hk : ∀ e, SizT ExSz e t.kids) (hn : sizeN t ≤ 1048577) : PtsSz (ptsN t) :=
  ⟨Nat.le_trans (ptsN_len t) hn, fun p hp => ⟨(ptsN_sz t hx hk p hp).1, fun s hs => ((ptsN_sz t hx hk p hp).2 s hs).2.1⟩⟩
theorem markPts1 (B : Nat) (v : Value) (R0 : List PthV) (l : List Pth) (K : Nat → Nat → Prop) (w : World) (hv : OwnQ B w v R0 l K) (hz : PtsSz l) :
    Calls Try.prog 11 #[v, .int .i64 1] w fun e w' => e = .returned (.int .i64 (endPts 1 l : Nat)) ∧ (∃ R, R.length = R0.length ∧ OwnQ B w' v R (mkPts 1 l) K) ∧ TurnsAt (OwnQ.S v R0 K) w w' :=
  markPts_any B 1 v R0 l K w hv hz (by omega) (by omega)
theorem heldPts1 (v : Value) (l : List Pth) (w : World) (hv : HasQ w v (mkPts 1 l)) (hz : PtsSz l) :
    Calls Try.prog 12 #[v, .int .i64 1] w fun e w' => e = .returned (.int .i64 (endPts 1 l : Nat)) ∧ Below w.heap.size w w' :=
  heldPts_any 1 v l w hv hz (by omega) (by omega)
end Go.Proofs.Ythmjffijhlkgcaa
