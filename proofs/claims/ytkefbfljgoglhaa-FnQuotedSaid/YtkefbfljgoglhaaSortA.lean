/- CHAPTER 2, SEVENTH PART: texts sorted; slices.Sort on a list of texts; impl.SortTexts. -/
import Derived.Test.YtkefbfljgoglhaaStrs
import Derived.Test.YtkefbfljgoglhaaShelf
import Derived.Sort.OwnSorted
import Derived.Sort.KeysCollected
import Derived.Laws.AppendOwn
import Derived.Deep.AppendLies
namespace Go.Proofs.Ytkefbfljgoglhaa
open Go.RowKit Go.Sort

def keyL (l : List ByteArray) : List (List UInt8) := l.map fun s => s.data.toList
def unkey (l : List (List UInt8)) : List ByteArray := l.map fun b => ⟨b.toArray⟩
/-- the texts, sorted -/
def sortS (l : List ByteArray) : List ByteArray := unkey ((keyL l).mergeSort fun x y => decide (x ≤ y))
theorem unkey_key (l : List ByteArray) : unkey (keyL l) = l := by unfold unkey keyL; rw [List.map_map]; exact List.map_id _
theorem key_unkey (l : List (List UInt8)) : keyL (unkey l) = l := by unfold unkey keyL; rw [List.map_map]; exact List.map_id _
theorem keyL_length (l : List ByteArray) : (keyL l).length = l.length := by simp [keyL]
theorem sortS_length (l : List ByteArray) : (sortS l).length = l.length := by simp [sortS, unkey, keyL]
theorem enc_key (l : List ByteArray) : (keyL l).map encStr = l.map Value.string := by unfold keyL; rw [List.map_map]; rfl
theorem enc_unkey (l : List (List UInt8)) : (unkey l).map Value.string = l.map encStr := by unfold unkey; rw [List.map_map]; rfl
theorem sort_any (B : Nat) (g cap n : Nat) (l : List ByteArray) (w : World) (hn : n = l.length) (h : Row B w (.slice (some ⟨g, 0, none⟩) n cap) l) (hb : l.length ≤ 1048576) :
    Calls Try.prog 32 #[.slice (some ⟨g, 0, none⟩) n cap] w fun e w' => e = .returned (.tuple #[]) ∧ Row B w' (.slice (some ⟨g, 0, none⟩) n cap) (sortS l) ∧ w.grownBy w' (some g) := by
  subst hn
  rcases h.2 with ⟨h', _⟩ | ⟨g', cap', cur, h', hB, hg, hnc, hcm, hcs, htake⟩
  · cases h'
  · cases h'
    rw [Nat.mul_one, ← enc_key] at htake
    have hH := holds_of_block (ss := keyL l) hg (by rw [keyL_length]; exact htake)
    have := Try.slices_Sort_string g 0 cap (keyL l) w hH (Array.getElem?_eq_some_iff.1 hg).1 (by rw [keyL_length]; omega)
    rw [keyL_length] at this
    refine this.mono ?_
    rintro e w' ⟨he, nn, os, rfl⟩
    refine ⟨he, ?_, grownBy_sorted _⟩
    have hr := ownsRow_sorted (base := B) (g := g) (cap := cap) (n := nn) (os := os) (ss := keyL l) (ts := (keyL l).mergeSort fun x y => decide (x ≤ y)) (by simp) hB hg (by rw [keyL_length]; exact hnc) hcm hcs
    rw [keyL_length, ← enc_unkey] at hr
    unfold Row
    rw [sortS_length]
    exact hr
theorem sort_nil (l : List ByteArray) (h : l.length = 0) : sortS l = [] := List.length_eq_zero_iff.1 (by rw [sortS_length]; exact h)

set_option maxHeartbeats 1000000 in
theorem iSort_any (v : Value) (l : List ByteArray) (w : World) (hv : Has w v l) (hn : l.length ≤ 1048576) :
    Calls Try.prog 14 #[v] w fun e w' => ∃ v', e = .returned v' ∧ Row w.heap.size w' v' (sortS l) ∧ Below w.heap.size w w' := by
  obtain ⟨i0, hi, hz0, hz1, hz2⟩ := info_parts infoStr
  obtain ⟨A, cap, rfl, hn', hc⟩ := hv
  have hempty : (w.alloc (.cells #[] 9)).ownsRow w.heap.size 9 1 (.slice (some ⟨w.heap.size, 0, none⟩) 0 0) 0 [] := ⟨rfl, .inr ⟨w.heap.size, 0, #[], rfl, Nat.le_refl _, heap_alloc_new w _, by simp, by simp, rfl, rfl⟩⟩
  have hsz0 : w.heap.size ≤ (w.alloc (.cells #[] 9)).heap.size := ((Below.refl w.heap.size w).alloc (Nat.le_refl _) _).size
  have hb0 : Below w.heap.size w (w.alloc (.cells #[] 9)) := (Below.refl _ _).alloc (Nat.le_refl _) _
  by_cases h0 : l.length = 0
  · have hs := sort_nil l h0
    have HS : Hid (sortS l = []) := Lib.hid hs
    have hr0 : Row w.heap.size (w.alloc (.cells #[] 9)) (.slice (some ⟨w.heap.size, 0, none⟩) 0 0) [] := hempty
    clear hempty hs
    clear hc
    rw [h0]
    clear h0 hn hn'
    cases A
    all_goals
      go_enter Try.func14, Try.ntmps14
      go_wp2_with (go_at_call 32; refine (Try.slices_Sort_string_none _ _ _).mono ?_; rintro e w' ⟨rfl, rfl⟩)
      go_ret
      exact ⟨_, rfl, by rw [HS.out]; exact hr0, hb0⟩
  · obtain ⟨a, rfl, hab, _⟩ := hc 0 (by omega)
    have hsrc : ∀ j u, (l.map Value.string)[j]? = some u → (w.alloc (.cells #[] 9)).cell? (a.add j) = some u := fun j u hj => by
      rw [List.getElem?_map] at hj
      cases hlj : l[j]? with
      | none => rw [hlj] at hj; cases hj
      | some s =>
        rw [hlj] at hj; cases hj
        obtain ⟨hj', hs⟩ := List.getElem?_eq_some_iff.1 hlj
        obtain ⟨a', h1, h2, h3⟩ := hc j hj'
        cases h1
        rw [hb0.cell (by rw [add_blk]; exact hab), h3, ← hs]
    obtain ⟨n, hnn⟩ : ∃ n, n = l.length := ⟨_, rfl⟩
    have HN : Hid (n = l.length) := Lib.hid hnn
    rw [← hnn] at hn hn' h0 ⊢
    clear hnn hc
    go_enter Try.func14, Try.ntmps14
    go_wp2_with (first
      | (at_builtin; go_loud (refine wpList_append_own _ rfl _ _ 28 rfl w.heap.size 9 i0 (.string ⟨#[]⟩) 1 16 Try.underlying28 hi hz0 hz1 hz2 rfl (by decide) _ _ _ rfl hempty a n cap (l.map Value.string) rfl (by have := HN.out; simp; omega) hsrc (by intro u hu; obtain ⟨s, _, rfl⟩ := List.mem_map.1 hu; rfl) (by unfold maxLen; omega) (by omega) hsz0 ?_; intro v1 w1 hown1 hg1 hnil1; obtain ⟨g, cap1, rfl, hg0, hg2⟩ := hown1.form (by omega); have hrow1 : Row w.heap.size w1 (.slice (some ⟨g, 0, none⟩) n cap1) l := (by unfold Row; rw [← HN.out]; simpa using hown1); have hb1 : Below w.heap.size w w1 := hb0.grown hg1 hsz0 (fun k hk => Nat.le_of_eq (Option.some.inj hk))))
      | (go_at_call 32; refine (sort_any w.heap.size g cap1 n l _ HN.out (by simpa using hrow1) (by have := HN.out; omega)).mono ?_; rintro e w2 ⟨rfl, hrow2, hg3⟩))
    go_ret
    exact ⟨_, rfl, hrow2, hb1.grown hg3 hb1.size (fun k hk => by cases hk; exact hg0)⟩
end Go.Proofs.Ytkefbfljgoglhaa
