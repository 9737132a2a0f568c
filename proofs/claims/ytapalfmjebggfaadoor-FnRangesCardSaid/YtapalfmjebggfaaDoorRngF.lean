/- CHAPTER 4: FormatRanges. -/
import Derived.Test.YtapalfmjebggfaaDoorRngFp
import Derived.Test.YtapalfmjebggfaaDoorShelf
namespace Go.Proofs.YtapalfmjebggfaaDoor
open Go.RowKit NumP

set_option maxRecDepth 100000 in
set_option maxHeartbeats 1000000 in
theorem fmtR_any (x : Rg) (h : RgWf x) (w : World) : Calls Tryd.prog 28 #[.agg #[.int .i64 x.lo, .int .i64 x.hi]] w fun e w' => e = .returned (.string (rangeS x)) ∧ Below w.heap.size w w' := by
  obtain ⟨w1, w2, w3, w4⟩ := h
  have hz1 := fmtS_size w1 w2
  have hz2 := fmtS_size w3 w4
  by_cases hq : x.lo = x.hi
  · have hq' : (x.lo == x.hi) = true := by simpa using hq
    have HE := Lib.hid (rangeS_same hq)
    clear hq
    go_enter Tryd.func28, Tryd.ntmps28
    go_wp2_with (go_at_call 40; refine (iFmt_any _ w1 w2 _).mono ?_; rintro e wa ⟨rfl, hb1⟩)
    go_ret
    exact ⟨ret_str (by rw [HE.out]), below_step (below_al (Below.refl _ _) _) hb1⟩
  · have hq' : (x.lo == x.hi) = false := by simpa using hq
    have HE : Hid (rangeS x = fmtS x.lo ++ (⟨#[46, 46]⟩ : ByteArray) ++ fmtS x.hi) := Lib.hid (if_neg hq)
    have hz3 : (fmtS x.lo ++ (⟨#[46, 46]⟩ : ByteArray)).size ≤ 23 := by rw [ByteArray.size_append]; exact Nat.add_le_add_right hz1 2
    have hs1 : ¬ 9223372036854775807 < (fmtS x.lo).size + 2 := by omega
    have hs3 : ¬ 9223372036854775807 < (fmtS x.lo ++ (⟨#[46, 46]⟩ : ByteArray)).size + (fmtS x.hi).size := by omega
    have hs4 : ¬ 9223372036854775807 < (fmtS x.lo).size + 2 + (fmtS x.hi).size := by omega
    clear hq
    have HK : Hid (∀ w', Below (w.alloc (.cells #[.int .i64 x.lo, .int .i64 x.hi] 33)).heap.size (w.alloc (.cells #[.int .i64 x.lo, .int .i64 x.hi] 33)) w' → (w'.cell? ⟨w.heap.size, 0, none⟩ = some (.int .i64 x.lo) ∧ w'.cell? ⟨w.heap.size, 1, none⟩ = some (.int .i64 x.hi)) ∧ Below (w.alloc (.cells #[.int .i64 x.lo, .int .i64 x.hi] 33)).heap.size (w.alloc (.cells #[.int .i64 x.lo, .int .i64 x.hi] 33)) w') := Lib.hid fun w' h => ⟨box2 h, h⟩
    go_enter Tryd.func28, Tryd.ntmps28
    go_wp2
    go_region_held3 (fun w' => (w'.cell? ⟨w.heap.size, 0, none⟩ = some (.int .i64 x.lo) ∧ w'.cell? ⟨w.heap.size, 1, none⟩ = some (.int .i64 x.hi)) ∧ Below (w.alloc (.cells #[.int .i64 x.lo, .int .i64 x.hi] 33)).heap.size (w.alloc (.cells #[.int .i64 x.lo, .int .i64 x.hi] 33)) w') (first | exact HK.out _ (Below.refl _ _).drew | exact HK.out _ (below_step (by assumption : _ ∧ Below _ _ _).2 hbm) | assumption | go_keep)
      (first | (go_at_call 40; ((with_reducible refine (iFmt_any x.lo w1 w2 _).mono ?_); rintro e wm ⟨rfl, hbm⟩)) | (go_at_call 40; ((with_reducible refine (iFmt_any x.hi w3 w4 _).mono ?_); rintro e wm ⟨rfl, hbm⟩)))
    all_goals
      have hB2 := (below_al (Below.refl w.heap.size w) (.cells #[.int .i64 x.lo, .int .i64 x.hi] 33)).trans ((by assumption : _ ∧ Below (w.alloc _).heap.size _ _).2.mono (by simp))
      go_wp2
      go_ret
      exact ⟨ret_str (by rw [HE.out]), hB2⟩
set_option maxRecDepth 100000 in
set_option maxHeartbeats 1000000 in
theorem iFormatR_any (v : Value) (l : List Rg) (w : World) (hv : HasG w v l) (hn : l.length ≤ 1048576) (hs : ∀ x ∈ l, RgWf x) :
    Calls Tryd.prog 13 #[v] w fun e w' => e = .returned (.string (formatS l)) ∧ Below w.heap.size w w' := by
  have HJ := Lib.hid (rngs_join_len hn hs)
  obtain ⟨A, cap, rfl, hn', hc⟩ := hv
  obtain ⟨n, hnn⟩ : ∃ n, n = l.length := ⟨_, rfl⟩
  have HN : Hid (n = l.length) := Lib.hid hnn
  rw [← hnn] at hn hn' ⊢
  clear hnn
  go_enter Tryd.func13, Tryd.ntmps13
  go_wp2
  go_loopw [3, 9] (fun v i wr => ∃ (k g c : Nat), k ≤ n ∧ i = .int .i64 k ∧ v = .slice (some ⟨g, 0, none⟩) k c ∧ Row w.heap.size wr (.slice (some ⟨g, 0, none⟩) k c) (rngsT (l.take k)) ∧ Below w.heap.size w wr) (fun _ i _ => n - (intOf i).toNat)
  case atStart => exact ⟨0, w.heap.size, 0, Nat.zero_le _, rfl, rfl, row_empty (heap_alloc_new w _) (Nat.le_refl _), below_al (Below.refl _ _) _⟩
  case round =>
    obtain ⟨k, g, c, hk, rfl, rfl, hrow, hbel⟩ := hrel
    by_cases hlt : k < n
    · have hlk : k < l.length := by rw [← HN.out]; exact hlt
      obtain ⟨a, rfl, hab, hcell⟩ := HasG.gk hc k hlk
      have HWF := Lib.hid (hs _ (List.getElem_mem hlk))
      have ht := Lib.hid (rngs_take hlk)
      obtain ⟨x, hx⟩ : ∃ x, x = l[k] := ⟨_, rfl⟩
      rw [← hx] at hcell HWF ht
      obtain ⟨c0, c1⟩ := hcell.below hbel hab
      have hgB := (hrow.lt rfl).1
      clear hcell hx
      go_wp2_with (first
        | (go_at_call 28; refine (fmtR_any x HWF.out _).mono ?_; rintro e w1 ⟨rfl, hb1⟩; have hrow1 := (hrow.alloc _).below hb1; have hbel1 := below_step (below_al hbel _) hb1; clear hrow hb1)
        | (at_builtin; refine wpList_row_append rfl _ _ rfl w.heap.size g k c _ rfl hrow1 _ rfl (by omega) hbel1.size (k + 1) rfl ?_; clear hrow1; intro g' c'' w2 hrow2 hg2))
      go_roundw
      case rel => exact ⟨k + 1, g', c'', by omega, by go_num, rfl, by rw [ht.out]; exact hrow2, (below_al hbel1 _).grown hg2 (below_al hbel1 _).size (fun _ h => by cases h; exact hgB)⟩
      case measure => simp [intOf]; omega
    · obtain rfl : k = n := by omega
      rw [List.take_of_length_le (by have := HN.out; omega)] at hrow
      have hlen : (rngsT l).length = k := by have := HN.out; simp [rngsT]; omega
      have hcc : ∀ (j : Nat) x, (rngsT l)[j]? = some x → wr.cell? ⟨g, 0 + j, none⟩ = some (.string x) := fun j x hx => by
        obtain ⟨hj, rfl⟩ := List.getElem?_eq_some_iff.1 hx
        rw [Nat.zero_add]; exact hrow.cell hj
      have hgl := (hrow.lt rfl).2
      have hcp := hrow.cap.2
      have hJ := Tryd.strings_Join g 0 c (rngsT l) ⟨#[124]⟩ wr hcc hgl (by omega) (by omega) HJ.out
      rw [hlen] at hJ
      clear hcc hlen hgl hrow
      go_wp2_with (go_at_call 29; refine hJ.mono ?_; rintro e w1 ⟨rfl, hb1⟩)
      go_ret
      exact ⟨rfl, below_step hbel hb1⟩
end Go.Proofs.YtapalfmjebggfaaDoor
