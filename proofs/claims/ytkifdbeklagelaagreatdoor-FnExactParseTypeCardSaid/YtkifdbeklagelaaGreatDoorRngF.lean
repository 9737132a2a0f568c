/- MERGED for a claim: RngFp RngF. -/
import Derived.Test.YtkifdbeklagelaaGreatDoorRngOpen
import Derived.Test.YtkifdbeklagelaaGreatDoorNumQ
import Derived.Test.YtkifdbeklagelaaGreatDoorStrs
import Derived.Lib.Join
import Derived.Test.YtkifdbeklagelaaGreatDoorShelf
set_option linter.unusedVariables false
set_option linter.unusedSimpArgs false
/- CHAPTER 4: the written form of ranges: plain mathematics. -/
namespace Go.Proofs.YtkifdbeklagelaaGreatDoor
open Go.RowKit NumP

/-- the texts, a byte between two -/
def joinC (c : UInt8) (xs : List ByteArray) : ByteArray := ⟨(Lib.join (xs.map (·.data.toList)) [c]).toArray⟩
def dots : ByteArray := ⟨#[46, 46]⟩
def rangeS (x : Rg) : ByteArray := if x.lo = x.hi then fmtS x.lo else fmtS x.lo ++ dots ++ fmtS x.hi
def rngsT (l : List Rg) : List ByteArray := l.map rangeS
theorem join_snocC {xs : List (List UInt8)} (h : xs ≠ []) (y sep : List UInt8) : Lib.join (xs ++ [y]) sep = Lib.join xs sep ++ sep ++ y := by
  cases xs with
  | nil => exact absurd rfl h
  | cons x r => rw [List.cons_append, Lib.join_cons, Lib.join_cons]; simp [Lib.joinTail]
theorem joinC_one (c : UInt8) (y : ByteArray) : joinC c ([] ++ [y]) = ⟨#[]⟩ ++ y := by
  unfold joinC
  rw [List.nil_append, List.map_cons, List.map_nil, Lib.join_one]
  apply ByteArray.ext; simp
theorem joinC_snoc {c : UInt8} {xs : List ByteArray} (h : xs ≠ []) (y : ByteArray) : joinC c (xs ++ [y]) = joinC c xs ++ ⟨#[c]⟩ ++ y := by
  unfold joinC
  rw [List.map_append, List.map_cons, List.map_nil, join_snocC (by simpa using h)]
  apply ByteArray.ext; simp
theorem rngs_take {l : List Rg} {k : Nat} (hk : k < l.length) : rngsT (l.take (k + 1)) = rngsT (l.take k) ++ [rangeS l[k]] := by
  unfold rngsT
  rw [List.take_succ_eq_append_getElem hk, List.map_append]; rfl
theorem rngs_ne {l : List Rg} {k : Nat} (h0 : 0 < k) (hk : k < l.length) : rngsT (l.take k) ≠ [] := by
  unfold rngsT; intro h
  have := congrArg List.length h
  simp only [List.length_map, List.length_take, List.length_nil] at this; omega
theorem fmtS_size {n : Int} (h : -9223372036854775808 ≤ n) (h' : n ≤ 9223372036854775807) : (fmtS n).size ≤ 21 := (fmtL_length h h').2
theorem rangeS_size {x : Rg} (h : RgWf x) : (rangeS x).size ≤ 44 := by
  have h1 := fmtS_size h.1 h.2.1
  have h2 := fmtS_size h.2.2.1 h.2.2.2
  unfold rangeS
  split
  · omega
  · rw [ByteArray.size_append, ByteArray.size_append]
    have : dots.size = 2 := rfl
    omega
theorem join_lenC {xs : List (List UInt8)} {m : Nat} {c : UInt8} (h : ∀ x ∈ xs, x.length ≤ m) : (Lib.join xs [c]).length ≤ xs.length * (m + 1) := by
  cases xs with
  | nil => simp [Lib.join_nil]
  | cons x r =>
    rw [Lib.join_cons, List.length_append]
    have h2 : (Lib.joinTail [c] r).length ≤ r.length * (m + 1) := by
      have hr : ∀ x ∈ r, x.length ≤ m := fun y hy => h y (List.mem_cons_of_mem _ hy)
      clear h
      induction r with
      | nil => simp [Lib.joinTail]
      | cons y r ih =>
        have h1 := ih (fun z hz => hr z (List.mem_cons_of_mem _ hz))
        have h3 := hr y (List.mem_cons_self ..)
        unfold Lib.joinTail at h1 ⊢
        rw [List.map_cons, List.flatten_cons, List.length_append, List.length_append, List.length_cons, List.length_cons, List.length_nil, Nat.succ_mul]
        omega
    have h1 := h x (List.mem_cons_self ..)
    rw [List.length_cons, Nat.succ_mul]; omega
theorem rngs_join_len {l : List Rg} (hn : l.length ≤ 1048576) (hs : ∀ x ∈ l, RgWf x) : (Lib.join ((rngsT l).map (·.data.toList)) [124]).length ≤ 140737488355328 := by
  have h := join_lenC (c := 124) (xs := (rngsT l).map (·.data.toList)) (m := 44) (fun y hy => by
    unfold rngsT at hy
    simp only [List.map_map, List.mem_map, Function.comp] at hy
    obtain ⟨x, hx, rfl⟩ := hy
    have h1 := rangeS_size (hs x hx)
    have e : (rangeS x).data.toList.length = (rangeS x).size := by simp
    rw [e]; omega)
  have e : ((rngsT l).map (·.data.toList)).length = l.length := by simp [rngsT]
  rw [e] at h
  exact Nat.le_trans h (by omega)
def formatS (l : List Rg) : ByteArray := joinC 124 (rngsT l)
theorem formatS_size (l : List Rg) : (formatS l).size = (Lib.join ((rngsT l).map (·.data.toList)) [124]).length := rfl
theorem format_take_len {l : List Rg} (hn : l.length ≤ 1048576) (hs : ∀ x ∈ l, RgWf x) (k : Nat) : (formatS (l.take k)).size ≤ 140737488355328 := by
  rw [formatS_size]
  exact rngs_join_len (by rw [List.length_take]; omega) (fun x hx => hs x (List.mem_of_mem_take hx))
theorem format_next {l : List Rg} {k : Nat} (hk : k < l.length) (h0 : 0 < k) : formatS (l.take (k + 1)) = formatS (l.take k) ++ ⟨#[124]⟩ ++ rangeS l[k] := by
  unfold formatS; rw [rngs_take hk, joinC_snoc (rngs_ne h0 hk)]
theorem format_first {l : List Rg} (hk : 0 < l.length) : formatS (l.take (0 + 1)) = formatS (l.take 0) ++ rangeS l[0] := by
  unfold formatS; rw [rngs_take hk]; exact joinC_one _ _
theorem rangeS_same {x : Rg} (h : x.lo = x.hi) : rangeS x = fmtS x.lo := if_pos h
theorem rangeS_two {x : Rg} (h : ¬ x.lo = x.hi) (a : ByteArray) : a ++ rangeS x = a ++ fmtS x.lo ++ dots ++ fmtS x.hi := by
  unfold rangeS; rw [if_neg h, ByteArray.append_assoc, ByteArray.append_assoc, ByteArray.append_assoc]
end Go.Proofs.YtkifdbeklagelaaGreatDoor

/- CHAPTER 4: FormatRanges. -/
namespace Go.Proofs.YtkifdbeklagelaaGreatDoor
open Go.RowKit NumP

set_option maxRecDepth 100000 in
set_option maxHeartbeats 2000000 in
theorem sFormatR_any (v : Value) (l : List Rg) (w : World) (hv : HasG w v l) (hn : l.length ≤ 1048576) (hs : ∀ x ∈ l, RgWf x) :
    Calls Tryz.prog 23 #[v] w fun e w' => e = .returned (.string (formatS l)) ∧ Below w.heap.size w w' := by
  obtain ⟨A, cap, rfl, hn', hc⟩ := hv
  obtain ⟨n, hnn⟩ : ∃ n, n = l.length := ⟨_, rfl⟩
  have HN : Hid (n = l.length) := Lib.hid hnn
  rw [← hnn] at hn' ⊢
  have HB := Lib.hid (format_take_len hn hs)
  have HSS := Lib.hid hs
  clear hn hnn hs
  go_enter Tryz.func23, Tryz.ntmps23
  go_wp2
  go_loopw [3, 4] (fun s i wr => ∃ (k : Nat), k ≤ n ∧ i = .int .i64 k ∧ s = .string (formatS (l.take k)) ∧ Below w.heap.size w wr) (fun _ i _ => n - (intOf i).toNat)
  case atStart => exact ⟨0, Nat.zero_le _, rfl, rfl, Below.refl _ _⟩
  case round =>
    obtain ⟨k, hk, rfl, rfl, hbel⟩ := hrel
    by_cases hlt : k < n
    · have hlk : k < l.length := by rw [← HN.out]; exact hlt
      obtain ⟨a, rfl, hab, hcell⟩ := HasG.gk hc k hlk
      have hwf := HSS.out _ (List.getElem_mem hlk)
      have HNX : Hid (formatS (l.take (k + 1)) = formatS (l.take k) ++ (if 0 < k then ⟨#[124]⟩ else ⟨#[]⟩) ++ rangeS l[k]) := Lib.hid (by
        by_cases h0 : 0 < k
        · rw [if_pos h0]; exact format_next hlk h0
        · obtain rfl : k = 0 := by omega
          rw [if_neg h0, format_first hlk]
          congr 1)
      obtain ⟨x, hx⟩ : ∃ x, x = l[k] := ⟨_, rfl⟩
      rw [← hx] at hcell hwf HNX
      have HC : Hid (∀ W, Below w.heap.size w W → Gk W (a.add (k * 2)) x) := Lib.hid fun W h => hcell.below h hab
      obtain ⟨w1, w2, w3, w4⟩ := hwf
      have hz0 := HB.out k
      obtain ⟨J, hJ⟩ : ∃ J, J = formatS (l.take k) := ⟨_, rfl⟩
      have HJ := Lib.hid hJ
      rw [← hJ] at hz0 ⊢
      have hz1 := fmtS_size w1 w2
      have hz2 := fmtS_size w3 w4
      have hz3 : (J ++ (⟨#[124]⟩ : ByteArray)).size ≤ 140737488355329 := by rw [ByteArray.size_append]; exact Nat.add_le_add_right hz0 1
      have hz4 : (J ++ (⟨#[124]⟩ : ByteArray) ++ fmtS x.lo).size ≤ 140737488355350 := by rw [ByteArray.size_append]; omega
      have hz5 : (J ++ (⟨#[124]⟩ : ByteArray) ++ fmtS x.lo ++ (⟨#[46, 46]⟩ : ByteArray)).size ≤ 140737488355352 := by rw [ByteArray.size_append]; exact Nat.add_le_add_right hz4 2
      have hz6 : (J ++ fmtS x.lo).size ≤ 140737488355350 := by rw [ByteArray.size_append]; omega
      have hz7 : (J ++ fmtS x.lo ++ (⟨#[46, 46]⟩ : ByteArray)).size ≤ 140737488355352 := by rw [ByteArray.size_append]; exact Nat.add_le_add_right hz6 2
      have hgk := HC.out _ hbel
      obtain ⟨c0, c1⟩ := hgk
      clear hcell hx hJ hc
      have hlast : x.lo = x.hi ∨ ¬ x.lo = x.hi := Classical.em _
      by_cases h0 : 0 < k
      · have h0' : decide (0 < (k : Int)) = true := by simp; omega
        have HN2 : Hid (formatS (l.take (k + 1)) = J ++ ⟨#[124]⟩ ++ rangeS x) := Lib.hid (by rw [HNX.out, if_pos h0, HJ.out])
        rcases hlast with hq | hq
        · have hq' : (x.lo != x.hi) = false := by simpa using hq
          have HE := Lib.hid (HN2.out.trans (congrArg (J ++ ⟨#[124]⟩ ++ ·) (rangeS_same hq)))
          clear hq
          go_wp2_with (go_at_call 57; refine (sFmt_any _ w1 w2 _).mono ?_; rintro e wa ⟨rfl, hb1⟩; have hbel1 := below_step hbel hb1; have hgk := HC.out _ hbel1; obtain ⟨c0, c1⟩ := hgk; clear hbel hb1)
          go_quiet (fail)
          go_wp2
          go_roundw
          case rel => exact ⟨k + 1, by omega, by go_num, by rw [HE.out], below_drewN hbel1 _⟩
          case measure => simp [intOf]; omega
        · have hq' : (x.lo != x.hi) = true := by simpa using hq
          have HE := Lib.hid (HN2.out.trans (rangeS_two hq _))
          clear hq
          go_wp2_with (go_at_call 57; refine (sFmt_any _ w1 w2 _).mono ?_; rintro e wa ⟨rfl, hb1⟩; have hbel1 := below_step hbel hb1; have hgk := HC.out _ hbel1; obtain ⟨c0, c1⟩ := hgk; clear hbel hb1)
          go_quiet (fail)
          have hbel2 := below_drewN hbel1 nq
          have hgk := HC.out _ hbel2
          obtain ⟨d0, d1⟩ := hgk
          clear c0 c1 hbel1
          generalize wa.drewN nq = wb at hbel2 d0 d1 ⊢
          go_wp2_with (go_at_call 57; refine (sFmt_any _ w3 w4 _).mono ?_; rintro e wc ⟨rfl, hb2⟩; have hbel3 := below_step hbel2 hb2; clear hbel2 hb2)
          go_roundw
          case rel => exact ⟨k + 1, by omega, by go_num, by rw [HE.out]; rfl, hbel3⟩
          case measure => simp [intOf]; omega
      · have h0' : decide (0 < (k : Int)) = false := by simp; omega
        have HN2 : Hid (formatS (l.take (k + 1)) = J ++ rangeS x) := Lib.hid (by rw [HNX.out, if_neg h0, HJ.out]; congr 1; apply ByteArray.ext; simp)
        rcases hlast with hq | hq
        · have hq' : (x.lo != x.hi) = false := by simpa using hq
          have HE := Lib.hid (HN2.out.trans (congrArg (J ++ ·) (rangeS_same hq)))
          clear hq
          go_wp2_with (go_at_call 57; refine (sFmt_any _ w1 w2 _).mono ?_; rintro e wa ⟨rfl, hb1⟩; have hbel1 := below_step hbel hb1; have hgk := HC.out _ hbel1; obtain ⟨c0, c1⟩ := hgk; clear hbel hb1)
          go_quiet (fail)
          go_wp2
          go_roundw
          case rel => exact ⟨k + 1, by omega, by go_num, by rw [HE.out], below_drewN hbel1 _⟩
          case measure => simp [intOf]; omega
        · have hq' : (x.lo != x.hi) = true := by simpa using hq
          have HE := Lib.hid (HN2.out.trans (rangeS_two hq _))
          clear hq
          go_wp2_with (go_at_call 57; refine (sFmt_any _ w1 w2 _).mono ?_; rintro e wa ⟨rfl, hb1⟩; have hbel1 := below_step hbel hb1; have hgk := HC.out _ hbel1; obtain ⟨c0, c1⟩ := hgk; clear hbel hb1)
          go_quiet (fail)
          have hbel2 := below_drewN hbel1 nq
          have hgk := HC.out _ hbel2
          obtain ⟨d0, d1⟩ := hgk
          clear c0 c1 hbel1
          generalize wa.drewN nq = wb at hbel2 d0 d1 ⊢
          go_wp2_with (go_at_call 57; refine (sFmt_any _ w3 w4 _).mono ?_; rintro e wc ⟨rfl, hb2⟩; have hbel3 := below_step hbel2 hb2; clear hbel2 hb2)
          go_roundw
          case rel => exact ⟨k + 1, by omega, by go_num, by rw [HE.out]; rfl, hbel3⟩
          case measure => simp [intOf]; omega
    · go_wp2
      go_ret
      exact ⟨ret_str (by rw [List.take_of_length_le (by have := HN.out; omega)]), hbel⟩
set_option maxRecDepth 100000 in
set_option maxHeartbeats 1000000 in
theorem fmtR_any (x : Rg) (h : RgWf x) (w : World) : Calls Tryz.prog 60 #[.agg #[.int .i64 x.lo, .int .i64 x.hi]] w fun e w' => e = .returned (.string (rangeS x)) ∧ Below w.heap.size w w' := by
  obtain ⟨w1, w2, w3, w4⟩ := h
  have hz1 := fmtS_size w1 w2
  have hz2 := fmtS_size w3 w4
  by_cases hq : x.lo = x.hi
  · have hq' : (x.lo == x.hi) = true := by simpa using hq
    have HE := Lib.hid (rangeS_same hq)
    clear hq
    go_enter Tryz.func60, Tryz.ntmps60
    go_wp2_with (go_at_call 92; refine (iFmt_any _ w1 w2 _).mono ?_; rintro e wa ⟨rfl, hb1⟩)
    go_ret
    exact ⟨ret_str (by rw [HE.out]), below_step (below_al (Below.refl _ _) _) hb1⟩
  · have hq' : (x.lo == x.hi) = false := by simpa using hq
    have HE : Hid (rangeS x = fmtS x.lo ++ (⟨#[46, 46]⟩ : ByteArray) ++ fmtS x.hi) := Lib.hid (if_neg hq)
    have hz3 : (fmtS x.lo ++ (⟨#[46, 46]⟩ : ByteArray)).size ≤ 23 := by rw [ByteArray.size_append]; exact Nat.add_le_add_right hz1 2
    have hs1 : ¬ 9223372036854775807 < (fmtS x.lo).size + 2 := by omega
    have hs3 : ¬ 9223372036854775807 < (fmtS x.lo ++ (⟨#[46, 46]⟩ : ByteArray)).size + (fmtS x.hi).size := by omega
    have hs4 : ¬ 9223372036854775807 < (fmtS x.lo).size + 2 + (fmtS x.hi).size := by omega
    clear hq
    have HK : Hid (∀ w', Below (w.alloc (.cells #[.int .i64 x.lo, .int .i64 x.hi] 81)).heap.size (w.alloc (.cells #[.int .i64 x.lo, .int .i64 x.hi] 81)) w' → (w'.cell? ⟨w.heap.size, 0, none⟩ = some (.int .i64 x.lo) ∧ w'.cell? ⟨w.heap.size, 1, none⟩ = some (.int .i64 x.hi)) ∧ Below (w.alloc (.cells #[.int .i64 x.lo, .int .i64 x.hi] 81)).heap.size (w.alloc (.cells #[.int .i64 x.lo, .int .i64 x.hi] 81)) w') := Lib.hid fun w' h => ⟨box2 h, h⟩
    go_enter Tryz.func60, Tryz.ntmps60
    go_wp2
    go_region_held3 (fun w' => (w'.cell? ⟨w.heap.size, 0, none⟩ = some (.int .i64 x.lo) ∧ w'.cell? ⟨w.heap.size, 1, none⟩ = some (.int .i64 x.hi)) ∧ Below (w.alloc (.cells #[.int .i64 x.lo, .int .i64 x.hi] 81)).heap.size (w.alloc (.cells #[.int .i64 x.lo, .int .i64 x.hi] 81)) w') (first | exact HK.out _ (Below.refl _ _).drew | exact HK.out _ (below_step (by assumption : _ ∧ Below _ _ _).2 hbm) | assumption | go_keep)
      (first | (go_at_call 92; ((with_reducible refine (iFmt_any x.lo w1 w2 _).mono ?_); rintro e wm ⟨rfl, hbm⟩)) | (go_at_call 92; ((with_reducible refine (iFmt_any x.hi w3 w4 _).mono ?_); rintro e wm ⟨rfl, hbm⟩)))
    all_goals
      have hB2 := (below_al (Below.refl w.heap.size w) (.cells #[.int .i64 x.lo, .int .i64 x.hi] 81)).trans ((by assumption : _ ∧ Below (w.alloc _).heap.size _ _).2.mono (by simp))
      go_wp2
      go_ret
      exact ⟨ret_str (by rw [HE.out]), hB2⟩
set_option maxRecDepth 100000 in
set_option maxHeartbeats 1000000 in
theorem iFormatR_any (v : Value) (l : List Rg) (w : World) (hv : HasG w v l) (hn : l.length ≤ 1048576) (hs : ∀ x ∈ l, RgWf x) :
    Calls Tryz.prog 28 #[v] w fun e w' => e = .returned (.string (formatS l)) ∧ Below w.heap.size w w' := by
  have HJ := Lib.hid (rngs_join_len hn hs)
  obtain ⟨A, cap, rfl, hn', hc⟩ := hv
  obtain ⟨n, hnn⟩ : ∃ n, n = l.length := ⟨_, rfl⟩
  have HN : Hid (n = l.length) := Lib.hid hnn
  rw [← hnn] at hn hn' ⊢
  clear hnn
  go_enter Tryz.func28, Tryz.ntmps28
  go_wp2
  go_loopw [3, 9] (fun v i wr => ∃ (k g c : Nat), k ≤ n ∧ i = .int .i64 k ∧ v = .slice (some ⟨g, 0, none⟩) k c ∧ Row w.heap.size wr (.slice (some ⟨g, 0, none⟩) k c) (rngsT (l.take k)) ∧ Below w.heap.size w wr) (fun _ i _ => n - (intOf i).toNat)
  case atStart => exact ⟨0, w.heap.size, 0, Nat.zero_le _, rfl, rfl, row_empty (heap_alloc_new w _) (Nat.le_refl _), below_al (Below.refl _ _) _⟩
  case round =>
    obtain ⟨k, g, c, hk, rfl, rfl, hrow, hbel⟩ := hrel
    by_cases hlt : k < n
    · have hlk : k < l.length := by rw [← HN.out]; exact hlt
      obtain ⟨a, rfl, hab, hcell⟩ := HasG.gk hc k hlk
      have HWF := Lib.hid (hs _ (List.getElem_mem hlk))
      have ht := Lib.hid (rngs_take hlk)
      obtain ⟨x, hx⟩ : ∃ x, x = l[k] := ⟨_, rfl⟩
      rw [← hx] at hcell HWF ht
      obtain ⟨c0, c1⟩ := hcell.below hbel hab
      have hgB := (hrow.lt rfl).1
      clear hcell hx
      go_wp2_with (first
        | (go_at_call 60; refine (fmtR_any x HWF.out _).mono ?_; rintro e w1 ⟨rfl, hb1⟩; have hrow1 := (hrow.alloc _).below hb1; have hbel1 := below_step (below_al hbel _) hb1; clear hrow hb1)
        | (at_builtin; refine wpList_row_append rfl _ _ rfl w.heap.size g k c _ rfl hrow1 _ rfl (by omega) hbel1.size (k + 1) rfl ?_; clear hrow1; intro g' c'' w2 hrow2 hg2))
      go_roundw
      case rel => exact ⟨k + 1, g', c'', by omega, by go_num, rfl, by rw [ht.out]; exact hrow2, (below_al hbel1 _).grown hg2 (below_al hbel1 _).size (fun _ h => by cases h; exact hgB)⟩
      case measure => simp [intOf]; omega
    · obtain rfl : k = n := by omega
      rw [List.take_of_length_le (by have := HN.out; omega)] at hrow
      have hlen : (rngsT l).length = k := by have := HN.out; simp [rngsT]; omega
      have hcc : ∀ (j : Nat) x, (rngsT l)[j]? = some x → wr.cell? ⟨g, 0 + j, none⟩ = some (.string x) := fun j x hx => by
        obtain ⟨hj, rfl⟩ := List.getElem?_eq_some_iff.1 hx
        rw [Nat.zero_add]; exact hrow.cell hj
      have hgl := (hrow.lt rfl).2
      have hcp := hrow.cap.2
      have hJ := Tryz.strings_Join g 0 c (rngsT l) ⟨#[124]⟩ wr hcc hgl (by omega) (by omega) HJ.out
      rw [hlen] at hJ
      clear hcc hlen hgl hrow
      go_wp2_with (go_at_call 30; refine hJ.mono ?_; rintro e w1 ⟨rfl, hb1⟩)
      go_ret
      exact ⟨rfl, below_step hbel hb1⟩
end Go.Proofs.YtkifdbeklagelaaGreatDoor
