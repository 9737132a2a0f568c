/- CHAPTER 2, EIGHTH PART: spec.SortTexts. -/
import Derived.Test.YtkefbfljgoglhaaSortA
import Derived.Sort.Walk0
import Derived.IntWalk
import Derived.Deep.RegionHeld3
namespace Go.Proofs.Ytkefbfljgoglhaa
open Go.RowKit Go.Sort

theorem less_eq (x y : ByteArray) : Op.bytesLess x.toList y.toList = decide (x.data.toList < y.data.toList) := by rw [bytesLess_eq, Lib.toList_data, Lib.toList_data]
/-- sorted, each text not behind the next -/
def SortedL (l : List ByteArray) : Prop := l.Pairwise (fun x y => x.data.toList ≤ y.data.toList)
structure InsAt (x : ByteArray) (L : List ByteArray) (k : Nat) : Prop where
  le : k ≤ L.length
  up : ∀ j (h : j < L.length), k ≤ j → x.data.toList < L[j].data.toList
theorem ins_start (x : ByteArray) (L : List ByteArray) : InsAt x L L.length := ⟨Nat.le_refl _, fun j h h' => by omega⟩
theorem ins_step {x : ByteArray} {L : List ByteArray} {k : Nat} (h : InsAt x L k) (hk : 0 < k) (hl : k - 1 < L.length) (hb : Op.bytesLess x.toList (L[k - 1]).toList = true) : InsAt x L (k - 1) :=
  ⟨by have := h.le; omega, fun j hj hkj => by
    by_cases e : j = k - 1
    · subst e; rw [less_eq] at hb; exact of_decide_eq_true hb
    · exact h.up j hj (by omega)⟩

/-- where the search from behind has stopped -/
def StopAt (x : ByteArray) (L : List ByteArray) (k : Nat) : Prop := ∀ (_ : 0 < k) (h : k - 1 < L.length), Op.bytesLess x.toList (L[k - 1]).toList = false
theorem ins_sorted {x : ByteArray} {L : List ByteArray} {k : Nat} (hs : SortedL L) (hi : InsAt x L k) (hst : StopAt x L k) : SortedL (L.take k ++ [x] ++ L.drop k) := by
  have hlow : ∀ a ∈ L.take k, a.data.toList ≤ x.data.toList := fun a ha => by
    obtain ⟨j, hj, rfl⟩ := List.getElem_of_mem ha
    rw [List.length_take] at hj
    have hjk : j < k := by omega
    have hjl : j < L.length := by omega
    have hk1 : k - 1 < L.length := by have := hi.le; omega
    have h1 := hst (by omega) hk1
    rw [less_eq, decide_eq_false_iff_not] at h1
    have h1' : L[k - 1].data.toList ≤ x.data.toList := List.not_lt.1 h1
    rw [List.getElem_take]
    by_cases e : j = k - 1
    · subst e; exact h1'
    · exact List.le_trans ((List.pairwise_iff_getElem.1 hs) j (k - 1) hjl hk1 (by omega)) h1'
  have hup : ∀ b ∈ L.drop k, x.data.toList ≤ b.data.toList := fun b hb => by
    obtain ⟨j, hj, rfl⟩ := List.getElem_of_mem hb
    rw [List.length_drop] at hj
    rw [List.getElem_drop]
    exact List.le_of_lt (hi.up (k + j) (by omega) (by omega))
  have hsplit : SortedL (L.take k ++ L.drop k) := by rw [List.take_append_drop]; exact hs
  obtain ⟨p1, p2, p3⟩ := List.pairwise_append.1 hsplit
  refine List.pairwise_append.2 ⟨List.pairwise_append.2 ⟨p1, List.pairwise_singleton _ _, fun a ha b hb => ?_⟩, p2, fun a ha b hb => ?_⟩
  · rw [List.mem_singleton.1 hb]; exact hlow a ha
  · rcases List.mem_append.1 ha with ha | ha
    · exact p3 a ha b hb
    · rw [List.mem_singleton.1 ha]; exact hup b hb
theorem ins_perm {x : ByteArray} {L l : List ByteArray} {k m : Nat} (hp : L.Perm (l.take m)) (hm : m < l.length) (hx : x = l[m]) : (L.take k ++ [x] ++ L.drop k).Perm (l.take (m + 1)) := by
  have h1 : (L.take k ++ [x] ++ L.drop k).Perm (L ++ [x]) := by
    have h2 : (L.take k ++ [x] ++ L.drop k).Perm (L.take k ++ (L.drop k ++ [x])) := by
      rw [List.append_assoc]; exact List.Perm.append_left _ List.perm_append_comm
    rw [← List.append_assoc, List.take_append_drop] at h2; exact h2
  refine h1.trans ?_
  rw [List.take_succ_eq_append_getElem hm, hx]
  exact hp.append_right _
theorem ins_done {x : ByteArray} {L l : List ByteArray} {k m : Nat} (hs : SortedL L ∧ L.Perm (l.take m)) (hi : InsAt x L k) (hst : StopAt x L k) (hm : m < l.length) (hx : x = l[m]) :
    SortedL (L.take k ++ [x] ++ L.drop k) ∧ (L.take k ++ [x] ++ L.drop k).Perm (l.take (m + 1)) := ⟨ins_sorted hs.1 hi hst, ins_perm hs.2 hm hx⟩
theorem sort_unique {l L : List ByteArray} (hs : SortedL L) (hp : L.Perm l) : L = sortS l := by
  have tr : ∀ a b c : List UInt8, decide (a ≤ b) = true → decide (b ≤ c) = true → decide (a ≤ c) = true := fun a b c h1 h2 => by simp only [decide_eq_true_eq] at *; exact List.le_trans h1 h2
  have to : ∀ a b : List UInt8, (decide (a ≤ b) || decide (b ≤ a)) = true := fun a b => by simp only [Bool.or_eq_true, decide_eq_true_eq]; exact List.le_total a b
  have h1 : keyL L = (keyL l).mergeSort fun x y => decide (x ≤ y) := by
    refine List.Perm.eq_of_pairwise (le := fun a b => decide (a ≤ b) = true) (fun a b _ _ h1 h2 => ?_) ?_ (List.pairwise_mergeSort tr to (keyL l)) ((hp.map _).trans (List.mergeSort_perm _ _).symm)
    · simp only [decide_eq_true_eq] at h1 h2; exact List.le_antisymm h1 h2
    · unfold keyL; rw [List.pairwise_map]; exact hs.imp fun h => decide_eq_true h
  unfold sortS; rw [← h1, unkey_key]

set_option maxHeartbeats 2000000 in
theorem sSort_any (v : Value) (l : List ByteArray) (w : World) (hv : Has w v l) (hn : l.length ≤ 1048576) :
    Calls Try.prog 22 #[v] w fun e w' => ∃ v', e = .returned v' ∧ Row w.heap.size w' v' (sortS l) ∧ Below w.heap.size w w' := by
  obtain ⟨i0, hi, hz0, hz1, hz2⟩ := info_parts infoStr
  obtain ⟨A, cap, rfl, hn', hc⟩ := hv
  have hrow0 : Row w.heap.size (w.alloc (.cells #[] 9)) (.slice (some ⟨w.heap.size, 0, none⟩) 0 0) [] := ⟨rfl, .inr ⟨w.heap.size, 0, #[], rfl, Nat.le_refl _, heap_alloc_new w _, by simp, by simp, rfl, rfl⟩⟩
  have hb0 : Below w.heap.size w (w.alloc (.cells #[] 9)) := (Below.refl _ _).alloc (Nat.le_refl _) _
  obtain ⟨n, hnn⟩ : ∃ n, n = l.length := ⟨_, rfl⟩
  have HN : Hid (n = l.length) := Lib.hid hnn
  rw [← hnn] at hn hn' ⊢
  clear hnn
  go_enter Try.func22, Try.ntmps22
  go_wp2
  go_loopw [3, 4] (fun u i wr => ∃ (m g c : Nat) (L : List ByteArray), m ≤ n ∧ i = .int .i64 m ∧ u = .slice (some ⟨g, 0, none⟩) m c ∧ Hid (m = L.length) ∧ Row w.heap.size wr (.slice (some ⟨g, 0, none⟩) m c) L ∧ Hid (SortedL L ∧ L.Perm (l.take m)) ∧ Below w.heap.size w wr) (fun _ i _ => n - (intOf i).toNat)
  case atStart => exact ⟨0, w.heap.size, 0, [], by omega, rfl, rfl, Lib.hid rfl, hrow0, Lib.hid ⟨List.Pairwise.nil, by simp⟩, hb0⟩
  case round =>
    obtain ⟨m, g, c, L, hm, rfl, rfl, HL, hrow, HS, hbel⟩ := hrel
    by_cases hlt : m < n
    · obtain ⟨a, rfl, hab, hcell0⟩ := hc m (by rw [← HN.out]; exact hlt)
      obtain ⟨x, hx⟩ : ∃ x, x = l[m]'(by rw [← HN.out]; exact hlt) := ⟨_, rfl⟩
      rw [← hx] at hcell0
      have HX := Lib.hid hx
      clear hx
      go_wp2
      go_loopw [5] (fun kk w2 => ∃ k : Nat, k ≤ m ∧ kk = .int .i64 k ∧ Hid (InsAt x L k) ∧ Row w.heap.size w2 (.slice (some ⟨g, 0, none⟩) m c) L ∧ Below w.heap.size w w2) (fun kk _ => (intOf kk).toNat)
      case atStart => exact ⟨m, by omega, rfl, Lib.hid (by rw [HL.out]; exact ins_start x L), hrow, hbel⟩
      case round =>
        clear hrow hbel
        obtain ⟨k, hk, rfl, HI, hrow, hbel⟩ := hrel
        have hcell : wr.cell? (a.add m) = some (.string x) := by rw [hbel.cell (by rw [add_blk]; exact hab)]; exact hcell0
        by_cases hk0 : 0 < k
        · have hcell2 := hrow.cell (i := k - 1) (by rw [← HL.out]; omega)
          have hcell3 : wr.cell? ⟨g, k - 1, none⟩ = some (.string (L[k - 1]'(by rw [← HL.out]; omega))) := hcell2
          have hw1 : IntKind.i64.wrap ((k : Int) - 1) = (k : Int) - 1 := IntWalk.i64_in _ (by omega)
          have h01 : 0 ≤ (k : Int) - 1 := by omega
          have hlt1 : (k : Int) - 1 < (m : Int) := by omega
          have htn : ((k : Int) - 1).toNat = k - 1 := by omega
          have hk0' : decide (0 < (k : Int)) = true := by simp; omega
          cases hb : Op.bytesLess x.toList (L[k - 1]'(by rw [← HL.out]; omega)).toList
          · go_wp2
            go_quiet (fail)
            go_wp2
            have HST : Hid (StopAt x L k) := Lib.hid fun _ _ => hb
            clear hb
            have hrow3 : Row w.heap.size (wr.drewN nq) (.slice (some ⟨g, 0, none⟩) m c) L := hrow
            have hbel3 := below_drewN hbel nq
            have hcellx : (wr.drewN nq).cell? (a.add m) = some (.string x) := hcell
            clear hrow hbel hcell hcell2 hcell3
            generalize wr.drewN nq = w3 at hrow3 hbel3 hcellx ⊢
            have hkm' : (k : Int) ≤ (m : Int) := by omega
            have hmc := hrow3.cap.2
            have hmc' : (m : Int) ≤ (c : Int) := by omega
            have hkc' : (k : Int) ≤ (c : Int) := by omega
            have hgl := (hrow3.lt rfl).2
            have hLk : Hid (k = (L.take k).length) := Lib.hid (by rw [List.length_take, ← HL.out]; omega)
            have hLd : Hid (m - k = (L.drop k).length) := Lib.hid (by rw [List.length_drop, ← HL.out])
            obtain ⟨ad, hif, had⟩ : ∃ ad : Addr, (if c = k then (some ⟨g, 0, none⟩ : Option Addr) else some ⟨g, k, none⟩) = some ad ∧ Hid (∀ W, Below w3.heap.size w3 W → ∀ j (hj : j < (L.drop k).length), W.cell? (ad.add j) = some (.string (L.drop k)[j])) := by
              by_cases hck : c = k
              · exact ⟨_, if_pos hck, Lib.hid fun W hW j hj => absurd hj (by rw [← hLd.out]; omega)⟩
              · exact ⟨_, if_neg hck, Lib.hid fun W hW => hrow3.src_drop hW k⟩
            go_region_held3 (fun w' => w'.cell? (a.add m) = some (.string x) ∧ Below w3.heap.size w3 w') (first | exact ⟨hcellx, (Below.refl _ _).drew⟩ | exact s_of hcellx hS1 | exact s_of hcellx hS2 | exact s_of hcellx hS3 | exact s_alloc_d (by assumption) _ | exact s_alloc (by assumption) _ | go_keep)
              (first
                | (refine step_row_append rfl _ _ (by rfl) w3.heap.size (w3.heap.size) 0 0 [] (by rfl) ?rA rfl ⟨g, 0, none⟩ k c (L.take k) (by rfl) ?mA ?nA ?lA ?bA k (Nat.zero_add k).symm ?_
                   case rA => exact row_empty (W := (w3.alloc (.cells #[] 9)).drew) (heap_alloc_new w3 _) (Nat.le_refl _)
                   case mA => exact hLk.out
                   case nA => exact hrow3.src_take (by assumption : _ ∧ Below _ _ _).2 k
                   case lA => omega
                   case bA => exact (by assumption : _ ∧ Below _ _ _).2.size
                   intro g1 c1 w1 hrow0 hgr1
                   have hrow1 : Row w3.heap.size w1 (.slice (some ⟨g1, 0, none⟩) k c1) (L.take k) := by simpa using hrow0
                   clear hrow0
                   have hS1 : Below w3.heap.size w3 w1 := (by assumption : _ ∧ Below _ _ _).2.grown hgr1 (by assumption : _ ∧ Below _ _ _).2.size (fun _ h => by have := Option.some.inj h; omega)
                   have hB1 : True := trivial)
                | (refine step_row_append rfl _ _ (by rfl) w3.heap.size (w3.heap.size) 0 0 [] (by rfl) ?rB rfl ⟨g, 0, none⟩ k c (L.take k) (by rfl) ?mB ?nB ?lB ?bB k (Nat.zero_add k).symm ?_
                   case rB => exact row_empty (W := ((w3.alloc (.cells #[] 9)).alloc (.cells #[.string x] 9)).drew) (heap_new0 w3 _ _) (Nat.le_refl _)
                   case mB => exact hLk.out
                   case nB => exact hrow3.src_take (by assumption : _ ∧ Below _ _ _).2 k
                   case lB => omega
                   case bB => exact (by assumption : _ ∧ Below _ _ _).2.size
                   intro g1 c1 w1 hrow0 hgr1
                   have hrow1 : Row w3.heap.size w1 (.slice (some ⟨g1, 0, none⟩) k c1) (L.take k) := by simpa using hrow0
                   clear hrow0
                   have hS1 : Below w3.heap.size w3 w1 := (by assumption : _ ∧ Below _ _ _).2.grown hgr1 (by assumption : _ ∧ Below _ _ _).2.size (fun _ h => by have := Option.some.inj h; omega)
                   have hB1 : w1.cell? ⟨w3.heap.size + 1, 0, none⟩ = some (.string x) := cell_of_heap ((hgr1.block (w3.heap.size + 1) (by show _ < ((w3.alloc _).alloc _).heap.size; simp) (fun e => by have := Option.some.inj e; omega)).trans (heap_new1 w3 _ _)))
                | (refine step_row_append rfl _ _ (by rfl) w3.heap.size (w3.heap.size + 1) 0 0 [] (by rfl) ?rC rfl ⟨g, 0, none⟩ k c (L.take k) (by rfl) ?mC ?nC ?lC ?bC k (Nat.zero_add k).symm ?_
                   case rC => exact row_empty (W := ((w3.alloc (.cells #[.string x] 9)).alloc (.cells #[] 9)).drew) (heap_new1 w3 _ _) (Nat.le_succ _)
                   case mC => exact hLk.out
                   case nC => exact hrow3.src_take (by assumption : _ ∧ Below _ _ _).2 k
                   case lC => omega
                   case bC => exact (by assumption : _ ∧ Below _ _ _).2.size
                   intro g1 c1 w1 hrow0 hgr1
                   have hrow1 : Row w3.heap.size w1 (.slice (some ⟨g1, 0, none⟩) k c1) (L.take k) := by simpa using hrow0
                   clear hrow0
                   have hS1 : Below w3.heap.size w3 w1 := (by assumption : _ ∧ Below _ _ _).2.grown hgr1 (by assumption : _ ∧ Below _ _ _).2.size (fun _ h => by have := Option.some.inj h; omega)
                   have hB1 : w1.cell? ⟨w3.heap.size, 0, none⟩ = some (.string x) := cell_of_heap ((hgr1.block w3.heap.size (by show _ < ((w3.alloc _).alloc _).heap.size; simp; omega) (fun e => by have := Option.some.inj e; omega)).trans (heap_new0 w3 _ _)))
                | (refine step_row_append rfl _ _ (by rfl) w3.heap.size g1 k c1 (L.take k) (by rfl) ?rD ?eD ⟨w1.heap.size, 0, none⟩ 1 1 [x] (by rfl) rfl ?nD ?lD ?bD (k + 1) rfl ?_
                   case rD => exact hrow1.alloc _
                   case eD => exact hLk.out
                   case nD => exact one_src (cell_new w1 _ _)
                   case lD => omega
                   case bD => exact (by assumption : _ ∧ Below _ _ _).2.size
                   intro g2 c2 w2 hrow2 hgr2
                   have hS2 : Below w3.heap.size w3 w2 := (by assumption : _ ∧ Below _ _ _).2.grown hgr2 (by assumption : _ ∧ Below _ _ _).2.size (fun _ h => (hrow1.lt h).1))
                | (refine step_row_append rfl _ _ (by rfl) w3.heap.size g1 k c1 (L.take k) (by rfl) ?rE ?eE _ 1 1 [x] (by rfl) rfl ?nE ?lE ?bE (k + 1) rfl ?_
                   case rE => exact hrow1
                   case eE => exact hLk.out
                   case nE => exact one_src hB1
                   case lE => omega
                   case bE => exact (by assumption : _ ∧ Below _ _ _).2.size
                   intro g2 c2 w2 hrow2 hgr2
                   have hS2 : Below w3.heap.size w3 w2 := (by assumption : _ ∧ Below _ _ _).2.grown hgr2 (by assumption : _ ∧ Below _ _ _).2.size (fun _ h => (hrow1.lt h).1))
                | (refine step_row_append rfl _ _ (by rfl) w3.heap.size g2 (k + 1) c2 (L.take k ++ [x]) (by rfl) ?rF ?eF ad (m - k) (c - k) (L.drop k) (by rfl) ?mF ?nF ?lF ?bF (m + 1) ?qF ?_
                   case qF => omega
                   case rF => exact hrow2
                   case eF => have := hLk.out; simp only [List.length_append, List.length_singleton]; omega
                   case mF => exact hLd.out
                   case nF => exact had.out _ (by assumption : _ ∧ Below _ _ _).2
                   case lF => omega
                   case bF => exact (by assumption : _ ∧ Below _ _ _).2.size
                   intro g4 c4 w4 hrow4 hgr4
                   have hS3 : Below w3.heap.size w3 w4 := (by assumption : _ ∧ Below _ _ _).2.grown hgr4 (by assumption : _ ∧ Below _ _ _).2.size (fun _ h => (hrow2.lt h).1)))
            all_goals
              go_wp2
              go_roundw
              case rel => exact ⟨m + 1, g4, c4, L.take k ++ [x] ++ L.drop k, by omega, by go_num, rfl, Lib.hid (by have h1 := hLk.out; have h2 := hLd.out; simp only [List.length_append, List.length_singleton, ← h1, ← h2]; omega), hrow4.mono hbel3.size, Lib.hid (ins_done HS.out HI.out HST.out (by rw [← HN.out]; exact hlt) HX.out), below_step hbel3 hS3⟩
              case measure => simp [intOf]; omega
          · go_wp2
            go_quiet (fail)
            go_wp2
            go_roundw
            case rel => exact ⟨k - 1, by omega, by go_num, Lib.hid (ins_step HI.out hk0 _ hb), hrow, below_drewN hbel _⟩
            case measure => simp [intOf]; omega
        · have hk0' : decide (0 < (k : Int)) = false := by simp; omega
          go_wp2
          go_quiet (fail)
          go_wp2
          have HST : Hid (StopAt x L k) := Lib.hid fun h => absurd h hk0
          have hrow3 : Row w.heap.size (wr.drewN nq) (.slice (some ⟨g, 0, none⟩) m c) L := hrow
          have hbel3 := below_drewN hbel nq
          have hcellx : (wr.drewN nq).cell? (a.add m) = some (.string x) := hcell
          clear hrow hbel hcell
          generalize wr.drewN nq = w3 at hrow3 hbel3 hcellx ⊢
          have hkm' : (k : Int) ≤ (m : Int) := by omega
          have hmc := hrow3.cap.2
          have hmc' : (m : Int) ≤ (c : Int) := by omega
          have hkc' : (k : Int) ≤ (c : Int) := by omega
          have hgl := (hrow3.lt rfl).2
          have hLk : Hid (k = (L.take k).length) := Lib.hid (by rw [List.length_take, ← HL.out]; omega)
          have hLd : Hid (m - k = (L.drop k).length) := Lib.hid (by rw [List.length_drop, ← HL.out])
          obtain ⟨ad, hif, had⟩ : ∃ ad : Addr, (if c = k then (some ⟨g, 0, none⟩ : Option Addr) else some ⟨g, k, none⟩) = some ad ∧ Hid (∀ W, Below w3.heap.size w3 W → ∀ j (hj : j < (L.drop k).length), W.cell? (ad.add j) = some (.string (L.drop k)[j])) := by
            by_cases hck : c = k
            · exact ⟨_, if_pos hck, Lib.hid fun W hW j hj => absurd hj (by rw [← hLd.out]; omega)⟩
            · exact ⟨_, if_neg hck, Lib.hid fun W hW => hrow3.src_drop hW k⟩
          go_region_held3 (fun w' => w'.cell? (a.add m) = some (.string x) ∧ Below w3.heap.size w3 w') (first | exact ⟨hcellx, (Below.refl _ _).drew⟩ | exact s_of hcellx hS1 | exact s_of hcellx hS2 | exact s_of hcellx hS3 | exact s_alloc_d (by assumption) _ | exact s_alloc (by assumption) _ | go_keep)
            (first
              | (refine step_row_append rfl _ _ (by rfl) w3.heap.size (w3.heap.size) 0 0 [] (by rfl) ?rA2 rfl ⟨g, 0, none⟩ k c (L.take k) (by rfl) ?mA2 ?nA2 ?lA2 ?bA2 k (Nat.zero_add k).symm ?_
                 case rA2 => exact row_empty (W := (w3.alloc (.cells #[] 9)).drew) (heap_alloc_new w3 _) (Nat.le_refl _)
                 case mA2 => exact hLk.out
                 case nA2 => exact hrow3.src_take (by assumption : _ ∧ Below _ _ _).2 k
                 case lA2 => omega
                 case bA2 => exact (by assumption : _ ∧ Below _ _ _).2.size
                 intro g1 c1 w1 hrow0 hgr1
                 have hrow1 : Row w3.heap.size w1 (.slice (some ⟨g1, 0, none⟩) k c1) (L.take k) := by simpa using hrow0
                 clear hrow0
                 have hS1 : Below w3.heap.size w3 w1 := (by assumption : _ ∧ Below _ _ _).2.grown hgr1 (by assumption : _ ∧ Below _ _ _).2.size (fun _ h => by have := Option.some.inj h; omega)
                 have hB1 : True := trivial)
              | (refine step_row_append rfl _ _ (by rfl) w3.heap.size (w3.heap.size) 0 0 [] (by rfl) ?rB2 rfl ⟨g, 0, none⟩ k c (L.take k) (by rfl) ?mB2 ?nB2 ?lB2 ?bB2 k (Nat.zero_add k).symm ?_
                 case rB2 => exact row_empty (W := ((w3.alloc (.cells #[] 9)).alloc (.cells #[.string x] 9)).drew) (heap_new0 w3 _ _) (Nat.le_refl _)
                 case mB2 => exact hLk.out
                 case nB2 => exact hrow3.src_take (by assumption : _ ∧ Below _ _ _).2 k
                 case lB2 => omega
                 case bB2 => exact (by assumption : _ ∧ Below _ _ _).2.size
                 intro g1 c1 w1 hrow0 hgr1
                 have hrow1 : Row w3.heap.size w1 (.slice (some ⟨g1, 0, none⟩) k c1) (L.take k) := by simpa using hrow0
                 clear hrow0
                 have hS1 : Below w3.heap.size w3 w1 := (by assumption : _ ∧ Below _ _ _).2.grown hgr1 (by assumption : _ ∧ Below _ _ _).2.size (fun _ h => by have := Option.some.inj h; omega)
                 have hB1 : w1.cell? ⟨w3.heap.size + 1, 0, none⟩ = some (.string x) := cell_of_heap ((hgr1.block (w3.heap.size + 1) (by show _ < ((w3.alloc _).alloc _).heap.size; simp) (fun e => by have := Option.some.inj e; omega)).trans (heap_new1 w3 _ _)))
              | (refine step_row_append rfl _ _ (by rfl) w3.heap.size (w3.heap.size + 1) 0 0 [] (by rfl) ?rC2 rfl ⟨g, 0, none⟩ k c (L.take k) (by rfl) ?mC2 ?nC2 ?lC2 ?bC2 k (Nat.zero_add k).symm ?_
                 case rC2 => exact row_empty (W := ((w3.alloc (.cells #[.string x] 9)).alloc (.cells #[] 9)).drew) (heap_new1 w3 _ _) (Nat.le_succ _)
                 case mC2 => exact hLk.out
                 case nC2 => exact hrow3.src_take (by assumption : _ ∧ Below _ _ _).2 k
                 case lC2 => omega
                 case bC2 => exact (by assumption : _ ∧ Below _ _ _).2.size
                 intro g1 c1 w1 hrow0 hgr1
                 have hrow1 : Row w3.heap.size w1 (.slice (some ⟨g1, 0, none⟩) k c1) (L.take k) := by simpa using hrow0
                 clear hrow0
                 have hS1 : Below w3.heap.size w3 w1 := (by assumption : _ ∧ Below _ _ _).2.grown hgr1 (by assumption : _ ∧ Below _ _ _).2.size (fun _ h => by have := Option.some.inj h; omega)
                 have hB1 : w1.cell? ⟨w3.heap.size, 0, none⟩ = some (.string x) := cell_of_heap ((hgr1.block w3.heap.size (by show _ < ((w3.alloc _).alloc _).heap.size; simp; omega) (fun e => by have := Option.some.inj e; omega)).trans (heap_new0 w3 _ _)))
              | (refine step_row_append rfl _ _ (by rfl) w3.heap.size g1 k c1 (L.take k) (by rfl) ?rD2 ?eD2 ⟨w1.heap.size, 0, none⟩ 1 1 [x] (by rfl) rfl ?nD2 ?lD2 ?bD2 (k + 1) rfl ?_
                 case rD2 => exact hrow1.alloc _
                 case eD2 => exact hLk.out
                 case nD2 => exact one_src (cell_new w1 _ _)
                 case lD2 => omega
                 case bD2 => exact (by assumption : _ ∧ Below _ _ _).2.size
                 intro g2 c2 w2 hrow2 hgr2
                 have hS2 : Below w3.heap.size w3 w2 := (by assumption : _ ∧ Below _ _ _).2.grown hgr2 (by assumption : _ ∧ Below _ _ _).2.size (fun _ h => (hrow1.lt h).1))
              | (refine step_row_append rfl _ _ (by rfl) w3.heap.size g1 k c1 (L.take k) (by rfl) ?rE2 ?eE2 _ 1 1 [x] (by rfl) rfl ?nE2 ?lE2 ?bE2 (k + 1) rfl ?_
                 case rE2 => exact hrow1
                 case eE2 => exact hLk.out
                 case nE2 => exact one_src hB1
                 case lE2 => omega
                 case bE2 => exact (by assumption : _ ∧ Below _ _ _).2.size
                 intro g2 c2 w2 hrow2 hgr2
                 have hS2 : Below w3.heap.size w3 w2 := (by assumption : _ ∧ Below _ _ _).2.grown hgr2 (by assumption : _ ∧ Below _ _ _).2.size (fun _ h => (hrow1.lt h).1))
              | (refine step_row_append rfl _ _ (by rfl) w3.heap.size g2 (k + 1) c2 (L.take k ++ [x]) (by rfl) ?rF2 ?eF2 ad (m - k) (c - k) (L.drop k) (by rfl) ?mF2 ?nF2 ?lF2 ?bF2 (m + 1) ?qF2 ?_
                 case qF2 => omega
                 case rF2 => exact hrow2
                 case eF2 => have := hLk.out; simp only [List.length_append, List.length_singleton]; omega
                 case mF2 => exact hLd.out
                 case nF2 => exact had.out _ (by assumption : _ ∧ Below _ _ _).2
                 case lF2 => omega
                 case bF2 => exact (by assumption : _ ∧ Below _ _ _).2.size
                 intro g4 c4 w4 hrow4 hgr4
                 have hS3 : Below w3.heap.size w3 w4 := (by assumption : _ ∧ Below _ _ _).2.grown hgr4 (by assumption : _ ∧ Below _ _ _).2.size (fun _ h => (hrow2.lt h).1)))
          all_goals
            go_wp2
            go_roundw
            case rel => exact ⟨m + 1, g4, c4, L.take k ++ [x] ++ L.drop k, by omega, by go_num, rfl, Lib.hid (by have h1 := hLk.out; have h2 := hLd.out; simp only [List.length_append, List.length_singleton, ← h1, ← h2]; omega), hrow4.mono hbel3.size, Lib.hid (ins_done HS.out HI.out HST.out (by rw [← HN.out]; exact hlt) HX.out), below_step hbel3 hS3⟩
            case measure => simp [intOf]; omega
    · go_wp2
      go_ret
      have e : m = n := by omega
      subst e
      refine ⟨_, rfl, ?_, hbel⟩
      rw [← sort_unique HS.out.1 (by have h := HS.out.2; rwa [List.take_of_length_le (by rw [← HN.out]; exact Nat.le_refl _)] at h)]
      exact hrow
end Go.Proofs.Ytkefbfljgoglhaa
