/- CHAPTER 7: FormatPath: what a path is written as; impl's parts and FormatPath. -/
import Derived.Test.YtnpgeneahjlkpaaPthT
import Derived.Test.YtnpgeneahjlkpaaPthI
import Derived.Test.YtnpgeneahjlkpaaRep
import Derived.Lib.Join
set_option linter.unusedVariables false
set_option linter.unusedSimpArgs false
namespace Go.Proofs.Ytnpgeneahjlkpaa
open Go.RowKit
set_option maxRecDepth 100000

def dots : ByteArray := ⟨#[46, 46]⟩
def partsL (c : Nat) (l : List Stp) : List ByteArray := List.replicate c dots ++ l.map stpT
def joinW (xs : List ByteArray) : ByteArray := ⟨(Lib.join (xs.map (·.data.toList)) [47]).toArray⟩
theorem join_snocW {xs : List (List UInt8)} (h : xs ≠ []) (y sep : List UInt8) : Lib.join (xs ++ [y]) sep = Lib.join xs sep ++ sep ++ y := by
  cases xs with
  | nil => exact absurd rfl h
  | cons x r => rw [List.cons_append, Lib.join_cons, Lib.join_cons]; simp [Lib.joinTail]
theorem joinW_nil : joinW [] = ⟨#[]⟩ := rfl
theorem joinW_one (y : ByteArray) : joinW ([] ++ [y]) = y := by
  unfold joinW
  rw [List.nil_append, List.map_cons, List.map_nil, Lib.join_one]
theorem joinW_snoc {xs : List ByteArray} (h : xs ≠ []) (y : ByteArray) : joinW (xs ++ [y]) = joinW xs ++ ⟨#[47]⟩ ++ y := by
  unfold joinW
  rw [List.map_append, List.map_cons, List.map_nil, join_snocW (by simpa using h)]
  apply ByteArray.ext; simp
theorem join_lenW {xs : List (List UInt8)} {m : Nat} (h : ∀ x ∈ xs, x.length ≤ m) : (Lib.join xs [47]).length ≤ xs.length * (m + 1) := by
  cases xs with
  | nil => simp [Lib.join_nil]
  | cons x r =>
    rw [Lib.join_cons, List.length_append]
    have h2 : (Lib.joinTail [47] r).length ≤ r.length * (m + 1) := by
      have hr : ∀ x ∈ r, x.length ≤ m := fun y hy => h y (List.mem_cons_of_mem _ hy)
      clear h
      induction r with
      | nil => simp [Lib.joinTail]
      | cons y r ih =>
        have h1 := ih (fun z hz => hr z (List.mem_cons_of_mem _ hz))
        have h3 := hr y (List.mem_cons_self ..)
        unfold Lib.joinTail at h1 ⊢
        rw [List.map_cons, List.flatten_cons, List.length_append, List.length_append, List.length_cons, List.length_cons, List.length_nil, Nat.succ_mul]
        omega
    have h1 := h x (List.mem_cons_self ..)
    rw [List.length_cons, Nat.succ_mul]; omega
theorem joinW_size {xs : List ByteArray} (h : ∀ x ∈ xs, x.size ≤ 16777216) (hn : xs.length ≤ 18) : (Lib.join (xs.map (·.data.toList)) [47]).length ≤ 301990000 := by
  have h1 := join_lenW (xs := xs.map (·.data.toList)) (m := 16777216) (fun x hx => by
    obtain ⟨y, hy, rfl⟩ := List.mem_map.1 hx
    have := h y hy
    rw [Array.length_toList]
    exact this)
  rw [List.length_map] at h1
  have h2 : xs.length * (16777216 + 1) ≤ 18 * (16777216 + 1) := Nat.mul_le_mul_right _ hn
  omega
theorem stpT_size {s : Stp} (hz : StpSz s) (h3 : s.ts.length ≤ 3) : (stpT s).size ≤ 16777216 := by
  have h1 := take_size (s := s.n) hz.2.2 h3 s.ts.length
  rw [List.take_of_length_le (Nat.le_refl _)] at h1
  have h2 := hz.1
  unfold stpT
  omega
theorem parts_size {c : Nat} {l : List Stp} (hz : ∀ s ∈ l, StpSz s ∧ s.ts.length ≤ 3) : ∀ x ∈ partsL c l, x.size ≤ 16777216 := by
  intro x hx
  rcases List.mem_append.1 hx with h | h
  · rw [(List.mem_replicate.1 h).2]; show (2 : Nat) ≤ _; omega
  · obtain ⟨s, hs, rfl⟩ := List.mem_map.1 h
    exact stpT_size (hz s hs).1 (hz s hs).2
theorem partsL_next {c : Nat} {l : List Stp} {k : Nat} (hk : k < l.length) : partsL c (l.take (k + 1)) = partsL c (l.take k) ++ [stpT l[k]] := by
  unfold partsL
  rw [List.take_succ_eq_append_getElem hk, List.map_append, List.append_assoc]; rfl
theorem partsL_len (c : Nat) (l : List Stp) : (partsL c l).length = c + l.length := by unfold partsL; simp
theorem pthOk_st {p : Pth} (h : PthOk p) (hz : PthSz p) : ∀ s ∈ p.st, StpSz s ∧ s.ts.length ≤ 3 := fun s hs => by
  obtain ⟨i, hi, rfl⟩ := List.getElem_of_mem hs
  exact ⟨hz.2 _ hs, (h.2.2.2.2 i hi).2.1⟩
def fmtP (p : Pth) : ByteArray := (if p.root = true then ⟨#[47]⟩ else ⟨#[]⟩) ++ joinW (partsL p.ups.toNat p.st)
set_option maxHeartbeats 4000000 in
theorem parts_any (v : PthV) (p : Pth) (w : World) (h : HasP7 w v p) (hok : PthOk p) (hz : PthSz p) :
    Calls Try.prog 53 #[v.val] w fun e w' => ∃ g c', e = .returned (.slice (some ⟨g, 0, none⟩) (p.ups.toNat + p.st.length) c') ∧ Row w.heap.size w' (.slice (some ⟨g, 0, none⟩) (p.ups.toNat + p.st.length) c') (partsL p.ups.toNat p.st) ∧ Below w.heap.size w w' := by
  have HST := Lib.hid (pthOk_st hok hz)
  have hu := hok.1
  have hl10 := hok.2.1
  obtain ⟨r, u, l⟩ := p
  obtain ⟨r', u', sv⟩ := v
  obtain ⟨rfl, rfl, hs⟩ := h
  dsimp only at hs hu hl10 HST ⊢
  obtain ⟨A, cap, rfl, hn', hc⟩ := hs.at
  obtain ⟨n, hnn⟩ : ∃ n, n = l.length := ⟨_, rfl⟩
  have HN : Hid (n = l.length) := Lib.hid hnn
  obtain ⟨c, hcu⟩ : ∃ c : Nat, (c : Int) = u' := ⟨u'.toNat, by omega⟩
  have hc8 : c ≤ 8 := by omega
  subst hcu
  rw [Int.toNat_natCast, ← hnn]
  rw [← hnn] at hn' hl10
  obtain ⟨W0, hW0⟩ : ∃ W0, W0 = (w.alloc (.cells #[.bool r', .int .i64 c, .slice A n cap] 32)).alloc (.cells #[.string dots] 9) := ⟨_, rfl⟩
  have hz0 : W0.heap.size = w.heap.size + 2 := by rw [hW0]; simp
  have HX0 : Hid (∀ W, Below W0.heap.size W0 W → W.heap[w.heap.size]? = some (.cells #[.bool r', .int .i64 c, .slice A n cap] 32 (0, 0))) := Lib.hid fun W hb => (hb.block _ (by rw [hz0]; omega)).trans (by rw [hW0, Below.heap_alloc _ _ _ (by simp)]; exact alloc_new_at' _ _ rfl)
  have HB0 : Hid (Below w.heap.size w W0) := Lib.hid (by rw [hW0]; exact below_al (below_al (Below.refl _ _) _) _)
  have HRP : Hid (Calls Try.prog 89 #[.slice (some ⟨w.heap.size + 1, 0, none⟩) 1 1, .int .i64 c] W0 fun e w' => e = .returned (.slice (some ⟨w.heap.size + 2, 0, none⟩) c c) ∧ Row (w.heap.size + 2) w' (.slice (some ⟨w.heap.size + 2, 0, none⟩) c c) (List.replicate c dots) ∧ Below W0.heap.size W0 w') := Lib.hid (by
    have := repeat_any dots c hc8 (w.heap.size + 1) W0 (by rw [hW0]; simp) (by rw [hz0]; omega)
    rw [hz0] at this
    rw [hz0]; exact this)
  have hc0 : (0 : Int) ≤ (c : Int) := by omega
  have hci : (c : Int) ≤ 8 := by omega
  rw [hW0] at HRP HX0 HB0
  clear hnn hz hok hs hW0 hz0 hu
  unfold dots at HRP HX0 HB0
  go_enter Try.func53, Try.ntmps53
  go_wp2_with fail
  refine HRP.out.mono ?_
  rintro e w1 ⟨rfl, hrow1, hb1⟩
  have HBX := HX0.out w1 hb1
  obtain ⟨b0, b1, b2⟩ := three_cells' HBX
  have hbel1 := below_step HB0.out hb1
  have HR1 : Hid (Row w.heap.size w1 (.slice (some ⟨w.heap.size + 2, 0, none⟩) c c) (partsL c (l.take 0))) := Lib.hid (by
    unfold partsL
    rw [List.take_zero, List.map_nil, List.append_nil]
    exact Row.mono hrow1 (by omega))
  have HB1 := Lib.hid hbel1
  clear hrow1 hb1 HBX HX0 HB0 HRP hbel1
  go_wp2
  go_loopw [3, 13] (fun v i wr => ∃ k g c' : Nat, k ≤ n ∧ i = .int .i64 k ∧ v = .slice (some ⟨g, 0, none⟩) (c + k) c' ∧ Hid (Row w.heap.size wr (.slice (some ⟨g, 0, none⟩) (c + k) c') (partsL c (l.take k))) ∧ Below w.heap.size w wr) (fun _ i _ => n - (intOf i).toNat)
  case atStart => exact ⟨0, w.heap.size + 2, c, Nat.zero_le _, rfl, rfl, HR1, HB1.out⟩
  case round =>
    clear HR1 HB1 b0 b1 b2
    obtain ⟨k, g, c', hk, rfl, rfl, HR, hbel⟩ := hrel
    by_cases hlt : k < n
    · have hlk : k < l.length := by rw [← HN.out]; exact hlt
      obtain ⟨a, q, rfl, hab, hx, hqn, hqt⟩ := hc k hlk
      obtain ⟨c0, c1⟩ := hx.below hbel hab
      obtain ⟨qA, qc, qe, -⟩ := id hqt
      have HC := Lib.hid (fun W (hb : Below w.heap.size w W) => iStpT_any q l[k] W hqn (HasR.below hqt hb) (HST.out _ (List.getElem_mem hlk)).1 (HST.out _ (List.getElem_mem hlk)).2)
      have HNX := Lib.hid (partsL_next (c := c) hlk)
      generalize l[k].ts.length = qm at qe
      generalize l[k] = s at HC HNX
      generalize stpT s = y at HC HNX
      obtain ⟨qn, qtv⟩ := q
      dsimp only at qe c0 c1 HC
      subst qe
      have hgb := (HR.out.lt rfl).1
      have HB3 := Lib.hid (below_al hbel (.cells #[.string qn, .slice qA qm qc] 86))
      have HR3 := Lib.hid (Row.alloc HR.out (.cells #[.string qn, .slice qA qm qc] 86))
      clear hx hqn hqt hc
      go_wp2_with fail
      refine (HC.out _ HB3.out).mono ?_
      rintro e w2 ⟨rfl, hb2⟩
      have hbel4 := below_step HB3.out hb2
      have hrow4 := Row.below HR3.out hb2
      clear hb2 c0 c1 HR
      go_wp2_with (first
        | (at_builtin; refine wpList_row_append rfl _ _ rfl w.heap.size g (c + k) c' _ rfl hrow4 _ rfl (by omega) hbel4.size (c + (k + 1)) (by omega) ?_; clear hrow4; intro g' c'' w5 hrow5 hg5))
      go_roundw
      case rel => exact ⟨k + 1, g', c'', by omega, by go_num, rfl, Lib.hid (by rw [HNX.out]; exact hrow5), (below_al hbel4 _).grown hg5 (below_al hbel4 _).size (fun _ h => by cases h; exact hgb)⟩
      case measure => simp [intOf]; omega
    · obtain rfl : k = n := by omega
      have HE : Hid (l.take k = l) := Lib.hid (List.take_of_length_le (by have := HN.out; omega))
      clear hc
      go_wp2
      go_ret
      have h := HR.out
      rw [HE.out] at h
      exact ⟨g, c', rfl, h, hbel⟩
end Go.Proofs.Ytnpgeneahjlkpaa
