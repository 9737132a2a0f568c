/- MERGED for a claim: Rep PthU. -/
import Derived.Test.YtdfapkceanicoaaDoorDrawT
import Derived.Test.YtdfapkceanicoaaDoorShelfJ
import Derived.Laws.CopyOwn
import Derived.Deep.LoopGhost
import Derived.Deep.RegionHeld3
import Derived.IntWalk
import Derived.StillTailTactics
import Derived.Lib.BufSteps
import Derived.Laws.IdiomStrings
import Derived.Deep.RegionLaw
import Derived.Test.YtdfapkceanicoaaDoorPthT
import Derived.Test.YtdfapkceanicoaaDoorPthI
import Derived.Lib.Join
set_option linter.unusedVariables false
set_option linter.unusedSimpArgs false
/- slices.Repeat AT ONE TEXT: a few copies of it (at most 8). -/
namespace Go.Proofs.YtdfapkceanicoaaDoor
open Go.RowKit
set_option maxRecDepth 100000

/-- n copies of d, then nothing, c in all -/
def repL (d : ByteArray) (n c : Nat) : List ByteArray := List.replicate n d ++ List.replicate (c - n) ⟨#[]⟩
theorem heap_of_row {B g c : Nat} {w : World} {L : List ByteArray} (h : Row B w (.slice (some ⟨g, 0, none⟩) c c) L) : w.heap[g]? = some (.cells (L.map Value.string).toArray 9 (0, 0)) := by
  have hc := h.cap'
  rcases h.2 with ⟨h', _⟩ | ⟨g', c', cur, h', _, h2, _, _, h5, h6⟩
  · cases h'
  · cases h'
    rw [h2]
    congr 1
    have h7 : cur.toList.take _ = _ := h6
    rw [List.take_of_length_le (by rw [Array.length_toList, h5]; omega)] at h7
    rw [← Array.toArray_toList (xs := cur), h7]
theorem row_of_heap {B g c : Nat} {w : World} {L : List ByteArray} (hB : B ≤ g) (hl : L.length = c) (hm : c ≤ maxLen) (h : w.heap[g]? = some (.cells (L.map Value.string).toArray 9 (0, 0))) : Row B w (.slice (some ⟨g, 0, none⟩) c c) L := by
  subst hl
  exact ⟨by simp, .inr ⟨g, L.length, _, rfl, hB, h, Nat.le_refl _, hm, by simp, by rw [List.take_of_length_le (by simp)]⟩⟩
theorem repL_len {d : ByteArray} {n c : Nat} (h : n ≤ c) : (repL d n c).length = c := by unfold repL; simp; omega
theorem repL_next {d : ByteArray} {n m c : Nat} (h : n + m ≤ c) : splice ((repL d n c).map Value.string) n ((List.replicate m d).map Value.string) = (repL d (n + m) c).map Value.string := by
  unfold splice repL
  simp only [List.map_append, List.map_replicate, List.length_replicate]
  rw [List.take_append_of_le_length (by simp), List.take_of_length_le (by simp), List.drop_append]
  rw [List.drop_of_length_le (by simp), List.nil_append, List.length_replicate, List.drop_replicate, ← List.append_assoc, List.replicate_append_replicate]
  congr 2
  omega
theorem repL_cell {d : ByteArray} {n c g : Nat} {w : World} (h : w.heap[g]? = some (.cells ((repL d n c).map Value.string).toArray 9 (0, 0))) {j : Nat} (hj : j < n) : w.cell? ⟨g, j, none⟩ = some (.string d) := by
  refine (cell_of_row _ g j _ _ _ h).trans ?_
  unfold repL
  simp [List.getElem?_append, hj]
theorem rep_copy (d : ByteArray) (c : Nat) (hc : c ≤ 8) (b : Nat) (w w1 : World) (hx : w.cell? ⟨b, 0, none⟩ = some (.string d)) (hb : b < w.heap.size)
    (hown1 : w1.ownsRow w.heap.size 9 1 (.slice (some ⟨w.heap.size, 0, none⟩) c c) c (madeCells (Value.string ⟨#[]⟩).cells (c * 1)).toList) (hg1 : w.grownBy w1 none) :
    ∃ (k1 : Nat) (w2 : World), Sem.run Tryd.prog (Builtin.copy_ #[46, 46] 3 #[.slice (some ⟨w.heap.size, 0, none⟩) c c, .slice (some ⟨b, 0, none⟩) 1 1]) w1 = .ok (.int .i64 k1) w2 ∧ k1 ≤ c ∧ (k1 = 0 → c = 0) ∧ Below w.heap.size w w2 ∧
      w2.heap[w.heap.size]? = some (.cells ((repL d k1 c).map Value.string).toArray 9 (0, 0)) := by
  have hrow0 : Row w.heap.size w1 (.slice (some ⟨w.heap.size, 0, none⟩) c c) (repL d 0 c) := by
    have := hown1
    rw [show (Value.string ⟨#[]⟩).cells = #[.string ⟨#[]⟩] from rfl, toList_madeCells_one, Nat.mul_one] at this
    unfold Row repL
    simpa using this
  have hbel1 : Below w.heap.size w w1 := below_of hg1
  have hgr := heap_of_row hrow0
  have hcx : w1.cell? ⟨b, 0, none⟩ = some (.string d) := by rw [hbel1.cell hb]; exact hx
  have hk : Nat.min 1 c = if 1 ≤ c then 1 else c := rfl
  have hl : ((List.replicate (Nat.min 1 c) d).map Value.string).length = Nat.min 1 c := by simp
  have hrun := run_copy_row (P := Tryd.prog) w1 46 46 3 9 w.heap.size 0 c c ⟨b, 0, none⟩ 1 1 _ 9 ((List.replicate (Nat.min 1 c) d).map Value.string) Tryd.underlying46 (by kernel_rfl) hgr (by rw [hl]) (fun j v hv => by
    have hj : j < Nat.min 1 c := by have := (List.getElem?_eq_some_iff.1 hv).1; rw [hl] at this; exact this
    have hj0 : j = 0 := by split at hk <;> omega
    subst hj0
    simp only [List.map_replicate, List.getElem?_replicate, if_pos hj] at hv
    rw [show (⟨b, 0, none⟩ : Addr).add 0 = ⟨b, 0, none⟩ from rfl, hcx]; exact hv) (by rw [hl, List.size_toArray, List.length_map, repL_len (Nat.zero_le c)]; split at hk <;> omega) (fun v hv => by obtain ⟨y, _, rfl⟩ := List.mem_map.1 hv; rfl)
  have hz : Nat.min 1 c = 0 → c = 0 := fun h => by
    rw [hk] at h
    split at h <;> omega
  have hle : Nat.min 1 c ≤ c := Nat.min_le_right _ _
  have hrun2 := hrun
  rw [hl] at hrun2
  refine ⟨Nat.min 1 c, _, hrun2, hle, hz, ?_, ?_⟩
  · exact below_setRow hbel1 (Nat.le_refl _) _
  · rw [setRow_heap w1 w.heap.size _ _ 9 _ hgr]
    have := repL_next (d := d) (n := 0) (m := Nat.min 1 c) (c := c) (by rw [Nat.zero_add]; exact Nat.min_le_right _ _)
    unfold splice at this
    rw [hl] at this
    rw [show repL d (Nat.min 1 c) c = repL d (0 + Nat.min 1 c) c by rw [Nat.zero_add], ← this, Nat.zero_add, List.append_assoc]
set_option maxHeartbeats 4000000 in
theorem repeat_any (d : ByteArray) (c : Nat) (hc : c ≤ 8) (b : Nat) (w : World) (hx : w.cell? ⟨b, 0, none⟩ = some (.string d)) (hb : b < w.heap.size) :
    Calls Tryd.prog 49 #[.slice (some ⟨b, 0, none⟩) 1 1, .int .i64 c] w fun e w' => e = .returned (.slice (some ⟨w.heap.size, 0, none⟩) c c) ∧ Row w.heap.size w' (.slice (some ⟨w.heap.size, 0, none⟩) c c) (List.replicate c d) ∧ Below w.heap.size w w' := by
  obtain ⟨i0, hi, hz0, hz1, hz2⟩ := info_parts infoStr
  have HM : Hid (∀ w, Calls Tryd.prog 79 #[.int .u64 1, .int .u64 c] w fun e w' => e = .returned (.tuple #[.int .u64 0, .int .u64 c]) ∧ w = w') := Lib.hid fun w => by
    have h := Tryd.bits_Mul 1 c (by omega) (by omega) w
    rw [Nat.one_mul, Nat.div_eq_of_lt (by omega), Nat.mod_eq_of_lt (by omega)] at h
    exact h.mono fun e w' ⟨h1, h2⟩ => ⟨h1, h2.symm⟩
  have hwu : IntKind.u64.wrap (c : Int) = (c : Int) := by simp [IntKind.wrap, IntKind.bits, IntKind.signed]; omega
  have hci : (c : Int) ≤ 8 := by omega
  have hc0 : (0 : Int) ≤ (c : Int) := by omega
  have hb2 : i0.bytes * c ≤ 281474976710656 := by rw [hz2]; omega
  have hb3 : c ≤ maxLen := by unfold maxLen; omega
  have HZ : Hid (i0.bytes = 16) := Lib.hid hz2
  have HX : Hid (w.cell? ⟨b, 0, none⟩ = some (.string d) ∧ b < w.heap.size) := Lib.hid ⟨hx, hb⟩
  clear hz2 hx hb
  go_enter Tryd.func49, Tryd.ntmps49
  go_wp2_with (first
    | (go_at_call 79; refine (HM.out _).mono ?_; rintro e w1 ⟨rfl, rfl⟩)
    | (at_make; go_loud (refine wpList_make_full _ rfl _ _ 46 rfl w.heap.size 9 i0 (.string ⟨#[]⟩) 1 Tryd.underlying46 hi hz0 hz1 _ _ _ _ c rfl rfl rfl rfl hb2 hb3 (Nat.le_refl _) ?_); intro w1 hown1 hg1; obtain ⟨k1, w2, hrun, hk1c, hkz, hbel2, hg2⟩ := rep_copy d c hc b w w1 HX.out.1 HX.out.2 hown1 hg1; have HG2 := Lib.hid hg2; have HKZ := Lib.hid hkz; clear hown1 hg1 hkz hg2))
  go_loopw [8] (fun q wr => ∃ n : Nat, n ≤ c ∧ q = .int .i64 n ∧ Hid (n = 0 → c = 0) ∧ Hid (wr.heap[w.heap.size]? = some (.cells ((repL d n c).map Value.string).toArray 9 (0, 0))) ∧ Below w.heap.size w wr) (fun q _ => c - (intOf q).toNat)
  case atStart => exact ⟨k1, hk1c, rfl, HKZ, HG2, hbel2⟩
  case round =>
    obtain ⟨n, hn, rfl, HNZ, HG, hbel⟩ := hrel
    by_cases hlt : n < c
    · have hne : ¬ c = n := by omega
      have hn0 : (0 : Int) ≤ (n : Int) := by omega
      have hnc : (n : Int) ≤ (c : Int) := by omega
      have hlz : (n : Int) < (c : Int) := by omega
      obtain ⟨m, hm⟩ : ∃ m : Nat, m = Nat.min n (c - n) := ⟨_, rfl⟩
      have hmm : Nat.min n (c - n) = if n ≤ c - n then n else c - n := rfl
      have hmc : n + m ≤ c := by rw [hm]; split at hmm <;> omega
      have hm0 : 0 < m := by have h1 := HNZ.out; rw [hm]; split at hmm <;> omega
      have hmn : m ≤ n := by rw [hm]; exact Nat.min_le_left _ _
      have HM2 := Lib.hid hm
      obtain ⟨CS, hCS⟩ : ∃ CS, CS = (List.replicate m d).map Value.string := ⟨_, rfl⟩
      have HL : Hid (CS.length = m) := Lib.hid (by rw [hCS]; simp)
      have HCS := Lib.hid hCS
      obtain ⟨R, hR⟩ : ∃ R, R = (repL d n c).map Value.string := ⟨_, rfl⟩
      have HR := Lib.hid hR
      have hgr : wr.drew.heap[w.heap.size]? = some (.cells R.toArray 9 (0, 0)) := by rw [hR]; exact HG.out
      have HSRC : Hid (∀ j v, CS[j]? = some v → wr.drew.cell? ((⟨w.heap.size, 0, none⟩ : Addr).add j) = some v) := Lib.hid fun j v hv => by
        rw [hCS, List.map_replicate, List.getElem?_replicate] at hv
        split at hv
        · rename_i hj
          rw [add_zero]
          have := repL_cell HG.out (j := j) (by omega)
          rw [← (Option.some.inj hv)]
          exact this
        · cases hv
      clear hm hCS hR hmm
      go_wp2
      go_region_held3 (fun W => Below w.heap.size w W) (first | exact hbel.drew | exact hb4 | go_keep)
        (first
          | (refine step_copy_splice rfl _ _ 46 46 (by rfl) 9 Tryd.underlying46 (by kernel_rfl) (some ⟨w.heap.size, n, none⟩) (some ⟨w.heap.size, 0, none⟩) (c - n) (c - n) n c (by rfl) (by rfl) w.heap.size n R 9 hgr CS (by rw [HL.out]; exact HM2.out) (fun _ => ⟨rfl, ⟨w.heap.size, 0, none⟩, rfl, HSRC.out⟩) (by rw [HL.out, HR.out, List.length_map, repL_len hn]; exact hmc) (fun v hv => by rw [HCS.out] at hv; obtain ⟨y, _, rfl⟩ := List.mem_map.1 hv; rfl) w.heap.size w hbel.drew (Nat.le_refl _) ?_
             intro w4 HG4 hb4
             rw [HL.out]))
      have HG5 : Hid (w4.heap[w.heap.size]? = some (.cells ((repL d (n + m) c).map Value.string).toArray 9 (0, 0))) := Lib.hid (by have h := HG4.out; rw [HR.out, HCS.out, repL_next hmc] at h; exact h)
      have hwn : IntKind.i64.wrap ((n : Int) + (m : Int)) = (n : Int) + (m : Int) := by rw [IntKind.wrap_i64]; omega
      clear HG4 hgr
      go_wp2
      go_roundw
      case rel => exact ⟨n + m, hmc, by go_num, Lib.hid (fun h => by omega), HG5, hb4⟩
      case measure => simp [intOf]; omega
    · obtain rfl : n = c := by omega
      go_wp2
      go_ret
      refine ⟨rfl, ?_, hbel⟩
      have h := HG.out
      unfold repL at h
      rw [Nat.sub_self, List.replicate_zero, List.append_nil] at h
      exact row_of_heap (Nat.le_refl _) (by simp) hb3 h
end Go.Proofs.YtdfapkceanicoaaDoor

/- CHAPTER 7: FormatPath: what a path is written as; impl's parts and FormatPath. -/
namespace Go.Proofs.YtdfapkceanicoaaDoor
open Go.RowKit
set_option maxRecDepth 100000

def dots : ByteArray := ⟨#[46, 46]⟩
def partsL (c : Nat) (l : List Stp) : List ByteArray := List.replicate c dots ++ l.map stpT
def joinW (xs : List ByteArray) : ByteArray := ⟨(Lib.join (xs.map (·.data.toList)) [47]).toArray⟩
theorem join_snocW {xs : List (List UInt8)} (h : xs ≠ []) (y sep : List UInt8) : Lib.join (xs ++ [y]) sep = Lib.join xs sep ++ sep ++ y := by
  cases xs with
  | nil => exact absurd rfl h
  | cons x r => rw [List.cons_append, Lib.join_cons, Lib.join_cons]; simp [Lib.joinTail]
theorem joinW_nil : joinW [] = ⟨#[]⟩ := rfl
theorem joinW_one (y : ByteArray) : joinW ([] ++ [y]) = y := by
  unfold joinW
  rw [List.nil_append, List.map_cons, List.map_nil, Lib.join_one]
theorem joinW_snoc {xs : List ByteArray} (h : xs ≠ []) (y : ByteArray) : joinW (xs ++ [y]) = joinW xs ++ ⟨#[47]⟩ ++ y := by
  unfold joinW
  rw [List.map_append, List.map_cons, List.map_nil, join_snocW (by simpa using h)]
  apply ByteArray.ext; simp
theorem join_lenW {xs : List (List UInt8)} {m : Nat} (h : ∀ x ∈ xs, x.length ≤ m) : (Lib.join xs [47]).length ≤ xs.length * (m + 1) := by
  cases xs with
  | nil => simp [Lib.join_nil]
  | cons x r =>
    rw [Lib.join_cons, List.length_append]
    have h2 : (Lib.joinTail [47] r).length ≤ r.length * (m + 1) := by
      have hr : ∀ x ∈ r, x.length ≤ m := fun y hy => h y (List.mem_cons_of_mem _ hy)
      clear h
      induction r with
      | nil => simp [Lib.joinTail]
      | cons y r ih =>
        have h1 := ih (fun z hz => hr z (List.mem_cons_of_mem _ hz))
        have h3 := hr y (List.mem_cons_self ..)
        unfold Lib.joinTail at h1 ⊢
        rw [List.map_cons, List.flatten_cons, List.length_append, List.length_append, List.length_cons, List.length_cons, List.length_nil, Nat.succ_mul]
        omega
    have h1 := h x (List.mem_cons_self ..)
    rw [List.length_cons, Nat.succ_mul]; omega
theorem joinW_size {xs : List ByteArray} (h : ∀ x ∈ xs, x.size ≤ 16777216) (hn : xs.length ≤ 18) : (Lib.join (xs.map (·.data.toList)) [47]).length ≤ 301990000 := by
  have h1 := join_lenW (xs := xs.map (·.data.toList)) (m := 16777216) (fun x hx => by
    obtain ⟨y, hy, rfl⟩ := List.mem_map.1 hx
    have := h y hy
    rw [Array.length_toList]
    exact this)
  rw [List.length_map] at h1
  have h2 : xs.length * (16777216 + 1) ≤ 18 * (16777216 + 1) := Nat.mul_le_mul_right _ hn
  omega
theorem stpT_size {s : Stp} (hz : StpSz s) (h3 : s.ts.length ≤ 3) : (stpT s).size ≤ 16777216 := by
  have h1 := take_size (s := s.n) hz.2.2 h3 s.ts.length
  rw [List.take_of_length_le (Nat.le_refl _)] at h1
  have h2 := hz.1
  unfold stpT
  omega
theorem parts_size {c : Nat} {l : List Stp} (hz : ∀ s ∈ l, StpSz s ∧ s.ts.length ≤ 3) : ∀ x ∈ partsL c l, x.size ≤ 16777216 := by
  intro x hx
  rcases List.mem_append.1 hx with h | h
  · rw [(List.mem_replicate.1 h).2]; show (2 : Nat) ≤ _; omega
  · obtain ⟨s, hs, rfl⟩ := List.mem_map.1 h
    exact stpT_size (hz s hs).1 (hz s hs).2
theorem partsL_next {c : Nat} {l : List Stp} {k : Nat} (hk : k < l.length) : partsL c (l.take (k + 1)) = partsL c (l.take k) ++ [stpT l[k]] := by
  unfold partsL
  rw [List.take_succ_eq_append_getElem hk, List.map_append, List.append_assoc]; rfl
theorem partsL_len (c : Nat) (l : List Stp) : (partsL c l).length = c + l.length := by unfold partsL; simp
theorem pthOk_st {p : Pth} (h : PthOk p) (hz : PthSz p) : ∀ s ∈ p.st, StpSz s ∧ s.ts.length ≤ 3 := fun s hs => by
  obtain ⟨i, hi, rfl⟩ := List.getElem_of_mem hs
  exact ⟨hz.2 _ hs, (h.2.2.2.2 i hi).2.1⟩
def fmtP (p : Pth) : ByteArray := (if p.root = true then ⟨#[47]⟩ else ⟨#[]⟩) ++ joinW (partsL p.ups.toNat p.st)
set_option maxHeartbeats 4000000 in
theorem parts_any (v : PthV) (p : Pth) (w : World) (h : HasP7 w v p) (hok : PthOk p) (hz : PthSz p) :
    Calls Tryd.prog 23 #[v.val] w fun e w' => ∃ g c', e = .returned (.slice (some ⟨g, 0, none⟩) (p.ups.toNat + p.st.length) c') ∧ Row w.heap.size w' (.slice (some ⟨g, 0, none⟩) (p.ups.toNat + p.st.length) c') (partsL p.ups.toNat p.st) ∧ Below w.heap.size w w' := by
  have HST := Lib.hid (pthOk_st hok hz)
  have hu := hok.1
  have hl10 := hok.2.1
  obtain ⟨r, u, l⟩ := p
  obtain ⟨r', u', sv⟩ := v
  obtain ⟨rfl, rfl, hs⟩ := h
  dsimp only at hs hu hl10 HST ⊢
  obtain ⟨A, cap, rfl, hn', hc⟩ := hs.at
  obtain ⟨n, hnn⟩ : ∃ n, n = l.length := ⟨_, rfl⟩
  have HN : Hid (n = l.length) := Lib.hid hnn
  obtain ⟨c, hcu⟩ : ∃ c : Nat, (c : Int) = u' := ⟨u'.toNat, by omega⟩
  have hc8 : c ≤ 8 := by omega
  subst hcu
  rw [Int.toNat_natCast, ← hnn]
  rw [← hnn] at hn' hl10
  obtain ⟨W0, hW0⟩ : ∃ W0, W0 = (w.alloc (.cells #[.bool r', .int .i64 c, .slice A n cap] 26)).alloc (.cells #[.string dots] 9) := ⟨_, rfl⟩
  have hz0 : W0.heap.size = w.heap.size + 2 := by rw [hW0]; simp
  have HX0 : Hid (∀ W, Below W0.heap.size W0 W → W.heap[w.heap.size]? = some (.cells #[.bool r', .int .i64 c, .slice A n cap] 26 (0, 0))) := Lib.hid fun W hb => (hb.block _ (by rw [hz0]; omega)).trans (by rw [hW0, Below.heap_alloc _ _ _ (by simp)]; exact alloc_new_at' _ _ rfl)
  have HB0 : Hid (Below w.heap.size w W0) := Lib.hid (by rw [hW0]; exact below_al (below_al (Below.refl _ _) _) _)
  have HRP : Hid (Calls Tryd.prog 49 #[.slice (some ⟨w.heap.size + 1, 0, none⟩) 1 1, .int .i64 c] W0 fun e w' => e = .returned (.slice (some ⟨w.heap.size + 2, 0, none⟩) c c) ∧ Row (w.heap.size + 2) w' (.slice (some ⟨w.heap.size + 2, 0, none⟩) c c) (List.replicate c dots) ∧ Below W0.heap.size W0 w') := Lib.hid (by
    have := repeat_any dots c hc8 (w.heap.size + 1) W0 (by rw [hW0]; simp) (by rw [hz0]; omega)
    rw [hz0] at this
    rw [hz0]; exact this)
  have hc0 : (0 : Int) ≤ (c : Int) := by omega
  have hci : (c : Int) ≤ 8 := by omega
  rw [hW0] at HRP HX0 HB0
  clear hnn hz hok hs hW0 hz0 hu
  unfold dots at HRP HX0 HB0
  go_enter Tryd.func23, Tryd.ntmps23
  go_wp2_with fail
  refine HRP.out.mono ?_
  rintro e w1 ⟨rfl, hrow1, hb1⟩
  have HBX := HX0.out w1 hb1
  obtain ⟨b0, b1, b2⟩ := three_cells' HBX
  have hbel1 := below_step HB0.out hb1
  have HR1 : Hid (Row w.heap.size w1 (.slice (some ⟨w.heap.size + 2, 0, none⟩) c c) (partsL c (l.take 0))) := Lib.hid (by
    unfold partsL
    rw [List.take_zero, List.map_nil, List.append_nil]
    exact Row.mono hrow1 (by omega))
  have HB1 := Lib.hid hbel1
  clear hrow1 hb1 HBX HX0 HB0 HRP hbel1
  go_wp2
  go_loopw [3, 13] (fun v i wr => ∃ k g c' : Nat, k ≤ n ∧ i = .int .i64 k ∧ v = .slice (some ⟨g, 0, none⟩) (c + k) c' ∧ Hid (Row w.heap.size wr (.slice (some ⟨g, 0, none⟩) (c + k) c') (partsL c (l.take k))) ∧ Below w.heap.size w wr) (fun _ i _ => n - (intOf i).toNat)
  case atStart => exact ⟨0, w.heap.size + 2, c, Nat.zero_le _, rfl, rfl, HR1, HB1.out⟩
  case round =>
    clear HR1 HB1 b0 b1 b2
    obtain ⟨k, g, c', hk, rfl, rfl, HR, hbel⟩ := hrel
    by_cases hlt : k < n
    · have hlk : k < l.length := by rw [← HN.out]; exact hlt
      obtain ⟨a, q, rfl, hab, hx, hqn, hqt⟩ := hc k hlk
      obtain ⟨c0, c1⟩ := hx.below hbel hab
      obtain ⟨qA, qc, qe, -⟩ := id hqt
      have HC := Lib.hid (fun W (hb : Below w.heap.size w W) => iStpT_any q l[k] W hqn (HasR.below hqt hb) (HST.out _ (List.getElem_mem hlk)).1 (HST.out _ (List.getElem_mem hlk)).2)
      have HNX := Lib.hid (partsL_next (c := c) hlk)
      generalize l[k].ts.length = qm at qe
      generalize l[k] = s at HC HNX
      generalize stpT s = y at HC HNX
      obtain ⟨qn, qtv⟩ := q
      dsimp only at qe c0 c1 HC
      subst qe
      have hgb := (HR.out.lt rfl).1
      have HB3 := Lib.hid (below_al hbel (.cells #[.string qn, .slice qA qm qc] 50))
      have HR3 := Lib.hid (Row.alloc HR.out (.cells #[.string qn, .slice qA qm qc] 50))
      clear hx hqn hqt hc
      go_wp2_with fail
      refine (HC.out _ HB3.out).mono ?_
      rintro e w2 ⟨rfl, hb2⟩
      have hbel4 := below_step HB3.out hb2
      have hrow4 := Row.below HR3.out hb2
      clear hb2 c0 c1 HR
      go_wp2_with (first
        | (at_builtin; refine wpList_row_append rfl _ _ rfl w.heap.size g (c + k) c' _ rfl hrow4 _ rfl (by omega) hbel4.size (c + (k + 1)) (by omega) ?_; clear hrow4; intro g' c'' w5 hrow5 hg5))
      go_roundw
      case rel => exact ⟨k + 1, g', c'', by omega, by go_num, rfl, Lib.hid (by rw [HNX.out]; exact hrow5), (below_al hbel4 _).grown hg5 (below_al hbel4 _).size (fun _ h => by cases h; exact hgb)⟩
      case measure => simp [intOf]; omega
    · obtain rfl : k = n := by omega
      have HE : Hid (l.take k = l) := Lib.hid (List.take_of_length_le (by have := HN.out; omega))
      clear hc
      go_wp2
      go_ret
      have h := HR.out
      rw [HE.out] at h
      exact ⟨g, c', rfl, h, hbel⟩
end Go.Proofs.YtdfapkceanicoaaDoor
