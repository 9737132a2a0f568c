/- MERGED for a claim: PthJ Mark. -/
import Derived.Test.YtdkpleghpnflhaaPthE
import Derived.Deep.RegionHeld3
import Derived.Deep.RegionLaw
import Derived.Test.YtdkpleghpnflhaaDig
import Derived.Test.YtdkpleghpnflhaaNumPlain
set_option linter.unusedVariables false
set_option linter.unusedSimpArgs false
/- CHAPTER 7: PlainPath of both. -/
namespace Go.Proofs.Ytdkpleghpnflhaa
open Go.RowKit

/-- a step without its tests; the same as it lies -/
def plS (s : Stp) : Stp := ⟨s.n, []⟩
def plR (s : Stp) : StR := ⟨s.n, .slice none 0 0⟩
def plP (p : Pth) : Pth := ⟨p.root, p.ups, p.st.map plS⟩
theorem rowT_plain' {B : Nat} {w : World} {v : Value} {R : List StR} {l : List Stp} (hr : RowT7 B w v R) (hl : R.length = l.length) (hp : ∀ i (h : i < R.length) (h' : i < l.length), R[i].n = l[i].n ∧ R[i].tv = .slice none 0 0 ∧ l[i].ts = []) : ∃ S, OwnS B w v l S := by
  refine ⟨fun b => v.ownBlock = some b ∨ ∃ i, i < R.length ∧ False, ?_⟩
  refine ⟨R, fun i b => False, hr, by rw [List.length_map]; exact hl, fun i h1 h2 => ?_, fun i j b h1 h2 h3 h4 => h3.elim, fun i b h1 h2 => h2.elim, fun b => Iff.rfl⟩
  rw [List.length_map] at h2
  obtain ⟨e1, e2, e3⟩ := hp i h1 h2
  have hx : RowX B w R[i].tv l[i].ts := by rw [e2, e3]; exact ⟨by simp, .inl ⟨rfl, rfl⟩⟩
  have hn : ∀ b, R[i].tv.ownBlock ≠ some b := fun b => by rw [e2]; simp [Value.ownBlock]
  refine ⟨fun _ => False, fun _ => False, ⟨⟨?_, ?_⟩, fun b => ?_⟩, ?_, fun b _ hb => hb, fun b => ?_⟩
  · rw [List.getElem_map]; exact e1
  · rw [List.getElem_map]; exact hx
  · exact ⟨fun h => h.elim, fun h => (hn b h).elim⟩
  · rw [List.getElem_map]; exact ⟨rfl, ⟨by simp, .inl ⟨rfl, rfl⟩⟩, fun b => by simp [stK, Value.ownBlock]⟩
  · simp
theorem rowT_plain {B : Nat} {w : World} {v : Value} {l : List Stp} (h : RowT7 B w v (l.map plR)) : ∃ S, OwnS B w v (l.map plS) S :=
  rowT_plain' h (by simp) fun i h1 h2 => by simp [plR, plS]
theorem wpList_stp_append {ops : Array Oper} {rest : List Oper} {o : Oper} {a : Act} {Q : Exit → Act → World → Prop} {w : World} (hgd : o.guard = none) (s x : Operand)
    (ho : o.op = .call { callee := .builtin .append, args := #[s, x], argTypes := #[107, 107] })
    (B n : Nat) (v : Value) (L : List StR) (hs : a.eval s = v) (hrow : RowT7 B w v L) (hn : n = L.length)
    (y : ByteArray) (b : Nat) (hx : a.eval x = .slice (some ⟨b, 0, none⟩) 1 1) (hb : b = w.heap.size) (hlen : n + 1 ≤ 549755813888) (hbase : B ≤ w.heap.size) (q : Nat) (hq : q = n + 1)
    (h : ∀ g' c'' w', RowT7 B w' (.slice (some ⟨g', 0, none⟩) q c'') (L ++ [⟨y, .slice none 0 0⟩]) → (w.alloc (.cells #[.string y, .slice none 0 0] 127)).grownBy w' v.ownBlock → wpList Try.prog ops Q rest (a.put o.dst (.slice (some ⟨g', 0, none⟩) q c'')) w') :
    wpList Try.prog ops Q (o :: rest) a (w.alloc (.cells #[.string y, .slice none 0 0] 127)) := by
  obtain ⟨i0, hi, hz0, hz1, hz2⟩ := info_parts infoStp
  subst hq hn hb
  refine wpList_append_own _ hgd s x 107 ho B 127 i0 (.agg #[.string ⟨#[]⟩, .slice none 0 0]) 2 40 Try.underlying107 hi hz0 hz1 hz2 rfl (by decide) _ L.length (L.flatMap StR.enc) hs (RowR.alloc hrow _) ⟨w.heap.size, 0, none⟩ 1 1 (StR.enc ⟨y, .slice none 0 0⟩) hx rfl (World.news_of_block (heap_alloc_new w _)) (by simp [StR.enc, Value.oneCell']) (by unfold maxLen; omega) (by omega) (Nat.le_trans hbase ((Below.refl 0 w).alloc (Nat.zero_le _) _).size) ?_
  intro v' w' h2 h3 h4
  rcases h2.2 with ⟨h5, _⟩ | ⟨g', cap', cur, h5, _⟩
  · exact absurd (h4.1 h5).2 (by simp)
  · subst h5
    refine h g' cap' w' ?_ h3
    unfold RowT7 RowR
    rw [List.length_append, List.flatMap_append, List.flatMap_singleton]
    exact h2
/-- 'own = append(own, x)' of a step at a step of a region that draws its order; own may be nil -/
theorem step_stp_append {w : World} {ops : Array Oper} {o : Oper} {a : Act} {K : Act → World → Prop} {Q : Exit → Act → World → Prop} {E : Prop} (hgd : o.guard = none) (s x : Operand)
    (ho : o.op = .call { callee := .builtin .append, args := #[s, x], argTypes := #[107, 107] })
    (B n : Nat) (v : Value) (L : List StR) (hs : a.eval s = v) (hrow : RowT7 B w v L) (hn : n = L.length)
    (y : ByteArray) (ad : Addr) (c' : Nat) (hx : a.eval x = .slice (some ad) 1 c') (hnews : ∀ j u, (StR.enc ⟨y, .slice none 0 0⟩)[j]? = some u → w.cell? (ad.add j) = some u)
    (hlen : n + 1 ≤ 549755813888) (hbase : B ≤ w.heap.size) (q : Nat) (hq : q = n + 1)
    (h : ∀ g' c'' w', RowT7 B w' (.slice (some ⟨g', 0, none⟩) q c'') (L ++ [⟨y, .slice none 0 0⟩]) → w.grownBy w' v.ownBlock → K (a.put o.dst (.slice (some ⟨g', 0, none⟩) q c'')) w') :
    if Region.wanted o (yielded ops a.tmps) = true then Oper.wp Try.prog o a w K Q else E := by
  have hw : Region.wanted o (yielded ops a.tmps) = true := by simp [Region.wanted, hgd]
  rw [if_pos hw]
  obtain ⟨i0, hi, hz0, hz1, hz2⟩ := info_parts infoStp
  subst hq hn
  obtain ⟨v', w', hr, h2, h3, h4, h5⟩ := run_append_own_at (P := Try.prog) w B 107 o.type 127 i0 (.agg #[.string ⟨#[]⟩, .slice none 0 0]) 2 40 Try.underlying107 hi hz0 hz1 hz2 rfl (by decide) v L.length (L.flatMap StR.enc) hrow ad 1 c' (StR.enc ⟨y, .slice none 0 0⟩) rfl hnews (by simp [StR.enc, Value.oneCell']) (by unfold maxLen; omega) (by omega) hbase
  unfold Oper.wp execOp
  simp only [ho, resolve, invoke, builtin, Sem.run_bind, Sem.run_pure, Result.andThen_ok, List.map_toArray, List.map_cons, List.map_nil, hs, hx, hr]
  rcases h2.2 with ⟨_, h6⟩ | ⟨g', cap', cur, h6, _⟩
  · omega
  · subst h6
    refine h g' cap' w' ?_ h3
    unfold RowT7 RowR
    rw [List.length_append, List.flatMap_append, List.flatMap_singleton]
    exact h2
theorem news_stp (w : World) (y : ByteArray) (t : TypeId) : ∀ j u, (StR.enc ⟨y, .slice none 0 0⟩)[j]? = some u → (w.alloc (.cells #[.string y, .slice none 0 0] t)).cell? ((⟨w.heap.size, 0, none⟩ : Addr).add j) = some u := World.news_of_block (heap_alloc_new w _)
theorem three_fro {w : World} {b : Nat} {a0 a1 a2 : Value} {t : TypeId} (h : w.heap[b]? = some (.cells #[a0, a1, a2] t (0, 0))) :
    (w.cell? ⟨b, 0, none⟩ = some a0 ∧ w.cell? ⟨b, 1, none⟩ = some a1 ∧ w.cell? ⟨b, 2, none⟩ = some a2) ∧ w.frozen? ⟨b, 0, none⟩ = false ∧ w.frozen? ⟨b, 1, none⟩ = false ∧ w.frozen? ⟨b, 2, none⟩ = false := by
  refine ⟨⟨?_, ?_, ?_⟩, frozen_of_row _ _ 0 _ _ h, frozen_of_row _ _ 1 _ _ h, frozen_of_row _ _ 2 _ _ h⟩
  · rw [cell_of_row _ b 0 _ _ _ h]; rfl
  · rw [cell_of_row _ b 1 _ _ _ h]; rfl
  · rw [cell_of_row _ b 2 _ _ _ h]; rfl
/-- what PlainPath's two own boxes hold -/
def Two7 (B : Nat) (T : TypeId) (W : World) (r : Bool) (u : Int) (v : Value) : Prop :=
  W.heap[B + 1 + 1]? = some (.cells #[.bool r, .int .i64 u, v] T (0, 0)) ∧ W.heap[B + 1]? = some (.cells #[.bool false, .int .i64 0, .slice none 0 0] T (0, 0))
theorem Two7.lt {B : Nat} {T : TypeId} {W : World} {r : Bool} {u : Int} {v : Value} (h : Two7 B T W r u v) : B + 1 + 1 < W.heap.size := (Array.getElem?_eq_some_iff.1 h.1).1
theorem Two7.below {B : Nat} {T : TypeId} {W W' : World} {r : Bool} {u : Int} {v : Value} (h : Two7 B T W r u v) (hb : Below W.heap.size W W') : Two7 B T W' r u v :=
  ⟨(hb.block _ h.lt).trans h.1, (hb.block _ (by have := h.lt; omega)).trans h.2⟩
theorem Two7.al {B : Nat} {T : TypeId} {W : World} {r : Bool} {u : Int} {v : Value} (h : Two7 B T W r u v) (o : Obj) : Two7 B T (W.alloc o) r u v :=
  ⟨by rw [Below.heap_alloc _ _ _ h.lt]; exact h.1, by rw [Below.heap_alloc _ _ _ (by have := h.lt; omega)]; exact h.2⟩
theorem Two7.grown {B : Nat} {T : TypeId} {W W' : World} {r : Bool} {u : Int} {v : Value} {j : Option Nat} (h : Two7 B T W r u v) (hg : W.grownBy W' j) (hj : ∀ k, j = some k → B + 3 ≤ k) : Two7 B T W' r u v :=
  ⟨by rw [hg.block _ h.lt (fun e => by have := hj _ e.symm; omega)]; exact h.1, by rw [hg.block _ (by have := h.lt; omega) (fun e => by have := hj _ e.symm; omega)]; exact h.2⟩
theorem Two7.put {B : Nat} {T : TypeId} {W : World} {r : Bool} {u : Int} {v : Value} (h : Two7 B T W r u v) (v' : Value) : Two7 B T (W.setCell ⟨B + 1 + 1, 2, none⟩ v') r u v' :=
  ⟨(heap_setCell_same W (B + 1 + 1) 2 _ T v' h.1).trans rfl, (Below.heap_setCell W ⟨B + 1 + 1, 2, none⟩ _ _ (by simp)).trans h.2⟩
end Go.Proofs.Ytdkpleghpnflhaa

/- THE MARKS OF THE LAWS: markText, and a list of texts marked and found as marked. -/
namespace Go.Proofs.Ytdkpleghpnflhaa
open Go.RowKit NumP

/-- the k-th mark -/
def markS (k : Nat) : ByteArray := ⟨(109 :: dec k).toArray⟩
set_option maxRecDepth 100000 in
set_option maxHeartbeats 1000000 in
theorem mark_any (m : Nat) (h0 : 0 < m) (hh : m ≤ 4611686018427387904) (w : World) :
    Calls Try.prog 30 #[.int .i64 m] w fun e w' => e = .returned (.string (markS m)) ∧ Below w.heap.size w w' := by
  go_enter Try.func30, Try.ntmps30
  go_wp2
  go_loopw [0, 3] (fun x s wr => ∃ (q : Nat) (l : List UInt8), q ≤ 4611686018427387904 ∧ l.length ≤ 20 ∧ x = .int .i64 q ∧ s = .string ⟨l.toArray⟩ ∧ SF m q l ∧ Below w.heap.size w wr) (fun x _ _ => (intOf x).toNat)
  case atStart => exact ⟨m, [], by omega, by simp, rfl, rfl, ⟨fun h => by omega, fun _ => by simp⟩, Below.refl _ _⟩
  case round =>
    obtain ⟨q, l, hq, hll, rfl, rfl, hsf, hbel⟩ := hrel
    by_cases hq0 : 0 < q
    · obtain ⟨b, hb⟩ : ∃ b, b = UInt8.ofNat (48 + q % 10) := ⟨_, rfl⟩
      have hcv := conv_one wr b
      have hs := SF_step (by omega) hq0 hsf
      rw [hb, digit_byte, ← hb] at hcv
      rw [← hb] at hs
      clear hb
      go_wp2
      go_roundw
      case rel =>
        exact ⟨q / 10, _, by omega, hs.2, by go_num, val_str (str_cons _ _), hs.1, hbel.alloc hbel.size _⟩
      case measure => simp [intOf]; omega
    · go_wp2
      go_ret
      exact ⟨ret_str (by unfold markS; rw [← hsf.1 (by omega)]; exact ByteArray.mk_append_mk [109] _), hbel⟩

/-- n marks from the k-th on -/
def marks (k n : Nat) : List ByteArray := (List.range n).map fun i => markS (k + i)
theorem marks_length (k n : Nat) : (marks k n).length = n := by simp [marks]
theorem marks_get (k n i : Nat) (h : i < (marks k n).length) : (marks k n)[i] = markS (k + i) := by simp [marks]
theorem marks_step {l : List ByteArray} {k i n : Nat} (hi : i < n) (hn : n = l.length) : (marks k i ++ l.drop i).set i (markS (k + i)) = marks k (i + 1) ++ l.drop (i + 1) := by
  subst hn
  rw [List.set_append_right _ _ (by rw [marks_length]; exact Nat.le_refl _), marks_length, Nat.sub_self, List.drop_eq_getElem_cons hi, List.set_cons_zero]
  unfold marks
  rw [List.range_succ, List.map_append, List.append_assoc]; rfl

set_option maxRecDepth 100000 in
set_option maxHeartbeats 1000000 in
theorem markStrsB (B : Nat) (v : Value) (l : List ByteArray) (k : Nat) (w : World) (hv : Row B w v l) (hn : l.length ≤ 1048576) (hk0 : 0 < k) (hk : k ≤ 4611686018426339328) :
    Calls Try.prog 15 #[v, .int .i64 k] w fun e w' => e = .returned (.int .i64 ((k : Int) + (l.length : Int))) ∧ Row B w' v (marks k l.length) ∧ w.grownBy w' v.ownBlock := by
  have hB : ∀ j, v.ownBlock = some j → B ≤ j ∧ j < w.heap.size := fun j hj => hv.lt hj
  rcases hv.form with ⟨rfl, rfl⟩ | ⟨g, cap, rfl, hg0, hg⟩
  · go_enter Try.func15, Try.ntmps15
    go_wp2
    go_loopw [1, 5] (fun x i wr => x = .int .i64 k ∧ i = .int .i64 0 ∧ wr = w) (fun _ _ _ => 0)
    case atStart => exact ⟨rfl, rfl, rfl⟩
    case round =>
      obtain ⟨rfl, rfl, rfl⟩ := hrel
      go_wp2
      go_ret
      exact ⟨ret_int (by simp), hv, ⟨rfl, rfl, rfl, Nat.le_refl _, fun _ _ _ => rfl⟩⟩
  · obtain ⟨n, hnn⟩ : ∃ n, n = l.length := ⟨_, rfl⟩
    have HN : Hid (n = l.length) := Lib.hid hnn
    have hv0 : Row B w (.slice (some ⟨g, 0, none⟩) n cap) (marks k 0 ++ l.drop 0) := by rw [hnn]; simpa [marks] using hv
    rw [← hnn] at hn ⊢
    clear hv hnn hB
    go_enter Try.func15, Try.ntmps15
    go_wp2
    go_loopw [1, 5] (fun x i wr => ∃ j : Nat, j ≤ n ∧ x = .int .i64 ((k : Int) + (j : Int)) ∧ i = .int .i64 j ∧ Row B wr (.slice (some ⟨g, 0, none⟩) n cap) (marks k j ++ l.drop j) ∧ w.grownBy wr (some g)) (fun _ i _ => n - (intOf i).toNat)
    case atStart => exact ⟨0, Nat.zero_le _, by go_num, rfl, hv0, ⟨rfl, rfl, rfl, Nat.le_refl _, fun _ _ _ => rfl⟩⟩
    case round =>
      obtain ⟨j, hj, rfl, rfl, hrow, hgr⟩ := hrel
      by_cases hlt : j < n
      · have hm := fun w' => mark_any (k + j) (by omega) (by omega) w'
        go_wp2_with (go_at_call 30; refine (mark_any (k + j) (by omega) (by omega) _).mono ?_; rintro e w1 ⟨rfl, hb1⟩; have hrow1 := hrow.below hb1; have hgr1 := hgr.trans (grown_below hb1); have hfr := hrow1.frozen (by have := HN.out; simp [marks_length]; omega) j; have hcell2 := hrow1.cell (i := j) (by have := HN.out; simp [marks_length]; omega); have HST := Lib.hid (hrow1.set (by have := HN.out; simp [marks_length]; omega) j (markS (k + j))); clear hrow hgr hb1)
        go_roundw
        case rel =>
          refine ⟨j + 1, by omega, by go_num, by go_num, ?_, hgr1.trans HST.out.2⟩
          have h := HST.out.1
          rwa [marks_step hlt HN.out] at h
        case measure => simp [intOf]; omega
      · go_wp2
        go_ret
        have e : j = n := by omega
        subst e
        rw [List.drop_of_length_le (by have := HN.out; omega), List.append_nil] at hrow
        exact ⟨rfl, hrow, hgr⟩
theorem markStrs_any (B : Nat) (v : Value) (l : List ByteArray) (k : Nat) (w : World) (hv : Row B w v l) (hn : l.length ≤ 1048576) (hk0 : 0 < k) (hk : k ≤ 1073741824) :
    Calls Try.prog 15 #[v, .int .i64 k] w fun e w' => e = .returned (.int .i64 ((k : Int) + (l.length : Int))) ∧ Row B w' v (marks k l.length) ∧ w.grownBy w' v.ownBlock := markStrsB B v l k w hv hn hk0 (by omega)
theorem markStrs1 (B : Nat) (v : Value) (l : List ByteArray) (w : World) (hv : Row B w v l) (hn : l.length ≤ 1048576) :
    Calls Try.prog 15 #[v, .int .i64 1] w fun e w' => e = .returned (.int .i64 (1 + (l.length : Int))) ∧ Row B w' v (marks 1 l.length) ∧ w.grownBy w' v.ownBlock :=
  markStrs_any B v l 1 w hv hn (by omega) (by omega)
theorem held_step {w w1 w2 : World} {p : Addr} {v : Option Value} (k : Below w1.heap.size w1 w2) (h : w1.cell? p = v ∧ Below w.heap.size w w1) (hp : p.block < w.heap.size) : w2.cell? p = v ∧ Below w.heap.size w w2 :=
  ⟨by rw [k.cell (Nat.lt_of_lt_of_le hp h.2.size)]; exact h.1, below_step h.2 k⟩
set_option maxRecDepth 100000 in
set_option maxHeartbeats 1000000 in
theorem heldStrs_any (v : Value) (k n : Nat) (w : World) (hv : Has w v (marks k n)) (hn : n ≤ 1048576) (hk0 : 0 < k) (hk : k ≤ 1073741824) :
    Calls Try.prog 16 #[v, .int .i64 k] w fun e w' => e = .returned (.int .i64 ((k : Int) + (n : Int))) ∧ Below w.heap.size w w' := by
  obtain ⟨A, cap, rfl, hn', hc⟩ := hv
  have hc1 : ∀ i, i < n → ∃ a, A = some a ∧ a.block < w.heap.size ∧ w.cell? (a.add i) = some (.string (markS (k + i))) := fun i hi => by
    obtain ⟨a, h1, h2, h3⟩ := hc i (by rw [marks_length]; exact hi)
    exact ⟨a, h1, h2, by rw [h3, marks_get]⟩
  clear hc
  rw [marks_length] at hn' ⊢
  go_enter Try.func16, Try.ntmps16
  go_wp2
  go_loopw [1, 5] (fun x i wr => ∃ j : Nat, j ≤ n ∧ x = .int .i64 ((k : Int) + (j : Int)) ∧ i = .int .i64 j ∧ Below w.heap.size w wr) (fun _ i _ => n - (intOf i).toNat)
  case atStart => exact ⟨0, Nat.zero_le _, by go_num, rfl, Below.refl _ _⟩
  case round =>
    obtain ⟨j, hj, rfl, rfl, hbel⟩ := hrel
    by_cases hlt : j < n
    · obtain ⟨a, rfl, hab, hcell0⟩ := hc1 j hlt
      have hcell : wr.cell? (a.add j) = some (.string (markS (k + j))) := by rw [hbel.cell (by rw [add_blk]; exact hab)]; exact hcell0
      have hab1 : (a.add j).block < w.heap.size := by rw [add_blk]; exact hab
      have hkj0 : 0 < k + j := by omega
      have hkj1 : k + j ≤ 4611686018427387904 := by omega
      go_wp2
      go_region_held3 (fun w' => w'.cell? (a.add j) = some (.string (markS (k + j))) ∧ Below w.heap.size w w') (first | exact ⟨hcell, hbel.drew⟩ | exact held_step hbm (by assumption) hab1 | go_keep)
        (first | (go_at_call 30; refine (mark_any (k + j) hkj0 hkj1 _).mono ?_; rintro e w1 ⟨rfl, hbm⟩))
      go_wp2
      go_roundw
      case rel => exact ⟨j + 1, by omega, by go_num, by go_num, (by assumption : _ ∧ Below _ _ _).2⟩
      case measure => simp [intOf]; omega
    · go_wp2
      go_ret
      exact ⟨ret_int (by omega), hbel⟩
theorem heldStrs1 (v : Value) (n : Nat) (w : World) (hv : Has w v (marks 1 n)) (hn : n ≤ 1048576) :
    Calls Try.prog 16 #[v, .int .i64 1] w fun e w' => e = .returned (.int .i64 (1 + (n : Int))) ∧ Below w.heap.size w w' :=
  heldStrs_any v 1 n w hv hn (by omega) (by omega)
end Go.Proofs.Ytdkpleghpnflhaa
