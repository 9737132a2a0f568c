/- MERGED for a claim: Mark PatM PatF. -/
import Derived.Test.YtkifdbeklagelaaGreatDoorDig
import Derived.Test.YtkifdbeklagelaaGreatDoorStrs
import Derived.Deep.RegionHeld3
import Derived.Test.YtkifdbeklagelaaGreatDoorPat
import Derived.Test.YtkifdbeklagelaaGreatDoorPatP
set_option linter.unusedVariables false
set_option linter.unusedSimpArgs false
/- THE MARKS OF THE LAWS: markText, and a list of texts marked and found as marked. -/
namespace Go.Proofs.YtkifdbeklagelaaGreatDoor
open Go.RowKit NumP

/-- the k-th mark -/
def markS (k : Nat) : ByteArray := ⟨(109 :: dec k).toArray⟩
set_option maxRecDepth 100000 in
set_option maxHeartbeats 1000000 in
theorem mark_any (m : Nat) (h0 : 0 < m) (hh : m ≤ 4611686018427387904) (w : World) :
    Calls Tryz.prog 77 #[.int .i64 m] w fun e w' => e = .returned (.string (markS m)) ∧ Below w.heap.size w w' := by
  go_enter Tryz.func77, Tryz.ntmps77
  go_wp2
  go_loopw [0, 3] (fun x s wr => ∃ (q : Nat) (l : List UInt8), q ≤ 4611686018427387904 ∧ l.length ≤ 20 ∧ x = .int .i64 q ∧ s = .string ⟨l.toArray⟩ ∧ SF m q l ∧ Below w.heap.size w wr) (fun x _ _ => (intOf x).toNat)
  case atStart => exact ⟨m, [], by omega, by simp, rfl, rfl, ⟨fun h => by omega, fun _ => by simp⟩, Below.refl _ _⟩
  case round =>
    obtain ⟨q, l, hq, hll, rfl, rfl, hsf, hbel⟩ := hrel
    by_cases hq0 : 0 < q
    · obtain ⟨b, hb⟩ : ∃ b, b = UInt8.ofNat (48 + q % 10) := ⟨_, rfl⟩
      have hcv := conv_one wr b
      have hs := SF_step (by omega) hq0 hsf
      rw [hb, digit_byte, ← hb] at hcv
      rw [← hb] at hs
      clear hb
      go_wp2
      go_roundw
      case rel =>
        exact ⟨q / 10, _, by omega, hs.2, by go_num, val_str (str_cons _ _), hs.1, hbel.alloc hbel.size _⟩
      case measure => simp [intOf]; omega
    · go_wp2
      go_ret
      exact ⟨ret_str (by unfold markS; rw [← hsf.1 (by omega)]; exact ByteArray.mk_append_mk [109] _), hbel⟩

/-- n marks from the k-th on -/
def marks (k n : Nat) : List ByteArray := (List.range n).map fun i => markS (k + i)
theorem marks_length (k n : Nat) : (marks k n).length = n := by simp [marks]
theorem marks_get (k n i : Nat) (h : i < (marks k n).length) : (marks k n)[i] = markS (k + i) := by simp [marks]
theorem marks_step {l : List ByteArray} {k i n : Nat} (hi : i < n) (hn : n = l.length) : (marks k i ++ l.drop i).set i (markS (k + i)) = marks k (i + 1) ++ l.drop (i + 1) := by
  subst hn
  rw [List.set_append_right _ _ (by rw [marks_length]; exact Nat.le_refl _), marks_length, Nat.sub_self, List.drop_eq_getElem_cons hi, List.set_cons_zero]
  unfold marks
  rw [List.range_succ, List.map_append, List.append_assoc]; rfl

set_option maxRecDepth 100000 in
set_option maxHeartbeats 1000000 in
theorem markStrs_any (B : Nat) (v : Value) (l : List ByteArray) (k : Nat) (w : World) (hv : Row B w v l) (hn : l.length ≤ 1048576) (hk0 : 0 < k) (hk : k ≤ 1073741824) :
    Calls Tryz.prog 39 #[v, .int .i64 k] w fun e w' => e = .returned (.int .i64 ((k : Int) + (l.length : Int))) ∧ Row B w' v (marks k l.length) ∧ w.grownBy w' v.ownBlock := by
  have hB : ∀ j, v.ownBlock = some j → B ≤ j ∧ j < w.heap.size := fun j hj => hv.lt hj
  rcases hv.form with ⟨rfl, rfl⟩ | ⟨g, cap, rfl, hg0, hg⟩
  · go_enter Tryz.func39, Tryz.ntmps39
    go_wp2
    go_loopw [1, 5] (fun x i wr => x = .int .i64 k ∧ i = .int .i64 0 ∧ wr = w) (fun _ _ _ => 0)
    case atStart => exact ⟨rfl, rfl, rfl⟩
    case round =>
      obtain ⟨rfl, rfl, rfl⟩ := hrel
      go_wp2
      go_ret
      exact ⟨ret_int (by simp), hv, ⟨rfl, rfl, rfl, Nat.le_refl _, fun _ _ _ => rfl⟩⟩
  · obtain ⟨n, hnn⟩ : ∃ n, n = l.length := ⟨_, rfl⟩
    have HN : Hid (n = l.length) := Lib.hid hnn
    have hv0 : Row B w (.slice (some ⟨g, 0, none⟩) n cap) (marks k 0 ++ l.drop 0) := by rw [hnn]; simpa [marks] using hv
    rw [← hnn] at hn ⊢
    clear hv hnn hB
    go_enter Tryz.func39, Tryz.ntmps39
    go_wp2
    go_loopw [1, 5] (fun x i wr => ∃ j : Nat, j ≤ n ∧ x = .int .i64 ((k : Int) + (j : Int)) ∧ i = .int .i64 j ∧ Row B wr (.slice (some ⟨g, 0, none⟩) n cap) (marks k j ++ l.drop j) ∧ w.grownBy wr (some g)) (fun _ i _ => n - (intOf i).toNat)
    case atStart => exact ⟨0, Nat.zero_le _, by go_num, rfl, hv0, ⟨rfl, rfl, rfl, Nat.le_refl _, fun _ _ _ => rfl⟩⟩
    case round =>
      obtain ⟨j, hj, rfl, rfl, hrow, hgr⟩ := hrel
      by_cases hlt : j < n
      · have hm := fun w' => mark_any (k + j) (by omega) (by omega) w'
        go_wp2_with (go_at_call 77; refine (mark_any (k + j) (by omega) (by omega) _).mono ?_; rintro e w1 ⟨rfl, hb1⟩; have hrow1 := hrow.below hb1; have hgr1 := hgr.trans (grown_below hb1); have hfr := hrow1.frozen (by have := HN.out; simp [marks_length]; omega) j; have hcell2 := hrow1.cell (i := j) (by have := HN.out; simp [marks_length]; omega); have HST := Lib.hid (hrow1.set (by have := HN.out; simp [marks_length]; omega) j (markS (k + j))); clear hrow hgr hb1)
        go_roundw
        case rel =>
          refine ⟨j + 1, by omega, by go_num, by go_num, ?_, hgr1.trans HST.out.2⟩
          have h := HST.out.1
          rwa [marks_step hlt HN.out] at h
        case measure => simp [intOf]; omega
      · go_wp2
        go_ret
        have e : j = n := by omega
        subst e
        rw [List.drop_of_length_le (by have := HN.out; omega), List.append_nil] at hrow
        exact ⟨rfl, hrow, hgr⟩
theorem markStrs1 (B : Nat) (v : Value) (l : List ByteArray) (w : World) (hv : Row B w v l) (hn : l.length ≤ 1048576) :
    Calls Tryz.prog 39 #[v, .int .i64 1] w fun e w' => e = .returned (.int .i64 (1 + (l.length : Int))) ∧ Row B w' v (marks 1 l.length) ∧ w.grownBy w' v.ownBlock :=
  markStrs_any B v l 1 w hv hn (by omega) (by omega)
theorem held_step {w w1 w2 : World} {p : Addr} {v : Option Value} (k : Below w1.heap.size w1 w2) (h : w1.cell? p = v ∧ Below w.heap.size w w1) (hp : p.block < w.heap.size) : w2.cell? p = v ∧ Below w.heap.size w w2 :=
  ⟨by rw [k.cell (Nat.lt_of_lt_of_le hp h.2.size)]; exact h.1, below_step h.2 k⟩
set_option maxRecDepth 100000 in
set_option maxHeartbeats 1000000 in
theorem heldStrs_any (v : Value) (k n : Nat) (w : World) (hv : Has w v (marks k n)) (hn : n ≤ 1048576) (hk0 : 0 < k) (hk : k ≤ 1073741824) :
    Calls Tryz.prog 41 #[v, .int .i64 k] w fun e w' => e = .returned (.int .i64 ((k : Int) + (n : Int))) ∧ Below w.heap.size w w' := by
  obtain ⟨A, cap, rfl, hn', hc⟩ := hv
  have hc1 : ∀ i, i < n → ∃ a, A = some a ∧ a.block < w.heap.size ∧ w.cell? (a.add i) = some (.string (markS (k + i))) := fun i hi => by
    obtain ⟨a, h1, h2, h3⟩ := hc i (by rw [marks_length]; exact hi)
    exact ⟨a, h1, h2, by rw [h3, marks_get]⟩
  clear hc
  rw [marks_length] at hn' ⊢
  go_enter Tryz.func41, Tryz.ntmps41
  go_wp2
  go_loopw [1, 5] (fun x i wr => ∃ j : Nat, j ≤ n ∧ x = .int .i64 ((k : Int) + (j : Int)) ∧ i = .int .i64 j ∧ Below w.heap.size w wr) (fun _ i _ => n - (intOf i).toNat)
  case atStart => exact ⟨0, Nat.zero_le _, by go_num, rfl, Below.refl _ _⟩
  case round =>
    obtain ⟨j, hj, rfl, rfl, hbel⟩ := hrel
    by_cases hlt : j < n
    · obtain ⟨a, rfl, hab, hcell0⟩ := hc1 j hlt
      have hcell : wr.cell? (a.add j) = some (.string (markS (k + j))) := by rw [hbel.cell (by rw [add_blk]; exact hab)]; exact hcell0
      have hab1 : (a.add j).block < w.heap.size := by rw [add_blk]; exact hab
      have hkj0 : 0 < k + j := by omega
      have hkj1 : k + j ≤ 4611686018427387904 := by omega
      go_wp2
      go_region_held3 (fun w' => w'.cell? (a.add j) = some (.string (markS (k + j))) ∧ Below w.heap.size w w') (first | exact ⟨hcell, hbel.drew⟩ | exact held_step hbm (by assumption) hab1 | go_keep)
        (first | (go_at_call 77; refine (mark_any (k + j) hkj0 hkj1 _).mono ?_; rintro e w1 ⟨rfl, hbm⟩))
      go_wp2
      go_roundw
      case rel => exact ⟨j + 1, by omega, by go_num, by go_num, (by assumption : _ ∧ Below _ _ _).2⟩
      case measure => simp [intOf]; omega
    · go_wp2
      go_ret
      exact ⟨ret_int (by omega), hbel⟩
theorem heldStrs1 (v : Value) (n : Nat) (w : World) (hv : Has w v (marks 1 n)) (hn : n ≤ 1048576) :
    Calls Tryz.prog 41 #[v, .int .i64 1] w fun e w' => e = .returned (.int .i64 (1 + (n : Int))) ∧ Below w.heap.size w w' :=
  heldStrs_any v 1 n w hv hn (by omega) (by omega)
end Go.Proofs.YtkifdbeklagelaaGreatDoor

/- PATTERNS MARKED, AND FOUND AS MARKED: laws.markPatS, heldPatS. -/
namespace Go.Proofs.YtkifdbeklagelaaGreatDoor
open Go.RowKit NumP

def mkStep (F : Nat → List Pat → List Pat × Nat) (a : List Pat × Nat) (t : Pat) : List Pat × Nat := (a.1 ++ [.mk ⟨(a.2 : Int), markS (a.2 + 1)⟩ (F (a.2 + 2) t.kids).1], (F (a.2 + 2) t.kids).2)
/-- the trees marked from the q-th mark on, and the mark behind -/
def mkL : Nat → Nat → List Pat → List Pat × Nat
  | 0, q, l => (l, q)
  | d + 1, q, l => l.foldl (mkStep (mkL d)) ([], q)
theorem mk_snoc (d q : Nat) (l : List Pat) (t : Pat) : mkL (d + 1) q (l ++ [t]) = mkStep (mkL d) (mkL (d + 1) q l) t := by
  unfold mkL; rw [List.foldl_append]; rfl
theorem mk_take {d q : Nat} {l : List Pat} {i : Nat} (hi : i < l.length) : mkL (d + 1) q (l.take (i + 1)) = mkStep (mkL d) (mkL (d + 1) q (l.take i)) l[i] := by
  rw [List.take_succ_eq_append_getElem hi, mk_snoc]
theorem mk_mono : ∀ (d q : Nat) (l : List Pat), q ≤ (mkL d q l).2
  | 0, q, l => Nat.le_refl _
  | d + 1, q, l => by
    have h : ∀ (l : List Pat) (a : List Pat × Nat), a.2 ≤ (l.foldl (mkStep (mkL d)) a).2 := fun l => by
      induction l with
      | nil => intro a; exact Nat.le_refl _
      | cons t r ih =>
        intro a
        rw [List.foldl_cons]
        refine Nat.le_trans ?_ (ih _)
        have := mk_mono d (a.2 + 2) t.kids
        show a.2 ≤ (mkL d (a.2 + 2) t.kids).2; omega
    exact h l ([], q)
theorem mk_fold (d : Nat) (l : List Pat) : ∀ a : List Pat × Nat, (l.foldl (mkStep (mkL d)) a).1.length = a.1.length + l.length := by
  induction l with
  | nil => intro a; rfl
  | cons t r ih => intro a; rw [List.foldl_cons, ih]; simp [mkStep]; omega
theorem mk_len (d q : Nat) (l : List Pat) : (mkL d q l).1.length = l.length := by
  cases d with
  | zero => rfl
  | succ d => have := mk_fold d l ([], q); simpa [mkL] using this
theorem mk_le {d q : Nat} {l : List Pat} {i : Nat} (hi : i ≤ l.length) : (mkL (d + 1) q (l.take i)).2 ≤ (mkL (d + 1) q l).2 := by
  have h : ∀ j, i + j ≤ l.length → (mkL (d + 1) q (l.take i)).2 ≤ (mkL (d + 1) q (l.take (i + j))).2 := fun j => by
    induction j with
    | zero => intro _; exact Nat.le_refl _
    | succ j ih =>
      intro hj
      refine Nat.le_trans (ih (by omega)) ?_
      rw [show i + (j + 1) = (i + j) + 1 by omega, mk_take (by omega)]
      have := mk_mono d ((mkL (d + 1) q (l.take (i + j))).2 + 2) (l[i + j]'(by omega)).kids
      show _ ≤ (mkL d ((mkL (d + 1) q (l.take (i + j))).2 + 2) (l[i + j]'(by omega)).kids).2
      omega
  have := h (l.length - i) (by omega)
  rwa [show i + (l.length - i) = l.length by omega, List.take_length] at this
theorem mk_get {d q : Nat} {l : List Pat} {i : Nat} (hi : i < l.length) (hi' : i < (mkL (d + 1) q l).1.length) :
    (mkL (d + 1) q l).1[i] = .mk ⟨((mkL (d + 1) q (l.take i)).2 : Int), markS ((mkL (d + 1) q (l.take i)).2 + 1)⟩ (mkL d ((mkL (d + 1) q (l.take i)).2 + 2) l[i].kids).1 := by
  have h : ∀ j, i + 1 + j ≤ l.length → (mkL (d + 1) q (l.take (i + 1 + j))).1[i]? = some (.mk ⟨((mkL (d + 1) q (l.take i)).2 : Int), markS ((mkL (d + 1) q (l.take i)).2 + 1)⟩ (mkL d ((mkL (d + 1) q (l.take i)).2 + 2) l[i].kids).1) := fun j => by
    induction j with
    | zero =>
      intro _
      rw [Nat.add_zero, mk_take hi]
      have hl : (mkL (d + 1) q (l.take i)).1.length = i := by rw [mk_len, List.length_take]; omega
      show ((mkL (d + 1) q (l.take i)).1 ++ [_])[i]? = _
      rw [List.getElem?_append_right (by omega), hl]; simp
    | succ j ih =>
      intro hj
      rw [show i + 1 + (j + 1) = (i + 1 + j) + 1 by omega, mk_take (by omega)]
      show ((mkL (d + 1) q (l.take (i + 1 + j))).1 ++ [_])[i]? = _
      rw [List.getElem?_append_left (by rw [mk_len, List.length_take]; omega)]
      exact ih (by omega)
  have := h (l.length - (i + 1)) (by omega)
  rw [show i + 1 + (l.length - (i + 1)) = l.length by omega, List.take_length, List.getElem?_eq_getElem hi'] at this
  exact Option.some.inj this
theorem mkN (q : Nat) (hq : q + 1 ≤ 4611686018427387904) (w : World) :
    Calls Tryz.prog 77 #[.int .i64 ((q : Int) + 1)] w fun e w' => e = .returned (.string (markS (q + 1))) ∧ Below w.heap.size w w' := by
  have h := mark_any (q + 1) (by omega) hq w
  rwa [Int.natCast_add] at h
/-- one tree of a list turned into another, in the same blocks -/
theorem OwL.change {α : Type} {k : Kd α} {d B : Nat} {w w' : World} {v : Value} {l : List (Tr α)} {S : Nat → Prop} {R : List k.ρ} {K : Nat → Nat → Prop} {i : Nat} {r' : k.ρ} {t' : Tr α}
    (h2 : R.length = l.length) (h3 : ∀ i (h : i < R.length) (h' : i < l.length), OwN k d B w R[i] l[i] (K i))
    (h4 : ∀ i j b, i < R.length → j < R.length → K i b → K j b → i = j) (h5 : ∀ i b, i < R.length → K i b → v.ownBlock ≠ some b) (h6 : ∀ b, S b ↔ v.ownBlock = some b ∨ ∃ i, i < R.length ∧ K i b)
    (hrow : RowR k.enc k.z k.E B w' v (R.set i r')) (hn : OwN k d B w' r' t' (K i)) (hf : ∀ j b, j < R.length → j ≠ i → K j b → w'.heap[b]? = w.heap[b]?) : OwL k (d + 1) B w' v (l.set i t') S := by
  refine OwL.whole hrow (by simpa using h2) (fun j hj hj' => ?_) (fun j j' b hj hj' => h4 j j' b (by simpa using hj) (by simpa using hj')) (fun j b hj => h5 j b (by simpa using hj)) (fun b => by simpa using h6 b)
  by_cases e : j = i
  · subst e; simpa using hn
  · have hj1 : j < R.length := by simpa using hj
    have := (h3 j hj1 (by rw [← h2]; exact hj1)).frame fun b hb => hf j b hj1 e hb
    have e1 : (R.set i r')[j] = R[j] := List.getElem_set_ne (fun e' => e e'.symm) _
    have e2 : (l.set i t')[j] = l[j]'(by simpa using hj') := List.getElem_set_ne (fun e' => e e'.symm) _
    rw [e1, e2]; exact this
/-- a record of a row turned in its first two fields, a call between -/
theorem RowP.put {B g n cap : Nat} {w w1 : World} {R : List PatR} {i : Nat} {q : Int} {t : ByteArray} (h : RowR PatR.enc 3 124 B w (.slice (some ⟨g, 0, none⟩) n cap) R) (hi : i < R.length)
    (hb : Below (w.setCell ⟨g, i * 3, none⟩ (.int .i64 q)).heap.size (w.setCell ⟨g, i * 3, none⟩ (.int .i64 q)) w1) :
    RowR PatR.enc 3 124 B (w1.setCell ⟨g, i * 3 + 1, none⟩ (.string t)) (.slice (some ⟨g, 0, none⟩) n cap) (R.set i ⟨q, t, R[i].kv⟩) ∧
    w.grownBy (w1.setCell ⟨g, i * 3 + 1, none⟩ (.string t)) (some g) ∧
    (w1.cell? ⟨g, i * 3 + 1, none⟩ = some (.string R[i].text) ∧ w1.cell? ⟨g, i * 3 + 2, none⟩ = some R[i].kv) ∧ w1.frozen? ⟨g, i * 3 + 1, none⟩ = false := by
  have hz : ∀ r : PatR, r.enc.length = 3 := fun _ => rfl
  have h0 := RowR.set1 hz h hi 0 (by omega) (.int .i64 q) ⟨q, R[i].text, R[i].kv⟩ rfl
  have h0' := RowR.below h0.1 hb
  have hi' : i < (R.set i ⟨q, R[i].text, R[i].kv⟩).length := by simpa using hi
  have h1 := RowR.set1 hz h0' hi' 1 (by omega) (.string t) ⟨q, t, R[i].kv⟩ (by simp [PatR.enc])
  have hg : (w.setCell ⟨g, i * 3, none⟩ (.int .i64 q)).grownBy w1 (some g) := ⟨hb.os, hb.tape, hb.output, hb.size, fun k hk _ => hb.block k hk⟩
  refine ⟨?_, (h0.2.trans hg).trans h1.2, ⟨?_, ?_⟩, RowR.frozen h0' _⟩
  · have := h1.1; rwa [List.set_set] at this
  · exact RowR.cell hz h0' hi' (j := 1) (by simp [PatR.enc])
  · exact RowR.cell hz h0' hi' (j := 2) (by simp [PatR.enc])
theorem held_pat {w w1 w2 : World} {p : Addr} {t : ByteArray} (k : Below w1.heap.size w1 w2) (h : w1.cell? p = some (.string t) ∧ Below w.heap.size w w1) (hp : p.block < w.heap.size) : w2.cell? p = some (.string t) ∧ Below w.heap.size w w2 :=
  ⟨by rw [k.cell (Nat.lt_of_lt_of_le hp h.2.size)]; exact h.1, below_step h.2 k⟩
end Go.Proofs.YtkifdbeklagelaaGreatDoor

/- CHAPTER 5, PLAIN MATHEMATICS: what is read as a pattern has few parts: no list of more than 31, no more than 4 to the power of the bytes that it takes. No function is spoken of. -/
namespace Go.Proofs.YtkifdbeklagelaaGreatDoor
open Go.RowKit

/-- no list of more than 31 within, and of the depth d -/
def Few : Nat → List Pat → Prop
  | 0, l => l = []
  | d + 1, l => l.length ≤ 31 ∧ ∀ t ∈ l, Few d t.kids
theorem Few.deeper : ∀ {d : Nat} {l : List Pat}, Few d l → Few (d + 1) l
  | 0, l, h => by
    have h' : l = [] := h
    subst h'
    exact ⟨by simp, fun t ht => absurd ht (by simp)⟩
  | d + 1, l, h => ⟨h.1, fun t ht => Few.deeper (h.2 t ht)⟩
theorem Few.to {d e : Nat} {l : List Pat} (h : Few d l) (he : d ≤ e) : Few e l := by
  obtain ⟨j, rfl⟩ := Nat.le.dest he
  induction j with
  | zero => exact h
  | succ j ih => exact (ih (Nat.le_add_right _ _)).deeper
theorem few_nil (d : Nat) : Few d [] := (show Few 0 [] from rfl).to (Nat.zero_le d)
theorem few_cons {d : Nat} {l : List Pat} (h1 : l.length ≤ 31) (h2 : ∀ t ∈ l, Few d t.kids) : Few (d + 1) l := ⟨h1, h2⟩
theorem few_one {d : Nat} {p : Pat} (h : Few d p.kids) : Few (d + 1) [p] := ⟨by simp, fun t ht => by rw [List.mem_singleton.1 ht]; exact h⟩
theorem few_rep {d : Nat} {p : Pat} (h : Few d p.kids) (l : List UInt8) : Few (d + 2) (repT p l).1.kids := by
  unfold repT
  split
  · exact h.to (by omega)
  · split
    · exact (few_one h).to (by omega)
    · split
      · exact (few_one h).to (by omega)
      · split
        · refine few_cons (show 2 ≤ 31 by decide) fun t ht => ?_
          rcases List.mem_cons.1 ht with rfl | ht
          · exact h.to (by omega)
          · rw [List.mem_singleton.1 ht]; exact few_one h
        · exact h.to (by omega)
theorem few_join {d : Nat} {l : List Pat} (op : Int) (h1 : l.length ≤ 31) (h2 : ∀ t ∈ l, Few d t.kids) : Few (d + 1) (joinP op l).kids := by
  unfold joinP
  split
  · exact (h2 _ (by simp)).to (by omega)
  · exact few_cons h1 h2
def FewA (d : Nat) (A : List UInt8 → Option (Pat × List UInt8)) : Prop := ∀ l p r, A l = some (p, r) → l.length ≤ 30 → Few d p.kids
theorem few_repL {d : Nat} {A : List UInt8 → Option (Pat × List UInt8)} (h : FewA d A) : FewA (d + 2) (repL A) := by
  intro l p r e hl
  unfold repL at e
  cases hA : A l with
  | none => rw [hA] at e; cases e
  | some x =>
    obtain ⟨q, t⟩ := x
    rw [hA] at e
    have e2 : repT q t = (p, r) := Option.some.inj e
    have := few_rep (h l q t hA hl) t
    rw [e2] at this
    exact this
theorem few_seqL {d : Nat} {A : List UInt8 → Option (Pat × List UInt8)} (h : FewA d A) (hs : Sh A) : ∀ (m : Nat) (l : List UInt8), l.length ≤ 30 → (seqL A m l).1.length ≤ l.length ∧ ∀ t ∈ (seqL A m l).1, Few (d + 2) t.kids
  | 0, l, hl => ⟨by simp [seqL], fun t ht => absurd ht (by simp [seqL])⟩
  | m + 1, l, hl => by
    rw [seqL]
    split
    · exact ⟨by simp, fun t ht => absurd ht (by simp)⟩
    · rename_i p r e
      have h1 := (repL_sh hs l p r e).2
      have ih := few_seqL h hs m r (by omega)
      refine ⟨by simp only [List.length_cons]; omega, fun t ht => ?_⟩
      rcases List.mem_cons.1 ht with rfl | ht
      · exact few_repL h l _ r e hl
      · exact ih.2 t ht
theorem few_seqP {d : Nat} {A : List UInt8 → Option (Pat × List UInt8)} (h : FewA d A) (hs : Sh A) (l : List UInt8) (hl : l.length ≤ 30) : Few (d + 3) (seqP A l).1.kids :=
  few_join 2 (by have := (few_seqL h hs l.length l hl).1; omega) (few_seqL h hs l.length l hl).2
theorem few_altL {d : Nat} {A : List UInt8 → Option (Pat × List UInt8)} (h : FewA d A) (hs : Sh A) : ∀ (m : Nat) (l : List UInt8), l.length ≤ 30 → (altL A m l).1.length ≤ l.length + 1 ∧ ∀ t ∈ (altL A m l).1, Few (d + 3) t.kids
  | 0, l, hl => ⟨by simp [altL], fun t ht => by rw [List.mem_singleton.1 (show t ∈ [(seqP A l).1] from ht)]; exact few_seqP h hs l hl⟩
  | m + 1, l, hl => by
    have hsf := (seqP_suf hs l).len
    have one : ∀ t ∈ [(seqP A l).1], Few (d + 3) t.kids := fun t ht => by rw [List.mem_singleton.1 ht]; exact few_seqP h hs l hl
    rw [altL]
    split
    · exact ⟨by simp, one⟩
    · rename_i c r e
      rw [e, List.length_cons] at hsf
      split
      · have ih := few_altL h hs m r (by omega)
        refine ⟨by simp only [List.length_cons]; omega, fun t ht => ?_⟩
        rcases List.mem_cons.1 ht with rfl | ht
        · exact few_seqP h hs l hl
        · exact ih.2 t ht
      · exact ⟨by simp, one⟩
theorem few_altP {d : Nat} {A : List UInt8 → Option (Pat × List UInt8)} (h : FewA d A) (hs : Sh A) (l : List UInt8) (hl : l.length ≤ 30) : Few (d + 4) (altP A l).1.kids :=
  few_join 3 (by have := (few_altL h hs l.length l hl).1; omega) (few_altL h hs l.length l hl).2
theorem classL_kids {l : List UInt8} {p : Pat} {r : List UInt8} (h : classL l = some (p, r)) : p.kids = [] := by
  unfold classL at h
  split at h
  · cases h
  · split at h
    · cases h; rfl
    · cases h
theorem few_atomF : ∀ n, FewA (4 * n) (atomF n)
  | 0 => fun l p r e _ => by cases e
  | n + 1 => fun l p r e hl => by
    have ih := few_altP (few_atomF n) (atomF_sh n)
    have e' : atomL (altP (atomF n)) l = some (p, r) := e
    unfold atomL at e'
    split at e'
    · cases e'
    · rename_i c t
      rw [List.length_cons] at hl
      split at e'
      · split at e'
        · cases e'
        · split at e'
          · cases e'; exact ih t (by omega)
          · cases e'
      · split at e'
        · rw [classL_kids e']; exact few_nil _
        · split at e'
          · cases e'; exact few_nil _
          · split at e'
            · cases e'; exact few_nil _
            · cases e'

/-- how many parts, to the depth d -/
def cntL : Nat → List Pat → Nat
  | 0, _ => 0
  | d + 1, l => (l.map fun t => 1 + cntL d t.kids).sum
def cntP (d : Nat) (p : Pat) : Nat := 1 + cntL d p.kids
theorem cntL_nil (d : Nat) : cntL d [] = 0 := by cases d <;> rfl
theorem cntL_le (d : Nat) (l : List Pat) : cntL d l ≤ (l.map (cntP d)).sum := by
  induction d generalizing l with
  | zero => exact Nat.zero_le _
  | succ d ih =>
    have h : ∀ l : List Pat, (l.map fun t => 1 + cntL d t.kids).sum ≤ (l.map fun t => 1 + cntL (d + 1) t.kids).sum := fun l => by
      induction l with
      | nil => exact Nat.le_refl _
      | cons t r ihr =>
        simp only [List.map_cons, List.sum_cons]
        have h2 : cntL d t.kids ≤ cntL (d + 1) t.kids := ih t.kids
        omega
    exact h l
theorem mk_cnt : ∀ (d q : Nat) (l : List Pat), (mkL d q l).2 = q + 2 * cntL d l
  | 0, q, l => by simp [mkL, cntL]
  | d + 1, q, l => by
    have h : ∀ (l : List Pat) (a : List Pat × Nat), (l.foldl (mkStep (mkL d)) a).2 = a.2 + 2 * (l.map fun t => 1 + cntL d t.kids).sum := fun l => by
      induction l with
      | nil => intro a; simp
      | cons t r ih =>
        intro a
        rw [List.foldl_cons, ih]
        have h2 : (mkStep (mkL d) a t).2 = (mkL d (a.2 + 2) t.kids).2 := rfl
        rw [h2, mk_cnt d (a.2 + 2) t.kids]
        simp only [List.map_cons, List.sum_cons]
        omega
    exact h l ([], q)
/-- what one more than nothing is -/
def nOne (l : List Pat) : Nat := if l.length = 1 then 0 else 1
theorem cnt_join (d : Nat) (op : Int) (l : List Pat) : cntP d (joinP op l) ≤ (l.map (cntP d)).sum + nOne l := by
  unfold joinP
  split
  · simp [nOne]
  · rename_i h
    have hl : l.length ≠ 1 := fun e => by
      obtain ⟨p, rfl⟩ := List.length_eq_one_iff.1 e
      exact h p rfl
    unfold nOne
    rw [if_neg hl]
    show 1 + cntL d l ≤ _
    have := cntL_le d l
    omega
def CntA (A : List UInt8 → Option (Pat × List UInt8)) : Prop := ∀ l p r, A l = some (p, r) → ∀ d, cntP d p ≤ 4 ^ (l.length - r.length)
theorem pow4_pos (k : Nat) : 1 ≤ 4 ^ k := Nat.pos_of_ne_zero (by simp)
theorem cnt_pos (d : Nat) (p : Pat) : 1 ≤ cntP d p := Nat.le_add_right _ _
theorem cnt_one (d : Nat) (op : Int) (p : Pat) : cntP d (opP op [p]) ≤ 1 + cntP d p := by
  have := cntL_le d [p]
  show 1 + cntL d [p] ≤ _
  simp at this
  omega
theorem cnt_two (d : Nat) (op : Int) (p q : Pat) : cntP d (opP op [p, q]) ≤ 1 + cntP d p + cntP d q := by
  have := cntL_le d [p, q]
  show 1 + cntL d [p, q] ≤ _
  simp at this
  omega
theorem pow4_succ (k : Nat) : 4 ^ (k + 1) = 4 * 4 ^ k := by rw [Nat.pow_succ]; omega
theorem cnt_rep {d : Nat} {p : Pat} {k : Nat} (h : cntP d p ≤ 4 ^ k) (l : List UInt8) : cntP d (repT p l).1 ≤ 4 ^ (k + (l.length - (repT p l).2.length)) := by
  have h1 := cnt_pos d p
  have h2 := pow4_succ k
  unfold repT
  split
  · simpa using h
  · rename_i c r
    have hk : k + ((c :: r).length - r.length) = k + 1 := by simp
    split
    · show cntP d (opP 4 [p]) ≤ 4 ^ (k + ((c :: r).length - r.length))
      rw [hk]
      have := cnt_one d 4 p; omega
    · split
      · show cntP d (opP 5 [p]) ≤ 4 ^ (k + ((c :: r).length - r.length))
        rw [hk]
        have := cnt_one d 5 p; omega
      · split
        · show cntP d (opP 2 [p, opP 4 [p]]) ≤ 4 ^ (k + ((c :: r).length - r.length))
          rw [hk]
          have := cnt_two d 2 p (opP 4 [p])
          have := cnt_one d 4 p; omega
        · simpa using h
theorem cnt_repL {A : List UInt8 → Option (Pat × List UInt8)} (h : CntA A) (hs : Sh A) : CntA (repL A) := by
  intro l p r e d
  unfold repL at e
  cases hA : A l with
  | none => rw [hA] at e; cases e
  | some x =>
    obtain ⟨q, t⟩ := x
    rw [hA] at e
    have e2 : repT q t = (p, r) := Option.some.inj e
    have h1 := cnt_rep (h l q t hA d) t
    have h2 := (hs l q t hA).1.len
    have h3 := (repT_suf q t).len
    rw [e2] at h1 h3
    have h3' : r.length ≤ t.length := h3
    have h1' : cntP d p ≤ 4 ^ (l.length - t.length + (t.length - r.length)) := h1
    rw [show l.length - t.length + (t.length - r.length) = l.length - r.length by omega] at h1'
    exact h1'
theorem mul_ge {x y : Nat} (hx : 4 ≤ x) (hy : 4 ≤ y) : x + y + 1 ≤ x * y := by
  obtain ⟨a, rfl⟩ := Nat.le.dest hx
  obtain ⟨b, rfl⟩ := Nat.le.dest hy
  rw [Nat.mul_add, Nat.add_mul, Nat.add_mul]
  have := Nat.zero_le (a * b)
  omega
theorem mul_ge4 {x y : Nat} (hx : 1 ≤ x) (hy : 1 ≤ y) : x + y + 1 ≤ 4 * (x * y) := by
  obtain ⟨a, rfl⟩ := Nat.le.dest hx
  obtain ⟨b, rfl⟩ := Nat.le.dest hy
  rw [Nat.mul_add, Nat.add_mul, Nat.add_mul]
  have := Nat.zero_le (a * b)
  omega
theorem cnt_seqL {A : List UInt8 → Option (Pat × List UInt8)} (h : CntA A) (hs : Sh A) (d : Nat) : ∀ (m : Nat) (l : List UInt8), ((seqL A m l).1.map (cntP d)).sum + nOne (seqL A m l).1 ≤ 4 ^ (l.length - (seqL A m l).2.length) ∧ ((seqL A m l).1 ≠ [] → (seqL A m l).2.length < l.length)
  | 0, l => ⟨by simp [seqL, nOne], fun hn => absurd (show (seqL A 0 l).1 = [] from rfl) hn⟩
  | m + 1, l => by
    rw [seqL]
    split
    · exact ⟨by simp [nOne], fun hn => absurd rfl hn⟩
    · rename_i p r e
      have h1 := cnt_repL h hs l p r e d
      have h2 := (repL_sh hs l p r e).2
      obtain ⟨ih, ihn⟩ := cnt_seqL h hs d m r
      have h3 := (seqL_suf hs m r).len
      obtain ⟨T, hT⟩ : ∃ T, T = seqL A m r := ⟨_, rfl⟩
      rw [← hT] at ih ihn h3 ⊢
      refine ⟨?_, fun _ => by show T.2.length < l.length; omega⟩
      show (cntP d p + (T.1.map (cntP d)).sum) + nOne (p :: T.1) ≤ 4 ^ (l.length - T.2.length)
      by_cases he : T.1 = []
      · rw [he]
        simp only [nOne, List.map_nil, List.sum_nil, List.length_cons, List.length_nil]
        have h4 : 4 ^ (l.length - r.length) ≤ 4 ^ (l.length - T.2.length) := Nat.pow_le_pow_right (by decide) (by omega)
        simp
        omega
      · have h4 := ihn he
        have hn1 : nOne (p :: T.1) = 1 := by
          unfold nOne
          rw [if_neg]
          simp only [List.length_cons]
          intro hh
          exact he (List.length_eq_zero_iff.1 (by omega))
        rw [hn1, show l.length - T.2.length = (l.length - r.length) + (r.length - T.2.length) by omega, Nat.pow_add]
        have h5 : 4 ^ 1 ≤ 4 ^ (l.length - r.length) := Nat.pow_le_pow_right (by decide) (by omega)
        have h6 : 4 ^ 1 ≤ 4 ^ (r.length - T.2.length) := Nat.pow_le_pow_right (by decide) (by omega)
        have := mul_ge h5 h6
        omega
theorem cnt_seqP {A : List UInt8 → Option (Pat × List UInt8)} (h : CntA A) (hs : Sh A) (d : Nat) (l : List UInt8) : cntP d (seqP A l).1 ≤ 4 ^ (l.length - (seqP A l).2.length) :=
  Nat.le_trans (cnt_join d 2 _) (cnt_seqL h hs d l.length l).1
theorem cnt_altL {A : List UInt8 → Option (Pat × List UInt8)} (h : CntA A) (hs : Sh A) (d : Nat) : ∀ (m : Nat) (l : List UInt8), (altL A m l).1 ≠ [] ∧ ((altL A m l).1.map (cntP d)).sum + nOne (altL A m l).1 ≤ 4 ^ (l.length - (altL A m l).2.length)
  | 0, l => by
    have := cnt_seqP h hs d l
    refine ⟨by simp [altL], ?_⟩
    show ([(seqP A l).1].map (cntP d)).sum + nOne [(seqP A l).1] ≤ 4 ^ (l.length - (seqP A l).2.length)
    simpa [nOne] using this
  | m + 1, l => by
    have h1 := cnt_seqP h hs d l
    have h2 := (seqP_suf hs l).len
    rw [altL]
    split
    · rename_i e
      rw [e] at h1
      exact ⟨by simp, by simpa [nOne] using h1⟩
    · rename_i c r e
      rw [e] at h1 h2
      rw [List.length_cons] at h1 h2
      split
      · obtain ⟨ihn, ih⟩ := cnt_altL h hs d m r
        have h3 := (altL_suf hs m r).len
        obtain ⟨T, hT⟩ : ∃ T, T = altL A m r := ⟨_, rfl⟩
        rw [← hT] at ihn ih h3 ⊢
        refine ⟨by simp, ?_⟩
        show (cntP d (seqP A l).1 + (T.1.map (cntP d)).sum) + nOne ((seqP A l).1 :: T.1) ≤ 4 ^ (l.length - T.2.length)
        have hn1 : nOne ((seqP A l).1 :: T.1) = 1 := by
          unfold nOne
          rw [if_neg]
          simp only [List.length_cons]
          intro hh
          exact ihn (List.length_eq_zero_iff.1 (by omega))
        rw [hn1, show l.length - T.2.length = ((l.length - (r.length + 1)) + (r.length - T.2.length)) + 1 by omega, pow4_succ, Nat.pow_add]
        have := mul_ge4 (pow4_pos (l.length - (r.length + 1))) (pow4_pos (r.length - T.2.length))
        omega
      · refine ⟨by simp, ?_⟩
        show ([(seqP A l).1].map (cntP d)).sum + nOne [(seqP A l).1] ≤ 4 ^ (l.length - (c :: r).length)
        simpa [nOne] using h1
theorem cnt_altP {A : List UInt8 → Option (Pat × List UInt8)} (h : CntA A) (hs : Sh A) (d : Nat) (l : List UInt8) : cntP d (altP A l).1 ≤ 4 ^ (l.length - (altP A l).2.length) :=
  Nat.le_trans (cnt_join d 3 _) (cnt_altL h hs d l.length l).2
theorem cnt_flat {p : Pat} (h : p.kids = []) (d k : Nat) : cntP d p ≤ 4 ^ k := by
  unfold cntP; rw [h, cntL_nil]; exact pow4_pos k
theorem cnt_atomF : ∀ n, CntA (atomF n)
  | 0 => fun l p r e => by cases e
  | n + 1 => fun l p r e d => by
    have ih := cnt_altP (cnt_atomF n) (atomF_sh n) d
    have hsf := fun t => (altP_suf (atomF_sh n) t).len
    have e' : atomL (altP (atomF n)) l = some (p, r) := e
    unfold atomL at e'
    split at e'
    · cases e'
    · rename_i c t
      split at e'
      · have h1 := ih t
        have h2 := hsf t
        split at e'
        · cases e'
        · rename_i d' r' e2
          split at e'
          · rw [e2] at h1 h2
            cases e'
            refine Nat.le_trans h1 (Nat.pow_le_pow_right (by decide) ?_)
            simp only [List.length_cons]
            omega
          · cases e'
      · split at e'
        · exact cnt_flat (classL_kids e') d _
        · split at e'
          · cases e'; exact cnt_flat rfl d _
          · split at e'
            · cases e'; exact cnt_flat rfl d _
            · cases e'
/-- a pattern that is read has few parts, and its marks fit -/
theorem patS_few {l : List UInt8} {p : Pat} (h : patS l = some p) : Few (4 * l.length + 4) p.kids ∧ ∀ d, (mkL d 1 p.kids).2 ≤ 2305843009213693952 := by
  unfold patS at h
  split at h
  · cases h
  · rename_i hl
    split at h
    · rename_i hr
      cases h
      refine ⟨few_altP (few_atomF l.length) (atomF_sh l.length) l (by omega), fun d => ?_⟩
      rw [mk_cnt]
      have h1 := cnt_altP (cnt_atomF l.length) (atomF_sh l.length) d l
      have h2 : 4 ^ (l.length - (altP (atomF l.length) l).2.length) ≤ 4 ^ 30 := Nat.pow_le_pow_right (by decide) (by omega)
      have h3 : (4 : Nat) ^ 30 = 1152921504606846976 := by decide
      rw [h3] at h2
      unfold cntP at h1
      omega
    · cases h
end Go.Proofs.YtkifdbeklagelaaGreatDoor
