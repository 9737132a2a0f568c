/- CHAPTER 4, RANGES READ: impl's beginsWithMark, readBound, readRange. -/
import Derived.Test.YtapalfmjebggfaaDoorParP
import Derived.Test.YtapalfmjebggfaaDoorNumQ
import Derived.Deep.Slices
namespace Go.Proofs.YtapalfmjebggfaaDoor
open Go.RowKit NumP

/-- the head of a list of tokens that is read -/
theorem HasT.head {w : World} {A : Option Addr} {n cap : Nat} {x : Tok} {r : List Tok} (h : HasT w (.slice A n cap) (x :: r)) :
    ∃ a, A = some a ∧ n = r.length + 1 ∧ a.block < w.heap.size ∧ w.cell? a = some (.int .i64 x.k) ∧ w.cell? ⟨a.block, a.off + 1, none⟩ = some (.string x.t) := by
  obtain ⟨A', cap', hv, hn, hc⟩ := h
  cases hv
  obtain ⟨a, ha, hb, hk⟩ := HasT.tk hc 0 (by simp)
  exact ⟨a, ha, by simp, hb, hk.1, hk.2.1⟩
theorem HasT.two {w : World} {A : Option Addr} {n cap : Nat} {x y : Tok} {r : List Tok} (h : HasT w (.slice A n cap) (x :: y :: r)) :
    ∃ a, A = some a ∧ w.cell? ⟨a.block, a.off + 3, none⟩ = some (.int .i64 y.k) ∧ w.cell? ⟨a.block, a.off + 4, none⟩ = some (.string y.t) := by
  obtain ⟨A', cap', hv, hn, hc⟩ := h
  cases hv
  obtain ⟨a, ha, hb, hk⟩ := HasT.tk hc 1 (by simp)
  exact ⟨a, ha, hk.1, hk.2.1⟩
theorem HasT.size {w : World} {A : Option Addr} {n cap : Nat} {l : List Tok} (h : HasT w (.slice A n cap) l) : n = l.length ∧ n ≤ 9223372036854775807 := by
  obtain ⟨A', cap', hv, hn, _⟩ := h
  cases hv
  exact ⟨rfl, hn⟩
set_option maxRecDepth 100000 in
theorem iMk_any (A : Option Addr) (n cap : Nat) (l : List Tok) (m : ByteArray) (w : World) (hv : HasT w (.slice A n cap) l) :
    Calls Tryd.prog 39 #[.slice A n cap, .string m] w fun e w' => e = .returned (.bool (mkB l m)) ∧ w = w' := by
  obtain ⟨hn, hn'⟩ := hv.size
  match l with
  | [] =>
    obtain rfl : n = 0 := by simpa using hn
    rw [mkB_nil]
    clear hv hn
    go_enter Tryd.func39, Tryd.ntmps39
    go_wp2
    go_ret
    exact ⟨rfl, rfl⟩
  | x :: r =>
    obtain ⟨a, rfl, hn2, hb, c0, c1⟩ := hv.head
    have h0 : (0 : Int) < (n : Int) := by omega
    have h0' : decide (0 < n) = true := decide_eq_true (by omega)
    clear hn hn2
    by_cases hk : x.k = 4
    · rw [mkB_text hk]
      have hk' : (x.k == 4) = true := by simpa using hk
      by_cases ht : x.t = m
      · rw [decide_eq_true ht]
        have ht1 : (x.t.toList == m.toList) = true := by rw [ht]; simp
        clear ht hk hv
        go_enter Tryd.func39, Tryd.ntmps39
        go_wp2
        go_ret
        exact ⟨rfl, rfl⟩
      · rw [decide_eq_false ht]
        have ht1 : (x.t.toList == m.toList) = false := by
          simp only [beq_eq_false_iff_ne, ne_eq]
          intro e; exact ht (by rw [ByteArray.toList_eq, ByteArray.toList_eq] at e; apply ByteArray.ext; exact Array.toList_inj.1 e)
        clear ht hk hv
        go_enter Tryd.func39, Tryd.ntmps39
        go_wp2
        go_ret
        exact ⟨rfl, rfl⟩
    · rw [mkB_kind hk]
      have hk' : (x.k == 4) = false := by simpa using hk
      clear hk hv
      go_enter Tryd.func39, Tryd.ntmps39
      go_wp2
      go_ret
      exact ⟨rfl, rfl⟩
/-- a bound and the tokens that it takes; 0, 0 for none -/
def bdV : Option (Int × Nat) → Value
  | some (n, k) => .tuple #[.int .i64 n, .int .i64 k]
  | none => .tuple #[.int .i64 0, .int .i64 0]
theorem rdB_minus {l : List Tok} (h : mkB l minusT = true) : rdB l = (numT [45] (l.drop 1)).map fun n => (n, 2) := by unfold rdB; rw [if_pos h]
theorem rdB_plain {l : List Tok} (h : mkB l minusT = false) : rdB l = (numT [] l).map fun n => (n, 1) := by unfold rdB; rw [if_neg (by rw [h]; simp)]
theorem numT_kind {sg : List UInt8} {x : Tok} {r : List Tok} (h : ¬ x.k = 2) : numT sg (x :: r) = none := if_neg h
theorem numT_num {sg : List UInt8} {x : Tok} {r : List Tok} (h : x.k = 2) : numT sg (x :: r) = parseL (sg ++ x.t.data.toList) := if_pos h
theorem data_app (a b : ByteArray) : (a ++ b).data.toList = a.data.toList ++ b.data.toList := by simp
theorem iPar_none (s : ByteArray) (hs : s.size ≤ maxLen) (h : parseL s.data.toList = none) (w : World) :
    Calls Tryd.prog 78 #[.string s] w fun e w' => e = .returned (.tuple #[.int .i64 0, .bool false]) ∧ Below w.heap.size w w' :=
  (iParse_any s hs w).mono fun _ _ ⟨he, hb⟩ => ⟨by rw [he, h]; rfl, hb⟩
theorem iPar_some (s : ByteArray) (hs : s.size ≤ maxLen) (n : Int) (h : parseL s.data.toList = some n) (w : World) :
    Calls Tryd.prog 78 #[.string s] w fun e w' => e = .returned (.tuple #[.int .i64 n, .bool true]) ∧ Below w.heap.size w w' :=
  (iParse_any s hs w).mono fun _ _ ⟨he, hb⟩ => ⟨by rw [he, h]; rfl, hb⟩
set_option maxRecDepth 100000 in
set_option maxHeartbeats 1000000 in
theorem iBd_any (A : Option Addr) (n cap : Nat) (l : List Tok) (w : World) (hv : HasT w (.slice A n cap) l) (hs : ∀ x ∈ l, x.t.size ≤ 1048576) :
    Calls Tryd.prog 63 #[.slice A n cap] w fun e w' => e = .returned (bdV (rdB l)) ∧ Below w.heap.size w w' := by
  have HV := Lib.hid hv
  obtain ⟨hn, hn'⟩ := hv.size
  cases hm : mkB l minusT with
  | true =>
    have HM : Hid (mkB l ⟨#[45]⟩ = true) := Lib.hid hm
    rw [rdB_minus hm]
    match l, hm with
    | x :: r, hm =>
      match r with
      | [] =>
        obtain rfl : n = 1 := by simpa using hn
        clear hv hn hs hm
        go_enter Tryd.func63, Tryd.ntmps63
        go_wp2_with (go_at_call 39; refine (iMk_any _ _ _ _ ⟨#[45]⟩ _ HV.out).mono ?_; rw [HM.out]; rintro e w' ⟨rfl, rfl⟩)
        go_ret2
        exact ⟨rfl, Below.refl _ _⟩
      | y :: r =>
        obtain ⟨a, rfl, c0, c1⟩ := hv.two
        have c1' : w.cell? ⟨a.block, a.off + 3 + 1, none⟩ = some (.string y.t) := c1
        have hsz := hs y (by simp)
        have hn2 : (2 : Int) ≤ (n : Int) := by simp at hn; omega
        have hn1 : (1 : Int) < (n : Int) := by omega
        have hne : ((1 : Int) == (n : Int)) = false := by simp; omega
        have hne' : ((1 : Nat) == n) = false := by simp; omega
        clear hn hv hm hs
        rw [show (x :: y :: r).drop 1 = y :: r from rfl]
        by_cases hk : y.k = 2
        · have hk' : (y.k != 2) = false := by simpa using hk
          have HP0 : Hid (numT [45] (y :: r) = parseL ((⟨#[45]⟩ : ByteArray) ++ y.t).data.toList) := Lib.hid (by rw [numT_num hk, data_app])
          have hz : ((⟨#[45]⟩ : ByteArray) ++ y.t).size ≤ maxLen := by rw [ByteArray.size_append]; show 1 + y.t.size ≤ maxLen; unfold maxLen; omega
          have HZ := Lib.hid hz
          clear hk hz
          rw [HP0.out]
          cases hp : parseL ((⟨#[45]⟩ : ByteArray) ++ y.t).data.toList with
          | none =>
            have HP := Lib.hid hp
            clear hp HP0
            go_enter Tryd.func63, Tryd.ntmps63
            go_wp2_with (first
              | (go_at_call 39; refine (iMk_any _ _ _ _ ⟨#[45]⟩ _ HV.out).mono ?_; rw [HM.out]; rintro e w' ⟨rfl, rfl⟩)
              | (go_at_call 78; refine (iPar_none _ HZ.out HP.out _).mono ?_; rintro e w1 ⟨rfl, hb⟩))
            go_ret2
            exact ⟨rfl, hb⟩
          | some m =>
            have HP := Lib.hid hp
            clear hp HP0
            go_enter Tryd.func63, Tryd.ntmps63
            go_wp2_with (first
              | (go_at_call 39; refine (iMk_any _ _ _ _ ⟨#[45]⟩ _ HV.out).mono ?_; rw [HM.out]; rintro e w' ⟨rfl, rfl⟩)
              | (go_at_call 78; refine (iPar_some _ HZ.out m HP.out _).mono ?_; rintro e w1 ⟨rfl, hb⟩))
            go_ret2
            exact ⟨rfl, hb⟩
        · have hk' : (y.k != 2) = true := by simpa using hk
          rw [numT_kind hk]
          clear hk
          go_enter Tryd.func63, Tryd.ntmps63
          go_wp2_with (go_at_call 39; refine (iMk_any _ _ _ _ ⟨#[45]⟩ _ HV.out).mono ?_; rw [HM.out]; rintro e w' ⟨rfl, rfl⟩)
          go_ret2
          exact ⟨rfl, Below.refl _ _⟩
  | false =>
    have HM : Hid (mkB l ⟨#[45]⟩ = false) := Lib.hid hm
    rw [rdB_plain hm]
    match l with
    | [] =>
      obtain rfl : n = 0 := by simpa using hn
      clear hv hn hs hm
      go_enter Tryd.func63, Tryd.ntmps63
      go_wp2_with (go_at_call 39; refine (iMk_any _ _ _ _ ⟨#[45]⟩ _ HV.out).mono ?_; rw [HM.out]; rintro e w' ⟨rfl, rfl⟩)
      go_ret2
      exact ⟨rfl, Below.refl _ _⟩
    | x :: r =>
      obtain ⟨a, rfl, hn2, hb0, c0, c1⟩ := hv.head
      have hsz := hs x (by simp)
      have hn1 : (0 : Int) < (n : Int) := by omega
      have hne : ((0 : Int) == (n : Int)) = false := by simp; omega
      have hne' : ((0 : Nat) == n) = false := by simp; omega
      clear hn hn2 hv hm hs
      by_cases hk : x.k = 2
      · have hk' : (x.k != 2) = false := by simpa using hk
        have HP0 : Hid (numT [] (x :: r) = parseL ((⟨#[]⟩ : ByteArray) ++ x.t).data.toList) := Lib.hid (by rw [numT_num hk, data_app])
        have hz : ((⟨#[]⟩ : ByteArray) ++ x.t).size ≤ maxLen := by rw [ByteArray.size_append]; show 0 + x.t.size ≤ maxLen; unfold maxLen; omega
        have HZ := Lib.hid hz
        clear hk hz
        rw [HP0.out]
        cases hp : parseL ((⟨#[]⟩ : ByteArray) ++ x.t).data.toList with
        | none =>
          have HP := Lib.hid hp
          clear hp HP0
          go_enter Tryd.func63, Tryd.ntmps63
          go_wp2_with (first
            | (go_at_call 39; refine (iMk_any _ _ _ _ ⟨#[45]⟩ _ HV.out).mono ?_; rw [HM.out]; rintro e w' ⟨rfl, rfl⟩)
            | (go_at_call 78; refine (iPar_none _ HZ.out HP.out _).mono ?_; rintro e w1 ⟨rfl, hb⟩))
          go_ret2
          exact ⟨rfl, hb⟩
        | some m =>
          have HP := Lib.hid hp
          clear hp HP0
          go_enter Tryd.func63, Tryd.ntmps63
          go_wp2_with (first
            | (go_at_call 39; refine (iMk_any _ _ _ _ ⟨#[45]⟩ _ HV.out).mono ?_; rw [HM.out]; rintro e w' ⟨rfl, rfl⟩)
            | (go_at_call 78; refine (iPar_some _ HZ.out m HP.out _).mono ?_; rintro e w1 ⟨rfl, hb⟩))
          go_ret2
          exact ⟨rfl, hb⟩
      · have hk' : (x.k != 2) = true := by simpa using hk
        rw [numT_kind hk]
        clear hk
        go_enter Tryd.func63, Tryd.ntmps63
        go_wp2_with (go_at_call 39; refine (iMk_any _ _ _ _ ⟨#[45]⟩ _ HV.out).mono ?_; rw [HM.out]; rintro e w' ⟨rfl, rfl⟩)
        go_ret2
        exact ⟨rfl, Below.refl _ _⟩
/-- a range and the tokens that it takes -/
def rgV : Option (Rg × Nat) → Value
  | some (x, k) => .tuple #[.agg #[.int .i64 x.lo, .int .i64 x.hi], .int .i64 k]
  | none => .tuple #[.agg #[.int .i64 0, .int .i64 0], .int .i64 0]
theorem rdR_none {l : List Tok} (h : rdB l = none) : rdR l = none := by unfold rdR; rw [h]; rfl
theorem rdR_one {l : List Tok} {lo : Int} {k : Nat} (h : rdB l = some (lo, k)) (hm : mkB (l.drop k) dotsT = false) : rdR l = some (⟨lo, lo⟩, k) := by
  unfold rdR; rw [h, Option.bind_some]; simp only; rw [if_neg (by rw [hm]; simp)]
theorem rdR_two {l : List Tok} {lo : Int} {k : Nat} (h : rdB l = some (lo, k)) (hm : mkB (l.drop k) dotsT = true) : rdR l = (rdB (l.drop (k + 1))).map fun (hi, j) => (⟨lo, hi⟩, k + 1 + j) := by
  unfold rdR; rw [h, Option.bind_some]; simp only; rw [if_pos hm]
/-- a list of tokens cut at its beginning -/
theorem HasT.cut {w : World} {a : Addr} {n cap : Nat} {l : List Tok} (h : HasT w (.slice (some a) n cap) l) (hc : n ≤ cap) {k : Nat} (hk : k ≤ n) :
    HasT w (.slice (if cap = k then some a else some (a.add (k * 3))) (n - k) (cap - k)) (l.drop k) := by
  obtain ⟨A', cap', hv, hn, hcell⟩ := h
  cases hv
  by_cases e : cap = k
  · rw [if_pos e]
    refine ⟨some a, cap - k, by rw [List.length_drop], by rw [List.length_drop]; omega, fun i hi => ?_⟩
    rw [List.length_drop] at hi; omega
  · rw [if_neg e]
    refine ⟨some (a.add (k * 3)), cap - k, by rw [List.length_drop], by rw [List.length_drop]; omega, fun i hi => ?_⟩
    rw [List.length_drop] at hi
    obtain ⟨a', h1, h2, h3⟩ := hcell (k + i) (by omega)
    cases h1
    refine ⟨_, rfl, by rw [addr_blk]; exact h2, fun j x hx => ?_⟩
    rw [List.getElem_drop] at hx
    rw [show (a.add (k * 3)).add (i * 3) = a.add ((k + i) * 3) by rw [Go.Deep.add_add, Nat.add_mul]]
    exact h3 j x hx
theorem box2f {w w1 : World} {v0 v1 : Value} {t : TypeId} (h : Below (w.alloc (.cells #[v0, v1] t)).heap.size (w.alloc (.cells #[v0, v1] t)) w1) :
    w.heap.size < w1.heap.size ∧ (w1.cell? ⟨w.heap.size, 0, none⟩ = some v0 ∧ w1.cell? ⟨w.heap.size, 1, none⟩ = some v1) ∧ w1.frozen? ⟨w.heap.size, 0, none⟩ = false ∧ w1.frozen? ⟨w.heap.size, 1, none⟩ = false := by
  have hl : w.heap.size < (w.alloc (.cells #[v0, v1] t)).heap.size := by simp
  have hf : ∀ j, w1.frozen? ⟨w.heap.size, j, none⟩ = false := fun j => by
    rw [h.frozen (p := ⟨w.heap.size, j, none⟩) hl]
    unfold World.frozen?
    dsimp only
    rw [heap_alloc_new]
    simp
  exact ⟨Nat.lt_of_lt_of_le hl h.size, box2 h, hf 0, hf 1⟩
set_option maxRecDepth 100000 in
set_option maxHeartbeats 2000000 in
theorem iRg_any (A : Option Addr) (n cap : Nat) (l : List Tok) (w : World) (hv : HasT w (.slice A n cap) l) (hc : n ≤ cap) (hcm : cap ≤ 9223372036854775807) (hs : ∀ x ∈ l, x.t.size ≤ 1048576) :
    Calls Tryd.prog 38 #[.slice A n cap] w fun e w' => e = .returned (rgV (rdR l)) ∧ Below w.heap.size w w' := by
  obtain ⟨hn, hn'⟩ := hv.size
  have HV : Hid (∀ W, Below w.heap.size w W → HasT W (.slice A n cap) l) := Lib.hid fun W h => HasR.below hv h
  have HS := Lib.hid hs
  have HA : Hid (∀ v0 v1 W, Below (w.alloc (.cells #[v0, v1] 33)).heap.size (w.alloc (.cells #[v0, v1] 33)) W → Below w.heap.size w W) := Lib.hid fun v0 v1 W h => below_step (below_al (Below.refl _ _) _) h
  cases h1 : rdB l with
  | none =>
    have HB : Hid (bdV (rdB l) = .tuple #[.int .i64 0, .int .i64 0]) := Lib.hid (by rw [h1]; rfl)
    rw [rdR_none h1]
    clear hv hn h1 hs
    go_enter Tryd.func38, Tryd.ntmps38
    go_wp2_with (go_at_call 63; refine (iBd_any _ _ _ l _ (HV.out _ (below_al (Below.refl _ _) _)) HS.out).mono ?_; rw [HB.out]; rintro e w1 ⟨rfl, hb⟩; obtain ⟨hz, ⟨c0, c1⟩, f0, f1⟩ := box2f hb)
    exact bodyPost_ret (v := .tuple #[.agg #[.int .i64 0, .int .i64 0], .int .i64 0]) (by simp [results, Tryd.results38, go_sem, c0, c1]) rfl ⟨rfl, ((HA.out _ _ _ hb).setCell (Nat.le_refl _) _).setCell (Nat.le_refl _) _⟩
  | some p =>
    obtain ⟨lo, k⟩ := p
    obtain ⟨k1, k2⟩ := rdB_len h1
    have HB : Hid (bdV (rdB l) = .tuple #[.int .i64 lo, .int .i64 k]) := Lib.hid (by rw [h1]; rfl)
    obtain ⟨a, rfl⟩ : ∃ a, A = some a := by
      match l, k2 with
      | [], k2 => simp at k2; omega
      | x :: r, _ => obtain ⟨a, ha, _⟩ := hv.head; exact ⟨a, ha⟩
    have hkn : k ≤ n := by omega
    have hkn' : (k : Int) ≤ (n : Int) := by omega
    have hnc' : (n : Int) ≤ (cap : Int) := by omega
    have hkc' : (k : Int) ≤ (cap : Int) := by omega
    have hk0 : (1 : Int) ≤ (k : Int) := by omega
    have hk00 : ((k : Int) == 0) = false := by simp; omega
    have hk000 : (k == 0) = false := by simp; omega
    have HC : Hid (∀ W, Below w.heap.size w W → HasT W (.slice (if cap = k then some a else some (a.add (k * 3))) (n - k) (cap - k)) (l.drop k)) := Lib.hid fun W h => HasT.cut (HasR.below hv h) hc hkn
    have HSD : Hid (∀ x ∈ l.drop (k + 1), x.t.size ≤ 1048576) := Lib.hid fun x hx => hs x (List.mem_of_mem_drop hx)
    cases hm : mkB (l.drop k) dotsT with
    | false =>
      have HM : Hid (mkB (l.drop k) ⟨#[46, 46]⟩ = false) := Lib.hid hm
      rw [rdR_one h1 hm]
      clear hv hn h1 hs k2 hm
      go_enter Tryd.func38, Tryd.ntmps38
      go_wp2_with (first
        | (go_at_call 63; refine (iBd_any _ _ _ l _ (HV.out _ (below_al (Below.refl _ _) _)) HS.out).mono ?_; rw [HB.out]; rintro e w1 ⟨rfl, hb⟩; obtain ⟨hz, ⟨c0, c1⟩, f0, f1⟩ := box2f hb)
        | (go_at_call 39; refine (iMk_any _ _ _ (l.drop k) ⟨#[46, 46]⟩ _ (HC.out _ (HA.out _ _ _ hb))).mono ?_; rw [HM.out]; rintro e w' ⟨rfl, rfl⟩))
      all_goals exact bodyPost_ret (v := .tuple #[.agg #[.int .i64 lo, .int .i64 lo], .int .i64 k]) (by simp [results, Tryd.results38, go_sem, c0, c1]) rfl ⟨rfl, ((HA.out _ _ _ hb).setCell (Nat.le_refl _) _).setCell (Nat.le_refl _) _⟩
    | true =>
      have HM : Hid (mkB (l.drop k) ⟨#[46, 46]⟩ = true) := Lib.hid hm
      have hkl := mkB_len hm
      have hkn1 : k + 1 ≤ n := by omega
      have hkn1' : (k : Int) + 1 ≤ (n : Int) := by omega
      have hkc1' : (k : Int) + 1 ≤ (cap : Int) := by omega
      have htn1 : ((k : Int) + 1).toNat = k + 1 := by omega
      have HCT : Hid (∀ W, Below w.heap.size w W → HasT W (.slice (some (a.add (k * 3))) (n - k) (cap - k)) (l.drop k)) := Lib.hid fun W h => by
        have := HC.out W h
        rwa [if_neg (by omega)] at this
      have HC2 : Hid (∀ W, Below w.heap.size w W → HasT W (.slice (if cap = k + 1 then some a else some (a.add ((k + 1) * 3))) (n - (k + 1)) (cap - (k + 1))) (l.drop (k + 1))) := Lib.hid fun W h => HasT.cut (HasR.below hv h) hc hkn1
      rw [rdR_two h1 hm]
      cases h2 : rdB (l.drop (k + 1)) with
      | none =>
        have HB2 : Hid (bdV (rdB (l.drop (k + 1))) = .tuple #[.int .i64 0, .int .i64 0]) := Lib.hid (by rw [h2]; rfl)
        clear hv hn h1 hs k2 hm hkl h2
        go_enter Tryd.func38, Tryd.ntmps38
        go_wp2_with (first
          | (go_at_call 63; ((with_reducible refine (iBd_any _ _ _ l _ (HV.out _ (below_al (Below.refl _ _) _)) HS.out).mono ?_); rw [HB.out]; rintro e w1 ⟨rfl, hb⟩; obtain ⟨hz, ⟨c0, c1⟩, f0, f1⟩ := box2f hb))
          | (go_at_call 39; ((with_reducible refine (iMk_any _ _ _ (l.drop k) ⟨#[46, 46]⟩ _ (HCT.out _ (HA.out _ _ _ hb))).mono ?_)); rw [HM.out]; rintro e w' ⟨rfl, rfl⟩)
          | (go_at_call 63; ((with_reducible refine (iBd_any _ _ _ (l.drop (k + 1)) _ (HC2.out _ (HA.out _ _ _ hb)) HSD.out).mono ?_)); rw [HB2.out]; rintro e w2 ⟨rfl, hb2⟩; obtain ⟨hz2, ⟨d0, d1⟩, g0, g1⟩ := box2f (below_step hb hb2)))
        all_goals exact bodyPost_ret (v := .tuple #[.agg #[.int .i64 0, .int .i64 0], .int .i64 0]) (by simp [results, Tryd.results38, go_sem, d0, d1]) rfl ⟨rfl, ((HA.out _ _ _ (below_step hb hb2)).setCell (Nat.le_refl _) _).setCell (Nat.le_refl _) _⟩
      | some q =>
        obtain ⟨hi, j⟩ := q
        obtain ⟨j1, j2⟩ := rdB_len h2
        rw [List.length_drop] at j2
        have HB2 : Hid (bdV (rdB (l.drop (k + 1))) = .tuple #[.int .i64 hi, .int .i64 j]) := Lib.hid (by rw [h2]; rfl)
        have hj0 : (1 : Int) ≤ (j : Int) := by omega
        have hj00 : ((j : Int) == 0) = false := by simp; omega
        have hj000 : (j == 0) = false := by simp; omega
        have hjb : (k : Int) + 1 + (j : Int) ≤ 9223372036854775807 := by omega
        clear hv hn h1 hs k2 hm hkl h2 j2
        go_enter Tryd.func38, Tryd.ntmps38
        go_wp2_with (first
          | (go_at_call 63; ((with_reducible refine (iBd_any _ _ _ l _ (HV.out _ (below_al (Below.refl _ _) _)) HS.out).mono ?_); rw [HB.out]; rintro e w1 ⟨rfl, hb⟩; obtain ⟨hz, ⟨c0, c1⟩, f0, f1⟩ := box2f hb))
          | (go_at_call 39; ((with_reducible refine (iMk_any _ _ _ (l.drop k) ⟨#[46, 46]⟩ _ (HCT.out _ (HA.out _ _ _ hb))).mono ?_)); rw [HM.out]; rintro e w' ⟨rfl, rfl⟩)
          | (go_at_call 63; ((with_reducible refine (iBd_any _ _ _ (l.drop (k + 1)) _ (HC2.out _ (HA.out _ _ _ hb)) HSD.out).mono ?_)); rw [HB2.out]; rintro e w2 ⟨rfl, hb2⟩; obtain ⟨hz2, ⟨d0, d1⟩, g0, g1⟩ := box2f (below_step hb hb2)))
        all_goals exact bodyPost_ret (v := .tuple #[.agg #[.int .i64 lo, .int .i64 hi], .int .i64 ((k : Int) + 1 + j)]) (by simp [results, Tryd.results38, go_sem, d0, d1]) rfl ⟨rfl, ((HA.out _ _ _ (below_step hb hb2)).setCell (Nat.le_refl _) _).setCell (Nat.le_refl _) _⟩
end Go.Proofs.YtapalfmjebggfaaDoor
