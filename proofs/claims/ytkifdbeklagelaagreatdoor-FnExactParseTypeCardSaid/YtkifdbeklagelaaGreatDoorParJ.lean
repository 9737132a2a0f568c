/- MERGED for a claim: ParI ParJ. -/
import Derived.Test.YtkifdbeklagelaaGreatDoorParP
import Derived.Test.YtkifdbeklagelaaGreatDoorNumQ
import Derived.Deep.Slices
import Derived.Test.YtkifdbeklagelaaGreatDoorRngAi
import Derived.Test.YtkifdbeklagelaaGreatDoorLexC
set_option linter.unusedVariables false
set_option linter.unusedSimpArgs false
/- CHAPTER 4, RANGES READ: impl's beginsWithMark, readBound, readRange. -/
namespace Go.Proofs.YtkifdbeklagelaaGreatDoor
open Go.RowKit NumP

/-- the head of a list of tokens that is read -/
theorem HasT.head {w : World} {A : Option Addr} {n cap : Nat} {x : Tok} {r : List Tok} (h : HasT w (.slice A n cap) (x :: r)) :
    ∃ a, A = some a ∧ n = r.length + 1 ∧ a.block < w.heap.size ∧ w.cell? a = some (.int .i64 x.k) ∧ w.cell? ⟨a.block, a.off + 1, none⟩ = some (.string x.t) := by
  obtain ⟨A', cap', hv, hn, hc⟩ := h
  cases hv
  obtain ⟨a, ha, hb, hk⟩ := HasT.tk hc 0 (by simp)
  exact ⟨a, ha, by simp, hb, hk.1, hk.2.1⟩
theorem HasT.two {w : World} {A : Option Addr} {n cap : Nat} {x y : Tok} {r : List Tok} (h : HasT w (.slice A n cap) (x :: y :: r)) :
    ∃ a, A = some a ∧ w.cell? ⟨a.block, a.off + 3, none⟩ = some (.int .i64 y.k) ∧ w.cell? ⟨a.block, a.off + 4, none⟩ = some (.string y.t) := by
  obtain ⟨A', cap', hv, hn, hc⟩ := h
  cases hv
  obtain ⟨a, ha, hb, hk⟩ := HasT.tk hc 1 (by simp)
  exact ⟨a, ha, hk.1, hk.2.1⟩
theorem HasT.size {w : World} {A : Option Addr} {n cap : Nat} {l : List Tok} (h : HasT w (.slice A n cap) l) : n = l.length ∧ n ≤ 9223372036854775807 := by
  obtain ⟨A', cap', hv, hn, _⟩ := h
  cases hv
  exact ⟨rfl, hn⟩
set_option maxRecDepth 100000 in
theorem iMk_any (A : Option Addr) (n cap : Nat) (l : List Tok) (m : ByteArray) (w : World) (hv : HasT w (.slice A n cap) l) :
    Calls Tryz.prog 110 #[.slice A n cap, .string m] w fun e w' => e = .returned (.bool (mkB l m)) ∧ w = w' := by
  obtain ⟨hn, hn'⟩ := hv.size
  match l with
  | [] =>
    obtain rfl : n = 0 := by simpa using hn
    rw [mkB_nil]
    clear hv hn
    go_enter Tryz.func110, Tryz.ntmps110
    go_wp2
    go_ret
    exact ⟨rfl, rfl⟩
  | x :: r =>
    obtain ⟨a, rfl, hn2, hb, c0, c1⟩ := hv.head
    have h0 : (0 : Int) < (n : Int) := by omega
    have h0' : decide (0 < n) = true := decide_eq_true (by omega)
    clear hn hn2
    by_cases hk : x.k = 4
    · rw [mkB_text hk]
      have hk' : (x.k == 4) = true := by simpa using hk
      by_cases ht : x.t = m
      · rw [decide_eq_true ht]
        have ht1 : (x.t.toList == m.toList) = true := by rw [ht]; simp
        clear ht hk hv
        go_enter Tryz.func110, Tryz.ntmps110
        go_wp2
        go_ret
        exact ⟨rfl, rfl⟩
      · rw [decide_eq_false ht]
        have ht1 : (x.t.toList == m.toList) = false := by
          simp only [beq_eq_false_iff_ne, ne_eq]
          intro e; exact ht (by rw [ByteArray.toList_eq, ByteArray.toList_eq] at e; apply ByteArray.ext; exact Array.toList_inj.1 e)
        clear ht hk hv
        go_enter Tryz.func110, Tryz.ntmps110
        go_wp2
        go_ret
        exact ⟨rfl, rfl⟩
    · rw [mkB_kind hk]
      have hk' : (x.k == 4) = false := by simpa using hk
      clear hk hv
      go_enter Tryz.func110, Tryz.ntmps110
      go_wp2
      go_ret
      exact ⟨rfl, rfl⟩
/-- a bound and the tokens that it takes; 0, 0 for none -/
def bdV : Option (Int × Nat) → Value
  | some (n, k) => .tuple #[.int .i64 n, .int .i64 k]
  | none => .tuple #[.int .i64 0, .int .i64 0]
theorem rdB_minus {l : List Tok} (h : mkB l minusT = true) : rdB l = (numT [45] (l.drop 1)).map fun n => (n, 2) := by unfold rdB; rw [if_pos h]
theorem rdB_plain {l : List Tok} (h : mkB l minusT = false) : rdB l = (numT [] l).map fun n => (n, 1) := by unfold rdB; rw [if_neg (by rw [h]; simp)]
theorem numT_kind {sg : List UInt8} {x : Tok} {r : List Tok} (h : ¬ x.k = 2) : numT sg (x :: r) = none := if_neg h
theorem numT_num {sg : List UInt8} {x : Tok} {r : List Tok} (h : x.k = 2) : numT sg (x :: r) = parseL (sg ++ x.t.data.toList) := if_pos h
theorem data_app (a b : ByteArray) : (a ++ b).data.toList = a.data.toList ++ b.data.toList := by simp
theorem iPar_none (s : ByteArray) (hs : s.size ≤ maxLen) (h : parseL s.data.toList = none) (w : World) :
    Calls Tryz.prog 165 #[.string s] w fun e w' => e = .returned (.tuple #[.int .i64 0, .bool false]) ∧ Below w.heap.size w w' :=
  (iParse_any s hs w).mono fun _ _ ⟨he, hb⟩ => ⟨by rw [he, h]; rfl, hb⟩
theorem iPar_some (s : ByteArray) (hs : s.size ≤ maxLen) (n : Int) (h : parseL s.data.toList = some n) (w : World) :
    Calls Tryz.prog 165 #[.string s] w fun e w' => e = .returned (.tuple #[.int .i64 n, .bool true]) ∧ Below w.heap.size w w' :=
  (iParse_any s hs w).mono fun _ _ ⟨he, hb⟩ => ⟨by rw [he, h]; rfl, hb⟩
set_option maxRecDepth 100000 in
set_option maxHeartbeats 1000000 in
theorem iBd_any (A : Option Addr) (n cap : Nat) (l : List Tok) (w : World) (hv : HasT w (.slice A n cap) l) (hs : ∀ x ∈ l, x.t.size ≤ 1048576) :
    Calls Tryz.prog 138 #[.slice A n cap] w fun e w' => e = .returned (bdV (rdB l)) ∧ Below w.heap.size w w' := by
  have HV := Lib.hid hv
  obtain ⟨hn, hn'⟩ := hv.size
  cases hm : mkB l minusT with
  | true =>
    have HM : Hid (mkB l ⟨#[45]⟩ = true) := Lib.hid hm
    rw [rdB_minus hm]
    match l, hm with
    | x :: r, hm =>
      match r with
      | [] =>
        obtain rfl : n = 1 := by simpa using hn
        clear hv hn hs hm
        go_enter Tryz.func138, Tryz.ntmps138
        go_wp2_with (go_at_call 110; refine (iMk_any _ _ _ _ ⟨#[45]⟩ _ HV.out).mono ?_; rw [HM.out]; rintro e w' ⟨rfl, rfl⟩)
        go_ret2
        exact ⟨rfl, Below.refl _ _⟩
      | y :: r =>
        obtain ⟨a, rfl, c0, c1⟩ := hv.two
        have c1' : w.cell? ⟨a.block, a.off + 3 + 1, none⟩ = some (.string y.t) := c1
        have hsz := hs y (by simp)
        have hn2 : (2 : Int) ≤ (n : Int) := by simp at hn; omega
        have hn1 : (1 : Int) < (n : Int) := by omega
        have hne : ((1 : Int) == (n : Int)) = false := by simp; omega
        have hne' : ((1 : Nat) == n) = false := by simp; omega
        clear hn hv hm hs
        rw [show (x :: y :: r).drop 1 = y :: r from rfl]
        by_cases hk : y.k = 2
        · have hk' : (y.k != 2) = false := by simpa using hk
          have HP0 : Hid (numT [45] (y :: r) = parseL ((⟨#[45]⟩ : ByteArray) ++ y.t).data.toList) := Lib.hid (by rw [numT_num hk, data_app])
          have hz : ((⟨#[45]⟩ : ByteArray) ++ y.t).size ≤ maxLen := by rw [ByteArray.size_append]; show 1 + y.t.size ≤ maxLen; unfold maxLen; omega
          have HZ := Lib.hid hz
          clear hk hz
          rw [HP0.out]
          cases hp : parseL ((⟨#[45]⟩ : ByteArray) ++ y.t).data.toList with
          | none =>
            have HP := Lib.hid hp
            clear hp HP0
            go_enter Tryz.func138, Tryz.ntmps138
            go_wp2_with (first
              | (go_at_call 110; refine (iMk_any _ _ _ _ ⟨#[45]⟩ _ HV.out).mono ?_; rw [HM.out]; rintro e w' ⟨rfl, rfl⟩)
              | (go_at_call 165; refine (iPar_none _ HZ.out HP.out _).mono ?_; rintro e w1 ⟨rfl, hb⟩))
            go_ret2
            exact ⟨rfl, hb⟩
          | some m =>
            have HP := Lib.hid hp
            clear hp HP0
            go_enter Tryz.func138, Tryz.ntmps138
            go_wp2_with (first
              | (go_at_call 110; refine (iMk_any _ _ _ _ ⟨#[45]⟩ _ HV.out).mono ?_; rw [HM.out]; rintro e w' ⟨rfl, rfl⟩)
              | (go_at_call 165; refine (iPar_some _ HZ.out m HP.out _).mono ?_; rintro e w1 ⟨rfl, hb⟩))
            go_ret2
            exact ⟨rfl, hb⟩
        · have hk' : (y.k != 2) = true := by simpa using hk
          rw [numT_kind hk]
          clear hk
          go_enter Tryz.func138, Tryz.ntmps138
          go_wp2_with (go_at_call 110; refine (iMk_any _ _ _ _ ⟨#[45]⟩ _ HV.out).mono ?_; rw [HM.out]; rintro e w' ⟨rfl, rfl⟩)
          go_ret2
          exact ⟨rfl, Below.refl _ _⟩
  | false =>
    have HM : Hid (mkB l ⟨#[45]⟩ = false) := Lib.hid hm
    rw [rdB_plain hm]
    match l with
    | [] =>
      obtain rfl : n = 0 := by simpa using hn
      clear hv hn hs hm
      go_enter Tryz.func138, Tryz.ntmps138
      go_wp2_with (go_at_call 110; refine (iMk_any _ _ _ _ ⟨#[45]⟩ _ HV.out).mono ?_; rw [HM.out]; rintro e w' ⟨rfl, rfl⟩)
      go_ret2
      exact ⟨rfl, Below.refl _ _⟩
    | x :: r =>
      obtain ⟨a, rfl, hn2, hb0, c0, c1⟩ := hv.head
      have hsz := hs x (by simp)
      have hn1 : (0 : Int) < (n : Int) := by omega
      have hne : ((0 : Int) == (n : Int)) = false := by simp; omega
      have hne' : ((0 : Nat) == n) = false := by simp; omega
      clear hn hn2 hv hm hs
      by_cases hk : x.k = 2
      · have hk' : (x.k != 2) = false := by simpa using hk
        have HP0 : Hid (numT [] (x :: r) = parseL ((⟨#[]⟩ : ByteArray) ++ x.t).data.toList) := Lib.hid (by rw [numT_num hk, data_app])
        have hz : ((⟨#[]⟩ : ByteArray) ++ x.t).size ≤ maxLen := by rw [ByteArray.size_append]; show 0 + x.t.size ≤ maxLen; unfold maxLen; omega
        have HZ := Lib.hid hz
        clear hk hz
        rw [HP0.out]
        cases hp : parseL ((⟨#[]⟩ : ByteArray) ++ x.t).data.toList with
        | none =>
          have HP := Lib.hid hp
          clear hp HP0
          go_enter Tryz.func138, Tryz.ntmps138
          go_wp2_with (first
            | (go_at_call 110; refine (iMk_any _ _ _ _ ⟨#[45]⟩ _ HV.out).mono ?_; rw [HM.out]; rintro e w' ⟨rfl, rfl⟩)
            | (go_at_call 165; refine (iPar_none _ HZ.out HP.out _).mono ?_; rintro e w1 ⟨rfl, hb⟩))
          go_ret2
          exact ⟨rfl, hb⟩
        | some m =>
          have HP := Lib.hid hp
          clear hp HP0
          go_enter Tryz.func138, Tryz.ntmps138
          go_wp2_with (first
            | (go_at_call 110; refine (iMk_any _ _ _ _ ⟨#[45]⟩ _ HV.out).mono ?_; rw [HM.out]; rintro e w' ⟨rfl, rfl⟩)
            | (go_at_call 165; refine (iPar_some _ HZ.out m HP.out _).mono ?_; rintro e w1 ⟨rfl, hb⟩))
          go_ret2
          exact ⟨rfl, hb⟩
      · have hk' : (x.k != 2) = true := by simpa using hk
        rw [numT_kind hk]
        clear hk
        go_enter Tryz.func138, Tryz.ntmps138
        go_wp2_with (go_at_call 110; refine (iMk_any _ _ _ _ ⟨#[45]⟩ _ HV.out).mono ?_; rw [HM.out]; rintro e w' ⟨rfl, rfl⟩)
        go_ret2
        exact ⟨rfl, Below.refl _ _⟩
/-- a range and the tokens that it takes -/
def rgV : Option (Rg × Nat) → Value
  | some (x, k) => .tuple #[.agg #[.int .i64 x.lo, .int .i64 x.hi], .int .i64 k]
  | none => .tuple #[.agg #[.int .i64 0, .int .i64 0], .int .i64 0]
theorem rdR_none {l : List Tok} (h : rdB l = none) : rdR l = none := by unfold rdR; rw [h]; rfl
theorem rdR_one {l : List Tok} {lo : Int} {k : Nat} (h : rdB l = some (lo, k)) (hm : mkB (l.drop k) dotsT = false) : rdR l = some (⟨lo, lo⟩, k) := by
  unfold rdR; rw [h, Option.bind_some]; simp only; rw [if_neg (by rw [hm]; simp)]
theorem rdR_two {l : List Tok} {lo : Int} {k : Nat} (h : rdB l = some (lo, k)) (hm : mkB (l.drop k) dotsT = true) : rdR l = (rdB (l.drop (k + 1))).map fun (hi, j) => (⟨lo, hi⟩, k + 1 + j) := by
  unfold rdR; rw [h, Option.bind_some]; simp only; rw [if_pos hm]
/-- a list of tokens cut at its beginning -/
theorem HasT.cut {w : World} {a : Addr} {n cap : Nat} {l : List Tok} (h : HasT w (.slice (some a) n cap) l) (hc : n ≤ cap) {k : Nat} (hk : k ≤ n) :
    HasT w (.slice (if cap = k then some a else some (a.add (k * 3))) (n - k) (cap - k)) (l.drop k) := by
  obtain ⟨A', cap', hv, hn, hcell⟩ := h
  cases hv
  by_cases e : cap = k
  · rw [if_pos e]
    refine ⟨some a, cap - k, by rw [List.length_drop], by rw [List.length_drop]; omega, fun i hi => ?_⟩
    rw [List.length_drop] at hi; omega
  · rw [if_neg e]
    refine ⟨some (a.add (k * 3)), cap - k, by rw [List.length_drop], by rw [List.length_drop]; omega, fun i hi => ?_⟩
    rw [List.length_drop] at hi
    obtain ⟨a', h1, h2, h3⟩ := hcell (k + i) (by omega)
    cases h1
    refine ⟨_, rfl, by rw [addr_blk]; exact h2, fun j x hx => ?_⟩
    rw [List.getElem_drop] at hx
    rw [show (a.add (k * 3)).add (i * 3) = a.add ((k + i) * 3) by rw [Go.Deep.add_add, Nat.add_mul]]
    exact h3 j x hx
theorem box2f {w w1 : World} {v0 v1 : Value} {t : TypeId} (h : Below (w.alloc (.cells #[v0, v1] t)).heap.size (w.alloc (.cells #[v0, v1] t)) w1) :
    w.heap.size < w1.heap.size ∧ (w1.cell? ⟨w.heap.size, 0, none⟩ = some v0 ∧ w1.cell? ⟨w.heap.size, 1, none⟩ = some v1) ∧ w1.frozen? ⟨w.heap.size, 0, none⟩ = false ∧ w1.frozen? ⟨w.heap.size, 1, none⟩ = false := by
  have hl : w.heap.size < (w.alloc (.cells #[v0, v1] t)).heap.size := by simp
  have hf : ∀ j, w1.frozen? ⟨w.heap.size, j, none⟩ = false := fun j => by
    rw [h.frozen (p := ⟨w.heap.size, j, none⟩) hl]
    unfold World.frozen?
    dsimp only
    rw [heap_alloc_new]
    simp
  exact ⟨Nat.lt_of_lt_of_le hl h.size, box2 h, hf 0, hf 1⟩
set_option maxRecDepth 100000 in
set_option maxHeartbeats 2000000 in
theorem iRg_any (A : Option Addr) (n cap : Nat) (l : List Tok) (w : World) (hv : HasT w (.slice A n cap) l) (hc : n ≤ cap) (hcm : cap ≤ 9223372036854775807) (hs : ∀ x ∈ l, x.t.size ≤ 1048576) :
    Calls Tryz.prog 109 #[.slice A n cap] w fun e w' => e = .returned (rgV (rdR l)) ∧ Below w.heap.size w w' := by
  obtain ⟨hn, hn'⟩ := hv.size
  have HV : Hid (∀ W, Below w.heap.size w W → HasT W (.slice A n cap) l) := Lib.hid fun W h => HasR.below hv h
  have HS := Lib.hid hs
  have HA : Hid (∀ v0 v1 W, Below (w.alloc (.cells #[v0, v1] 81)).heap.size (w.alloc (.cells #[v0, v1] 81)) W → Below w.heap.size w W) := Lib.hid fun v0 v1 W h => below_step (below_al (Below.refl _ _) _) h
  cases h1 : rdB l with
  | none =>
    have HB : Hid (bdV (rdB l) = .tuple #[.int .i64 0, .int .i64 0]) := Lib.hid (by rw [h1]; rfl)
    rw [rdR_none h1]
    clear hv hn h1 hs
    go_enter Tryz.func109, Tryz.ntmps109
    go_wp2_with (go_at_call 138; refine (iBd_any _ _ _ l _ (HV.out _ (below_al (Below.refl _ _) _)) HS.out).mono ?_; rw [HB.out]; rintro e w1 ⟨rfl, hb⟩; obtain ⟨hz, ⟨c0, c1⟩, f0, f1⟩ := box2f hb)
    exact bodyPost_ret (v := .tuple #[.agg #[.int .i64 0, .int .i64 0], .int .i64 0]) (by simp [results, Tryz.results109, go_sem, c0, c1]) rfl ⟨rfl, ((HA.out _ _ _ hb).setCell (Nat.le_refl _) _).setCell (Nat.le_refl _) _⟩
  | some p =>
    obtain ⟨lo, k⟩ := p
    obtain ⟨k1, k2⟩ := rdB_len h1
    have HB : Hid (bdV (rdB l) = .tuple #[.int .i64 lo, .int .i64 k]) := Lib.hid (by rw [h1]; rfl)
    obtain ⟨a, rfl⟩ : ∃ a, A = some a := by
      match l, k2 with
      | [], k2 => simp at k2; omega
      | x :: r, _ => obtain ⟨a, ha, _⟩ := hv.head; exact ⟨a, ha⟩
    have hkn : k ≤ n := by omega
    have hkn' : (k : Int) ≤ (n : Int) := by omega
    have hnc' : (n : Int) ≤ (cap : Int) := by omega
    have hkc' : (k : Int) ≤ (cap : Int) := by omega
    have hk0 : (1 : Int) ≤ (k : Int) := by omega
    have hk00 : ((k : Int) == 0) = false := by simp; omega
    have hk000 : (k == 0) = false := by simp; omega
    have HC : Hid (∀ W, Below w.heap.size w W → HasT W (.slice (if cap = k then some a else some (a.add (k * 3))) (n - k) (cap - k)) (l.drop k)) := Lib.hid fun W h => HasT.cut (HasR.below hv h) hc hkn
    have HSD : Hid (∀ x ∈ l.drop (k + 1), x.t.size ≤ 1048576) := Lib.hid fun x hx => hs x (List.mem_of_mem_drop hx)
    cases hm : mkB (l.drop k) dotsT with
    | false =>
      have HM : Hid (mkB (l.drop k) ⟨#[46, 46]⟩ = false) := Lib.hid hm
      rw [rdR_one h1 hm]
      clear hv hn h1 hs k2 hm
      go_enter Tryz.func109, Tryz.ntmps109
      go_wp2_with (first
        | (go_at_call 138; refine (iBd_any _ _ _ l _ (HV.out _ (below_al (Below.refl _ _) _)) HS.out).mono ?_; rw [HB.out]; rintro e w1 ⟨rfl, hb⟩; obtain ⟨hz, ⟨c0, c1⟩, f0, f1⟩ := box2f hb)
        | (go_at_call 110; refine (iMk_any _ _ _ (l.drop k) ⟨#[46, 46]⟩ _ (HC.out _ (HA.out _ _ _ hb))).mono ?_; rw [HM.out]; rintro e w' ⟨rfl, rfl⟩))
      all_goals exact bodyPost_ret (v := .tuple #[.agg #[.int .i64 lo, .int .i64 lo], .int .i64 k]) (by simp [results, Tryz.results109, go_sem, c0, c1]) rfl ⟨rfl, ((HA.out _ _ _ hb).setCell (Nat.le_refl _) _).setCell (Nat.le_refl _) _⟩
    | true =>
      have HM : Hid (mkB (l.drop k) ⟨#[46, 46]⟩ = true) := Lib.hid hm
      have hkl := mkB_len hm
      have hkn1 : k + 1 ≤ n := by omega
      have hkn1' : (k : Int) + 1 ≤ (n : Int) := by omega
      have hkc1' : (k : Int) + 1 ≤ (cap : Int) := by omega
      have htn1 : ((k : Int) + 1).toNat = k + 1 := by omega
      have HCT : Hid (∀ W, Below w.heap.size w W → HasT W (.slice (some (a.add (k * 3))) (n - k) (cap - k)) (l.drop k)) := Lib.hid fun W h => by
        have := HC.out W h
        rwa [if_neg (by omega)] at this
      have HC2 : Hid (∀ W, Below w.heap.size w W → HasT W (.slice (if cap = k + 1 then some a else some (a.add ((k + 1) * 3))) (n - (k + 1)) (cap - (k + 1))) (l.drop (k + 1))) := Lib.hid fun W h => HasT.cut (HasR.below hv h) hc hkn1
      rw [rdR_two h1 hm]
      cases h2 : rdB (l.drop (k + 1)) with
      | none =>
        have HB2 : Hid (bdV (rdB (l.drop (k + 1))) = .tuple #[.int .i64 0, .int .i64 0]) := Lib.hid (by rw [h2]; rfl)
        clear hv hn h1 hs k2 hm hkl h2
        go_enter Tryz.func109, Tryz.ntmps109
        go_wp2_with (first
          | (go_at_call 138; ((with_reducible refine (iBd_any _ _ _ l _ (HV.out _ (below_al (Below.refl _ _) _)) HS.out).mono ?_); rw [HB.out]; rintro e w1 ⟨rfl, hb⟩; obtain ⟨hz, ⟨c0, c1⟩, f0, f1⟩ := box2f hb))
          | (go_at_call 110; ((with_reducible refine (iMk_any _ _ _ (l.drop k) ⟨#[46, 46]⟩ _ (HCT.out _ (HA.out _ _ _ hb))).mono ?_)); rw [HM.out]; rintro e w' ⟨rfl, rfl⟩)
          | (go_at_call 138; ((with_reducible refine (iBd_any _ _ _ (l.drop (k + 1)) _ (HC2.out _ (HA.out _ _ _ hb)) HSD.out).mono ?_)); rw [HB2.out]; rintro e w2 ⟨rfl, hb2⟩; obtain ⟨hz2, ⟨d0, d1⟩, g0, g1⟩ := box2f (below_step hb hb2)))
        all_goals exact bodyPost_ret (v := .tuple #[.agg #[.int .i64 0, .int .i64 0], .int .i64 0]) (by simp [results, Tryz.results109, go_sem, d0, d1]) rfl ⟨rfl, ((HA.out _ _ _ (below_step hb hb2)).setCell (Nat.le_refl _) _).setCell (Nat.le_refl _) _⟩
      | some q =>
        obtain ⟨hi, j⟩ := q
        obtain ⟨j1, j2⟩ := rdB_len h2
        rw [List.length_drop] at j2
        have HB2 : Hid (bdV (rdB (l.drop (k + 1))) = .tuple #[.int .i64 hi, .int .i64 j]) := Lib.hid (by rw [h2]; rfl)
        have hj0 : (1 : Int) ≤ (j : Int) := by omega
        have hj00 : ((j : Int) == 0) = false := by simp; omega
        have hj000 : (j == 0) = false := by simp; omega
        have hjb : (k : Int) + 1 + (j : Int) ≤ 9223372036854775807 := by omega
        clear hv hn h1 hs k2 hm hkl h2 j2
        go_enter Tryz.func109, Tryz.ntmps109
        go_wp2_with (first
          | (go_at_call 138; ((with_reducible refine (iBd_any _ _ _ l _ (HV.out _ (below_al (Below.refl _ _) _)) HS.out).mono ?_); rw [HB.out]; rintro e w1 ⟨rfl, hb⟩; obtain ⟨hz, ⟨c0, c1⟩, f0, f1⟩ := box2f hb))
          | (go_at_call 110; ((with_reducible refine (iMk_any _ _ _ (l.drop k) ⟨#[46, 46]⟩ _ (HCT.out _ (HA.out _ _ _ hb))).mono ?_)); rw [HM.out]; rintro e w' ⟨rfl, rfl⟩)
          | (go_at_call 138; ((with_reducible refine (iBd_any _ _ _ (l.drop (k + 1)) _ (HC2.out _ (HA.out _ _ _ hb)) HSD.out).mono ?_)); rw [HB2.out]; rintro e w2 ⟨rfl, hb2⟩; obtain ⟨hz2, ⟨d0, d1⟩, g0, g1⟩ := box2f (below_step hb hb2)))
        all_goals exact bodyPost_ret (v := .tuple #[.agg #[.int .i64 lo, .int .i64 hi], .int .i64 ((k : Int) + 1 + j)]) (by simp [results, Tryz.results109, go_sem, d0, d1]) rfl ⟨rfl, ((HA.out _ _ _ (below_step hb hb2)).setCell (Nat.le_refl _) _).setCell (Nat.le_refl _) _⟩
end Go.Proofs.YtkifdbeklagelaaGreatDoor

/- CHAPTER 4, RANGES READ: impl's readRanges, ParseRanges. -/
namespace Go.Proofs.YtkifdbeklagelaaGreatDoor
open Go.RowKit NumP

/-- what readRanges hands back in w': a list of the call's own, and the tokens that it takes -/
def RsV (B : Nat) (res : Option (List Rg × Nat)) (e : Ending) (w' : World) : Prop := match res with
  | some (R, k) => ∃ v', e = .returned (.tuple #[v', .int .i64 k]) ∧ RowG B w' v' R
  | none => ∃ v', e = .returned (.tuple #[v', .int .i64 0]) ∧ RowG B w' v' []
theorem rgV_none {o : Option (Rg × Nat)} (h : o = none) : rgV o = .tuple #[.agg #[.int .i64 0, .int .i64 0], .int .i64 0] := by rw [h]; rfl
theorem rgV_some {o : Option (Rg × Nat)} {x : Rg} {k : Nat} (h : o = some (x, k)) : rgV o = .tuple #[.agg #[.int .i64 x.lo, .int .i64 x.hi], .int .i64 k] := by rw [h]; rfl
theorem rowG_new2 (w : World) (o : Obj) (B : Nat) (h : B ≤ w.heap.size) : RowG B ((w.alloc o).alloc (.cells #[] 81)) (.slice (some ⟨w.heap.size + 1, 0, none⟩) 0 0) [] := by
  have := rowG_new (w.alloc o) B (by simp; omega)
  simpa using this
set_option maxRecDepth 100000 in
theorem iRs_nil (w : World) (res : Option (List Rg × Nat)) (hr : Run [] 0 [] res) :
    Calls Tryz.prog 74 #[.slice none 0 0] w fun e w' => RsV w.heap.size res e w' ∧ Below w.heap.size w w' := by
  rcases hr.inv with ⟨h1, rfl⟩ | ⟨x, k, h1, _⟩
  · have HE := Lib.hid (rgV_none h1)
    clear h1 hr
    have HN : Hid (∀ W : World, HasT W (.slice none 0 0) []) := Lib.hid fun W => hasR_nil W
    go_enter Tryz.func74, Tryz.ntmps74
    go_wp2
    go_loopw [4, 5] (fun u i wr => i = .int .i64 0 ∧ wr = w.alloc (.cells #[] 81)) (fun _ _ _ => 0)
    case atStart => exact ⟨rfl, rfl⟩
    case round =>
      obtain ⟨rfl, rfl⟩ := hrel
      go_wp2_with (go_at_call 109; refine (iRg_any none 0 0 [] _ (HN.out _) (by omega) (by omega) (by simp)).mono ?_; rw [show ([] : List Tok) = List.drop 0 [] from rfl, HE.out]; rintro e w1 ⟨rfl, hb⟩)
      go_ret2
      have hB1 : Below w.heap.size w w1 := below_step (below_al (Below.refl _ _) _) hb
      exact ⟨⟨_, rfl, rowG_new2 _ _ _ hB1.size⟩, below_al (below_al hB1 _) _⟩
  · have := (rdR_len h1).2; simp at this
    have := (rdR_len h1).1; omega
theorem HasT.cutN {w : World} {a : Addr} {n cap : Nat} {l : List Tok} (h : HasT w (.slice (some a) n cap) l) (hc : n ≤ cap) {k : Nat} (hk : k ≤ n) (e : ¬ cap = k) : HasT w (.slice (some (a.add (k * 3))) (n - k) (cap - k)) (l.drop k) := by
  have := HasT.cut h hc hk
  rwa [if_neg e] at this
theorem HasT.cutE {w : World} {a : Addr} {n cap : Nat} {l : List Tok} (h : HasT w (.slice (some a) n cap) l) (hc : n ≤ cap) {k : Nat} (hk : k ≤ n) (e : cap = k) : HasT w (.slice (some a) (n - k) (cap - k)) (l.drop k) := by
  have := HasT.cut h hc hk
  rwa [if_pos e] at this
set_option maxRecDepth 100000 in
set_option maxHeartbeats 2000000 in
theorem iRs_some (a : Addr) (n cap : Nat) (T : List Tok) (w : World) (hv : HasT w (.slice (some a) n cap) T) (hc : n ≤ cap) (hcm : cap ≤ 9223372036854775807) (hnb : n ≤ 1048576) (hs : ∀ x ∈ T, x.t.size ≤ 1048576) (res : Option (List Rg × Nat)) (hr : Run T 0 [] res) :
    Calls Tryz.prog 74 #[.slice (some a) n cap] w fun e w' => RsV w.heap.size res e w' ∧ Below w.heap.size w w' := by
  obtain ⟨hn, hn'⟩ := hv.size
  have HN := Lib.hid hn
  have HR := Lib.hid hr
  have HV : Hid (∀ W, Below w.heap.size w W → HasT W (.slice (some a) n cap) T) := Lib.hid fun W h => HasR.below hv h
  have HSD : Hid (∀ p, ∀ x ∈ T.drop p, x.t.size ≤ 1048576) := Lib.hid fun p x hx => hs x (List.mem_of_mem_drop hx)
  have hrow0 : RowG w.heap.size (w.alloc (.cells #[] 81)) (.slice (some ⟨w.heap.size, 0, none⟩) 0 0) [] := rowG_new w _ (Nat.le_refl _)
  have hb0 : Below w.heap.size w (w.alloc (.cells #[] 81)) := below_al (Below.refl _ _) _
  have hnc' : (n : Int) ≤ (cap : Int) := by omega
  clear hv hs hr hn
  go_enter Tryz.func74, Tryz.ntmps74
  go_wp2
  go_loopw [4, 5] (fun u i wr => ∃ (p m g c : Nat) (R : List Rg), p ≤ n ∧ m ≤ p ∧ i = .int .i64 p ∧ u = .slice (some ⟨g, 0, none⟩) m c ∧ Hid (Run T p R res) ∧ RowG w.heap.size wr (.slice (some ⟨g, 0, none⟩) m c) R ∧ Below w.heap.size w wr) (fun _ i _ => n - (intOf i).toNat)
  case atStart => exact ⟨0, 0, w.heap.size, 0, [], by omega, by omega, rfl, rfl, HR, hrow0, hb0⟩
  case round =>
    obtain ⟨p, m, g, c, R, hp, hm, rfl, rfl, HRun, hrow, hbel⟩ := hrel
    clear hrow0 hb0
    have hpn' : (p : Int) ≤ (n : Int) := by omega
    have hpc' : (p : Int) ≤ (cap : Int) := by omega
    have hgb := (hrow.lt rfl).1
    rcases HRun.out.inv with ⟨h1, h2⟩ | ⟨x, k, h1, h2⟩
    · have HE := Lib.hid (rgV_none h1)
      have HRES : Hid (res = none) := Lib.hid h2
      clear h1 h2 hrow
      by_cases hcp : cap = p
      · have HC : Hid (∀ W, Below w.heap.size w W → HasT W (.slice (some a) 0 0) (T.drop p)) := Lib.hid fun W h => by
          have := (HV.out W h).cutE hc hp hcp
          rwa [show cap - p = 0 by omega, show n - p = 0 by omega] at this
        obtain rfl : p = cap := hcp.symm
        go_wp2_with (go_at_call 109; ((with_reducible refine (iRg_any _ _ _ (T.drop p) _ (HC.out _ hbel) (by omega) (by omega) (HSD.out p)).mono ?_)); rw [HE.out]; rintro e w1 ⟨rfl, hb⟩)
        go_ret2
        have hB1 : Below w.heap.size w w1 := below_step hbel hb
        rw [HRES.out]
        exact ⟨⟨_, rfl, rowG_new2 _ _ _ hB1.size⟩, below_al (below_al hB1 _) _⟩
      · have HC : Hid (∀ W, Below w.heap.size w W → HasT W (.slice (some (a.add (p * 3))) (n - p) (cap - p)) (T.drop p)) := Lib.hid fun W h => (HV.out W h).cutN hc hp hcp
        go_wp2_with (go_at_call 109; ((with_reducible refine (iRg_any _ _ _ (T.drop p) _ (HC.out _ hbel) (by omega) (by omega) (HSD.out p)).mono ?_)); rw [HE.out]; rintro e w1 ⟨rfl, hb⟩)
        go_ret2
        have hB1 : Below w.heap.size w w1 := below_step hbel hb
        rw [HRES.out]
        exact ⟨⟨_, rfl, rowG_new2 _ _ _ hB1.size⟩, below_al (below_al hB1 _) _⟩
    · have HE := Lib.hid (rgV_some h1)
      obtain ⟨k1, k2⟩ := rdR_len h1
      rw [List.length_drop, ← HN.out] at k2
      clear h1
      have hpk : p + k ≤ n := by omega
      have hcp : ¬ cap = p := by omega
      have HC : Hid (∀ W, Below w.heap.size w W → HasT W (.slice (some (a.add (p * 3))) (n - p) (cap - p)) (T.drop p)) := Lib.hid fun W h => (HV.out W h).cutN hc hp hcp
      have hk00 : ((k : Int) == 0) = false := by simp; omega
      have hk000 : (k == 0) = false := by simp; omega
      have hk0 : (1 : Int) ≤ (k : Int) := by omega
      have hpk' : (p : Int) + (k : Int) ≤ (n : Int) := by omega
      have hpkc' : (p : Int) + (k : Int) ≤ (cap : Int) := by omega
      have hpk0 : (0 : Int) ≤ (p : Int) + (k : Int) := by omega
      have hpkt : ((p : Int) + (k : Int)).toNat = p + k := by omega
      have hw1 : IntKind.i64.wrap ((p : Int) + (k : Int)) = (p : Int) + (k : Int) := IntWalk.i64_in _ (by omega)
      have HM1 : Hid (m + 1 ≤ 549755813888) := Lib.hid (by omega)
      rcases h2 with ⟨hmk, h2⟩ | ⟨hmk, h2⟩
      · have HMK : Hid (mkB (T.drop (p + k)) ⟨#[124]⟩ = false) := Lib.hid hmk
        have HRES : Hid (res = some (R ++ [x], p + k)) := Lib.hid h2
        clear hmk h2
        by_cases hcq : cap = p + k
        · have HC2 : Hid (∀ W, Below w.heap.size w W → HasT W (.slice (some a) 0 0) (T.drop (p + k))) := Lib.hid fun W h => by
            have := (HV.out W h).cutE hc hpk hcq
            rwa [show cap - (p + k) = 0 by omega, show n - (p + k) = 0 by omega] at this
          have HCk := Lib.hid fun W (h : Below w.heap.size w W) => (show HasT W (.slice (some (a.add (p * 3))) (n - p) k) (T.drop p) by
            have := HC.out W h
            rwa [show cap - p = k by omega] at this)
          clear HC
          subst hcq
          go_wp2_with (first
            | (go_at_call 109; ((with_reducible refine (iRg_any _ _ _ (T.drop p) _ (HCk.out _ hbel) (by omega) (by omega) (HSD.out p)).mono ?_)); rw [HE.out]; rintro e w1 ⟨rfl, hb⟩; have hrow1 := RowR.below hrow hb; have hbel1 := below_step hbel hb; have hrow2 := RowR.alloc hrow1 (.cells #[.int .i64 x.lo, .int .i64 x.hi] 81); have hbel2 := below_al hbel1 (.cells #[.int .i64 x.lo, .int .i64 x.hi] 81); clear hb hrow hbel hrow1 hbel1)
            | (at_builtin; refine wpList_rng_append rfl _ _ rfl w.heap.size g m c R (by rfl) hrow2 x (w1.heap.size + 1) (by rfl) (by simp) HM1.out hbel2.size (m + 1) rfl ?_; intro g' c' w4 hrow4 hg4; have hbel4 := (below_al hbel2 (.cells #[.int .i64 x.lo, .int .i64 x.hi] 81)).grown hg4 (below_al hbel2 _).size (fun _ h => by cases h; exact hgb); clear hrow2 hbel2 hg4)
            | (go_at_call 110; ((with_reducible refine (iMk_any _ _ _ (T.drop (p + k)) ⟨#[124]⟩ _ (HC2.out _ hbel4)).mono ?_)); rw [HMK.out]; rintro e w' ⟨rfl, rfl⟩))
          go_ret2
          rw [HRES.out]
          exact ⟨⟨.slice (some ⟨g', 0, none⟩) (m + 1) c', by rw [Int.natCast_add]; rfl, hrow4⟩, hbel4⟩
        · have HC2 : Hid (∀ W, Below w.heap.size w W → HasT W (.slice (some (a.add ((p + k) * 3))) (n - (p + k)) (cap - (p + k))) (T.drop (p + k))) := Lib.hid fun W h => (HV.out W h).cutN hc hpk hcq
          go_wp2_with (first
            | (go_at_call 109; ((with_reducible refine (iRg_any _ _ _ (T.drop p) _ (HC.out _ hbel) (by omega) (by omega) (HSD.out p)).mono ?_)); rw [HE.out]; rintro e w1 ⟨rfl, hb⟩; have hrow1 := RowR.below hrow hb; have hbel1 := below_step hbel hb; have hrow2 := RowR.alloc hrow1 (.cells #[.int .i64 x.lo, .int .i64 x.hi] 81); have hbel2 := below_al hbel1 (.cells #[.int .i64 x.lo, .int .i64 x.hi] 81); clear hb hrow hbel hrow1 hbel1)
            | (at_builtin; refine wpList_rng_append rfl _ _ rfl w.heap.size g m c R (by rfl) hrow2 x (w1.heap.size + 1) (by rfl) (by simp) HM1.out hbel2.size (m + 1) rfl ?_; intro g' c' w4 hrow4 hg4; have hbel4 := (below_al hbel2 (.cells #[.int .i64 x.lo, .int .i64 x.hi] 81)).grown hg4 (below_al hbel2 _).size (fun _ h => by cases h; exact hgb); clear hrow2 hbel2 hg4)
            | (go_at_call 110; ((with_reducible refine (iMk_any _ _ _ (T.drop (p + k)) ⟨#[124]⟩ _ (HC2.out _ hbel4)).mono ?_)); rw [HMK.out]; rintro e w' ⟨rfl, rfl⟩))
          go_ret2
          rw [HRES.out]
          exact ⟨⟨.slice (some ⟨g', 0, none⟩) (m + 1) c', by rw [Int.natCast_add]; rfl, hrow4⟩, hbel4⟩
      · have HMK : Hid (mkB (T.drop (p + k)) ⟨#[124]⟩ = true) := Lib.hid hmk
        have hlt := mkB_len hmk
        rw [← HN.out] at hlt
        have HRUN2 := Lib.hid h2
        clear hmk h2
        have hcq : ¬ cap = p + k := by omega
        have HC2 : Hid (∀ W, Below w.heap.size w W → HasT W (.slice (some (a.add ((p + k) * 3))) (n - (p + k)) (cap - (p + k))) (T.drop (p + k))) := Lib.hid fun W h => (HV.out W h).cutN hc hpk hcq
        go_wp2_with (first
          | (go_at_call 109; ((with_reducible refine (iRg_any _ _ _ (T.drop p) _ (HC.out _ hbel) (by omega) (by omega) (HSD.out p)).mono ?_)); rw [HE.out]; rintro e w1 ⟨rfl, hb⟩; have hrow1 := RowR.below hrow hb; have hbel1 := below_step hbel hb; have hrow2 := RowR.alloc hrow1 (.cells #[.int .i64 x.lo, .int .i64 x.hi] 81); have hbel2 := below_al hbel1 (.cells #[.int .i64 x.lo, .int .i64 x.hi] 81); clear hb hrow hbel hrow1 hbel1)
          | (at_builtin; refine wpList_rng_append rfl _ _ rfl w.heap.size g m c R (by rfl) hrow2 x (w1.heap.size + 1) (by rfl) (by simp) HM1.out hbel2.size (m + 1) rfl ?_; intro g' c' w4 hrow4 hg4; have hbel4 := (below_al hbel2 (.cells #[.int .i64 x.lo, .int .i64 x.hi] 81)).grown hg4 (below_al hbel2 _).size (fun _ h => by cases h; exact hgb); clear hrow2 hbel2 hg4)
          | (go_at_call 110; ((with_reducible refine (iMk_any _ _ _ (T.drop (p + k)) ⟨#[124]⟩ _ (HC2.out _ hbel4)).mono ?_)); rw [HMK.out]; rintro e w' ⟨rfl, rfl⟩))
        go_roundw
        case rel => exact ⟨p + k + 1, m + 1, g', c', R ++ [x], by omega, by omega, by go_num, rfl, HRUN2, hrow4, hbel4⟩
        case measure => simp [intOf]; omega
theorem RowR.shape {α : Type} {enc : α → List Value} {z E B : Nat} {w : World} {v : Value} {l : List α} (h : RowR enc z E B w v l) : ∃ A cap, v = .slice A l.length cap := by
  rcases RowR.form h with ⟨rfl, rfl⟩ | ⟨g, cap, rfl, _⟩
  · exact ⟨none, 0, rfl⟩
  · exact ⟨_, cap, rfl⟩
/-- what ParseRanges hands back -/
def PrV (B : Nat) (o : Option (List Rg)) (e : Ending) (w' : World) : Prop := match o with
  | some R => ∃ v', e = .returned (.tuple #[v', .bool true]) ∧ RowG B w' v' R
  | none => ∃ v', e = .returned (.tuple #[v', .bool false]) ∧ RowG B w' v' []
theorem parS_bad {p n : Nat} {res : Option (List Rg × Nat)} : parS (some p) n res = none := rfl
theorem parS_none {n : Nat} : parS none n none = none := rfl
theorem parS_ok {n : Nat} {R : List Rg} (h : Are R) : parS none n (some (R, n)) = some R := by unfold parS; simp [h]
theorem parS_len {n m : Nat} {R : List Rg} (h : ¬ m = n) : parS none n (some (R, m)) = none := by unfold parS; simp [h]
theorem parS_no {n m : Nat} {R : List Rg} (h : ¬ Are R) : parS none n (some (R, m)) = none := by unfold parS; simp [h]
theorem iRs_row (B n cap : Nat) (A : Option Addr) (T : List Tok) (w : World) (hv : RowT B w (.slice A n cap) T) (hnb : n ≤ 1048576) (hs : ∀ x ∈ T, x.t.size ≤ 1048576) (res : Option (List Rg × Nat)) (hr : Run T 0 [] res) :
    Calls Tryz.prog 74 #[.slice A n cap] w fun e w' => RsV w.heap.size res e w' ∧ Below w.heap.size w w' := by
  rcases RowR.form hv with ⟨h1, rfl⟩ | ⟨g, cap', h1, _⟩
  · cases h1; exact iRs_nil w res hr
  · cases h1
    have hc := RowR.cap hv
    have hm : cap ≤ 9223372036854775807 := by
      rcases hv.2 with ⟨h', _⟩ | ⟨g', c', cur, h', _, _, _, h5, _⟩
      · cases h'
      · cases h'; unfold maxLen at h5; omega
    exact iRs_some _ _ _ T w (RowR.has Tok.enc_len hv) hc hm hnb hs res hr
end Go.Proofs.YtkifdbeklagelaaGreatDoor
