/- CHAPTER 4, RANGES READ: impl's readRanges, ParseRanges. -/
import Derived.Test.YtapalfmjebggfaaDoorParI
import Derived.Test.YtapalfmjebggfaaDoorRngAi
import Derived.Test.YtapalfmjebggfaaDoorLexC
namespace Go.Proofs.YtapalfmjebggfaaDoor
open Go.RowKit NumP

/-- what readRanges hands back in w': a list of the call's own, and the tokens that it takes -/
def RsV (B : Nat) (res : Option (List Rg × Nat)) (e : Ending) (w' : World) : Prop := match res with
  | some (R, k) => ∃ v', e = .returned (.tuple #[v', .int .i64 k]) ∧ RowG B w' v' R
  | none => ∃ v', e = .returned (.tuple #[v', .int .i64 0]) ∧ RowG B w' v' []
theorem rgV_none {o : Option (Rg × Nat)} (h : o = none) : rgV o = .tuple #[.agg #[.int .i64 0, .int .i64 0], .int .i64 0] := by rw [h]; rfl
theorem rgV_some {o : Option (Rg × Nat)} {x : Rg} {k : Nat} (h : o = some (x, k)) : rgV o = .tuple #[.agg #[.int .i64 x.lo, .int .i64 x.hi], .int .i64 k] := by rw [h]; rfl
theorem rowG_new2 (w : World) (o : Obj) (B : Nat) (h : B ≤ w.heap.size) : RowG B ((w.alloc o).alloc (.cells #[] 33)) (.slice (some ⟨w.heap.size + 1, 0, none⟩) 0 0) [] := by
  have := rowG_new (w.alloc o) B (by simp; omega)
  simpa using this
set_option maxRecDepth 100000 in
theorem iRs_nil (w : World) (res : Option (List Rg × Nat)) (hr : Run [] 0 [] res) :
    Calls Tryd.prog 27 #[.slice none 0 0] w fun e w' => RsV w.heap.size res e w' ∧ Below w.heap.size w w' := by
  rcases hr.inv with ⟨h1, rfl⟩ | ⟨x, k, h1, _⟩
  · have HE := Lib.hid (rgV_none h1)
    clear h1 hr
    have HN : Hid (∀ W : World, HasT W (.slice none 0 0) []) := Lib.hid fun W => hasR_nil W
    go_enter Tryd.func27, Tryd.ntmps27
    go_wp2
    go_loopw [4, 5] (fun u i wr => i = .int .i64 0 ∧ wr = w.alloc (.cells #[] 33)) (fun _ _ _ => 0)
    case atStart => exact ⟨rfl, rfl⟩
    case round =>
      obtain ⟨rfl, rfl⟩ := hrel
      go_wp2_with (go_at_call 38; refine (iRg_any none 0 0 [] _ (HN.out _) (by omega) (by omega) (by simp)).mono ?_; rw [show ([] : List Tok) = List.drop 0 [] from rfl, HE.out]; rintro e w1 ⟨rfl, hb⟩)
      go_ret2
      have hB1 : Below w.heap.size w w1 := below_step (below_al (Below.refl _ _) _) hb
      exact ⟨⟨_, rfl, rowG_new2 _ _ _ hB1.size⟩, below_al (below_al hB1 _) _⟩
  · have := (rdR_len h1).2; simp at this
    have := (rdR_len h1).1; omega
theorem HasT.cutN {w : World} {a : Addr} {n cap : Nat} {l : List Tok} (h : HasT w (.slice (some a) n cap) l) (hc : n ≤ cap) {k : Nat} (hk : k ≤ n) (e : ¬ cap = k) : HasT w (.slice (some (a.add (k * 3))) (n - k) (cap - k)) (l.drop k) := by
  have := HasT.cut h hc hk
  rwa [if_neg e] at this
theorem HasT.cutE {w : World} {a : Addr} {n cap : Nat} {l : List Tok} (h : HasT w (.slice (some a) n cap) l) (hc : n ≤ cap) {k : Nat} (hk : k ≤ n) (e : cap = k) : HasT w (.slice (some a) (n - k) (cap - k)) (l.drop k) := by
  have := HasT.cut h hc hk
  rwa [if_pos e] at this
set_option maxRecDepth 100000 in
set_option maxHeartbeats 2000000 in
theorem iRs_some (a : Addr) (n cap : Nat) (T : List Tok) (w : World) (hv : HasT w (.slice (some a) n cap) T) (hc : n ≤ cap) (hcm : cap ≤ 9223372036854775807) (hnb : n ≤ 1048576) (hs : ∀ x ∈ T, x.t.size ≤ 1048576) (res : Option (List Rg × Nat)) (hr : Run T 0 [] res) :
    Calls Tryd.prog 27 #[.slice (some a) n cap] w fun e w' => RsV w.heap.size res e w' ∧ Below w.heap.size w w' := by
  obtain ⟨hn, hn'⟩ := hv.size
  have HN := Lib.hid hn
  have HR := Lib.hid hr
  have HV : Hid (∀ W, Below w.heap.size w W → HasT W (.slice (some a) n cap) T) := Lib.hid fun W h => HasR.below hv h
  have HSD : Hid (∀ p, ∀ x ∈ T.drop p, x.t.size ≤ 1048576) := Lib.hid fun p x hx => hs x (List.mem_of_mem_drop hx)
  have hrow0 : RowG w.heap.size (w.alloc (.cells #[] 33)) (.slice (some ⟨w.heap.size, 0, none⟩) 0 0) [] := rowG_new w _ (Nat.le_refl _)
  have hb0 : Below w.heap.size w (w.alloc (.cells #[] 33)) := below_al (Below.refl _ _) _
  have hnc' : (n : Int) ≤ (cap : Int) := by omega
  clear hv hs hr hn
  go_enter Tryd.func27, Tryd.ntmps27
  go_wp2
  go_loopw [4, 5] (fun u i wr => ∃ (p m g c : Nat) (R : List Rg), p ≤ n ∧ m ≤ p ∧ i = .int .i64 p ∧ u = .slice (some ⟨g, 0, none⟩) m c ∧ Hid (Run T p R res) ∧ RowG w.heap.size wr (.slice (some ⟨g, 0, none⟩) m c) R ∧ Below w.heap.size w wr) (fun _ i _ => n - (intOf i).toNat)
  case atStart => exact ⟨0, 0, w.heap.size, 0, [], by omega, by omega, rfl, rfl, HR, hrow0, hb0⟩
  case round =>
    obtain ⟨p, m, g, c, R, hp, hm, rfl, rfl, HRun, hrow, hbel⟩ := hrel
    clear hrow0 hb0
    have hpn' : (p : Int) ≤ (n : Int) := by omega
    have hpc' : (p : Int) ≤ (cap : Int) := by omega
    have hgb := (hrow.lt rfl).1
    rcases HRun.out.inv with ⟨h1, h2⟩ | ⟨x, k, h1, h2⟩
    · have HE := Lib.hid (rgV_none h1)
      have HRES : Hid (res = none) := Lib.hid h2
      clear h1 h2 hrow
      by_cases hcp : cap = p
      · have HC : Hid (∀ W, Below w.heap.size w W → HasT W (.slice (some a) 0 0) (T.drop p)) := Lib.hid fun W h => by
          have := (HV.out W h).cutE hc hp hcp
          rwa [show cap - p = 0 by omega, show n - p = 0 by omega] at this
        obtain rfl : p = cap := hcp.symm
        go_wp2_with (go_at_call 38; ((with_reducible refine (iRg_any _ _ _ (T.drop p) _ (HC.out _ hbel) (by omega) (by omega) (HSD.out p)).mono ?_)); rw [HE.out]; rintro e w1 ⟨rfl, hb⟩)
        go_ret2
        have hB1 : Below w.heap.size w w1 := below_step hbel hb
        rw [HRES.out]
        exact ⟨⟨_, rfl, rowG_new2 _ _ _ hB1.size⟩, below_al (below_al hB1 _) _⟩
      · have HC : Hid (∀ W, Below w.heap.size w W → HasT W (.slice (some (a.add (p * 3))) (n - p) (cap - p)) (T.drop p)) := Lib.hid fun W h => (HV.out W h).cutN hc hp hcp
        go_wp2_with (go_at_call 38; ((with_reducible refine (iRg_any _ _ _ (T.drop p) _ (HC.out _ hbel) (by omega) (by omega) (HSD.out p)).mono ?_)); rw [HE.out]; rintro e w1 ⟨rfl, hb⟩)
        go_ret2
        have hB1 : Below w.heap.size w w1 := below_step hbel hb
        rw [HRES.out]
        exact ⟨⟨_, rfl, rowG_new2 _ _ _ hB1.size⟩, below_al (below_al hB1 _) _⟩
    · have HE := Lib.hid (rgV_some h1)
      obtain ⟨k1, k2⟩ := rdR_len h1
      rw [List.length_drop, ← HN.out] at k2
      clear h1
      have hpk : p + k ≤ n := by omega
      have hcp : ¬ cap = p := by omega
      have HC : Hid (∀ W, Below w.heap.size w W → HasT W (.slice (some (a.add (p * 3))) (n - p) (cap - p)) (T.drop p)) := Lib.hid fun W h => (HV.out W h).cutN hc hp hcp
      have hk00 : ((k : Int) == 0) = false := by simp; omega
      have hk000 : (k == 0) = false := by simp; omega
      have hk0 : (1 : Int) ≤ (k : Int) := by omega
      have hpk' : (p : Int) + (k : Int) ≤ (n : Int) := by omega
      have hpkc' : (p : Int) + (k : Int) ≤ (cap : Int) := by omega
      have hpk0 : (0 : Int) ≤ (p : Int) + (k : Int) := by omega
      have hpkt : ((p : Int) + (k : Int)).toNat = p + k := by omega
      have hw1 : IntKind.i64.wrap ((p : Int) + (k : Int)) = (p : Int) + (k : Int) := IntWalk.i64_in _ (by omega)
      have HM1 : Hid (m + 1 ≤ 549755813888) := Lib.hid (by omega)
      rcases h2 with ⟨hmk, h2⟩ | ⟨hmk, h2⟩
      · have HMK : Hid (mkB (T.drop (p + k)) ⟨#[124]⟩ = false) := Lib.hid hmk
        have HRES : Hid (res = some (R ++ [x], p + k)) := Lib.hid h2
        clear hmk h2
        by_cases hcq : cap = p + k
        · have HC2 : Hid (∀ W, Below w.heap.size w W → HasT W (.slice (some a) 0 0) (T.drop (p + k))) := Lib.hid fun W h => by
            have := (HV.out W h).cutE hc hpk hcq
            rwa [show cap - (p + k) = 0 by omega, show n - (p + k) = 0 by omega] at this
          have HCk := Lib.hid fun W (h : Below w.heap.size w W) => (show HasT W (.slice (some (a.add (p * 3))) (n - p) k) (T.drop p) by
            have := HC.out W h
            rwa [show cap - p = k by omega] at this)
          clear HC
          subst hcq
          go_wp2_with (first
            | (go_at_call 38; ((with_reducible refine (iRg_any _ _ _ (T.drop p) _ (HCk.out _ hbel) (by omega) (by omega) (HSD.out p)).mono ?_)); rw [HE.out]; rintro e w1 ⟨rfl, hb⟩; have hrow1 := RowR.below hrow hb; have hbel1 := below_step hbel hb; have hrow2 := RowR.alloc hrow1 (.cells #[.int .i64 x.lo, .int .i64 x.hi] 33); have hbel2 := below_al hbel1 (.cells #[.int .i64 x.lo, .int .i64 x.hi] 33); clear hb hrow hbel hrow1 hbel1)
            | (at_builtin; refine wpList_rng_append rfl _ _ rfl w.heap.size g m c R (by rfl) hrow2 x (w1.heap.size + 1) (by rfl) (by simp) HM1.out hbel2.size (m + 1) rfl ?_; intro g' c' w4 hrow4 hg4; have hbel4 := (below_al hbel2 (.cells #[.int .i64 x.lo, .int .i64 x.hi] 33)).grown hg4 (below_al hbel2 _).size (fun _ h => by cases h; exact hgb); clear hrow2 hbel2 hg4)
            | (go_at_call 39; ((with_reducible refine (iMk_any _ _ _ (T.drop (p + k)) ⟨#[124]⟩ _ (HC2.out _ hbel4)).mono ?_)); rw [HMK.out]; rintro e w' ⟨rfl, rfl⟩))
          go_ret2
          rw [HRES.out]
          exact ⟨⟨.slice (some ⟨g', 0, none⟩) (m + 1) c', by rw [Int.natCast_add]; rfl, hrow4⟩, hbel4⟩
        · have HC2 : Hid (∀ W, Below w.heap.size w W → HasT W (.slice (some (a.add ((p + k) * 3))) (n - (p + k)) (cap - (p + k))) (T.drop (p + k))) := Lib.hid fun W h => (HV.out W h).cutN hc hpk hcq
          go_wp2_with (first
            | (go_at_call 38; ((with_reducible refine (iRg_any _ _ _ (T.drop p) _ (HC.out _ hbel) (by omega) (by omega) (HSD.out p)).mono ?_)); rw [HE.out]; rintro e w1 ⟨rfl, hb⟩; have hrow1 := RowR.below hrow hb; have hbel1 := below_step hbel hb; have hrow2 := RowR.alloc hrow1 (.cells #[.int .i64 x.lo, .int .i64 x.hi] 33); have hbel2 := below_al hbel1 (.cells #[.int .i64 x.lo, .int .i64 x.hi] 33); clear hb hrow hbel hrow1 hbel1)
            | (at_builtin; refine wpList_rng_append rfl _ _ rfl w.heap.size g m c R (by rfl) hrow2 x (w1.heap.size + 1) (by rfl) (by simp) HM1.out hbel2.size (m + 1) rfl ?_; intro g' c' w4 hrow4 hg4; have hbel4 := (below_al hbel2 (.cells #[.int .i64 x.lo, .int .i64 x.hi] 33)).grown hg4 (below_al hbel2 _).size (fun _ h => by cases h; exact hgb); clear hrow2 hbel2 hg4)
            | (go_at_call 39; ((with_reducible refine (iMk_any _ _ _ (T.drop (p + k)) ⟨#[124]⟩ _ (HC2.out _ hbel4)).mono ?_)); rw [HMK.out]; rintro e w' ⟨rfl, rfl⟩))
          go_ret2
          rw [HRES.out]
          exact ⟨⟨.slice (some ⟨g', 0, none⟩) (m + 1) c', by rw [Int.natCast_add]; rfl, hrow4⟩, hbel4⟩
      · have HMK : Hid (mkB (T.drop (p + k)) ⟨#[124]⟩ = true) := Lib.hid hmk
        have hlt := mkB_len hmk
        rw [← HN.out] at hlt
        have HRUN2 := Lib.hid h2
        clear hmk h2
        have hcq : ¬ cap = p + k := by omega
        have HC2 : Hid (∀ W, Below w.heap.size w W → HasT W (.slice (some (a.add ((p + k) * 3))) (n - (p + k)) (cap - (p + k))) (T.drop (p + k))) := Lib.hid fun W h => (HV.out W h).cutN hc hpk hcq
        go_wp2_with (first
          | (go_at_call 38; ((with_reducible refine (iRg_any _ _ _ (T.drop p) _ (HC.out _ hbel) (by omega) (by omega) (HSD.out p)).mono ?_)); rw [HE.out]; rintro e w1 ⟨rfl, hb⟩; have hrow1 := RowR.below hrow hb; have hbel1 := below_step hbel hb; have hrow2 := RowR.alloc hrow1 (.cells #[.int .i64 x.lo, .int .i64 x.hi] 33); have hbel2 := below_al hbel1 (.cells #[.int .i64 x.lo, .int .i64 x.hi] 33); clear hb hrow hbel hrow1 hbel1)
          | (at_builtin; refine wpList_rng_append rfl _ _ rfl w.heap.size g m c R (by rfl) hrow2 x (w1.heap.size + 1) (by rfl) (by simp) HM1.out hbel2.size (m + 1) rfl ?_; intro g' c' w4 hrow4 hg4; have hbel4 := (below_al hbel2 (.cells #[.int .i64 x.lo, .int .i64 x.hi] 33)).grown hg4 (below_al hbel2 _).size (fun _ h => by cases h; exact hgb); clear hrow2 hbel2 hg4)
          | (go_at_call 39; ((with_reducible refine (iMk_any _ _ _ (T.drop (p + k)) ⟨#[124]⟩ _ (HC2.out _ hbel4)).mono ?_)); rw [HMK.out]; rintro e w' ⟨rfl, rfl⟩))
        go_roundw
        case rel => exact ⟨p + k + 1, m + 1, g', c', R ++ [x], by omega, by omega, by go_num, rfl, HRUN2, hrow4, hbel4⟩
        case measure => simp [intOf]; omega
theorem RowR.shape {α : Type} {enc : α → List Value} {z E B : Nat} {w : World} {v : Value} {l : List α} (h : RowR enc z E B w v l) : ∃ A cap, v = .slice A l.length cap := by
  rcases RowR.form h with ⟨rfl, rfl⟩ | ⟨g, cap, rfl, _⟩
  · exact ⟨none, 0, rfl⟩
  · exact ⟨_, cap, rfl⟩
/-- what ParseRanges hands back -/
def PrV (B : Nat) (o : Option (List Rg)) (e : Ending) (w' : World) : Prop := match o with
  | some R => ∃ v', e = .returned (.tuple #[v', .bool true]) ∧ RowG B w' v' R
  | none => ∃ v', e = .returned (.tuple #[v', .bool false]) ∧ RowG B w' v' []
theorem parS_bad {p n : Nat} {res : Option (List Rg × Nat)} : parS (some p) n res = none := rfl
theorem parS_none {n : Nat} : parS none n none = none := rfl
theorem parS_ok {n : Nat} {R : List Rg} (h : Are R) : parS none n (some (R, n)) = some R := by unfold parS; simp [h]
theorem parS_len {n m : Nat} {R : List Rg} (h : ¬ m = n) : parS none n (some (R, m)) = none := by unfold parS; simp [h]
theorem parS_no {n m : Nat} {R : List Rg} (h : ¬ Are R) : parS none n (some (R, m)) = none := by unfold parS; simp [h]
theorem iRs_row (B n cap : Nat) (A : Option Addr) (T : List Tok) (w : World) (hv : RowT B w (.slice A n cap) T) (hnb : n ≤ 1048576) (hs : ∀ x ∈ T, x.t.size ≤ 1048576) (res : Option (List Rg × Nat)) (hr : Run T 0 [] res) :
    Calls Tryd.prog 27 #[.slice A n cap] w fun e w' => RsV w.heap.size res e w' ∧ Below w.heap.size w w' := by
  rcases RowR.form hv with ⟨h1, rfl⟩ | ⟨g, cap', h1, _⟩
  · cases h1; exact iRs_nil w res hr
  · cases h1
    have hc := RowR.cap hv
    have hm : cap ≤ 9223372036854775807 := by
      rcases hv.2 with ⟨h', _⟩ | ⟨g', c', cur, h', _, _, _, h5, _⟩
      · cases h'
      · cases h'; unfold maxLen at h5; omega
    exact iRs_some _ _ _ T w (RowR.has Tok.enc_len hv) hc hm hnb hs res hr
set_option maxRecDepth 100000 in
set_option maxHeartbeats 1000000 in
theorem iPr_any (s : ByteArray) (hs : s.size ≤ 1048576) (T : List Tok) (e : Option Nat) (hL : Lx s.size s.data.toList T e) (hlen : (lexT T e).length ≤ 1048576) (hts : ∀ x ∈ lexT T e, x.t.size ≤ 1048576) (res : Option (List Rg × Nat)) (hr : Run (lexT T e) 0 [] res) (w : World) :
    Calls Tryd.prog 12 #[.string s] w fun en w' => PrV w.heap.size (parS e (lexT T e).length res) en w' ∧ Below w.heap.size w w' := by
  have HL := Lib.hid hL
  have HR := Lib.hid hr
  have HT := Lib.hid hts
  have HB := Lib.hid (hr.bd (Nat.le_refl _))
  obtain ⟨n, hn⟩ : ∃ n, n = (lexT T e).length := ⟨_, rfl⟩
  have HN := Lib.hid hn
  rw [← hn] at hlen ⊢
  clear hL hr hts hn
  cases e with
  | some p =>
    have hres : res = none := by
      rcases HR.out.inv with ⟨_, h⟩ | ⟨x, k, h, _⟩
      · exact h
      · have h1 := rdR_len h; simp [lexT] at h1; omega
    subst hres
    rw [parS_bad]
    have hp0 : (0 : Int) ≤ (p : Int) := by omega
    go_enter Tryd.func12, Tryd.ntmps12
    go_wp2_with (first
      | (go_at_call 26; refine (iLex_any s hs T _ HL.out _).mono ?_; rintro en w1 ⟨v, rfl, hra, hb⟩; obtain ⟨A, cap, rfl⟩ := RowR.shape hra; rw [← HN.out] at hra ⊢; rw [show lexI (some p) = (p : Int) from rfl])
      | (go_at_call 27; refine (iRs_row _ _ _ _ _ _ hra hlen HT.out none HR.out).mono ?_; rintro en w2 ⟨hRs, hb2⟩; obtain ⟨v2, rfl, hrow2⟩ := hRs; have hB2 := below_step hb hb2))
    go_ret2
    exact ⟨⟨_, rfl, rowG_new _ _ hB2.size⟩, below_al hB2 _⟩
  | none =>
    match res with
    | none =>
      rw [parS_none]
      go_enter Tryd.func12, Tryd.ntmps12
      go_wp2_with (first
        | (go_at_call 26; refine (iLex_any s hs T _ HL.out _).mono ?_; rintro en w1 ⟨v, rfl, hra, hb⟩; obtain ⟨A, cap, rfl⟩ := RowR.shape hra; rw [← HN.out] at hra ⊢; rw [show lexI none = (-1 : Int) from rfl])
        | (go_at_call 27; refine (iRs_row _ _ _ _ _ _ hra hlen HT.out none HR.out).mono ?_; rintro en w2 ⟨hRs, hb2⟩; obtain ⟨v2, rfl, hrow2⟩ := hRs; have hB2 := below_step hb hb2))
      go_ret2
      exact ⟨⟨_, rfl, rowG_new _ _ hB2.size⟩, below_al hB2 _⟩
    | some (R, k) =>
      obtain ⟨hk1, hk2, _⟩ := HB.out R k rfl
      rw [← HN.out] at hk1
      have hk00 : ((k : Int) == 0) = false := by simp; omega
      have hk000 : (k == 0) = false := by simp; omega
      by_cases hkn : k = n
      · subst hkn
        have hkk : ((k : Int) != (k : Int)) = false := by simp
        cases ha : areB R with
        | true =>
          have HAr := Lib.hid ha
          have hare : Are R := by
            rcases Classical.em (Are R) with h | h
            · exact h
            · rw [areB_no h] at ha; cases ha
          rw [parS_ok hare]
          clear ha hare
          go_enter Tryd.func12, Tryd.ntmps12
          go_wp2_with (first
            | (go_at_call 26; refine (iLex_any s hs T _ HL.out _).mono ?_; rintro en w1 ⟨v, rfl, hra, hb⟩; obtain ⟨A, cap, rfl⟩ := RowR.shape hra; rw [← HN.out] at hra ⊢; rw [show lexI none = (-1 : Int) from rfl])
            | (go_at_call 27; refine (iRs_row _ _ _ _ _ _ hra hlen HT.out (some (R, k)) HR.out).mono ?_; rintro en w2 ⟨hRs, hb2⟩; obtain ⟨v2, rfl, hrow2⟩ := hRs; have hB2 := below_step hb hb2)
            | (go_at_call 11; refine (iAre_any _ R _ hrow2.hasG).mono ?_; rw [HAr.out]; rintro en w3 ⟨rfl, hb3⟩; have hB3 := below_step hB2 hb3; have hrow3 := RowR.below hrow2 hb3))
          go_ret2
          exact ⟨⟨_, rfl, hrow3.mono hb.size⟩, hB3⟩
        | false =>
          have HAr := Lib.hid ha
          have hare : ¬ Are R := fun h => by rw [areB_yes h] at ha; cases ha
          rw [parS_no hare]
          clear ha hare
          go_enter Tryd.func12, Tryd.ntmps12
          go_wp2_with (first
            | (go_at_call 26; refine (iLex_any s hs T _ HL.out _).mono ?_; rintro en w1 ⟨v, rfl, hra, hb⟩; obtain ⟨A, cap, rfl⟩ := RowR.shape hra; rw [← HN.out] at hra ⊢; rw [show lexI none = (-1 : Int) from rfl])
            | (go_at_call 27; refine (iRs_row _ _ _ _ _ _ hra hlen HT.out (some (R, k)) HR.out).mono ?_; rintro en w2 ⟨hRs, hb2⟩; obtain ⟨v2, rfl, hrow2⟩ := hRs; have hB2 := below_step hb hb2)
            | (go_at_call 11; refine (iAre_any _ R _ hrow2.hasG).mono ?_; rw [HAr.out]; rintro en w3 ⟨rfl, hb3⟩; have hB3 := below_step hB2 hb3; have hrow3 := RowR.below hrow2 hb3))
          go_ret2
          exact ⟨⟨_, rfl, rowG_new _ _ hB3.size⟩, below_al hB3 _⟩
      · rw [parS_len hkn]
        have hkk : ((k : Int) != (n : Int)) = true := by simp; omega
        have hkk' : (k != n) = true := by simpa using hkn
        clear hkn
        go_enter Tryd.func12, Tryd.ntmps12
        go_wp2_with (first
          | (go_at_call 26; refine (iLex_any s hs T _ HL.out _).mono ?_; rintro en w1 ⟨v, rfl, hra, hb⟩; obtain ⟨A, cap, rfl⟩ := RowR.shape hra; rw [← HN.out] at hra ⊢; rw [show lexI none = (-1 : Int) from rfl])
          | (go_at_call 27; refine (iRs_row _ _ _ _ _ _ hra hlen HT.out (some (R, k)) HR.out).mono ?_; rintro en w2 ⟨hRs, hb2⟩; obtain ⟨v2, rfl, hrow2⟩ := hRs; have hB2 := below_step hb hb2))
        go_ret2
        exact ⟨⟨_, rfl, rowG_new _ _ hB2.size⟩, below_al hB2 _⟩
end Go.Proofs.YtapalfmjebggfaaDoor
