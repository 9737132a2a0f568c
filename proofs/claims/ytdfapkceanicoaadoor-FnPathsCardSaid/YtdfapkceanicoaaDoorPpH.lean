/- MERGED for a claim: PpE PpG PpH. -/
import Derived.Test.YtdfapkceanicoaaDoorPpD
import Derived.Test.YtdfapkceanicoaaDoorPthE
import Derived.Deep.RegionLaw
import Derived.Deep.RegionHeld3
import Derived.Test.YtdfapkceanicoaaDoorPpF
set_option linter.unusedVariables false
set_option linter.unusedSimpArgs false
/- CHAPTER 7: PATHS READ FROM TOKENS: impl's (*Path).readPart. -/
namespace Go.Proofs.YtdfapkceanicoaaDoor
open Go.RowKit NumP
set_option maxRecDepth 100000

/-- a path while it is read: its box at block pb, its steps the call's own, from B on -/
structure PtS (pb B : Nat) (w : World) (root : Bool) (u : Int) (sv : Value) (st : List Stp) (S : Nat → Prop) : Prop where
  box : w.heap[pb]? = some (.cells #[.bool root, .int .i64 u, sv] 26 (0, 0))
  own : OwnS B w sv st S
  lo : pb < B
theorem PtS.below {pb B : Nat} {w w' : World} {root : Bool} {u : Int} {sv : Value} {st : List Stp} {S : Nat → Prop} (h : PtS pb B w root u sv st S) (hb : Below w.heap.size w w') : PtS pb B w' root u sv st S :=
  ⟨(hb.block _ (Array.getElem?_eq_some_iff.1 h.box).1).trans h.box, OwL.below h.own hb, h.lo⟩
theorem three_f {w : World} {b : Nat} {a0 a1 a2 : Value} {t : TypeId} (h : w.heap[b]? = some (.cells #[a0, a1, a2] t (0, 0))) :
    (w.cell? ⟨b, 0, none⟩ = some a0 ∧ w.cell? ⟨b, 1, none⟩ = some a1 ∧ w.cell? ⟨b, 2, none⟩ = some a2) ∧ w.frozen? ⟨b, 0, none⟩ = false ∧ w.frozen? ⟨b, 1, none⟩ = false ∧ w.frozen? ⟨b, 2, none⟩ = false := by
  refine ⟨⟨?_, ?_, ?_⟩, frozen_of_row _ _ 0 _ _ h, frozen_of_row _ _ 1 _ _ h, frozen_of_row _ _ 2 _ _ h⟩
  · rw [cell_of_row _ b 0 _ _ _ h]; rfl
  · rw [cell_of_row _ b 1 _ _ _ h]; rfl
  · rw [cell_of_row _ b 2 _ _ _ h]; rfl
theorem PtS.form {pb B : Nat} {w : World} {root : Bool} {u : Int} {sv : Value} {st : List Stp} {S : Nat → Prop} (h : PtS pb B w root u sv st S) : ∃ A c, sv = .slice A st.length c := by
  obtain ⟨A, c, hv⟩ := RdL.form (OwL.rd h.own)
  rw [List.length_map] at hv
  exact ⟨A, c, hv⟩
/-- one '..' more -/
theorem PtS.up {pb B : Nat} {w : World} {root : Bool} {u : Int} {sv : Value} {st : List Stp} {S : Nat → Prop} (h : PtS pb B w root u sv st S) (v : Int) : PtS pb B (w.setCell ⟨pb, 1, none⟩ (.int .i64 v)) root v sv st S :=
  ⟨by rw [heap_setCell_same w pb 1 _ _ _ h.box]; rfl, OwL.set h.own h.lo, h.lo⟩
/-- what readPart leaves: nothing else below B has turned than the path's box -/
def RpV (pb B : Nat) (W : World) (root : Bool) (u : Int) (st : List Stp) (up : Bool) (res : Option (Stp × Nat)) (e : Ending) (w' : World) : Prop :=
  ∃ (sv : Value) (S : Nat → Prop) (u' : Int) (st' : List Stp) (k : Nat), e = .returned (.int .i64 k) ∧ PtS pb B w' root u' sv st' S ∧
    (W.heap.size ≤ w'.heap.size ∧ (∀ b, b < B → b ≠ pb → w'.heap[b]? = W.heap[b]?) ∧ w'.os = W.os ∧ w'.tape = W.tape ∧ w'.output = W.output) ∧
    Hid ((up = true ∧ k = 1 ∧ u' = u + 1 ∧ st' = st) ∨ (up = false ∧ res = none ∧ k = 0 ∧ u' = u ∧ st' = st) ∨ ∃ s q, up = false ∧ res = some (s, q) ∧ k = q ∧ u' = u ∧ st' = st ++ [s])
theorem rp_same {pb B : Nat} {W w' : World} (hb : Below W.heap.size W w') (hB : B ≤ W.heap.size) : W.heap.size ≤ w'.heap.size ∧ (∀ b, b < B → b ≠ pb → w'.heap[b]? = W.heap[b]?) ∧ w'.os = W.os ∧ w'.tape = W.tape ∧ w'.output = W.output :=
  ⟨hb.size, fun b h _ => hb.block b (by omega), hb.os, hb.tape, hb.output⟩
theorem rp_set {pb B j : Nat} {W w' : World} {u : Value} (h : W.heap.size ≤ w'.heap.size ∧ (∀ b, b < B → b ≠ pb → w'.heap[b]? = W.heap[b]?) ∧ w'.os = W.os ∧ w'.tape = W.tape ∧ w'.output = W.output) : W.heap.size ≤ (w'.setCell ⟨pb, j, none⟩ u).heap.size ∧ (∀ b, b < B → b ≠ pb → (w'.setCell ⟨pb, j, none⟩ u).heap[b]? = W.heap[b]?) ∧ (w'.setCell ⟨pb, j, none⟩ u).os = W.os ∧ (w'.setCell ⟨pb, j, none⟩ u).tape = W.tape ∧ (w'.setCell ⟨pb, j, none⟩ u).output = W.output :=
  ⟨by simpa [World.setCell] using h.1, fun b h1 h2 => (Below.heap_setCell w' ⟨pb, j, none⟩ u b h2).trans (h.2.1 b h1 h2), h.2.2.1, h.2.2.2.1, h.2.2.2.2⟩
set_option maxHeartbeats 4000000 in
theorem iRdPart_up (pb B : Nat) (u : Int) (sv : Value) (S : Nat → Prop) (A : Option Addr) (n cap : Nat) (T : List Tok) (w : World) (hv : HasT w (.slice A n cap) T) (hp : PtS pb B w false u sv [] S) (hB : B ≤ w.heap.size) (hu : 0 ≤ u ∧ u ≤ 1048576) (hm : mkB T dotsT = true) (res : Option (Stp × Nat)) :
    Calls Tryd.prog 43 #[.pointer (some ⟨pb, 0, none⟩), .slice A n cap] w fun e w' => RpV pb B w false u [] true res e w' := by
  have HMK := Lib.hid ((iMk_any _ _ _ _ dotsT w hv).mono fun e w' h => (⟨h.1, by rw [← h.2]; exact Below.refl _ _⟩ : _ ∧ Below w.heap.size w w'))
  rw [hm] at HMK
  have HP := Lib.hid hp
  obtain ⟨A2, c2, rfl⟩ := hp.form
  clear hv hp hm
  go_enter Tryd.func43, Tryd.ntmps43
  go_wp2_with fail
  refine HMK.out.mono ?_
  rintro e w1 ⟨rfl, hb⟩
  have HP1 := Lib.hid (HP.out.below hb)
  have HS1 := Lib.hid (rp_same (pb := pb) hb hB)
  clear hb
  obtain ⟨⟨z0, z1, z2⟩, f0, f1, f2⟩ := three_f HP1.out.box
  rw [List.length_nil] at z2
  go_wp2
  go_ret
  exact ⟨_, S, _, _, 1, rfl, HP1.out.up _, rp_set HS1.out, Lib.hid (.inl ⟨rfl, rfl, rfl, rfl⟩)⟩
set_option maxHeartbeats 8000000 in
theorem iRdPart_no (pb B : Nat) (root : Bool) (u : Int) (sv : Value) (st : List Stp) (S : Nat → Prop) (A : Option Addr) (n cap : Nat) (T : List Tok) (w : World) (hv : HasT w (.slice A n cap) T) (hc : n ≤ cap) (hcm : cap ≤ 9223372036854775807) (hnb : n ≤ 1048576) (hp : PtS pb B w root u sv st S) (hB : B ≤ w.heap.size) (hl : st.length ≤ 1048576) (hup : upB T root st 0 = false) (hr : Spr T 0 none) :
    Calls Tryd.prog 43 #[.pointer (some ⟨pb, 0, none⟩), .slice A n cap] w fun e w' => RpV pb B w root u st false none e w' := by
  have HMK := Lib.hid ((iMk_any _ _ _ _ dotsT w hv).mono fun e w' h => (⟨h.1, by rw [← h.2]; exact Below.refl _ _⟩ : _ ∧ Below w.heap.size w w'))
  have HST : Hid (∀ W, Below w.heap.size w W → Calls Tryd.prog 72 #[.slice A n cap] W fun e w' => (∃ A9 n9 c9, e = .returned (.tuple #[.agg #[.string ⟨#[]⟩, .slice A9 n9 c9], .int .i64 0])) ∧ Below W.heap.size W w') := Lib.hid fun W hb => by
    refine (iRdStep_any A n cap T W (HasR.below hv hb) hc hcm hnb none hr).mono ?_
    rintro e w' ⟨⟨tv, h, ht⟩, hb⟩
    obtain ⟨A9, c9, rfl, _⟩ := RowR.hasX ht
    exact ⟨⟨A9, _, c9, h⟩, hb⟩
  have HP := Lib.hid hp
  obtain ⟨A2, c2, rfl⟩ := hp.form
  obtain ⟨m, hm⟩ : ∃ m, m = st.length := ⟨_, rfl⟩
  obtain ⟨mb, hmb⟩ : ∃ mb, mb = mkB T dotsT := ⟨_, rfl⟩
  have hways : mb = false ∨ (mb = true ∧ root = true) ∨ (mb = true ∧ root = false ∧ 0 < m) := by
    unfold upB at hup
    rw [List.drop_zero, ← hmb] at hup
    cases mb with
    | false => exact .inl rfl
    | true =>
      cases root with
      | true => exact .inr (.inl ⟨rfl, rfl⟩)
      | false =>
        refine .inr (.inr ⟨rfl, rfl, ?_⟩)
        rw [hm]
        cases st with
        | nil => simp at hup
        | cons x r => simp
  rw [← hmb] at HMK
  rw [← hm] at HP hl
  have HM := Lib.hid hm
  clear hv hp hup hr hmb hm hc hcm hnb
  rcases hways with rfl | ⟨rfl, rfl⟩ | ⟨rfl, rfl, hm0⟩
  case' inr.inr => have hmz : (m == 0) = false := by simp; omega
  case' inr.inr => have hmi : ((m : Int) == 0) = false := by simp; omega
  case' inr.inr => have hmn : ¬ m = 0 := by omega
  all_goals
    go_enter Tryd.func43, Tryd.ntmps43
    go_wp2_with fail
    refine HMK.out.mono ?_
    rintro e w1 ⟨rfl, hb⟩
    have HP1 := Lib.hid (HP.out.below hb)
    have HS1 := Lib.hid (rp_same (pb := pb) hb hB)
    have HBW := Lib.hid hb
    obtain ⟨⟨z0, z1, z2⟩, f0, f1, f2⟩ := three_f HP1.out.box
    clear hb
    go_wp2_with fail
    refine (HST.out _ HBW.out).mono ?_
    rintro e w2 ⟨⟨A9, n9, c9, rfl⟩, hb⟩
    have HP2 := Lib.hid (HP1.out.below hb)
    have HBX := Lib.hid (below_step HBW.out hb)
    clear hb z0 z1 z2 f0 f1 f2
    obtain ⟨⟨z0, z1, z2⟩, f0, f1, f2⟩ := three_f HP2.out.box
    go_wp2
    go_ret
    exact ⟨_, S, u, st, 0, rfl, HP2.out.below (below_al (Below.refl _ _) _), rp_same (below_al HBX.out _) hB, Lib.hid (.inr (.inl ⟨rfl, rfl, rfl, rfl, rfl⟩))⟩
end Go.Proofs.YtdfapkceanicoaaDoor

/- CHAPTER 7: PATHS READ FROM TOKENS: impl's (*Path).readPart, its third way: a step appended. -/
namespace Go.Proofs.YtdfapkceanicoaaDoor
open Go.RowKit NumP
set_option maxRecDepth 100000

theorem rp_grow {pb B : Nat} {W w' w'' : World} {j : Option Nat} (h : W.heap.size ≤ w'.heap.size ∧ (∀ b, b < B → b ≠ pb → w'.heap[b]? = W.heap[b]?) ∧ w'.os = W.os ∧ w'.tape = W.tape ∧ w'.output = W.output) (hg : w'.grownBy w'' j) (hj : ∀ g, j = some g → B ≤ g) (hB : B ≤ w'.heap.size) :
    W.heap.size ≤ w''.heap.size ∧ (∀ b, b < B → b ≠ pb → w''.heap[b]? = W.heap[b]?) ∧ w''.os = W.os ∧ w''.tape = W.tape ∧ w''.output = W.output :=
  ⟨Nat.le_trans h.1 hg.size, fun b h1 h2 => (hg.block b (by omega) (fun e => by have := hj b e.symm; omega)).trans (h.2.1 b h1 h2), hg.os.trans h.2.2.1, hg.tape.trans h.2.2.2.1, hg.output.trans h.2.2.2.2⟩
set_option maxHeartbeats 8000000 in
theorem iRdPart_some (pb B : Nat) (root : Bool) (u : Int) (sv : Value) (st : List Stp) (S : Nat → Prop) (A : Option Addr) (n cap : Nat) (T : List Tok) (w : World) (hv : HasT w (.slice A n cap) T) (hc : n ≤ cap) (hcm : cap ≤ 9223372036854775807) (hnb : n ≤ 1048576) (hp : PtS pb B w root u sv st S) (hB : B ≤ w.heap.size) (hl : st.length ≤ 1048576) (hup : upB T root st 0 = false) (s : Stp) (q : Nat) (hr : Spr T 0 (some (s, q))) :
    Calls Tryd.prog 43 #[.pointer (some ⟨pb, 0, none⟩), .slice A n cap] w fun e w' => RpV pb B w root u st false (some (s, q)) e w' := by
  have HMK := Lib.hid ((iMk_any _ _ _ _ dotsT w hv).mono fun e w' h => (⟨h.1, by rw [← h.2]; exact Below.refl _ _⟩ : _ ∧ Below w.heap.size w w'))
  have HST : Hid (∀ W, Below w.heap.size w W → Calls Tryd.prog 72 #[.slice A n cap] W fun e w' => (∃ A9 n9 c9, e = .returned (.tuple #[.agg #[.string s.n, .slice A9 n9 c9], .int .i64 q]) ∧ RowX W.heap.size w' (.slice A9 n9 c9) s.ts) ∧ Below W.heap.size W w') := Lib.hid fun W hb => by
    refine (iRdStep_any A n cap T W (HasR.below hv hb) hc hcm hnb (some (s, q)) hr).mono ?_
    rintro e w' ⟨⟨tv, h, ht⟩, hb⟩
    obtain ⟨A9, c9, rfl, _⟩ := RowR.hasX ht
    exact ⟨⟨A9, _, c9, h, ht⟩, hb⟩
  have hq0 : (0 : Int) < (q : Int) := by have := hr.bd.1; omega
  have HP := Lib.hid hp
  obtain ⟨A2, c2, rfl⟩ := hp.form
  obtain ⟨m, hm⟩ : ∃ m, m = st.length := ⟨_, rfl⟩
  obtain ⟨mb, hmb⟩ : ∃ mb, mb = mkB T dotsT := ⟨_, rfl⟩
  have hways : mb = false ∨ (mb = true ∧ root = true) ∨ (mb = true ∧ root = false ∧ 0 < m) := by
    unfold upB at hup
    rw [List.drop_zero, ← hmb] at hup
    cases mb with
    | false => exact .inl rfl
    | true =>
      cases root with
      | true => exact .inr (.inl ⟨rfl, rfl⟩)
      | false =>
        refine .inr (.inr ⟨rfl, rfl, ?_⟩)
        rw [hm]
        cases st with
        | nil => simp at hup
        | cons x r => simp
  rw [← hmb] at HMK
  rw [← hm] at HP hl
  have HM := Lib.hid hm
  clear hv hp hup hr hmb hm hc hcm hnb
  rcases hways with rfl | ⟨rfl, rfl⟩ | ⟨rfl, rfl, hm0⟩
  case' inr.inr => have hmz : (m == 0) = false := by simp; omega
  case' inr.inr => have hmi : ((m : Int) == 0) = false := by simp; omega
  case' inr.inr => have hmn : ¬ m = 0 := by omega
  all_goals
    go_enter Tryd.func43, Tryd.ntmps43
    go_wp2_with fail
    refine HMK.out.mono ?_
    rintro e w1 ⟨rfl, hb⟩
    have HP1 := Lib.hid (HP.out.below hb)
    have HS1 := Lib.hid (rp_same (pb := pb) hb hB)
    have HBW := Lib.hid hb
    obtain ⟨⟨z0, z1, z2⟩, f0, f1, f2⟩ := three_f HP1.out.box
    clear hb
    go_wp2_with fail
    refine (HST.out _ HBW.out).mono ?_
    rintro e w2 ⟨⟨A9, n9, c9, rfl, htv⟩, hb⟩
    have HP2 := Lib.hid (HP1.out.below hb)
    have HBX := Lib.hid (below_step HBW.out hb)
    have hz12 : w1.heap.size ≤ w2.heap.size := hb.size
    have hz01 : w.heap.size ≤ w1.heap.size := HBW.out.size
    have hSlt : ∀ b, S b → b < w1.heap.size := fun b hs => (OwL.lt HP1.out.own b hs).2
    have hNlt : ∀ b, (Value.slice A9 n9 c9).ownBlock = some b → w1.heap.size ≤ b := fun b hs => (RowR.lt htv hs).1
    have HP3 := Lib.hid (HP2.out.below (below_al (Below.refl _ _) (.cells #[.string s.n, .slice A9 n9 c9] 50)))
    have htv9 := RowR.below (RowR.alloc (RowR.alloc (RowR.mono htv (B' := B) (by omega)) (.cells #[.string s.n, .slice A9 n9 c9] 50)) (.cells #[.string s.n, .slice A9 n9 c9] 50)) (Below.refl _ _).drew
    obtain ⟨R, hR, hRl, hgrow⟩ := OwL.grow (OwL.below (OwL.al HP3.out.own (.cells #[.string s.n, .slice A9 n9 c9] 50)) (Below.refl _ _).drew)
    have HGROW := Lib.hid (fun (w' : World) (v' : Value) => hgrow (w' := w') (v' := v') (r := ⟨s.n, .slice A9 n9 c9⟩) (t := lf s) (Sr := fun b => (Value.slice A9 n9 c9).ownBlock = some b) ⟨_, fun _ => False, ⟨⟨rfl, htv9⟩, fun b => Iff.rfl⟩, owL_nil _ _ _ _, fun b _ h => h, fun b => by simp⟩ (fun b h1 h2 => by have := hSlt b h1; have := hNlt b h2; omega))
    have HR := Lib.hid hR
    have hRl' : m = R.length := by rw [hRl, List.length_map]; exact HM.out
    have HRL := Lib.hid hRl'
    have hzp : pb < w2.heap.size := (Array.getElem?_eq_some_iff.1 HP2.out.box).1
    have HLO := Lib.hid HP2.out.lo
    clear hb htv z0 z1 z2 f0 f1 f2 hgrow hR hRl hRl' htv9 hSlt hNlt
    obtain ⟨⟨z0, z1, z2⟩, f0, f1, f2⟩ := three_f HP3.out.box
    obtain ⟨⟨y0, y1⟩, -⟩ := two_fro (heap_alloc_new w2 (.cells #[.string s.n, .slice A9 n9 c9] 50))
    have hsz2 : (w2.alloc (.cells #[.string s.n, .slice A9 n9 c9] 50)).heap.size = w2.heap.size + 1 := by simp
    have HNEWS : Hid (∀ j u, (StR.enc ⟨s.n, .slice A9 n9 c9⟩)[j]? = some u → ((w2.alloc (.cells #[.string s.n, .slice A9 n9 c9] 50)).alloc (.cells #[.string s.n, .slice A9 n9 c9] 50)).drew.cell? ((⟨w2.heap.size + 1, 0, none⟩ : Addr).add j) = some u) := Lib.hid (by
      have h := news_stR (w2.alloc (.cells #[.string s.n, .slice A9 n9 c9] 50)) ⟨s.n, .slice A9 n9 c9⟩ 50
      rw [hsz2] at h
      exact h)
    have HBASE : Hid (B ≤ ((w2.alloc (.cells #[.string s.n, .slice A9 n9 c9] 50)).alloc (.cells #[.string s.n, .slice A9 n9 c9] 50)).drew.heap.size) := Lib.hid (by show B ≤ ((w2.alloc (.cells #[.string s.n, .slice A9 n9 c9] 50)).alloc (.cells #[.string s.n, .slice A9 n9 c9] 50)).heap.size; simp; omega)
    have HLEN : Hid (m + 1 ≤ 549755813888) := Lib.hid (by omega)
    have HB2 := Lib.hid (((below_al (Below.refl w2.heap.size w2) (.cells #[.string s.n, .slice A9 n9 c9] 50)).alloc (by simp) (.cells #[.string s.n, .slice A9 n9 c9] 50)).drew)
    have HF4 := Lib.hid (fun (w4 : World) (hg : (((w2.alloc (.cells #[.string s.n, .slice A9 n9 c9] 50)).alloc (.cells #[.string s.n, .slice A9 n9 c9] 50)).drew).grownBy w4 (Value.slice A2 m c2).ownBlock) => (hg.block pb (by show pb < ((w2.alloc (.cells #[.string s.n, .slice A9 n9 c9] 50)).alloc (.cells #[.string s.n, .slice A9 n9 c9] 50)).heap.size; simp; omega) (fun e => by have := (RowR.lt HR.out e.symm).1; have := HLO.out; omega)).trans ((HB2.out.block pb hzp).trans HP2.out.box))
    clear hsz2
    go_wp2
    go_region_law (first
      | (go_loud (refine step_stR_append rfl _ _ (by rfl) B m (.slice A2 m c2) R (by rfl) HR.out HRL.out ⟨s.n, .slice A9 n9 c9⟩ rfl ⟨w2.heap.size + 1, 0, none⟩ 1 (by rfl) HNEWS.out HLEN.out HBASE.out (m + 1) rfl ?_); intro g' c' w4 hrow4 hg4 hp4; have HB4 := Lib.hid (HF4.out w4 hg4); obtain ⟨⟨t0, t1, t2⟩, g0, g1, g2⟩ := three_f HB4.out))
    all_goals
      go_wp2
      go_ret
      have hown := HGROW.out w4 (.slice (some ⟨g', 0, none⟩) (m + 1) c') hrow4 hg4 (by
        rcases hp4 with e | e
        · exact .inl e
        · exact .inr ⟨g', rfl, by rw [e]; exact Nat.le_refl _⟩)
      rw [show st.map lf ++ [lf s] = (st ++ [s]).map lf from by simp] at hown
      have hall := rp_grow (rp_same (pb := pb) (below_step HBX.out HB2.out) hB) hg4 (fun g e => (RowR.lt HR.out e).1) HBASE.out
      exact ⟨.slice (some ⟨g', 0, none⟩) (m + 1) c', _, u, st ++ [s], q, rfl, ⟨by rw [heap_setCell_same w4 pb 2 _ _ _ HB4.out]; rfl, OwL.set hown HLO.out, HLO.out⟩, rp_set hall, Lib.hid (.inr (.inr ⟨s, q, rfl, rfl, rfl, rfl, rfl⟩))⟩
end Go.Proofs.YtdfapkceanicoaaDoor

/- CHAPTER 7: PATHS READ FROM TOKENS: impl's readPath (printed by tools/gen_ppH.py). -/
namespace Go.Proofs.YtdfapkceanicoaaDoor
open Go.RowKit NumP
set_option maxRecDepth 100000

/-- one part read: k tokens of it -/
def StepP (T : List Tok) (root : Bool) (q u : Nat) (st : List Stp) (k u' : Nat) (st' : List Stp) : Prop := (upB T root st q = true ∧ k = 1 ∧ u' = u + 1 ∧ st' = st) ∨ (upB T root st q = false ∧ ∃ s, Spr T q (some (s, q + k)) ∧ u' = u ∧ st' = st ++ [s])
theorem Ptr.way {T : List Tok} {root : Bool} {q u : Nat} {st : List Stp} {res : Option (Nat × List Stp × Nat)} (h : Ptr T root q u st res) :
    (upB T root st q = false ∧ Spr T q none ∧ res = none) ∨ ∃ k u' st', StepP T root q u st k u' st' ∧ ((mkB (T.drop (q + k)) slashT = false ∧ res = some (u', st', q + k)) ∨ (mkB (T.drop (q + k)) slashT = true ∧ Ptr T root (q + k + 1) u' st' res)) := by
  rcases h.inv with ⟨h1, h2, h3⟩ | ⟨h1, h2, h3⟩ | h | ⟨s, j, h1, h2, h3, h4⟩ | ⟨s, j, h1, h2, h3, h4⟩
  · exact .inr ⟨1, u + 1, st, .inl ⟨h1, rfl, rfl, rfl⟩, .inl ⟨h2, h3⟩⟩
  · exact .inr ⟨1, u + 1, st, .inl ⟨h1, rfl, rfl, rfl⟩, .inr ⟨h2, h3⟩⟩
  · exact .inl h
  · have hj := h2.bd.1
    obtain ⟨k, rfl⟩ : ∃ k, j = q + k := ⟨j - q, by omega⟩
    exact .inr ⟨k, u, st ++ [s], .inr ⟨h1, s, h2, rfl, rfl⟩, .inl ⟨h3, h4⟩⟩
  · have hj := h2.bd.1
    obtain ⟨k, rfl⟩ : ∃ k, j = q + k := ⟨j - q, by omega⟩
    exact .inr ⟨k, u, st ++ [s], .inr ⟨h1, s, h2, rfl, rfl⟩, .inr ⟨h3, h4⟩⟩
theorem StepP.bd {T : List Tok} {root : Bool} {q u k u' : Nat} {st st' : List Stp} (h : StepP T root q u st k u' st') : 0 < k ∧ q + k ≤ T.length ∧ u' ≤ u + k ∧ st'.length ≤ st.length + k := by
  rcases h with ⟨h1, rfl, rfl, rfl⟩ | ⟨h1, s, h2, rfl, rfl⟩
  · have := mkB_len (show mkB (T.drop q) dotsT = true by unfold upB at h1; simp at h1; exact h1.1.1)
    exact ⟨by omega, by omega, by omega, by omega⟩
  · have := h2.bd
    exact ⟨by omega, by omega, by omega, by rw [List.length_append]; simp; omega⟩
theorem iRdPart_good (pb B q u k u' : Nat) (root : Bool) (sv : Value) (st st' : List Stp) (S : Nat → Prop) (A : Option Addr) (n cap : Nat) (T : List Tok) (w : World) (hv : HasT w (.slice A n cap) (T.drop q)) (hc : n ≤ cap) (hcm : cap ≤ 9223372036854775807) (hnb : n ≤ 1048576) (hp : PtS pb B w root u sv st S) (hB : B ≤ w.heap.size) (hl : st.length ≤ 1048576) (hu : u ≤ 1048576) (h : StepP T root q u st k u' st') :
    Calls Tryd.prog 43 #[.pointer (some ⟨pb, 0, none⟩), .slice A n cap] w fun e w' => ∃ sv' S', e = .returned (.int .i64 k) ∧ PtS pb B w' root u' sv' st' S' ∧ (w.heap.size ≤ w'.heap.size ∧ (∀ b, b < B → b ≠ pb → w'.heap[b]? = w.heap[b]?) ∧ w'.os = w.os ∧ w'.tape = w.tape ∧ w'.output = w.output) := by
  rcases h with ⟨h1, rfl, rfl, rfl⟩ | ⟨h1, s, h2, rfl, rfl⟩
  · unfold upB at h1
    simp only [Bool.and_eq_true, Bool.not_eq_true', List.isEmpty_iff] at h1
    obtain ⟨⟨h1, rfl⟩, rfl⟩ := h1
    refine (iRdPart_up pb B u sv S A n cap (T.drop q) w hv hp hB ⟨by omega, by omega⟩ h1 none).mono ?_
    rintro e w' ⟨sv', S', v, st', k, rfl, hP, hf, hh⟩
    rcases hh.out with ⟨_, rfl, rfl, rfl⟩ | ⟨h, _⟩ | ⟨_, _, h, _⟩
    · exact ⟨sv', S', rfl, by rw [Int.natCast_add]; exact hP, hf⟩
    · cases h
    · cases h
  · obtain ⟨q', h3, h4⟩ := h2.head_some
    obtain rfl : q' = k := by omega
    refine (iRdPart_some pb B root _ sv st S A n cap (T.drop q) w hv hc hcm hnb hp hB hl (by rw [upB_head]; exact h1) s q' h3).mono ?_
    rintro e w' ⟨sv', S', v, st', k, rfl, hP, hf, hh⟩
    rcases hh.out with ⟨h, _⟩ | ⟨_, h, _⟩ | ⟨s', q2, _, h, rfl, rfl, rfl⟩
    · cases h
    · cases h
    · cases h; exact ⟨sv', S', rfl, hP, hf⟩
theorem iRdPart_bad (pb B q u : Nat) (root : Bool) (sv : Value) (st : List Stp) (S : Nat → Prop) (A : Option Addr) (n cap : Nat) (T : List Tok) (w : World) (hv : HasT w (.slice A n cap) (T.drop q)) (hc : n ≤ cap) (hcm : cap ≤ 9223372036854775807) (hnb : n ≤ 1048576) (hp : PtS pb B w root u sv st S) (hB : B ≤ w.heap.size) (hl : st.length ≤ 1048576) (h1 : upB T root st q = false) (h2 : Spr T q none) :
    Calls Tryd.prog 43 #[.pointer (some ⟨pb, 0, none⟩), .slice A n cap] w fun e w' => ∃ sv' S', e = .returned (.int .i64 0) ∧ PtS pb B w' root u sv' st S' ∧ (w.heap.size ≤ w'.heap.size ∧ (∀ b, b < B → b ≠ pb → w'.heap[b]? = w.heap[b]?) ∧ w'.os = w.os ∧ w'.tape = w.tape ∧ w'.output = w.output) := by
  refine (iRdPart_no pb B root u sv st S A n cap (T.drop q) w hv hc hcm hnb hp hB hl (by rw [upB_head]; exact h1) h2.head_none).mono ?_
  rintro e w' ⟨sv', S', v, st', k, rfl, hP, hf, hh⟩
  rcases hh.out with ⟨h, _⟩ | ⟨_, _, rfl, rfl, rfl⟩ | ⟨_, _, _, h, _⟩
  · cases h
  · exact ⟨sv', S', rfl, hP, hf⟩
  · cases h
theorem run_loadPth {W : World} {b : Nat} {r : Bool} {u : Int} {sv : Value} (h : W.heap[b]? = some (.cells #[.bool r, .int .i64 u, sv] 26 (0, 0))) : (loadVar 26 ⟨b, 0, none⟩).run Tryd.prog W = .ok (.agg #[.bool r, .int .i64 u, sv]) W :=
  run_loadVar_row W b _ 26 _ (0, 0) _ h Tryd.underlying26 rfl (by kernel_rfl)
theorem pth_full {w : World} {b : Nat} {a0 a1 a2 : Value} {t : TypeId} (h : w.heap[b]? = some (.cells #[a0, a1, a2] t (0, 0))) (x y z : Value) : (((w.setCell ⟨b, 0, none⟩ x).setCell ⟨b, 1, none⟩ y).setCell ⟨b, 2, none⟩ z).heap[b]? = some (.cells #[x, y, z] t (0, 0)) :=
  heap_setCell_same _ b 2 _ t z (heap_setCell_same _ b 1 _ t y (heap_setCell_same w b 0 _ t x h))
theorem below_set3 {W W' : World} {b : Nat} {u0 u1 u2 : Value} (h : Below W.heap.size W W') (hb : W.heap.size ≤ b) : Below W.heap.size W (((W'.setCell ⟨b, 0, none⟩ u0).setCell ⟨b, 1, none⟩ u1).setCell ⟨b, 2, none⟩ u2) := (below_set2 h hb).setCell (p := ⟨b, 2, none⟩) hb u2
/-- a path while readPath reads it: the result's box at W0's end, the path's box behind it -/
structure RpS (W0 : World) (root : Bool) (u : Int) (sv : Value) (st : List Stp) (S : Nat → Prop) (w : World) : Prop where
  P : PtS (W0.heap.size + 1) (W0.heap.size + 2) w root u sv st S
  R : w.heap[W0.heap.size]? = some (.cells #[.bool false, .int .i64 0, .slice none 0 0] 26 (0, 0))
  B : Below W0.heap.size W0 w
  sz : W0.heap.size + 2 ≤ w.heap.size
theorem RpS.step {W0 : World} {root : Bool} {u u' : Int} {sv sv' : Value} {st st' : List Stp} {S S' : Nat → Prop} {w w' : World} (h : RpS W0 root u sv st S w) (hP : PtS (W0.heap.size + 1) (W0.heap.size + 2) w' root u' sv' st' S')
    (hf : w.heap.size ≤ w'.heap.size ∧ (∀ b, b < W0.heap.size + 2 → b ≠ W0.heap.size + 1 → w'.heap[b]? = w.heap[b]?) ∧ w'.os = w.os ∧ w'.tape = w.tape ∧ w'.output = w.output) : RpS W0 root u' sv' st' S' w' :=
  ⟨hP, (hf.2.1 _ (by omega) (by omega)).trans h.R, ⟨hf.2.2.1.trans h.B.os, hf.2.2.2.1.trans h.B.tape, hf.2.2.2.2.trans h.B.output, Nat.le_trans h.B.size hf.1, fun b hb => (hf.2.1 b (by omega) (by omega)).trans (h.B.block b hb)⟩, Nat.le_trans h.sz hf.1⟩
/-- what readPath hands back -/
def PaV (B : Nat) (res : Option (Pth × Nat)) (e : Ending) (w' : World) : Prop := match res with
  | some (p, k) => ∃ sv S, e = .returned (.tuple #[.agg #[.bool p.root, .int .i64 p.ups, sv], .int .i64 k]) ∧ OwnS B w' sv p.st S
  | none => e = .returned (.tuple #[.agg #[.bool false, .int .i64 0, .slice none 0 0], .int .i64 0])
theorem RpS.out {W0 : World} {root : Bool} {u : Int} {sv : Value} {st : List Stp} {S : Nat → Prop} {w : World} (h : RpS W0 root u sv st S w) (x y z : Value) :
    OwnS W0.heap.size (((w.setCell ⟨W0.heap.size, 0, none⟩ x).setCell ⟨W0.heap.size, 1, none⟩ y).setCell ⟨W0.heap.size, 2, none⟩ z) sv st S ∧ Below W0.heap.size W0 (((w.setCell ⟨W0.heap.size, 0, none⟩ x).setCell ⟨W0.heap.size, 1, none⟩ y).setCell ⟨W0.heap.size, 2, none⟩ z) :=
  ⟨OwL.mono (OwL.set (OwL.set (OwL.set h.P.own (by omega)) (by omega)) (by omega)) (by omega), below_set3 h.B (Nat.le_refl _)⟩
theorem rpS_start (w : World) : RpS w false 0 (.slice none 0 0) [] (fun _ => False) ((w.alloc (.cells #[.bool false, .int .i64 0, .slice none 0 0] 26)).alloc (.cells #[.bool false, .int .i64 0, .slice none 0 0] 26)) := by
  have hb := below_al (Below.refl w.heap.size w) (.cells #[.bool false, .int .i64 0, .slice none 0 0] 26)
  exact ⟨⟨alloc_new_at' _ _ (by simp), owL_nil _ _ _ _, by omega⟩, ((below_al (Below.refl _ _) _).block _ (by simp)).trans (heap_alloc_new w _), below_al hb _, by simp⟩
theorem RpS.root {W0 : World} {w : World} (h : RpS W0 false 0 (.slice none 0 0) [] (fun _ => False) w) : RpS W0 true 0 (.slice none 0 0) [] (fun _ => False) (w.setCell ⟨W0.heap.size + 1, 0, none⟩ (.bool true)) :=
  ⟨⟨by rw [heap_setCell_same w _ 0 _ _ _ h.P.box]; rfl, owL_nil _ _ _ _, by omega⟩, (Below.heap_setCell w _ _ _ (by show W0.heap.size ≠ W0.heap.size + 1; omega)).trans h.R, below_set h.B (by omega), by simpa [World.setCell] using h.sz⟩
theorem rpS_same {W0 : World} {w w' : World} {root : Bool} {u : Int} {sv : Value} {st : List Stp} {S : Nat → Prop} (h : RpS W0 root u sv st S w) (e : w = w') : RpS W0 root u sv st S w' := e ▸ h
set_option maxHeartbeats 4000000 in
theorem iRdPth_nil (w : World) (res : Option (Pth × Nat)) (hr : Pthr [] res) :
    Calls Tryd.prog 20 #[.slice none 0 0] w fun e w' => PaV w.heap.size res e w' ∧ Below w.heap.size w w' := by
  obtain rfl : res = none := by
    cases hr with
    | root h => cases h
    | rootMore h => cases h
    | rootBad h => cases h
    | none => rfl
    | some h h2 =>
      exfalso
      rcases h2.way with ⟨_, _, h⟩ | ⟨k, u', st', h, _⟩
      · cases h
      · have := h.bd; simp at this; omega
  clear hr
  have HS := Lib.hid (rpS_start w)
  go_enter Tryd.func20, Tryd.ntmps20
  go_wp2_with fail
  refine (iMk_any none 0 0 [] slashT _ (hasR_nil _)).mono ?_
  rintro e w1 ⟨rfl, rfl⟩
  have HS1 := HS
  generalize ((w.alloc (.cells #[.bool false, .int .i64 0, .slice none 0 0] 26)).alloc (.cells #[.bool false, .int .i64 0, .slice none 0 0] 26)) = w1 at HS1 ⊢
  rw [show mkB [] slashT = false from rfl]
  go_wp2
  go_loopw [5] (fun v wr => v = .int .i64 0 ∧ wr = w1) (fun _ _ => 0)
  case atStart => exact ⟨rfl, rfl⟩
  case round =>
    obtain ⟨rfl, rfl⟩ := hrel
    go_wp2_with fail
    refine (iRdPart_bad (w.heap.size + 1) (w.heap.size + 2) 0 0 false _ [] _ none 0 0 [] _ (hasR_nil _) (by omega) (by omega) (by omega) HS1.out.P HS1.out.sz (by simp) rfl (.no rfl)).mono ?_
    rintro e w2 ⟨sv', S', rfl, hP, hf⟩
    have HS2 := Lib.hid (HS1.out.step hP hf)
    clear hP hf HS1
    obtain ⟨⟨z0, z1, z2⟩, f0, f1, f2⟩ := three_f HS2.out.R
    go_wp2
    refine bodyPost_ret (results_ct rfl _ _ ⟨w.heap.size, 0, none⟩ _ rfl (run_loadPth (pth_full HS2.out.R _ _ _))) rfl ?_
    exact ⟨rfl, (HS2.out.out _ _ _).2⟩
set_option maxHeartbeats 16000000 in
theorem iRdPth_some (a : Addr) (n cap : Nat) (T : List Tok) (w : World) (hv : HasT w (.slice (some a) n cap) T) (hc : n ≤ cap) (hcm : cap ≤ 9223372036854775807) (hnb : n ≤ 1048576) (res : Option (Pth × Nat)) (hr : Pthr T res) :
    Calls Tryd.prog 20 #[.slice (some a) n cap] w fun e w' => PaV w.heap.size res e w' ∧ Below w.heap.size w w' := by
  obtain ⟨hn, hn'⟩ := hv.size
  have HN := Lib.hid hn
  have HS0 := Lib.hid (rpS_start w)
  have HMK0 := Lib.hid (fun W (hb : Below w.heap.size w W) => iMk_any _ _ _ _ slashT W (HasR.below hv hb))
  have HCUT := Lib.hid (fun q (hq : q ≤ n) (e : ¬ cap = q) W (hb : Below w.heap.size w W) => (show HasT W (.slice (some (a.add (q * 3))) (n - q) (cap - q)) (T.drop q) from HasT.cutN (HasR.below hv hb) hc hq e))
  have HCE := Lib.hid (fun q (hq : q ≤ n) (e : cap = q) W (hb : Below w.heap.size w W) => (show HasT W (.slice (some a) (n - q) (cap - q)) (T.drop q) from HasT.cutE (HasR.below hv hb) hc hq e))
  have hcase : (mkB T slashT = false ∧ ∃ r2, Ptr T false 0 0 [] r2 ∧ Hid ((r2 = none → res = none) ∧ ∀ u st q, r2 = some (u, st, q) → res = some (⟨false, (u : Int), st⟩, q))) ∨ (mkB T slashT = true ∧ kB 1 (T.drop 1) = false ∧ res = some (⟨true, 0, []⟩, 1)) ∨ (mkB T slashT = true ∧ kB 1 (T.drop 1) = true ∧ ∃ r2, Ptr T true 1 0 [] r2 ∧ Hid ((r2 = none → res = none) ∧ ∀ u st q, r2 = some (u, st, q) → res = some (⟨true, (u : Int), st⟩, q))) := by
    cases hr with
    | root h1 h2 => exact .inr (.inl ⟨h1, h2, rfl⟩)
    | rootMore h1 h2 h3 => exact .inr (.inr ⟨h1, h2, _, h3, Lib.hid ⟨(fun h => by cases h), (fun u st q h => by cases h; rfl)⟩⟩)
    | rootBad h1 h2 h3 => exact .inr (.inr ⟨h1, h2, _, h3, Lib.hid ⟨(fun _ => rfl), (fun u st q h => by cases h)⟩⟩)
    | some h1 h2 => exact .inl ⟨h1, _, h2, Lib.hid ⟨(fun h => by cases h), (fun u st q h => by cases h; rfl)⟩⟩
    | none h1 h2 => exact .inl ⟨h1, _, h2, Lib.hid ⟨(fun _ => rfl), (fun u st q h => by cases h)⟩⟩
  have hnc' : (n : Int) ≤ (cap : Int) := by omega
  clear hv hr hn
  rcases hcase with ⟨hm, r2, hpt, HRES⟩ | ⟨hm, hk, hres⟩ | ⟨hm, hk, r2, hpt, HRES⟩
  · have HPT := Lib.hid hpt
    rw [hm] at HMK0
    clear hpt hm
    go_enter Tryd.func20, Tryd.ntmps20
    go_wp2_with fail
    refine (HMK0.out _ HS0.out.B).mono ?_
    rintro e w1 ⟨rfl, hw⟩
    have HS1 := Lib.hid (rpS_same HS0.out hw)
    clear hw HS0 HMK0
    go_wp2
    go_loopw [5] (fun v wr => ∃ (q u : Nat) (sv : Value) (st : List Stp) (S : Nat → Prop), Hid (q ≤ n ∧ st.length ≤ q ∧ u ≤ q) ∧ v = .int .i64 q ∧ Hid (Ptr T false q u st r2) ∧ Hid (RpS w false u sv st S wr)) (fun v _ => n - (intOf v).toNat)
    case atStart => exact ⟨0, 0, _, [], _, Lib.hid ⟨by omega, by simp, by omega⟩, rfl, HPT, HS1⟩
    case round =>
      obtain ⟨q, u, sv, st, S, HQ, rfl, HT, HS⟩ := hrel
      clear HS1
      have hq := HQ.out.1
      have hpn' : (q : Int) ≤ (n : Int) := by omega
      have hpc' : (q : Int) ≤ (cap : Int) := by omega
      have HQ1 : Hid (st.length ≤ 1048576) := Lib.hid (by have := HQ.out; omega)
      have HQ2 : Hid (u ≤ 1048576) := Lib.hid (by have := HQ.out; omega)
      obtain ⟨A2, c2, hsv⟩ := HS.out.P.form
      subst hsv
      generalize Value.slice A2 st.length c2 = sv at HS
      rcases HT.out.way with ⟨hup, hsp, hr2⟩ | ⟨k, u', st', hst, hend⟩
      · have HUP := Lib.hid hup
        have HSP := Lib.hid hsp
        have HR2 : Hid (res = none) := Lib.hid (HRES.out.1 hr2)
        clear hup hsp hr2
        by_cases hcp : cap = q
        · have HE : Hid (∀ W, Below w.heap.size w W → HasT W (.slice (some a) 0 0) (T.drop q)) := Lib.hid fun W h => by
            have := HCE.out q hq hcp W h
            rwa [show cap - q = 0 by omega, show n - q = 0 by omega] at this
          obtain rfl : q = cap := hcp.symm
          go_wp2_with fail
          refine (iRdPart_bad (w.heap.size + 1) (w.heap.size + 2) q u false sv st S _ _ _ T _ (HE.out _ HS.out.B) (by omega) (by omega) (by omega) HS.out.P HS.out.sz HQ1.out HUP.out HSP.out).mono ?_
          rintro e w2 ⟨sv', S', rfl, hP, hf⟩
          have HS2 := Lib.hid (HS.out.step hP hf)
          clear hP hf HS
          obtain ⟨⟨z0, z1, z2⟩, f0, f1, f2⟩ := three_f HS2.out.R
          go_wp2
          refine bodyPost_ret (results_ct rfl _ _ ⟨w.heap.size, 0, none⟩ _ rfl (run_loadPth (pth_full HS2.out.R _ _ _))) rfl ?_
          rw [HR2.out]
          exact ⟨rfl, (HS2.out.out _ _ _).2⟩
        · have HE := Lib.hid (HCUT.out q hq hcp)
          go_wp2_with fail
          refine (iRdPart_bad (w.heap.size + 1) (w.heap.size + 2) q u false sv st S _ _ _ T _ (HE.out _ HS.out.B) (by omega) (by omega) (by omega) HS.out.P HS.out.sz HQ1.out HUP.out HSP.out).mono ?_
          rintro e w2 ⟨sv', S', rfl, hP, hf⟩
          have HS2 := Lib.hid (HS.out.step hP hf)
          clear hP hf HS
          obtain ⟨⟨z0, z1, z2⟩, f0, f1, f2⟩ := three_f HS2.out.R
          go_wp2
          refine bodyPost_ret (results_ct rfl _ _ ⟨w.heap.size, 0, none⟩ _ rfl (run_loadPth (pth_full HS2.out.R _ _ _))) rfl ?_
          rw [HR2.out]
          exact ⟨rfl, (HS2.out.out _ _ _).2⟩
      · obtain ⟨hk0, hqk, hu', hs'⟩ := hst.bd
        rw [← HN.out] at hqk
        have HST := Lib.hid hst
        have HQ3 : Hid (u' ≤ q + k ∧ st'.length ≤ q + k) := Lib.hid (by have := HQ.out; omega)
        have hcp : ¬ cap = q := by omega
        have HC := Lib.hid (HCUT.out q hq hcp)
        have hk00 : ((k : Int) == 0) = false := by simp; omega
        have hk000 : (k == 0) = false := by simp; omega
        have hk1 : (1 : Int) ≤ (k : Int) := by omega
        have hpk' : (q : Int) + (k : Int) ≤ (n : Int) := by omega
        have hpkc' : (q : Int) + (k : Int) ≤ (cap : Int) := by omega
        have hpk0 : (0 : Int) ≤ (q : Int) + (k : Int) := by omega
        have hpkt : ((q : Int) + (k : Int)).toNat = q + k := by omega
        have hw1 : IntKind.i64.wrap ((q : Int) + (k : Int)) = (q : Int) + (k : Int) := IntWalk.i64_in _ (by omega)
        clear hst hu' hs'
        rcases hend with ⟨hmk, hr2⟩ | ⟨hmk, hpt⟩
        · have HMK := Lib.hid hmk
          have HR2 : Hid (res = some (⟨false, (u' : Int), st'⟩, q + k)) := Lib.hid (HRES.out.2 _ _ _ hr2)
          clear hmk hr2
          by_cases hcq : cap = q + k
          · have HC2 : Hid (∀ W, Below w.heap.size w W → HasT W (.slice (some a) 0 0) (T.drop (q + k))) := Lib.hid fun W h => by
              have := HCE.out (q + k) hqk hcq W h
              rwa [show cap - (q + k) = 0 by omega, show n - (q + k) = 0 by omega] at this
            have HCk := Lib.hid fun W (h : Below w.heap.size w W) => (show HasT W (.slice (some (a.add (q * 3))) (n - q) k) (T.drop q) by
              have := HC.out W h
              rwa [show cap - q = k by omega] at this)
            clear HC HCUT HCE
            subst hcq
            go_wp2_with fail
            refine (iRdPart_good (w.heap.size + 1) (w.heap.size + 2) q u k u' false sv st st' S _ _ _ T _ (HCk.out _ HS.out.B) (by omega) (by omega) (by omega) HS.out.P HS.out.sz HQ1.out HQ2.out HST.out).mono ?_
            rintro e w2 ⟨sv', S', rfl, hP, hf⟩
            have HS2 := Lib.hid (HS.out.step hP hf)
            clear hP hf HS
            go_wp2_with fail
            refine (iMk_any _ _ _ (T.drop (q + k)) slashT _ (HC2.out _ HS2.out.B)).mono ?_
            rw [HMK.out]
            rintro e w3 ⟨rfl, hw⟩
            have HS3 := Lib.hid (rpS_same HS2.out hw)
            clear hw HS2
            obtain ⟨A9, c9, hsv⟩ := HS3.out.P.form
            subst hsv
            obtain ⟨⟨z0, z1, z2⟩, f0, f1, f2⟩ := three_f HS3.out.R
            obtain ⟨⟨y0, y1, y2⟩, -⟩ := three_f HS3.out.P.box
            go_wp2
            refine bodyPost_ret (results_ct rfl _ _ ⟨w.heap.size, 0, none⟩ _ rfl (run_loadPth (pth_full HS3.out.R _ _ _))) rfl ?_
            rw [HR2.out]
            exact ⟨⟨_, _, rfl, (HS3.out.out _ _ _).1⟩, (HS3.out.out _ _ _).2⟩
          · have HC2 := Lib.hid (HCUT.out (q + k) hqk hcq)
            go_wp2_with fail
            refine (iRdPart_good (w.heap.size + 1) (w.heap.size + 2) q u k u' false sv st st' S _ _ _ T _ (HC.out _ HS.out.B) (by omega) (by omega) (by omega) HS.out.P HS.out.sz HQ1.out HQ2.out HST.out).mono ?_
            rintro e w2 ⟨sv', S', rfl, hP, hf⟩
            have HS2 := Lib.hid (HS.out.step hP hf)
            clear hP hf HS
            go_wp2_with fail
            refine (iMk_any _ _ _ (T.drop (q + k)) slashT _ (HC2.out _ HS2.out.B)).mono ?_
            rw [HMK.out]
            rintro e w3 ⟨rfl, hw⟩
            have HS3 := Lib.hid (rpS_same HS2.out hw)
            clear hw HS2
            obtain ⟨A9, c9, hsv⟩ := HS3.out.P.form
            subst hsv
            obtain ⟨⟨z0, z1, z2⟩, f0, f1, f2⟩ := three_f HS3.out.R
            obtain ⟨⟨y0, y1, y2⟩, -⟩ := three_f HS3.out.P.box
            go_wp2
            refine bodyPost_ret (results_ct rfl _ _ ⟨w.heap.size, 0, none⟩ _ rfl (run_loadPth (pth_full HS3.out.R _ _ _))) rfl ?_
            rw [HR2.out]
            exact ⟨⟨_, _, rfl, (HS3.out.out _ _ _).1⟩, (HS3.out.out _ _ _).2⟩
        · have HMK := Lib.hid hmk
          have hlt := mkB_len hmk
          rw [← HN.out] at hlt
          have HPT2 := Lib.hid hpt
          clear hmk hpt
          have hcq : ¬ cap = q + k := by omega
          have HC2 := Lib.hid (HCUT.out (q + k) hqk hcq)
          go_wp2_with fail
          refine (iRdPart_good (w.heap.size + 1) (w.heap.size + 2) q u k u' false sv st st' S _ _ _ T _ (HC.out _ HS.out.B) (by omega) (by omega) (by omega) HS.out.P HS.out.sz HQ1.out HQ2.out HST.out).mono ?_
          rintro e w2 ⟨sv', S', rfl, hP, hf⟩
          have HS2 := Lib.hid (HS.out.step hP hf)
          clear hP hf HS
          go_wp2_with fail
          refine (iMk_any _ _ _ (T.drop (q + k)) slashT _ (HC2.out _ HS2.out.B)).mono ?_
          rw [HMK.out]
          rintro e w3 ⟨rfl, hw⟩
          have HS3 := Lib.hid (rpS_same HS2.out hw)
          clear hw HS2
          go_wp2
          go_roundw
          case rel => exact ⟨q + k + 1, u', sv', st', S', Lib.hid (by have := HQ.out; have := HQ3.out; omega), by go_num, HPT2, HS3⟩
          case measure => simp [intOf]; omega
  · have HR2 := Lib.hid hres
    rw [hm] at HMK0
    have h1n : 1 ≤ n := by have := mkB_len (show mkB (T.drop 0) slashT = true from hm); rw [HN.out]; omega
    have HBN0 := Lib.hid (fun (A : Option Addr) (m c : Nat) W (h : HasT W (.slice A m c) (T.drop 1)) => iBn_any A m c (T.drop 1) W h)
    rw [hk] at HBN0
    clear hres hm hk
    obtain ⟨n, rfl⟩ : ∃ m, n = m + 1 := ⟨n - 1, by omega⟩
    obtain ⟨cap, rfl⟩ : ∃ m, cap = m + 1 := ⟨cap - 1, by omega⟩
    have hnc : n ≤ cap := by omega
    by_cases hc0 : cap = 0
    · subst hc0
      obtain rfl : n = 0 := by omega
      have HE := Lib.hid (HCE.out 1 (by omega) rfl)
      go_enter Tryd.func20, Tryd.ntmps20
      go_wp2_with fail
      refine (HMK0.out _ HS0.out.B).mono ?_
      rintro e w1 ⟨rfl, hw⟩
      have HS1 := Lib.hid (rpS_same HS0.out hw)
      clear hw HS0 HMK0
      obtain ⟨⟨y0, y1, y2⟩, g0, g1, g2⟩ := three_f HS1.out.P.box
      have HS2 := Lib.hid HS1.out.root
      go_wp2_with fail
      refine (HBN0.out _ _ _ _ (HE.out _ HS2.out.B)).mono ?_
      rintro e w2 ⟨rfl, hw⟩
      have HS3 := Lib.hid (rpS_same HS2.out hw)
      clear hw HS2 y0 y1 y2 g0 g1 g2
      obtain ⟨⟨z0, z1, z2⟩, f0, f1, f2⟩ := three_f HS3.out.R
      obtain ⟨⟨y0, y1, y2⟩, -⟩ := three_f HS3.out.P.box
      go_wp2
      refine bodyPost_ret (results_ct rfl _ _ ⟨w.heap.size, 0, none⟩ _ rfl (run_loadPth (pth_full HS3.out.R _ _ _))) rfl ?_
      rw [HR2.out]
      exact ⟨⟨_, _, rfl, (HS3.out.out _ _ _).1⟩, (HS3.out.out _ _ _).2⟩
    · have HE := Lib.hid (fun W (hb : Below w.heap.size w W) => (show HasT W (.slice (some ⟨a.block, a.off + 3, none⟩) n cap) (T.drop 1) from HCUT.out 1 (by omega) (by omega) W hb))
      go_enter Tryd.func20, Tryd.ntmps20
      go_wp2_with fail
      refine (HMK0.out _ HS0.out.B).mono ?_
      rintro e w1 ⟨rfl, hw⟩
      have HS1 := Lib.hid (rpS_same HS0.out hw)
      clear hw HS0 HMK0
      obtain ⟨⟨y0, y1, y2⟩, g0, g1, g2⟩ := three_f HS1.out.P.box
      have HS2 := Lib.hid HS1.out.root
      go_wp2_with fail
      refine (HBN0.out _ _ _ _ (HE.out _ HS2.out.B)).mono ?_
      rintro e w2 ⟨rfl, hw⟩
      have HS3 := Lib.hid (rpS_same HS2.out hw)
      clear hw HS2 y0 y1 y2 g0 g1 g2
      obtain ⟨⟨z0, z1, z2⟩, f0, f1, f2⟩ := three_f HS3.out.R
      obtain ⟨⟨y0, y1, y2⟩, -⟩ := three_f HS3.out.P.box
      go_wp2
      refine bodyPost_ret (results_ct rfl _ _ ⟨w.heap.size, 0, none⟩ _ rfl (run_loadPth (pth_full HS3.out.R _ _ _))) rfl ?_
      rw [HR2.out]
      exact ⟨⟨_, _, rfl, (HS3.out.out _ _ _).1⟩, (HS3.out.out _ _ _).2⟩
  · have HPT := Lib.hid hpt
    rw [hm] at HMK0
    have h1n : 1 < n := by have := kB_len hk; rw [HN.out]; omega
    have HE0 : Hid (∀ W, Below w.heap.size w W → HasT W (.slice (some ⟨a.block, a.off + 3, none⟩) (n - 1) (cap - 1)) (T.drop 1)) := Lib.hid (fun W hb => (show HasT W (.slice (some ⟨a.block, a.off + 3, none⟩) (n - 1) (cap - 1)) (T.drop 1) from HCUT.out 1 (by omega) (by omega) W hb))
    have HBN0 := Lib.hid (fun (A : Option Addr) (m c : Nat) W (h : HasT W (.slice A m c) (T.drop 1)) => iBn_any A m c (T.drop 1) W h)
    rw [hk] at HBN0
    have hc1 : ¬ cap = 1 := by omega
    have hi1 : (1 : Int) ≤ (n : Int) := by omega
    have hi2 : (1 : Int) ≤ (cap : Int) := by omega
    clear hpt hm hk
    go_enter Tryd.func20, Tryd.ntmps20
    go_wp2_with fail
    refine (HMK0.out _ HS0.out.B).mono ?_
    rintro e w1 ⟨rfl, hw⟩
    have HS1 := Lib.hid (rpS_same HS0.out hw)
    clear hw HS0 HMK0
    obtain ⟨⟨y0, y1, y2⟩, g0, g1, g2⟩ := three_f HS1.out.P.box
    have HS2 := Lib.hid HS1.out.root
    go_wp2_with fail
    refine (HBN0.out _ _ _ _ (HE0.out _ HS2.out.B)).mono ?_
    rintro e w2 ⟨rfl, hw⟩
    have HS3 := Lib.hid (rpS_same HS2.out hw)
    clear hw HS2 y0 y1 y2 g0 g1 g2 HS1
    go_wp2
    go_loopw [5] (fun v wr => ∃ (q u : Nat) (sv : Value) (st : List Stp) (S : Nat → Prop), Hid (q ≤ n ∧ st.length ≤ q ∧ u ≤ q) ∧ v = .int .i64 q ∧ Hid (Ptr T true q u st r2) ∧ Hid (RpS w true u sv st S wr)) (fun v _ => n - (intOf v).toNat)
    case atStart => exact ⟨1, 0, _, [], _, Lib.hid ⟨by omega, by simp, by omega⟩, rfl, HPT, HS3⟩
    case round =>
      obtain ⟨q, u, sv, st, S, HQ, rfl, HT, HS⟩ := hrel
      clear HS3
      have hq := HQ.out.1
      have hpn' : (q : Int) ≤ (n : Int) := by omega
      have hpc' : (q : Int) ≤ (cap : Int) := by omega
      have HQ1 : Hid (st.length ≤ 1048576) := Lib.hid (by have := HQ.out; omega)
      have HQ2 : Hid (u ≤ 1048576) := Lib.hid (by have := HQ.out; omega)
      obtain ⟨A2, c2, hsv⟩ := HS.out.P.form
      subst hsv
      generalize Value.slice A2 st.length c2 = sv at HS
      rcases HT.out.way with ⟨hup, hsp, hr2⟩ | ⟨k, u', st', hst, hend⟩
      · have HUP := Lib.hid hup
        have HSP := Lib.hid hsp
        have HR2 : Hid (res = none) := Lib.hid (HRES.out.1 hr2)
        clear hup hsp hr2
        by_cases hcp : cap = q
        · have HE : Hid (∀ W, Below w.heap.size w W → HasT W (.slice (some a) 0 0) (T.drop q)) := Lib.hid fun W h => by
            have := HCE.out q hq hcp W h
            rwa [show cap - q = 0 by omega, show n - q = 0 by omega] at this
          obtain rfl : q = cap := hcp.symm
          go_wp2_with fail
          refine (iRdPart_bad (w.heap.size + 1) (w.heap.size + 2) q u true sv st S _ _ _ T _ (HE.out _ HS.out.B) (by omega) (by omega) (by omega) HS.out.P HS.out.sz HQ1.out HUP.out HSP.out).mono ?_
          rintro e w2 ⟨sv', S', rfl, hP, hf⟩
          have HS2 := Lib.hid (HS.out.step hP hf)
          clear hP hf HS
          obtain ⟨⟨z0, z1, z2⟩, f0, f1, f2⟩ := three_f HS2.out.R
          go_wp2
          refine bodyPost_ret (results_ct rfl _ _ ⟨w.heap.size, 0, none⟩ _ rfl (run_loadPth (pth_full HS2.out.R _ _ _))) rfl ?_
          rw [HR2.out]
          exact ⟨rfl, (HS2.out.out _ _ _).2⟩
        · have HE := Lib.hid (HCUT.out q hq hcp)
          go_wp2_with fail
          refine (iRdPart_bad (w.heap.size + 1) (w.heap.size + 2) q u true sv st S _ _ _ T _ (HE.out _ HS.out.B) (by omega) (by omega) (by omega) HS.out.P HS.out.sz HQ1.out HUP.out HSP.out).mono ?_
          rintro e w2 ⟨sv', S', rfl, hP, hf⟩
          have HS2 := Lib.hid (HS.out.step hP hf)
          clear hP hf HS
          obtain ⟨⟨z0, z1, z2⟩, f0, f1, f2⟩ := three_f HS2.out.R
          go_wp2
          refine bodyPost_ret (results_ct rfl _ _ ⟨w.heap.size, 0, none⟩ _ rfl (run_loadPth (pth_full HS2.out.R _ _ _))) rfl ?_
          rw [HR2.out]
          exact ⟨rfl, (HS2.out.out _ _ _).2⟩
      · obtain ⟨hk0, hqk, hu', hs'⟩ := hst.bd
        rw [← HN.out] at hqk
        have HST := Lib.hid hst
        have HQ3 : Hid (u' ≤ q + k ∧ st'.length ≤ q + k) := Lib.hid (by have := HQ.out; omega)
        have hcp : ¬ cap = q := by omega
        have HC := Lib.hid (HCUT.out q hq hcp)
        have hk00 : ((k : Int) == 0) = false := by simp; omega
        have hk000 : (k == 0) = false := by simp; omega
        have hk1 : (1 : Int) ≤ (k : Int) := by omega
        have hpk' : (q : Int) + (k : Int) ≤ (n : Int) := by omega
        have hpkc' : (q : Int) + (k : Int) ≤ (cap : Int) := by omega
        have hpk0 : (0 : Int) ≤ (q : Int) + (k : Int) := by omega
        have hpkt : ((q : Int) + (k : Int)).toNat = q + k := by omega
        have hw1 : IntKind.i64.wrap ((q : Int) + (k : Int)) = (q : Int) + (k : Int) := IntWalk.i64_in _ (by omega)
        clear hst hu' hs'
        rcases hend with ⟨hmk, hr2⟩ | ⟨hmk, hpt⟩
        · have HMK := Lib.hid hmk
          have HR2 : Hid (res = some (⟨true, (u' : Int), st'⟩, q + k)) := Lib.hid (HRES.out.2 _ _ _ hr2)
          clear hmk hr2
          by_cases hcq : cap = q + k
          · have HC2 : Hid (∀ W, Below w.heap.size w W → HasT W (.slice (some a) 0 0) (T.drop (q + k))) := Lib.hid fun W h => by
              have := HCE.out (q + k) hqk hcq W h
              rwa [show cap - (q + k) = 0 by omega, show n - (q + k) = 0 by omega] at this
            have HCk := Lib.hid fun W (h : Below w.heap.size w W) => (show HasT W (.slice (some (a.add (q * 3))) (n - q) k) (T.drop q) by
              have := HC.out W h
              rwa [show cap - q = k by omega] at this)
            clear HC HCUT HCE
            subst hcq
            go_wp2_with fail
            refine (iRdPart_good (w.heap.size + 1) (w.heap.size + 2) q u k u' true sv st st' S _ _ _ T _ (HCk.out _ HS.out.B) (by omega) (by omega) (by omega) HS.out.P HS.out.sz HQ1.out HQ2.out HST.out).mono ?_
            rintro e w2 ⟨sv', S', rfl, hP, hf⟩
            have HS2 := Lib.hid (HS.out.step hP hf)
            clear hP hf HS
            go_wp2_with fail
            refine (iMk_any _ _ _ (T.drop (q + k)) slashT _ (HC2.out _ HS2.out.B)).mono ?_
            rw [HMK.out]
            rintro e w3 ⟨rfl, hw⟩
            have HS3 := Lib.hid (rpS_same HS2.out hw)
            clear hw HS2
            obtain ⟨A9, c9, hsv⟩ := HS3.out.P.form
            subst hsv
            obtain ⟨⟨z0, z1, z2⟩, f0, f1, f2⟩ := three_f HS3.out.R
            obtain ⟨⟨y0, y1, y2⟩, -⟩ := three_f HS3.out.P.box
            go_wp2
            refine bodyPost_ret (results_ct rfl _ _ ⟨w.heap.size, 0, none⟩ _ rfl (run_loadPth (pth_full HS3.out.R _ _ _))) rfl ?_
            rw [HR2.out]
            exact ⟨⟨_, _, rfl, (HS3.out.out _ _ _).1⟩, (HS3.out.out _ _ _).2⟩
          · have HC2 := Lib.hid (HCUT.out (q + k) hqk hcq)
            go_wp2_with fail
            refine (iRdPart_good (w.heap.size + 1) (w.heap.size + 2) q u k u' true sv st st' S _ _ _ T _ (HC.out _ HS.out.B) (by omega) (by omega) (by omega) HS.out.P HS.out.sz HQ1.out HQ2.out HST.out).mono ?_
            rintro e w2 ⟨sv', S', rfl, hP, hf⟩
            have HS2 := Lib.hid (HS.out.step hP hf)
            clear hP hf HS
            go_wp2_with fail
            refine (iMk_any _ _ _ (T.drop (q + k)) slashT _ (HC2.out _ HS2.out.B)).mono ?_
            rw [HMK.out]
            rintro e w3 ⟨rfl, hw⟩
            have HS3 := Lib.hid (rpS_same HS2.out hw)
            clear hw HS2
            obtain ⟨A9, c9, hsv⟩ := HS3.out.P.form
            subst hsv
            obtain ⟨⟨z0, z1, z2⟩, f0, f1, f2⟩ := three_f HS3.out.R
            obtain ⟨⟨y0, y1, y2⟩, -⟩ := three_f HS3.out.P.box
            go_wp2
            refine bodyPost_ret (results_ct rfl _ _ ⟨w.heap.size, 0, none⟩ _ rfl (run_loadPth (pth_full HS3.out.R _ _ _))) rfl ?_
            rw [HR2.out]
            exact ⟨⟨_, _, rfl, (HS3.out.out _ _ _).1⟩, (HS3.out.out _ _ _).2⟩
        · have HMK := Lib.hid hmk
          have hlt := mkB_len hmk
          rw [← HN.out] at hlt
          have HPT2 := Lib.hid hpt
          clear hmk hpt
          have hcq : ¬ cap = q + k := by omega
          have HC2 := Lib.hid (HCUT.out (q + k) hqk hcq)
          go_wp2_with fail
          refine (iRdPart_good (w.heap.size + 1) (w.heap.size + 2) q u k u' true sv st st' S _ _ _ T _ (HC.out _ HS.out.B) (by omega) (by omega) (by omega) HS.out.P HS.out.sz HQ1.out HQ2.out HST.out).mono ?_
          rintro e w2 ⟨sv', S', rfl, hP, hf⟩
          have HS2 := Lib.hid (HS.out.step hP hf)
          clear hP hf HS
          go_wp2_with fail
          refine (iMk_any _ _ _ (T.drop (q + k)) slashT _ (HC2.out _ HS2.out.B)).mono ?_
          rw [HMK.out]
          rintro e w3 ⟨rfl, hw⟩
          have HS3 := Lib.hid (rpS_same HS2.out hw)
          clear hw HS2
          go_wp2
          go_roundw
          case rel => exact ⟨q + k + 1, u', sv', st', S', Lib.hid (by have := HQ.out; have := HQ3.out; omega), by go_num, HPT2, HS3⟩
          case measure => simp [intOf]; omega
end Go.Proofs.YtdfapkceanicoaaDoor
