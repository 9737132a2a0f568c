/- CHAPTER 7: PATHS READ FROM TOKENS: impl's ParsePath. -/
import Derived.Test.YtdfapkceanicoaaDoorPpH
import Derived.Test.YtdfapkceanicoaaDoorPthI
set_option linter.unusedVariables false
set_option linter.unusedSimpArgs false
namespace Go.Proofs.YtdfapkceanicoaaDoor
open Go.RowKit NumP
set_option maxRecDepth 100000

def zeroPth : Pth := ⟨false, 0, []⟩
def pthR (res : Option (Pth × Nat)) : Pth := (res.getD (zeroPth, 0)).1
def pthQ (res : Option (Pth × Nat)) : Nat := (res.getD (zeroPth, 0)).2
/-- what ParsePath answers -/
noncomputable def parPth (e : Option Nat) (T : List Tok) (res : Option (Pth × Nat)) : Option Pth := if e = none ∧ pthQ res = T.length ∧ dB (PthOk (pthR res)) = true then some (pthR res) else none
theorem pthOk_zero : ¬ PthOk zeroPth := fun h => h.2.2.2.1 ⟨rfl, rfl, rfl⟩
theorem pthR_sz {T : List Tok} {res : Option (Pth × Nat)} (h : Pthr T res) (hs : ∀ x ∈ T, x.t.size ≤ 1048576) (hl : T.length ≤ 1048576) : PthSz (pthR res) ∧ pthQ res ≤ 1048576 := by
  match res, h with
  | none, _ => exact ⟨⟨Nat.zero_le _, fun s h => by cases h⟩, Nat.zero_le _⟩
  | some (p, q), h => have := h.sz hs hl; exact ⟨this.1, Nat.le_trans this.2.1 hl⟩
theorem PaV.one {B : Nat} {res : Option (Pth × Nat)} {e : Ending} {w' : World} (h : PaV B res e w') : ∃ sv S, e = .returned (.tuple #[.agg #[.bool (pthR res).root, .int .i64 (pthR res).ups, sv], .int .i64 (pthQ res : Nat)]) ∧ OwnS B w' sv (pthR res).st S := by
  match res, h with
  | none, h => exact ⟨_, _, h, owL_nil _ _ _ _⟩
  | some (p, q), h => exact h
/-- what ParsePath hands back -/
def PoV (B : Nat) (o : Option Pth) (e : Ending) (w' : World) : Prop := match o with
  | some p => ∃ sv S, e = .returned (.tuple #[.agg #[.bool p.root, .int .i64 p.ups, sv], .bool true]) ∧ OwnS B w' sv p.st S
  | none => e = .returned (.tuple #[.agg #[.bool false, .int .i64 0, .slice none 0 0], .bool false])
theorem rowT_capsP {B n cap : Nat} {A : Option Addr} {w : World} {T : List Tok} (h : RowT B w (.slice A n cap) T) : HasT w (.slice A n cap) T ∧ n ≤ cap ∧ cap ≤ 9223372036854775807 := by
  refine ⟨RowR.has Tok.enc_len h, ?_⟩
  rcases h.2 with ⟨h', _⟩ | ⟨g', c', cur, h', _, _, h5, h6, _⟩
  · cases h'; exact ⟨Nat.le_refl _, Nat.zero_le _⟩
  · cases h'; unfold maxLen at h6; exact ⟨h5, h6⟩
theorem iRdPth_any (B : Nat) (A : Option Addr) (n cap : Nat) (T : List Tok) (w : World) (hv : RowT B w (.slice A n cap) T) (hnb : n ≤ 1048576) (res : Option (Pth × Nat)) (hr : Pthr T res) :
    Calls Tryd.prog 20 #[.slice A n cap] w fun e w' => PaV w.heap.size res e w' ∧ Below w.heap.size w w' := by
  obtain ⟨h1, h2, h3⟩ := rowT_capsP hv
  cases A with
  | some a => exact iRdPth_some a n cap T w h1 h2 h3 hnb res hr
  | none =>
    rcases RowR.form hv with ⟨h4, rfl⟩ | ⟨g, cap', h4, _⟩
    · cases h4; exact iRdPth_nil w res hr
    · cases h4
set_option maxHeartbeats 8000000 in
theorem iParPth_any (s : ByteArray) (hs : s.size ≤ 1048576) (T : List Tok) (e : Option Nat) (hL : Lx s.size s.data.toList T e) (hlen : (lexT T e).length ≤ 1048576) (hts : ∀ x ∈ lexT T e, x.t.size ≤ 1048576) (res : Option (Pth × Nat)) (hr : Pthr (lexT T e) res) (w : World) :
    Calls Tryd.prog 7 #[.string s] w fun en w' => PoV w.heap.size (parPth e (lexT T e) res) en w' ∧ Below w.heap.size w w' := by
  have HB0 := Lib.hid (below_al (Below.refl w.heap.size w) (.cells #[.bool false, .int .i64 0, .slice none 0 0] 26))
  have HX0 : Hid (∀ W, Below (w.alloc (.cells #[.bool false, .int .i64 0, .slice none 0 0] 26)).heap.size (w.alloc (.cells #[.bool false, .int .i64 0, .slice none 0 0] 26)) W → W.heap[w.heap.size]? = some (.cells #[.bool false, .int .i64 0, .slice none 0 0] 26 (0, 0))) := Lib.hid fun W hb => (hb.block _ (by simp)).trans (heap_alloc_new w _)
  have hz := pthR_sz hr hts hlen
  obtain ⟨n, hn⟩ : ∃ n, n = (lexT T e).length := ⟨_, rfl⟩
  have HN := Lib.hid hn
  have HRD : Hid (∀ A m cap W, RowT w.heap.size W (.slice A m cap) (lexT T e) → m ≤ 1048576 → Calls Tryd.prog 20 #[.slice A m cap] W fun en w' => (∃ sv S, en = .returned (.tuple #[.agg #[.bool (pthR res).root, .int .i64 (pthR res).ups, sv], .int .i64 (pthQ res : Nat)]) ∧ OwnS W.heap.size w' sv (pthR res).st S) ∧ Below W.heap.size W w') := Lib.hid fun A m cap W h1 h2 => by
    refine (iRdPth_any _ A m cap (lexT T e) W h1 h2 res hr).mono ?_
    rintro en w' ⟨h3, h4⟩
    exact ⟨h3.one, h4⟩
  have HLL := Lib.hid (fun W => iLex_any s hs T e hL W)
  have HP : Hid (parPth e (lexT T e) res = if e = none ∧ pthQ res = n ∧ dB (PthOk (pthR res)) = true then some (pthR res) else none) := Lib.hid (by rw [hn]; rfl)
  obtain ⟨q, hq⟩ : ∃ q, q = pthQ res := ⟨_, rfl⟩
  obtain ⟨p, hp⟩ : ∃ p, p = pthR res := ⟨_, rfl⟩
  rw [← hn] at hlen
  rw [← hq, ← hp] at HRD HP
  rw [← hq, ← hp] at hz
  obtain ⟨hz, hq1⟩ := hz
  obtain ⟨r, u, st⟩ := p
  have HIS := Lib.hid (fun sv W (B : Nat) (S : Nat → Prop) (h : OwnS B W sv st S) => iPth_any ⟨r, u, sv⟩ ⟨r, u, st⟩ W ⟨rfl, rfl, h.has⟩ h.hasC hz)
  generalize dB (PthOk ⟨r, u, st⟩) = b at *
  obtain ⟨Z, hZ⟩ : ∃ Z, Z = parPth e (lexT T e) res := ⟨_, rfl⟩
  rw [← hZ] at HP ⊢
  dsimp only at HRD
  clear hZ hL hts hr hn hq hp hz
  have main : ∀ (ei : Int), ei = lexI e → Calls Tryd.prog 7 #[.string s] w fun en w' => PoV w.heap.size Z en w' ∧ Below w.heap.size w w' := by
    intro ei hei
    have HEI := Lib.hid hei
    clear hei
    go_enter Tryd.func7, Tryd.ntmps7
    go_wp2_with fail
    refine (HLL.out _).mono ?_
    rintro en w1 ⟨vl, rfl, hra, hb1⟩
    obtain ⟨A, cap, rfl⟩ := RowR.shape hra
    rw [← HN.out] at hra ⊢
    rw [← HEI.out]
    have HB1 := Lib.hid (below_step HB0.out hb1)
    have HX1 := Lib.hid (HX0.out w1 hb1)
    have HRA := Lib.hid (RowR.mono hra (B' := w.heap.size) (by simp))
    clear hra hb1
    go_wp2_with fail
    refine (HRD.out A n cap _ HRA.out hlen).mono ?_
    rintro en w2 ⟨⟨sv, S, rfl, hown⟩, hb2⟩
    obtain ⟨F, m, d, rfl⟩ : ∃ A n c, sv = .slice A n c := by obtain ⟨A, c, hv, _⟩ := hown.has.at; exact ⟨A, _, c, hv⟩
    have HB2 := Lib.hid (below_step HB1.out hb2)
    have hx1 : w.heap.size < w1.heap.size := (Array.getElem?_eq_some_iff.1 HX1.out).1
    have HX2 := Lib.hid ((hb2.block _ hx1).trans HX1.out)
    have HO2 : Hid (OwnS (w.heap.size + 1) w2 (.slice F m d) st S) := Lib.hid (OwL.mono hown hx1)
    have hlt2 : w.heap.size < w2.heap.size := (Array.getElem?_eq_some_iff.1 HX2.out).1
    obtain ⟨⟨y0, y1, y2⟩, r0, r1, r2⟩ := three_f HX2.out
    clear hown hb2
    have HA := Lib.hid (below_al (Below.refl w2.heap.size w2) (.cells #[.bool r, .int .i64 u, .slice F m d] 26))
    have HX2a := Lib.hid ((HA.out.block _ hlt2).trans HX2.out)
    have HB2a := Lib.hid (below_al HB2.out (.cells #[.bool r, .int .i64 u, .slice F m d] 26))
    by_cases hbad : 0 ≤ ei
    · have HZ : Hid (Z = none) := Lib.hid (by
        cases e with
        | none => have h9 := HEI.out; rw [show lexI none = (-1 : Int) from rfl] at h9; omega
        | some p => rw [HP.out]; exact if_neg (fun h => by cases h.1))
      go_wp2
      have hfull := pth_full HX2.out (.bool false) (.int .i64 0) (.slice none 0 0)
      refine bodyPost_ret (results_ct rfl _ _ ⟨w.heap.size, 0, none⟩ _ rfl (run_loadPth (((below_al (Below.refl _ _) (.cells #[.bool r, .int .i64 u, .slice F m d] 26)).block _ (Array.getElem?_eq_some_iff.1 hfull).1).trans hfull))) rfl ?_
      rw [HZ.out]
      exact ⟨rfl, below_al (below_set3 HB2.out (Nat.le_refl _)) _⟩
    · have HEN : Hid (e = none) := Lib.hid (by
        cases e with
        | none => rfl
        | some p => have h9 := HEI.out; rw [show lexI (some p) = (p : Int) from rfl] at h9; omega)
      by_cases hqn : q = n
      · have hqq : ((q : Int) != (n : Int)) = false := by rw [hqn]; simp
        have HQN := Lib.hid hqn
        have HO3 : Hid (OwnS (w.heap.size + 1) (w2.alloc (.cells #[.bool r, .int .i64 u, .slice F m d] 26)) (.slice F m d) st S) := Lib.hid (OwnS.below HO2.out HA.out)
        have HXP : Hid ((w2.alloc (.cells #[.bool r, .int .i64 u, .slice F m d] 26)).heap[w2.heap.size]? = some (.cells #[.bool r, .int .i64 u, .slice F m d] 26 (0, 0))) := Lib.hid (heap_alloc_new w2 _)
        clear hqn y0 y1 y2 r0 r1 r2
        go_wp2_with fail
        refine (HIS.out (.slice F m d) _ _ _ HO3.out).mono ?_
        rintro en w3 ⟨rfl, hb3⟩
        have HX3 := Lib.hid ((hb3.block _ (Array.getElem?_eq_some_iff.1 HX2a.out).1).trans HX2a.out)
        have HXP3 := Lib.hid ((hb3.block _ (Array.getElem?_eq_some_iff.1 HXP.out).1).trans HXP.out)
        have HO4 := Lib.hid (OwnS.below HO3.out hb3)
        have HBB := Lib.hid (below_step HB2a.out hb3)
        clear hb3 HO3
        obtain ⟨⟨y0, y1, y2⟩, r0, r1, r2⟩ := three_f HX3.out
        obtain ⟨⟨x0, x1, x2⟩, -⟩ := three_f HXP3.out
        cases b
        · have HZ : Hid (Z = none) := Lib.hid (by rw [HP.out]; exact if_neg (fun h => by cases h.2.2))
          go_wp2
          refine bodyPost_ret (results_ct rfl _ _ ⟨w.heap.size, 0, none⟩ _ rfl (run_loadPth (pth_full HX3.out _ _ _))) rfl ?_
          rw [HZ.out]
          exact ⟨rfl, below_set3 HBB.out (Nat.le_refl _)⟩
        · have HZ : Hid (Z = some ⟨r, u, st⟩) := Lib.hid (by rw [HP.out]; exact if_pos ⟨HEN.out, HQN.out, rfl⟩)
          go_wp2
          refine bodyPost_ret (results_ct rfl _ _ ⟨w.heap.size, 0, none⟩ _ rfl (run_loadPth (pth_full HX3.out _ _ _))) rfl ?_
          rw [HZ.out]
          exact ⟨⟨_, S, rfl, OwL.mono (OwL.set (OwL.set (OwL.set HO4.out (by omega)) (by omega)) (by omega)) (by omega)⟩, below_set3 HBB.out (Nat.le_refl _)⟩
      · have hqq : ((q : Int) != (n : Int)) = true := by simp; omega
        have HZ : Hid (Z = none) := Lib.hid (by rw [HP.out]; exact if_neg (fun h => hqn h.2.1))
        have hqq' : (q != n) = true := by simpa using hqn
        clear hqn
        go_wp2
        have hfull := pth_full HX2.out (.bool false) (.int .i64 0) (.slice none 0 0)
        refine bodyPost_ret (results_ct rfl _ _ ⟨w.heap.size, 0, none⟩ _ rfl (run_loadPth (((below_al (Below.refl _ _) (.cells #[.bool r, .int .i64 u, .slice F m d] 26)).block _ (Array.getElem?_eq_some_iff.1 hfull).1).trans hfull))) rfl ?_
        rw [HZ.out]
        exact ⟨rfl, below_al (below_set3 HB2.out (Nat.le_refl _)) _⟩
  exact main _ rfl
end Go.Proofs.YtdfapkceanicoaaDoor
