/- CHAPTER 8: copies of paths: slices.Clone at tests and steps. -/
import Derived.Test.YthmjffijhlkgcaaPtsC
import Derived.Test.YthmjffijhlkgcaaCpy
set_option linter.unusedVariables false
set_option linter.unusedSimpArgs false
namespace Go.Proofs.Ythmjffijhlkgcaa
open Go.RowKit NumP

/-- a list of steps that is read, no list of tests in it without an array but with room -/
def HasSN (w : World) (v : Value) (l : List Stp) : Prop := NilOk v ∧ ∃ R : List StR, HasR StR.enc 2 w v R ∧ R.length = l.length ∧ ∀ i (h : i < R.length) (h' : i < l.length), (R[i].n = l[i].n ∧ HasX w R[i].tv l[i].ts) ∧ NilOk R[i].tv
theorem HasSN.below {w w' : World} {v : Value} {l : List Stp} (h : HasSN w v l) (hb : Below w.heap.size w w') : HasSN w' v l := by
  obtain ⟨h0, R, h1, h2, h3⟩ := h
  exact ⟨h0, R, HasR.below h1 hb, h2, fun i a b => ⟨⟨(h3 i a b).1.1, HasR.below (h3 i a b).1.2 hb⟩, (h3 i a b).2⟩⟩
theorem OwnS.hasN {B : Nat} {w : World} {v : Value} {l : List Stp} {S : Nat → Prop} (h : OwnS B w v l S) : HasSN w v l := by
  obtain ⟨R, K, hm, _⟩ := h.mkJ
  exact ⟨RowR.nilOk hm.row, R, RowR.has StR.enc_len hm.row, hm.len, fun i a b => ⟨⟨(hm.ts i a b).1, RowR.hasX (hm.ts i a b).2.1⟩, RowR.nilOk (hm.ts i a b).2.1⟩⟩
theorem oneX : ∀ x : Tst, ∀ u ∈ Tst.enc x, u.oneCell' = true := fun x u hu => by simp [Tst.enc] at hu; rcases hu with rfl | rfl <;> rfl
set_option maxRecDepth 100000 in
set_option maxHeartbeats 1000000 in
theorem cloneX_any (v : Value) (l : List Tst) (w : World) (hv : HasX w v l) (hk : NilOk v) (hn : l.length ≤ 1048576) :
    Calls Try.prog 29 #[v] w fun e w' => ∃ v', e = .returned v' ∧ RowX w.heap.size w' v' l ∧ Below w.heap.size w w' := by
  obtain ⟨A, c, rfl, hn', hc⟩ := id hv
  have q22 : ∀ (w : World) (a : Option Addr) (n c n' c' : Nat), (binOp .eql 60 (.slice a n c) (.slice none n' c')).run Try.prog w = .ok (.bool a.isNone) w := fun w a n c n' c' => Lib.run_eql_slice_nil w _ _ a n c n' c' Try.underlying60
  cases A with
  | none =>
    obtain rfl := hasR_none hv
    clear hc
    go_enter Try.func29, Try.ntmps29
    go_wp2
    go_ret
    exact ⟨_, rfl, rowR_nil _, Below.refl _ _⟩
  | some p =>
    clear hc
    have HV := Lib.hid (And.intro hv (And.intro hk hn))
    clear hv hk hn hn'
    generalize hm : l.length = m at *
    go_enter Try.func29, Try.ntmps29
    go_wp2_with (at_builtin; refine wpList_copy_rec Tst.enc_len (by omega) Try.underlying60 infoTst (by rfl) (by omega) rfl _ _ rfl _ rfl rfl _ l rfl HV.out.1 (fun x _ => oneX x) HV.out.2.1 (by rw [hm]; exact HV.out.2.2) ?_; intro v' w1 hr hb)
    go_ret
    exact ⟨_, rfl, hr, hb⟩
/-- records of steps that are read are of one cell each -/
theorem oneS {w : World} {R : List StR} {l : List Stp} (h : ∀ i (h : i < R.length) (h' : i < l.length), (R[i].n = l[i].n ∧ HasX w R[i].tv l[i].ts) ∧ NilOk R[i].tv) (hl : R.length = l.length) : ∀ x ∈ R, ∀ u ∈ StR.enc x, u.oneCell' = true := fun x hx u hu => by
  obtain ⟨i, hi, rfl⟩ := List.getElem_of_mem hx
  obtain ⟨A, c, e, _⟩ := (h i hi (by rw [← hl]; exact hi)).1.2
  simp [StR.enc] at hu
  rcases hu with rfl | rfl
  · rfl
  · rw [e]; rfl
set_option maxRecDepth 100000 in
set_option maxHeartbeats 1000000 in
/-- a copy of steps: their records, with the same lists of tests -/
theorem cloneSt_any (v : Value) (R : List StR) (w : World) (hv : HasR StR.enc 2 w v R) (h1 : ∀ x ∈ R, ∀ u ∈ StR.enc x, u.oneCell' = true) (hk : NilOk v) (hn : R.length ≤ 1048576) :
    Calls Try.prog 28 #[v] w fun e w' => ∃ v', e = .returned v' ∧ RowT7 w.heap.size w' v' R ∧ Below w.heap.size w w' := by
  obtain ⟨A, c, rfl, hn', hc⟩ := id hv
  have q22 : ∀ (w : World) (a : Option Addr) (n c n' c' : Nat), (binOp .eql 31 (.slice a n c) (.slice none n' c')).run Try.prog w = .ok (.bool a.isNone) w := fun w a n c n' c' => Lib.run_eql_slice_nil w _ _ a n c n' c' Try.underlying31
  cases A with
  | none =>
    obtain rfl := hasR_none hv
    clear hc h1
    go_enter Try.func28, Try.ntmps28
    go_wp2
    go_ret
    exact ⟨_, rfl, rowR_nil _, Below.refl _ _⟩
  | some p =>
    clear hc
    have HV := Lib.hid (And.intro hv (And.intro hk (And.intro hn h1)))
    clear hv hk hn hn' h1
    generalize hm : R.length = m at *
    go_enter Try.func28, Try.ntmps28
    go_wp2_with (at_builtin; refine wpList_copy_rec StR.enc_len (by omega) Try.underlying31 infoStp (by rfl) (by omega) rfl _ _ rfl _ rfl rfl _ R rfl HV.out.1 HV.out.2.2.2 HV.out.2.1 (by rw [hm]; exact HV.out.2.2.1) ?_; intro v' w1 hr hb)
    go_ret
    exact ⟨_, rfl, hr, hb⟩
end Go.Proofs.Ythmjffijhlkgcaa
