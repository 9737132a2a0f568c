/- CHAPTER 7: laws.toStepS, toPath. -/
import Derived.Test.YtdkpleghpnflhaaPthB
set_option linter.unusedVariables false
set_option linter.unusedSimpArgs false
namespace Go.Proofs.Ytdkpleghpnflhaa
open Go.RowKit

theorem OwnS.below {B : Nat} {w w' : World} {v : Value} {l : List Stp} {S : Nat → Prop} (h : OwnS B w v l S) (hb : Below w.heap.size w w') : OwnS B w' v l S := OwL.below h hb
theorem OwnS.has {B : Nat} {w : World} {v : Value} {l : List Stp} {S : Nat → Prop} (h : OwnS B w v l S) : HasS w v l := OwL.rd h
theorem rowX_lt {B : Nat} {w : World} {v : Value} {l : List Tst} (h : RowX B w v l) {b : Nat} (hb : v.ownBlock = some b) : B ≤ b ∧ b < w.heap.size := RowR.lt h hb
set_option maxRecDepth 100000 in
set_option maxHeartbeats 2000000 in
theorem toStps_any (v : Value) (l : List Stp) (w : World) (hv : HasS w v l) (hn : l.length ≤ 1048576) (hs : ∀ s ∈ l, s.ts.length ≤ 1048576) :
    Calls Try.prog 65 #[v] w fun e w' => ∃ (v' : Value) (S : Nat → Prop), e = .returned v' ∧ OwnS w.heap.size w' v' l S ∧ Below w.heap.size w w' := by
  obtain ⟨i0, hi, hz0, hz1, hz2⟩ := info_parts infoStp
  obtain ⟨A, cap, rfl, hn', hc⟩ := hv.at
  obtain ⟨n, hnn⟩ : ∃ n, n = l.length := ⟨_, rfl⟩
  have HN : Hid (n = l.length) := Lib.hid hnn
  have HSZ := Lib.hid hs
  rw [← hnn] at hn hn' ⊢
  clear hnn hv hs
  go_enter Try.func65, Try.ntmps65
  have hb2 : i0.bytes * n ≤ 281474976710656 := by rw [hz2]; omega
  have hb3 : n ≤ maxLen := by unfold maxLen; omega
  have HZ : Hid (i0.bytes = 40) := Lib.hid hz2
  clear hz2
  go_wp2_with (at_make; refine wpList_make_full _ rfl _ _ 107 rfl w.heap.size 127 i0 (.agg #[.string ⟨#[]⟩, .slice none 0 0]) 2 Try.underlying107 hi hz0 hz1 _ _ _ _ n rfl rfl rfl rfl hb2 hb3 (Nat.le_refl _) ?_; intro w1 hown1 hg1)
  have hrow0 : RowT7 w.heap.size w1 (.slice (some ⟨w.heap.size, 0, none⟩) n n) (List.replicate n ⟨⟨#[]⟩, .slice none 0 0⟩) := by
    have := hown1
    rw [show (madeCells (Value.agg #[.string ⟨#[]⟩, .slice none 0 0]).cells (n * 2)).toList = (List.replicate n (⟨⟨#[]⟩, .slice none 0 0⟩ : StR)).flatMap StR.enc from made_flat StR.enc_len (by omega) _ ⟨⟨#[]⟩, .slice none 0 0⟩ rfl n] at this
    unfold RowT7 RowR
    simpa using this
  have hbel1 : Below w.heap.size w w1 := (Below.refl _ _).grown hg1 (Nat.le_refl _) (by simp)
  have HG0 : Hid (w.heap.size < w1.heap.size) := Lib.hid (by
    rcases hown1.2 with ⟨h, _⟩ | ⟨g, cap, cur, h, _, h3, _⟩
    · cases h
    · cases h; exact (Array.getElem?_eq_some_iff.1 h3).1)
  have HP0 : Hid (Part w.heap.size w1 w.heap.size (List.replicate n ⟨⟨#[]⟩, .slice none 0 0⟩) l 0) := Lib.hid ⟨by rw [List.length_replicate]; exact HN.out, fun i h1 h2 h3 => absurd h3 (by omega), fun i j h1 h2 h3 => absurd h3 (by omega)⟩
  clear hown1 hg1
  go_loopw [4] (fun i wr => ∃ (k : Nat) (R : List StR), k ≤ n ∧ i = .int .i64 k ∧ RowT7 w.heap.size wr (.slice (some ⟨w.heap.size, 0, none⟩) n n) R ∧ Hid (Part w.heap.size wr w.heap.size R l k) ∧ Hid (w.heap.size < wr.heap.size) ∧ Below w.heap.size w wr) (fun i _ => n - (intOf i).toNat)
  case atStart => exact ⟨0, _, Nat.zero_le _, rfl, hrow0, HP0, HG0, hbel1⟩
  case round =>
    clear hrow0 hbel1 HP0 HG0
    obtain ⟨k, R, hk, rfl, hrow, HP, HG, hbel⟩ := hrel
    by_cases hlt : k < n
    · have hlk : k < l.length := by rw [← HN.out]; exact hlt
      obtain ⟨a, r, rfl, hab, hcell, hrn, hrt⟩ := hc k hlk
      obtain ⟨c0, c1⟩ := hcell.below hbel hab
      obtain ⟨rA, rc, re, -⟩ := id hrt
      have HC := Lib.hid (toStp_any r l[k] _ hrn (HasR.below hrt hbel) (HSZ.out _ (List.getElem_mem hlk)))
      have HNX : Hid (∀ {W : World} {R : List StR}, Part w.heap.size W w.heap.size R l k → ∀ {r : StR}, r.n = l[k].n → RowX w.heap.size W r.tv l[k].ts → r.tv.ownBlock ≠ some w.heap.size → (∀ i (hi : i < R.length), i < k → ∀ b, R[i].tv.ownBlock = some b → r.tv.ownBlock ≠ some b) → Part w.heap.size W w.heap.size (R.set k r) l (k + 1)) := Lib.hid fun hp _ h1 h2 h3 h4 => hp.next hlk h1 h2 h3 h4
      have hkR : k < R.length := by rw [HP.out.len]; exact hlk
      generalize l[k].ts.length = rm at re
      generalize l[k] = s at HC HNX
      obtain ⟨rn, rtv⟩ := r
      dsimp only at re c0 c1 HC
      subst re
      clear hcell hrn hrt
      go_wp2_with fail
      refine (HC.out).mono ?_
      rintro e w2 ⟨r', rfl, hn2, hx2, hb2⟩
      obtain ⟨D, m2, c2, hD⟩ : ∃ A n c, r'.tv = .slice A n c := by obtain ⟨A, c, hv, _⟩ := RowR.hasX hx2; exact ⟨A, _, c, hv⟩
      have hrow2 := RowR.below hrow hb2
      have HROW2 := Lib.hid hrow2
      have HP2 := Lib.hid (HP.out.below hb2)
      have HX2 := Lib.hid hx2
      have HB2 := Lib.hid (below_step hbel hb2)
      have HSZ2 := Lib.hid hb2.size
      have HOLD : Hid (∀ i (hi : i < R.length), i < k → ∀ b, R[i].tv.ownBlock = some b → b < wr.heap.size) := Lib.hid fun i hi hik b hb => (rowX_lt (HP.out.at' i hi (by rw [← HP.out.len]; exact hi) hik).2.1 hb).2
      obtain ⟨⟨e0, e1⟩, f0, f1⟩ := stCells hrow2 hkR
      have HPUT := Lib.hid (RowT7.put hrow2 hkR r')
      obtain ⟨rn2, rtv2⟩ := r'
      dsimp only at hD hn2 HX2 HPUT
      subst hD
      have HN2 := Lib.hid hn2
      clear hrow hbel hrow2 hx2 hb2 c0 c1 hn2
      go_wp2
      go_roundw
      case rel =>
        have hne : (Value.slice D m2 c2).ownBlock ≠ some w.heap.size := fun e => by have := (rowX_lt HX2.out e).1; have := HG.out; omega
        refine ⟨k + 1, _, by omega, by go_num, HPUT.out.1, Lib.hid (HNX.out (HP2.out.grown HPUT.out.2) HN2.out (RowR.other (u := .slice (some ⟨w.heap.size, 0, none⟩) 0 0) (RowR.mono HX2.out (by have := HG.out; omega)) HPUT.out.2 (fun j hj e => hne (hj.trans e.symm))) hne (fun i hi hik b hb e => by have := HOLD.out i hi hik b hb; have := (rowX_lt HX2.out e).1; omega)), Lib.hid ?_, HB2.out.grown HPUT.out.2 HB2.out.size (fun _ h => by cases h; exact Nat.le_refl _)⟩
        have := HPUT.out.2.size; have := HSZ2.out; have := HG.out; omega
      case measure => simp [intOf]; omega
    · have HE := Lib.hid (show Part w.heap.size wr w.heap.size R l l.length by have h := HP.out; rwa [show k = l.length by have := HN.out; omega] at h)
      clear hc
      go_wp2
      go_ret
      obtain ⟨S, hS⟩ := HE.out.own hrow
      exact ⟨_, S, rfl, hS, hbel⟩
set_option maxRecDepth 100000 in
set_option maxHeartbeats 2000000 in
theorem toPth_any (v : PthV) (p : Pth) (w : World) (h : HasP7 w v p) (hz : PthSz p) :
    Calls Try.prog 61 #[v.val] w fun e w' => ∃ (v' : PthV) (S : Nat → Prop), e = .returned v'.val ∧ OwnP7 w.heap.size w' v' p S ∧ Below w.heap.size w w' := by
  obtain ⟨r, u, l⟩ := p
  obtain ⟨r', u', sv⟩ := v
  obtain ⟨rfl, rfl, hs⟩ := h
  obtain ⟨hz1, hz2⟩ := hz
  dsimp only at hs hz1 hz2 ⊢
  have HR := Lib.hid (fun W (hb : Below w.heap.size w W) => toStps_any sv l W (hs.below hb) hz1 (fun s hs => (hz2 s hs).2.1))
  obtain ⟨A, cap, rfl, -⟩ := hs.at
  generalize l.length = n at *
  have HB0 := Lib.hid (Below.refl w.heap.size w)
  clear hs hz1 hz2
  go_enter Try.func61, Try.ntmps61
  go_wp2_with fail
  refine (HR.out _ (below_al (below_al (below_al HB0.out _) _) _)).mono ?_
  rintro e w1 ⟨sv', S, rfl, hown, hb1⟩
  obtain ⟨D1, m1, c1, rfl⟩ : ∃ A n c, sv' = .slice A n c := by obtain ⟨A, c, hv, _⟩ := hown.has.at; exact ⟨A, _, c, hv⟩
  have HB1 := Lib.hid (below_step (below_al (below_al (below_al HB0.out _) _) _) hb1)
  have X1 : w1.heap[w.heap.size + 1 + 1]? = some (.cells #[.bool r', .int .i64 u', .slice none 0 0] 109 (0, 0)) := (hb1.block _ (by simp)).trans (alloc_new_at' _ _ (by simp))
  have R1 : w1.heap[w.heap.size + 1]? = some (.cells #[.bool false, .int .i64 0, .slice none 0 0] 109 (0, 0)) := (hb1.block _ (by simp)).trans (by rw [Below.heap_alloc _ _ _ (by simp)]; exact alloc_new_at' _ _ (by simp))
  have HO := Lib.hid (OwL.mono hown (B' := w.heap.size + 3) (by simp))
  have hz1 : w.heap.size + 3 ≤ w1.heap.size := by have := hb1.size; simpa using this
  have x0 : w1.cell? ⟨w.heap.size + 1 + 1, 0, none⟩ = some (.bool r') := by rw [cell_of_row _ _ 0 _ _ _ X1]; rfl
  have x1 : w1.cell? ⟨w.heap.size + 1 + 1, 1, none⟩ = some (.int .i64 u') := by rw [cell_of_row _ _ 1 _ _ _ X1]; rfl
  have x2 : w1.cell? ⟨w.heap.size + 1 + 1, 2, none⟩ = some (.slice none 0 0) := by rw [cell_of_row _ _ 2 _ _ _ X1]; rfl
  have f0 := frozen_of_row _ _ 0 _ _ X1
  have f1 := frozen_of_row _ _ 1 _ _ X1
  have f2 := frozen_of_row _ _ 2 _ _ X1
  have r0 : w1.cell? ⟨w.heap.size + 1, 0, none⟩ = some (.bool false) := by rw [cell_of_row _ _ 0 _ _ _ R1]; rfl
  have r1 : w1.cell? ⟨w.heap.size + 1, 1, none⟩ = some (.int .i64 0) := by rw [cell_of_row _ _ 1 _ _ _ R1]; rfl
  have r2 : w1.cell? ⟨w.heap.size + 1, 2, none⟩ = some (.slice none 0 0) := by rw [cell_of_row _ _ 2 _ _ _ R1]; rfl
  have g0 := frozen_of_row _ _ 0 _ _ R1
  have g1 := frozen_of_row _ _ 1 _ _ R1
  have g2 := frozen_of_row _ _ 2 _ _ R1
  clear hown hb1 X1 R1
  go_wp2
  refine bodyPost_ret (v := .agg #[.bool r', .int .i64 u', .slice D1 m1 c1]) (by simp [results, Try.results61, go_sem, x0, x1, x2, f0, f1, f2, r0, r1, r2, g0, g1, g2]) rfl ?_
  refine ⟨⟨r', u', .slice D1 m1 c1⟩, S, rfl, ⟨rfl, rfl, ?_⟩, ?_⟩
  · exact OwL.mono (OwL.set (OwL.set (OwL.set (OwL.set HO.out (by omega)) (by omega)) (by omega)) (by omega)) (by omega)
  · exact below_set (below_set (below_set (below_set HB1.out (by omega)) (by omega)) (by omega)) (by omega)
end Go.Proofs.Ytdkpleghpnflhaa
