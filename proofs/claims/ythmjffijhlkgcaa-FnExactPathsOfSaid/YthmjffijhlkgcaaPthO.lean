/- CHAPTER 7: marks of steps with tests: what was told is there; the same of paths. -/
import Derived.Test.YthmjffijhlkgcaaPthN
set_option linter.unusedVariables false
set_option linter.unusedSimpArgs false
namespace Go.Proofs.Ythmjffijhlkgcaa
open Go.RowKit NumP

set_option maxRecDepth 100000 in
set_option maxHeartbeats 1000000 in
theorem heldStpsT_any (k : Nat) (v : Value) (l : List Stp) (w : World) (hv : HasS w v (mkStps k l)) (hn : l.length ≤ 1048576) (hs : ∀ s ∈ l, s.ts.length ≤ 1048576) (hk0 : 0 < k) (hk : k ≤ 3458764513820540928) :
    Calls Try.prog 25 #[v, .int .i64 k] w fun e w' => e = .returned (.int .i64 (endStps k l : Nat)) ∧ Below w.heap.size w w' := by
  obtain ⟨R, ⟨A, cap, rfl, hn', hc⟩, hRl, hR⟩ := hasS_iff.1 hv
  rw [mkStps_len] at hRl
  have hc1 : ∀ i (hi : i < l.length), ∃ a tv, A = some a ∧ (a.add (i * 2)).block < w.heap.size ∧ Sk w (a.add (i * 2)) ⟨markS (endStps k (l.take i)), tv⟩ ∧ HasX w tv (marksX (endStps k (l.take i) + 1) l[i].ts.length) := fun i hi => by
    obtain ⟨a, h1, h2, h3⟩ := HasSR.sk hc i (by rw [hRl]; exact hi)
    obtain ⟨h4, h5⟩ := hR i (by rw [hRl]; exact hi) (by rw [mkStps_len]; exact hi)
    rw [mkStps_get l k i _ hi] at h4 h5
    refine ⟨a, R[i].tv, h1, h2, ?_, h5⟩
    have e : R[i] = ⟨markS (endStps k (l.take i)), R[i].tv⟩ := by rw [← show R[i].n = markS (endStps k (l.take i)) from h4]
    rw [e] at h3; exact h3
  obtain ⟨n, hnn⟩ : ∃ n, n = R.length := ⟨_, rfl⟩
  have HN : Hid (n = l.length) := Lib.hid (hnn.trans hRl)
  have HBD := Lib.hid (fun j hj => endStps_bd hs j k hj)
  have HTS := Lib.hid hs
  have HC1 := Lib.hid hc1
  have hn1 : n ≤ 1048576 := by rw [HN.out]; exact hn
  rw [← hnn] at hn' ⊢
  clear hc hv hR hc1 hs hn hRl hnn
  go_enter Try.func25, Try.ntmps25
  go_wp2
  go_loopw [1, 5] (fun x i wr => ∃ j q : Nat, j ≤ n ∧ Hid (q = endStps k (l.take j)) ∧ (0 < q ∧ q ≤ 3999999999999999999) ∧ x = .int .i64 q ∧ i = .int .i64 j ∧ Below w.heap.size w wr) (fun _ i _ => n - (intOf i).toNat)
  case atStart => exact ⟨0, k, Nat.zero_le _, Lib.hid rfl, by omega, rfl, rfl, Below.refl _ _⟩
  case round =>
    obtain ⟨j, q, hj, HQ, ⟨hq0, hq⟩, rfl, rfl, hbel⟩ := hrel
    by_cases hlt : j < n
    · have hl : j < l.length := by rw [← HN.out]; exact hlt
      obtain ⟨a, tv, rfl, hab, hcell, htv⟩ := HC1.out j hl
      rw [← HQ.out] at hcell htv
      obtain ⟨m, hm⟩ : ∃ m, m = l[j].ts.length := ⟨_, rfl⟩
      have hm1 : m ≤ 1048576 := by rw [hm]; exact HTS.out _ (List.getElem_mem _)
      rw [← hm] at htv
      obtain ⟨At, ct, etv, -⟩ := id htv
      rw [marksX_length] at etv
      subst etv
      obtain ⟨q', hq'⟩ : ∃ q', q' = q + 1 + 2 * m := ⟨_, rfl⟩
      have hqn : q' = endStps k (l.take (j + 1)) := by rw [endStps_next hl, ← HQ.out, ← hm]; exact hq'
      have HQN := Lib.hid hqn
      have HQ' : Hid (0 < q' ∧ q' ≤ 3999999999999999999) := Lib.hid ⟨by omega, by rw [hqn]; exact bd_ok (HBD.out (j + 1) hl) hlt hn1 hk⟩
      have HCL : Hid (∀ W, Below w.heap.size w W → W.cell? (a.add (j * 2)) = some (.string (markS q)) ∧ W.cell? ⟨(a.add (j * 2)).block, (a.add (j * 2)).off + 1, none⟩ = some (.slice At m ct)) := Lib.hid fun W hb => hcell.below hb hab
      have HHT : Hid (∀ W, Below w.heap.size w W → Calls Try.prog 34 #[.slice At m ct, .int .i64 ((q : Int) + 1)] W fun e w' => e = .returned (.int .i64 (q' : Int)) ∧ Below W.heap.size W w') := Lib.hid fun W hb => by
        have := heldTsts_any _ (q + 1) m W (HasR.below htv hb) hm1 (by omega) (by omega)
        rw [← hq'] at this
        rwa [Int.natCast_add] at this
      obtain ⟨c0, -⟩ := HCL.out _ hbel
      have hq2 : q ≤ 4611686018427387904 := by omega
      have hq3 : decide ((q' : Int) < 0) = false := decide_eq_false (by omega)
      have hq4 : ¬ ((q' : Int) < 0) := by omega
      clear hcell htv hl hm hm1 hq' hqn
      go_wp2
      go_region_held3 (fun w' => w'.cell? (a.add (j * 2)) = some (.string (markS q)) ∧ Below w.heap.size w w') (first | exact ⟨c0, hbel.drew⟩ | exact held_step hbm (by assumption) hab | go_keep)
        (first | (go_at_call 32; refine (mark_any q hq0 hq2 _).mono ?_; rintro e w1 ⟨rfl, hbm⟩))
      have hB2 := (by assumption : _ ∧ Below w.heap.size w w1).2
      obtain ⟨-, c1⟩ := HCL.out _ hB2
      clear c0 hbel
      go_wp2_with (go_at_call 34; refine (HHT.out _ hB2).mono ?_; rintro e w2 ⟨rfl, hbm⟩; have HB3 := Lib.hid (below_step hB2 hbm); clear hbm)
      go_roundw
      case rel => exact ⟨j + 1, q', by omega, HQN, HQ'.out, rfl, by go_num, HB3.out⟩
      case measure => simp [intOf]; omega
    · have e : j = n := by omega
      subst e
      have HQF : Hid (q = endStps k l) := Lib.hid (by rw [HQ.out, List.take_of_length_le (by rw [← HN.out]; exact Nat.le_refl _)])
      go_wp2
      go_ret
      rw [HQF.out]
      exact ⟨rfl, hbel⟩
def endPth (p : Pth) : Nat := endStps 1 p.st
def mkPth (p : Pth) : Pth := ⟨p.root, p.ups, mkStps 1 p.st⟩
set_option maxRecDepth 100000 in
theorem markPthT_any (B : Nat) (v : PthV) (p : Pth) (S : Nat → Prop) (w : World) (hv : OwnP7 B w v p S) (hz : PthSz p) :
    Calls Try.prog 22 #[v.val, .int .i64 1] w fun e w' => e = .returned (.int .i64 (endPth p : Nat)) ∧ OwnP7 B w' v (mkPth p) S ∧ TurnsAt S w w' := by
  obtain ⟨h1, h2, hv⟩ := hv
  obtain ⟨r, u, sv⟩ := v
  dsimp only at h1 h2 hv ⊢
  obtain ⟨A, m, c, rfl⟩ : ∃ A n c, sv = .slice A n c := by obtain ⟨A, c, hv', _⟩ := hv.has.at; exact ⟨A, _, c, hv'⟩
  have HV := Lib.hid (markStpsT_any B 1 _ p.st S _ (OwnS.below hv (below_al (Below.refl w.heap.size w) (.cells #[.bool r, .int .i64 u, .slice A m c] 33))) hz.1 (fun s hs => (hz.2 s hs).2.1) (by omega) (by omega))
  have H12 : Hid (r = p.root ∧ u = p.ups) := Lib.hid ⟨h1, h2⟩
  have he : endPth p = endStps 1 p.st := rfl
  rw [← he] at HV
  clear hv hz h1 h2 he
  go_enter Try.func22, Try.ntmps22
  go_wp2_with fail
  refine (HV.out).mono ?_
  rintro e w1 ⟨rfl, h3, h4⟩
  have HO := Lib.hid h3
  have hb := (below_turns (S := S) (below_al (Below.refl w.heap.size w) (.cells #[.bool r, .int .i64 u, .slice A m c] 33))).trans h4
  clear h3 h4
  go_wp2
  go_ret
  exact ⟨rfl, ⟨H12.out.1, H12.out.2, HO.out⟩, hb⟩
end Go.Proofs.Ythmjffijhlkgcaa
