/- CHAPTER 6, impl: kindOf, IsType. -/
import Derived.Test.YtkifdbeklagelaaGreatDoorTyD
set_option linter.unusedVariables false
set_option linter.unusedSimpArgs false
namespace Go.Proofs.YtkifdbeklagelaaGreatDoor
open Go.RowKit

theorem valid_any (v : TyV) (t : Ty) (A A' : Option Addr) (n c m c' : Nat) (h1 : v.vr = .slice A n c) (h2 : v.vn = .slice A' m c') (w : World) (h : HasTy w v t) (hc : CapN v.vn) (hs : TySz t) :
    Calls Tryz.prog 91 #[kindV v] w fun e w' => e = .returned (.bool (validB t)) ∧ Below w.heap.size w w' := by
  obtain ⟨k', rg, nm, pt', ph'⟩ := t
  obtain ⟨k, vr, vn, pt, ph⟩ := v
  obtain ⟨rfl, hr, hn, rfl, rfl⟩ := h
  obtain rfl : vr = _ := h1
  obtain rfl : vn = _ := h2
  obtain ⟨s1, s2, s3⟩ := hs
  dsimp only at *
  by_cases k1 : k = 1
  · subst k1; exact valid_1 A n c rg w hr
  by_cases k2 : k = 2
  · subst k2; exact valid_2 A n c rg pt s2 w hr
  by_cases k3 : k = 3
  · subst k3; exact valid_3 w
  by_cases k4 : k = 4
  · subst k4; exact valid_4 A' m c' nm w hn hc s1
  by_cases k5 : k = 5
  · subst k5; exact valid_5 ph s3 w
  by_cases k6 : k = 6
  · subst k6; exact valid_6 w
  have := valid_other w
  rw [show kindV ⟨k, .slice A n c, .slice A' m c', pt, ph⟩ = .nilIface by unfold kindV; simp only [k1, k2, k3, k4, k5, k6, if_false], show validB ⟨k, rg, nm, pt, ph⟩ = false by unfold validB; simp [k1, k2, k3, k4, k5, k6]]
  exact this
set_option maxRecDepth 100000 in
set_option maxHeartbeats 2000000 in
theorem kindOf_any (v : TyV) (t : Ty) (w : World) (h : HasTy w v t) (hc : CapN v.vn) (hs : TySz t) :
    Calls Tryz.prog 59 #[v.val] w fun e w' => e = .returned (if isTyB t = true then kindV v else .nilIface) ∧ Below w.heap.size w w' := by
  obtain ⟨A, c, h1, -⟩ := id h.rg
  obtain ⟨A', c', h2, -⟩ := id h.nm
  have HD := Lib.hid (fun W => divide_any v A A' _ c _ c' h1 h2 W)
  have HF := Lib.hid (fun W (hb : Below w.heap.size w W) => fields_any (restV v) (restT t) W ((h.below hb).rest))
  have HV := Lib.hid (fun W (hb : Below w.heap.size w W) => valid_any v t A A' _ c _ c' h1 h2 W (h.below hb) hc hs)
  obtain ⟨Z, hZ⟩ : ∃ Z, Z = (if isTyB t = true then kindV v else .nilIface) := ⟨_, rfl⟩
  have HZ : Hid (Z = if (bareB (restT t) && validB t) = true then kindV v else .nilIface) := Lib.hid hZ
  rw [← hZ]
  clear hZ
  obtain ⟨A2, c2, e1, -⟩ := id h.rest.rg
  obtain ⟨A3, c3, e2, -⟩ := id h.rest.nm
  clear h hc hs
  obtain ⟨k, vr, vn, pt, ph⟩ := v
  obtain rfl : vr = _ := h1
  obtain rfl : vn = _ := h2
  generalize restV ⟨k, .slice A t.rg.length c, .slice A' t.nm.length c', pt, ph⟩ = r at HD HF e1 e2
  generalize kindV ⟨k, .slice A t.rg.length c, .slice A' t.nm.length c', pt, ph⟩ = K at HD HV HZ
  obtain ⟨rk, rr, rn, rp, rh⟩ := r
  obtain rfl : rr = _ := e1
  obtain rfl : rn = _ := e2
  generalize t.rg.length = n at *
  generalize t.nm.length = m at *
  generalize (restT t).rg.length = n2 at *
  generalize (restT t).nm.length = m2 at *
  generalize bareB (restT t) = b at HF HZ
  generalize validB t = q at HV HZ
  have HB0 := Lib.hid (Below.refl w.heap.size w)
  have walk1 : b = false → Calls Tryz.prog 59 #[(⟨k, .slice A n c, .slice A' m c', pt, ph⟩ : TyV).val] w fun e w' => e = .returned Z ∧ Below w.heap.size w w' := by
    rintro rfl
    obtain rfl : Z = .nilIface := HZ.out
    clear HV
    go_enter Tryz.func59, Tryz.ntmps59
    go_wp2_with fail
    refine (HD.out _).mono ?_
    rintro e w1 ⟨rfl, hb1⟩
    have HB1 := Lib.hid (below_step (below_al HB0.out _) hb1)
    clear hb1
    go_wp2_with fail
    refine (HF.out _ (below_al HB1.out _)).mono ?_
    rintro e w2 ⟨rfl, hb2⟩
    have HB2 := below_step (below_al HB1.out _) hb2
    go_wp2
    go_ret
    exact ⟨rfl, HB2⟩
  have walk2 : b = true → Calls Tryz.prog 59 #[(⟨k, .slice A n c, .slice A' m c', pt, ph⟩ : TyV).val] w fun e w' => e = .returned Z ∧ Below w.heap.size w w' := by
    rintro rfl
    cases q
    · obtain rfl : Z = .nilIface := HZ.out
      go_enter Tryz.func59, Tryz.ntmps59
      go_wp2_with fail
      refine (HD.out _).mono ?_
      rintro e w1 ⟨rfl, hb1⟩
      have HB1 := Lib.hid (below_step (below_al HB0.out _) hb1)
      clear hb1
      go_wp2_with fail
      refine (HF.out _ (below_al HB1.out _)).mono ?_
      rintro e w2 ⟨rfl, hb2⟩
      have HB2 := Lib.hid (below_step (below_al HB1.out _) hb2)
      clear hb2
      go_wp2_with fail
      refine (HV.out _ HB2.out).mono ?_
      rintro e w3 ⟨rfl, hb3⟩
      have HB3 := below_step HB2.out hb3
      go_wp2
      go_ret
      exact ⟨rfl, HB3⟩
    · obtain rfl : Z = K := HZ.out
      go_enter Tryz.func59, Tryz.ntmps59
      go_wp2_with fail
      refine (HD.out _).mono ?_
      rintro e w1 ⟨rfl, hb1⟩
      have HB1 := Lib.hid (below_step (below_al HB0.out _) hb1)
      clear hb1
      go_wp2_with fail
      refine (HF.out _ (below_al HB1.out _)).mono ?_
      rintro e w2 ⟨rfl, hb2⟩
      have HB2 := Lib.hid (below_step (below_al HB1.out _) hb2)
      clear hb2
      go_wp2_with fail
      refine (HV.out _ HB2.out).mono ?_
      rintro e w3 ⟨rfl, hb3⟩
      have HB3 := below_step HB2.out hb3
      go_wp2
      go_ret
      exact ⟨rfl, HB3⟩
  cases b
  · exact walk1 rfl
  · exact walk2 rfl
theorem kindV_held {v : TyV} {t : Ty} (hk : v.k = t.k) (h : isTyB t = true) : ∃ T u, kindV v = .iface T u := by
  have h6 : validB t = true := by unfold isTyB at h; revert h; cases validB t <;> simp
  unfold kindV
  split; exact ⟨_, _, rfl⟩
  split; exact ⟨_, _, rfl⟩
  split; exact ⟨_, _, rfl⟩
  split; exact ⟨_, _, rfl⟩
  split; exact ⟨_, _, rfl⟩
  split; exact ⟨_, _, rfl⟩
  rename_i k1 k2 k3 k4 k5 k6
  rw [hk] at k1 k2 k3 k4 k5 k6
  unfold validB at h6
  simp [k1, k2, k3, k4, k5, k6] at h6
set_option maxRecDepth 100000 in
set_option maxHeartbeats 2000000 in
theorem iIsTy_any (v : TyV) (t : Ty) (w : World) (h : HasTy w v t) (hc : CapN v.vn) (hs : TySz t) :
    Calls Tryz.prog 27 #[v.val] w fun e w' => e = .returned (.bool (isTyB t)) ∧ Below w.heap.size w w' := by
  obtain ⟨A, c, h1, -⟩ := id h.rg
  obtain ⟨A', c', h2, -⟩ := id h.nm
  have HC := Lib.hid (fun W (hb : Below w.heap.size w W) => kindOf_any v t W (h.below hb) hc hs)
  have HK := Lib.hid (fun hq => kindV_held (v := v) (t := t) h.k hq)
  have HB0 := Lib.hid (Below.refl w.heap.size w)
  clear h hc hs
  obtain ⟨k, vr, vn, pt, ph⟩ := v
  obtain rfl : vr = _ := h1
  obtain rfl : vn = _ := h2
  generalize kindV ⟨k, .slice A t.rg.length c, .slice A' t.nm.length c', pt, ph⟩ = K at HC HK
  generalize isTyB t = q at HC HK ⊢
  generalize t.rg.length = n at *
  generalize t.nm.length = m at *
  cases q
  · go_enter Tryz.func27, Tryz.ntmps27
    go_wp2_with fail
    refine (HC.out _ (below_al HB0.out _)).mono ?_
    rintro e w1 ⟨rfl, hb1⟩
    have HB1 := below_step (below_al HB0.out _) hb1
    go_wp2
    go_ret
    exact ⟨rfl, HB1⟩
  · obtain ⟨T, u, rfl⟩ := HK.out rfl
    clear HK
    go_enter Tryz.func27, Tryz.ntmps27
    go_wp2_with fail
    refine (HC.out _ (below_al HB0.out _)).mono ?_
    rintro e w1 ⟨rfl, hb1⟩
    have HB1 := below_step (below_al HB0.out _) hb1
    go_wp2
    go_ret
    exact ⟨rfl, HB1⟩
end Go.Proofs.YtkifdbeklagelaaGreatDoor
