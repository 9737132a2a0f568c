/- CHAPTER 7, impl: SamePath (slices.EqualFunc, slices.Equal at tests, Step.isSame). -/
import Derived.Test.YtdmccopggmienaaPthB
import Derived.Laws.StructEq
import Derived.BigQuiet
set_option linter.unusedVariables false
set_option linter.unusedSimpArgs false
namespace Go.Proofs.Ytdmccopggmienaa
open Go.RowKit

/-- whether something holds, as a truth -/
noncomputable def dB (P : Prop) : Bool := @decide P (Classical.propDecidable _)
theorem dB_yes {P : Prop} (h : P) : dB P = true := @decide_eq_true _ (Classical.propDecidable _) h
theorem dB_no {P : Prop} (h : ¬ P) : dB P = false := @decide_eq_false _ (Classical.propDecidable _) h
theorem dB_true {P : Prop} (h : dB P = true) : P := @of_decide_eq_true _ (Classical.propDecidable _) h
theorem dB_false {P : Prop} (h : dB P = false) : ¬ P := @of_decide_eq_false _ (Classical.propDecidable _) h
theorem dB_same {P Q : Prop} (h : P ↔ Q) : dB P = dB Q := by
  by_cases hp : P
  · rw [dB_yes hp, dB_yes (h.1 hp)]
  · rw [dB_no hp, dB_no (fun q => hp (h.2 q))]
theorem str_ne7 {s x : ByteArray} (h : s ≠ x) : (s.toList == x.toList) = false := by
  rw [beq_eq_false_iff_ne]
  intro e
  rw [ByteArray.toList_eq, ByteArray.toList_eq] at e
  exact h (ByteArray.ext (Array.toList_inj.1 e))
theorem tst_ne {x y : Tst} (h : x ≠ y) : (x.n.toList == y.n.toList && x.v.toList == y.v.toList) = false := by
  by_cases h1 : x.n = y.n
  · have h2 : x.v ≠ y.v := fun e => h (by cases x; cases y; simp_all)
    rw [str_ne7 h2, Bool.and_false]
  · rw [str_ne7 h1, Bool.false_and]
theorem tstNe (x y : Tst) (w : World) : (binOp .neq 42 (.agg #[.string x.n, .string x.v]) (.agg #[.string y.n, .string y.v])).run Try.prog w = .ok (.bool (!(x.n.toList == y.n.toList && x.v.toList == y.v.toList))) w := by
  have u := Try.underlying9
  have a := Try.isAgg9
  have z := Try.sizeOf9
  have hS : Try.prog.underlying 42 = some (.struct (Try.prog.fieldsOf 42)) := by kernel_rfl
  have hp : Try.prog.stoodInHeld 42 = false := by kernel_rfl
  rw [run_neq_struct, show (10000 : Nat) = 9999 + 1 from rfl, run_equalIn_agg w 9999 42 _ _ hS hp]
  simp only [Program.fieldsOf, Try.underlying42]
  go_simp
  by_cases h1 : x.n.toList = y.n.toList <;> by_cases h2 : x.v.toList = y.v.toList <;> simp [h1, h2]
theorem tstGd (op : BinOp) (a b : Operand) (x y : Tst) (w : World) : (eqGuard op 42 a b (.agg #[.string x.n, .string x.v]) (.agg #[.string y.n, .string y.v])).run Try.prog w = .ok () w := run_eqGuard_agg w op 42 a b _ _ (by kernel_rfl)
/-- the first k of both lists are the same -/
def SameTo {α : Type} (l l' : List α) (k : Nat) : Prop := ∀ j (h : j < l.length) (h' : j < l'.length), j < k → l[j] = l'[j]
theorem sameTo_0 {α : Type} (l l' : List α) : SameTo l l' 0 := fun _ _ _ h => absurd h (by omega)
theorem sameTo_next {α : Type} {l l' : List α} {k : Nat} (h : SameTo l l' k) (h1 : k < l.length) (h2 : k < l'.length) (e : l[k] = l'[k]) : SameTo l l' (k + 1) := fun j a b hj => by
  by_cases hk : j = k
  · subst hk; exact e
  · exact h j a b (by omega)
theorem sameTo_all {α : Type} {l l' : List α} (h : l.length = l'.length) (hs : SameTo l l' l.length) : l = l' := List.ext_getElem h fun i h1 h2 => hs i h1 h2 h1
theorem same_ne {α : Type} {l l' : List α} {k : Nat} (h1 : k < l.length) (h2 : k < l'.length) (e : l[k] ≠ l'[k]) : l ≠ l' := fun h => by subst h; exact e rfl
set_option maxRecDepth 100000 in
set_option maxHeartbeats 2000000 in
theorem equalX_any (u v : Value) (l l' : List Tst) (w : World) (hu : HasX w u l) (hv : HasX w v l') :
    Calls Try.prog 48 #[u, v] w fun e w' => e = .returned (.bool (dB (l = l'))) ∧ Below w.heap.size w w' := by
  obtain ⟨A, cap, rfl, hn', hc⟩ := hu
  obtain ⟨A', cap', rfl, hm', hc'⟩ := hv
  obtain ⟨Z, hZ⟩ : ∃ Z, Z = dB (l = l') := ⟨_, rfl⟩
  have HZ := Lib.hid hZ
  rw [← hZ]
  clear hZ
  by_cases hlen : l.length = l'.length
  · obtain ⟨n, hnn⟩ : ∃ n, n = l.length := ⟨_, rfl⟩
    have HN : Hid (n = l.length) := Lib.hid hnn
    have HM : Hid (n = l'.length) := Lib.hid (hnn.trans hlen)
    rw [← HM.out] at hm' ⊢
    rw [← hnn] at hn' ⊢
    clear hnn hlen hm'
    go_enter Try.func48, Try.ntmps48
    go_wp2
    go_loopw [13] (fun i wr => ∃ k : Nat, k ≤ n ∧ i = .int .i64 k ∧ Hid (SameTo l l' k) ∧ Below w.heap.size w wr) (fun i _ => n - (intOf i).toNat)
    case atStart => exact ⟨0, Nat.zero_le _, rfl, Lib.hid (sameTo_0 l l'), Below.refl _ _⟩
    case round =>
      obtain ⟨k, hk, rfl, HS, hbel⟩ := hrel
      by_cases hlt : k < n
      · have hl1 : k < l.length := by rw [← HN.out]; exact hlt
        have hl2 : k < l'.length := by rw [← HM.out]; exact hlt
        obtain ⟨a, rfl, hab, hx⟩ := HasX.xk hc k hl1
        obtain ⟨a', rfl, hab', hy⟩ := HasX.xk hc' k hl2
        obtain ⟨x, hxe⟩ : ∃ x, x = l[k] := ⟨_, rfl⟩
        obtain ⟨y, hye⟩ : ∃ y, y = l'[k] := ⟨_, rfl⟩
        rw [← hxe] at hx
        rw [← hye] at hy
        have HX := Lib.hid hxe
        have HY := Lib.hid hye
        obtain ⟨c0, c1⟩ := hx.below hbel hab
        obtain ⟨d0, d1⟩ := hy.below hbel hab'
        clear hx hy hxe hye hc hc'
        have q2 := fun op a b w => tstGd op a b x y w
        by_cases he : x = y
        · have q1 : ∀ w, (binOp .neq 42 (.agg #[.string x.n, .string x.v]) (.agg #[.string y.n, .string y.v])).run Try.prog w = .ok (.bool false) w := fun w => by rw [tstNe, he]; simp
          have HE := Lib.hid he
          have HS2 : Hid (SameTo l l' (k + 1)) := Lib.hid (sameTo_next HS.out hl1 hl2 (by rw [← HX.out, ← HY.out]; exact he))
          clear he
          go_wp2
          go_quiet (fail)
          go_wp2
          go_roundw
          case rel => exact ⟨k + 1, by omega, by go_num, HS2, below_drewN hbel _⟩
          case measure => simp [intOf]; omega
        · have q1 : ∀ w, (binOp .neq 42 (.agg #[.string x.n, .string x.v]) (.agg #[.string y.n, .string y.v])).run Try.prog w = .ok (.bool true) w := fun w => by rw [tstNe, tst_ne he]; rfl
          have HB : Hid (Z = false) := Lib.hid (HZ.out.trans (dB_no (same_ne hl1 hl2 (by rw [← HX.out, ← HY.out]; exact he))))
          clear he
          go_wp2
          go_quiet (fail)
          go_wp2
          go_ret
          exact ⟨ret_bool HB.out.symm, below_drewN hbel _⟩
      · have HB : Hid (Z = true) := Lib.hid (HZ.out.trans (dB_yes (sameTo_all (HN.out.symm.trans HM.out) (by have := HS.out; rwa [show k = l.length by have := HN.out; omega] at this))))
        go_wp2
        go_ret
        exact ⟨ret_bool HB.out.symm, hbel⟩
  · have HB : Hid (Z = false) := Lib.hid (HZ.out.trans (dB_no (fun h => hlen (congrArg List.length h))))
    clear hc hc'
    generalize l.length = n at *
    generalize l'.length = m at *
    have h1 : ((n : Int) != (m : Int)) = true := by simp; omega
    go_enter Try.func48, Try.ntmps48
    go_wp2
    go_ret
    exact ⟨ret_bool HB.out.symm, Below.refl _ _⟩
set_option maxRecDepth 100000 in
set_option maxHeartbeats 2000000 in
theorem isSame_any (x y : StR) (s s' : Stp) (w : World) (hx : x.n = s.n) (hy : y.n = s'.n) (hu : HasX w x.tv s.ts) (hv : HasX w y.tv s'.ts) :
    Calls Try.prog 33 #[.agg #[.string x.n, x.tv], .agg #[.string y.n, y.tv]] w fun e w' => e = .returned (.bool (dB (s = s'))) ∧ Below w.heap.size w w' := by
  obtain ⟨n, tv⟩ := x
  obtain ⟨n', tv'⟩ := y
  obtain ⟨sn, ts⟩ := s
  obtain ⟨sn', ts'⟩ := s'
  dsimp only at hx hy hu hv ⊢
  subst hx hy
  have hb := below_al (below_al (Below.refl w.heap.size w) (.cells #[.string n, tv] 40)) (.cells #[.string n', tv'] 40)
  have HC := Lib.hid (equalX_any tv tv' ts ts' _ (HasR.below hu hb) (HasR.below hv hb))
  have HB := Lib.hid hb
  clear hu hv hb
  by_cases he : n = n'
  · subst he
    obtain ⟨b, hb⟩ : ∃ b, b = dB (ts = ts') := ⟨_, rfl⟩
    have HZ : Hid (dB ((⟨n, ts⟩ : Stp) = ⟨n, ts'⟩) = b) := Lib.hid (by rw [hb]; exact dB_same (by simp))
    rw [← hb] at HC
    clear hb
    go_enter Try.func33, Try.ntmps33
    go_wp2_with (go_at_call 48; refine (HC.out).mono ?_; rintro e w' ⟨rfl, hb1⟩)
    go_ret
    exact ⟨ret_bool HZ.out.symm, below_step HB.out hb1⟩
  · have h1 := str_ne7 he
    have HF : Hid (dB ((⟨n, ts⟩ : Stp) = ⟨n', ts'⟩) = false) := Lib.hid (dB_no fun h => he (by cases h; rfl))
    clear he
    go_enter Try.func33, Try.ntmps33
    go_wp2
    go_ret
    exact ⟨ret_bool HF.out.symm, HB.out⟩
set_option maxRecDepth 100000 in
set_option maxHeartbeats 2000000 in
theorem equalF_any (u v : Value) (l l' : List Stp) (w : World) (hu : HasS w u l) (hv : HasS w v l') :
    Calls Try.prog 32 #[u, v, .func (.func 33) #[] #[]] w fun e w' => e = .returned (.bool (dB (l = l'))) ∧ Below w.heap.size w w' := by
  obtain ⟨A, cap, rfl, hn', hc⟩ := hu.at
  obtain ⟨A', cap', rfl, hm', hc'⟩ := hv.at
  clear hu hv
  obtain ⟨Z, hZ⟩ : ∃ Z, Z = dB (l = l') := ⟨_, rfl⟩
  have HZ := Lib.hid hZ
  rw [← hZ]
  clear hZ
  by_cases hlen : l.length = l'.length
  · obtain ⟨n, hnn⟩ : ∃ n, n = l.length := ⟨_, rfl⟩
    have HN : Hid (n = l.length) := Lib.hid hnn
    have HM : Hid (n = l'.length) := Lib.hid (hnn.trans hlen)
    rw [← HM.out] at hm' ⊢
    rw [← hnn] at hn' ⊢
    clear hnn hlen hm'
    go_enter Try.func32, Try.ntmps32
    go_wp2
    go_loopw [17] (fun i wr => ∃ k : Nat, k ≤ n ∧ i = .int .i64 k ∧ Hid (SameTo l l' k) ∧ Below w.heap.size w wr) (fun i _ => n - (intOf i).toNat)
    case atStart => exact ⟨0, Nat.zero_le _, rfl, Lib.hid (sameTo_0 l l'), Below.refl _ _⟩
    case round =>
      obtain ⟨k, hk, rfl, HS, hbel⟩ := hrel
      by_cases hlt : k < n
      · have hl1 : k < l.length := by rw [← HN.out]; exact hlt
        have hl2 : k < l'.length := by rw [← HM.out]; exact hlt
        obtain ⟨a, x, rfl, hab, hx, hxn, hxt⟩ := hc k hl1
        obtain ⟨a', y, rfl, hab', hy, hyn, hyt⟩ := hc' k hl2
        obtain ⟨c0, c1⟩ := hx.below hbel hab
        obtain ⟨d0, d1⟩ := hy.below hbel hab'
        have hab2 := Nat.lt_of_lt_of_le hab hbel.size
        have hab2' := Nat.lt_of_lt_of_le hab' hbel.size
        obtain ⟨xA, xc, xe, -⟩ := id hxt
        obtain ⟨yA, yc, ye, -⟩ := id hyt
        have HCALL := Lib.hid (fun W (hb : Below w.heap.size w W) => isSame_any x y l[k] l'[k] W hxn hyn (HasR.below hxt hb) (HasR.below hyt hb))
        have HEQ : Hid (l[k] = l'[k] → SameTo l l' (k + 1)) := Lib.hid (sameTo_next HS.out hl1 hl2)
        have HNE : Hid (¬ l[k] = l'[k] → Z = false) := Lib.hid fun he => HZ.out.trans (dB_no (same_ne hl1 hl2 he))
        generalize l[k].ts.length = xm at xe
        generalize l'[k].ts.length = ym at ye
        generalize l[k] = s at HCALL HEQ HNE
        generalize l'[k] = s' at HCALL HEQ HNE
        clear hx hy hxn hyn hxt hyt hc hc'
        obtain ⟨xn, xtv⟩ := x
        obtain ⟨yn, ytv⟩ := y
        dsimp only at xe ye c0 c1 d0 d1 HCALL
        subst xe ye
        obtain ⟨b, hb⟩ : ∃ b, b = dB (s = s') := ⟨_, rfl⟩
        have HBT := Lib.hid hb
        rw [← hb] at HCALL
        clear hb
        have HB := Lib.hid (below_al (below_al hbel (.cells #[.string xn, .slice xA xm xc] 40)) (.cells #[.string yn, .slice yA ym yc] 40))
        go_wp2_with fail
        refine (HCALL.out _ HB.out).mono ?_
        rintro e w1 ⟨rfl, hb1⟩
        have HB1 := Lib.hid (below_step HB.out hb1)
        clear hb1
        cases b with
        | true =>
          have HS2 := Lib.hid (HEQ.out (dB_true HBT.out.symm))
          go_wp2
          go_roundw
          case rel => exact ⟨k + 1, by omega, by go_num, HS2, HB1.out⟩
          case measure => simp [intOf]; omega
        | false =>
          have HF := Lib.hid (HNE.out (dB_false HBT.out.symm))
          go_wp2
          go_ret
          exact ⟨ret_bool HF.out.symm, HB1.out⟩
      · have HB : Hid (Z = true) := Lib.hid (HZ.out.trans (dB_yes (sameTo_all (HN.out.symm.trans HM.out) (by have := HS.out; rwa [show k = l.length by have := HN.out; omega] at this))))
        go_wp2
        go_ret
        exact ⟨ret_bool HB.out.symm, hbel⟩
  · have HB : Hid (Z = false) := Lib.hid (HZ.out.trans (dB_no (fun h => hlen (congrArg List.length h))))
    clear hc hc'
    generalize l.length = n at *
    generalize l'.length = m at *
    have h1 : ((n : Int) != (m : Int)) = true := by simp; omega
    go_enter Try.func32, Try.ntmps32
    go_wp2
    go_ret
    exact ⟨ret_bool HB.out.symm, Below.refl _ _⟩
set_option maxRecDepth 100000 in
set_option maxHeartbeats 2000000 in
theorem iSame_any (u v : PthV) (p p' : Pth) (w : World) (hu : HasP7 w u p) (hv : HasP7 w v p') :
    Calls Try.prog 19 #[u.val, v.val] w fun e w' => e = .returned (.bool (dB (p = p'))) ∧ Below w.heap.size w w' := by
  obtain ⟨r, k, st⟩ := p
  obtain ⟨r', k', st'⟩ := p'
  obtain ⟨ur, uk, sv⟩ := u
  obtain ⟨vr, vk, sv'⟩ := v
  obtain ⟨rfl, rfl, hs⟩ := hu
  obtain ⟨rfl, rfl, hs'⟩ := hv
  dsimp only at hs hs' ⊢
  have hb := below_al (below_al (Below.refl w.heap.size w) (.cells #[.bool ur, .int .i64 uk, sv] 29)) (.cells #[.bool vr, .int .i64 vk, sv'] 29)
  have HC := Lib.hid (equalF_any sv sv' st st' _ (hs.below hb) (hs'.below hb))
  have HB := Lib.hid hb
  obtain ⟨Z, hZ⟩ : ∃ Z, Z = dB ((⟨ur, uk, st⟩ : Pth) = ⟨vr, vk, st'⟩) := ⟨_, rfl⟩
  obtain ⟨b, hbt⟩ : ∃ b, b = dB (st = st') := ⟨_, rfl⟩
  have HF1 : Hid (¬ ur = vr → Z = false) := Lib.hid fun he => hZ.trans (dB_no fun h => he (by cases h; rfl))
  have HF2 : Hid (¬ uk = vk → Z = false) := Lib.hid fun he => hZ.trans (dB_no fun h => he (by cases h; rfl))
  have HF3 : Hid (ur = vr → uk = vk → Z = b) := Lib.hid fun e1 e2 => by subst e1 e2; rw [hZ, hbt]; exact dB_same (by simp)
  rw [← hZ]
  rw [← hbt] at HC
  clear hZ hbt
  clear hs hs' hb
  by_cases he : uk = vk
  · have h1 : (uk == vk) = true := by simp [he]
    have HE := Lib.hid he
    clear he
    cases ur <;> cases vr
    all_goals
      go_enter Try.func19, Try.ntmps19
      go_wp2_with (go_at_call 32; refine (HC.out).mono ?_; rintro e w' ⟨rfl, hb1⟩)
      go_ret
      first
        | exact ⟨ret_bool (HF1.out (by simp)).symm, HB.out⟩
        | exact ⟨ret_bool (HF3.out (by first | rfl | trivial) HE.out).symm, below_step HB.out hb1⟩
  · have h1 : (uk == vk) = false := by simp [he]
    have HE := Lib.hid he
    clear he
    cases ur <;> cases vr
    all_goals
      go_enter Try.func19, Try.ntmps19
      go_wp2
      go_ret
      exact ⟨ret_bool (HF2.out HE.out).symm, HB.out⟩
end Go.Proofs.Ytdmccopggmienaa
