/- MERGED for a claim: PthC NameC PthF PthG PthH PthI. -/
import Derived.Test.YtdfapkceanicoaaDoorPthB
import Derived.Laws.StructEq
import Derived.BigQuiet
import Derived.Test.YtdfapkceanicoaaDoorLexC
import Derived.Laws.EntriesVeiled
import Derived.Test.YtdfapkceanicoaaDoorPthE
import Derived.Deep.RegionHeld3
import Derived.Deep.RegionWith
set_option linter.unusedVariables false
set_option linter.unusedSimpArgs false
/- CHAPTER 7, impl: SamePath (slices.EqualFunc, slices.Equal at tests, Step.isSame). -/
namespace Go.Proofs.YtdfapkceanicoaaDoor
open Go.RowKit

/-- whether something holds, as a truth -/
noncomputable def dB (P : Prop) : Bool := @decide P (Classical.propDecidable _)
theorem dB_yes {P : Prop} (h : P) : dB P = true := @decide_eq_true _ (Classical.propDecidable _) h
theorem dB_no {P : Prop} (h : ¬ P) : dB P = false := @decide_eq_false _ (Classical.propDecidable _) h
theorem dB_true {P : Prop} (h : dB P = true) : P := @of_decide_eq_true _ (Classical.propDecidable _) h
theorem dB_false {P : Prop} (h : dB P = false) : ¬ P := @of_decide_eq_false _ (Classical.propDecidable _) h
theorem dB_same {P Q : Prop} (h : P ↔ Q) : dB P = dB Q := by
  by_cases hp : P
  · rw [dB_yes hp, dB_yes (h.1 hp)]
  · rw [dB_no hp, dB_no (fun q => hp (h.2 q))]
theorem str_ne7 {s x : ByteArray} (h : s ≠ x) : (s.toList == x.toList) = false := by
  rw [beq_eq_false_iff_ne]
  intro e
  rw [ByteArray.toList_eq, ByteArray.toList_eq] at e
  exact h (ByteArray.ext (Array.toList_inj.1 e))
theorem tst_ne {x y : Tst} (h : x ≠ y) : (x.n.toList == y.n.toList && x.v.toList == y.v.toList) = false := by
  by_cases h1 : x.n = y.n
  · have h2 : x.v ≠ y.v := fun e => h (by cases x; cases y; simp_all)
    rw [str_ne7 h2, Bool.and_false]
  · rw [str_ne7 h1, Bool.false_and]
theorem tstNe (x y : Tst) (w : World) : (binOp .neq 52 (.agg #[.string x.n, .string x.v]) (.agg #[.string y.n, .string y.v])).run Tryd.prog w = .ok (.bool (!(x.n.toList == y.n.toList && x.v.toList == y.v.toList))) w := by
  have u := Tryd.underlying9
  have a := Tryd.isAgg9
  have z := Tryd.sizeOf9
  have hS : Tryd.prog.underlying 52 = some (.struct (Tryd.prog.fieldsOf 52)) := by kernel_rfl
  have hp : Tryd.prog.stoodInHeld 52 = false := by kernel_rfl
  rw [run_neq_struct, show (10000 : Nat) = 9999 + 1 from rfl, run_equalIn_agg w 9999 52 _ _ hS hp]
  simp only [Program.fieldsOf, Tryd.underlying52]
  go_simp
  by_cases h1 : x.n.toList = y.n.toList <;> by_cases h2 : x.v.toList = y.v.toList <;> simp [h1, h2]
theorem tstGd (op : BinOp) (a b : Operand) (x y : Tst) (w : World) : (eqGuard op 52 a b (.agg #[.string x.n, .string x.v]) (.agg #[.string y.n, .string y.v])).run Tryd.prog w = .ok () w := run_eqGuard_agg w op 52 a b _ _ (by kernel_rfl)
/-- the first k of both lists are the same -/
def SameTo {α : Type} (l l' : List α) (k : Nat) : Prop := ∀ j (h : j < l.length) (h' : j < l'.length), j < k → l[j] = l'[j]
theorem sameTo_0 {α : Type} (l l' : List α) : SameTo l l' 0 := fun _ _ _ h => absurd h (by omega)
theorem sameTo_next {α : Type} {l l' : List α} {k : Nat} (h : SameTo l l' k) (h1 : k < l.length) (h2 : k < l'.length) (e : l[k] = l'[k]) : SameTo l l' (k + 1) := fun j a b hj => by
  by_cases hk : j = k
  · subst hk; exact e
  · exact h j a b (by omega)
theorem sameTo_all {α : Type} {l l' : List α} (h : l.length = l'.length) (hs : SameTo l l' l.length) : l = l' := List.ext_getElem h fun i h1 h2 => hs i h1 h2 h1
theorem same_ne {α : Type} {l l' : List α} {k : Nat} (h1 : k < l.length) (h2 : k < l'.length) (e : l[k] ≠ l'[k]) : l ≠ l' := fun h => by subst h; exact e rfl
set_option maxRecDepth 100000 in
set_option maxHeartbeats 2000000 in
theorem equalX_any (u v : Value) (l l' : List Tst) (w : World) (hu : HasX w u l) (hv : HasX w v l') :
    Calls Tryd.prog 51 #[u, v] w fun e w' => e = .returned (.bool (dB (l = l'))) ∧ Below w.heap.size w w' := by
  obtain ⟨A, cap, rfl, hn', hc⟩ := hu
  obtain ⟨A', cap', rfl, hm', hc'⟩ := hv
  obtain ⟨Z, hZ⟩ : ∃ Z, Z = dB (l = l') := ⟨_, rfl⟩
  have HZ := Lib.hid hZ
  rw [← hZ]
  clear hZ
  by_cases hlen : l.length = l'.length
  · obtain ⟨n, hnn⟩ : ∃ n, n = l.length := ⟨_, rfl⟩
    have HN : Hid (n = l.length) := Lib.hid hnn
    have HM : Hid (n = l'.length) := Lib.hid (hnn.trans hlen)
    rw [← HM.out] at hm' ⊢
    rw [← hnn] at hn' ⊢
    clear hnn hlen hm'
    go_enter Tryd.func51, Tryd.ntmps51
    go_wp2
    go_loopw [13] (fun i wr => ∃ k : Nat, k ≤ n ∧ i = .int .i64 k ∧ Hid (SameTo l l' k) ∧ Below w.heap.size w wr) (fun i _ => n - (intOf i).toNat)
    case atStart => exact ⟨0, Nat.zero_le _, rfl, Lib.hid (sameTo_0 l l'), Below.refl _ _⟩
    case round =>
      obtain ⟨k, hk, rfl, HS, hbel⟩ := hrel
      by_cases hlt : k < n
      · have hl1 : k < l.length := by rw [← HN.out]; exact hlt
        have hl2 : k < l'.length := by rw [← HM.out]; exact hlt
        obtain ⟨a, rfl, hab, hx⟩ := HasX.xk hc k hl1
        obtain ⟨a', rfl, hab', hy⟩ := HasX.xk hc' k hl2
        obtain ⟨x, hxe⟩ : ∃ x, x = l[k] := ⟨_, rfl⟩
        obtain ⟨y, hye⟩ : ∃ y, y = l'[k] := ⟨_, rfl⟩
        rw [← hxe] at hx
        rw [← hye] at hy
        have HX := Lib.hid hxe
        have HY := Lib.hid hye
        obtain ⟨c0, c1⟩ := hx.below hbel hab
        obtain ⟨d0, d1⟩ := hy.below hbel hab'
        clear hx hy hxe hye hc hc'
        have q2 := fun op a b w => tstGd op a b x y w
        by_cases he : x = y
        · have q1 : ∀ w, (binOp .neq 52 (.agg #[.string x.n, .string x.v]) (.agg #[.string y.n, .string y.v])).run Tryd.prog w = .ok (.bool false) w := fun w => by rw [tstNe, he]; simp
          have HE := Lib.hid he
          have HS2 : Hid (SameTo l l' (k + 1)) := Lib.hid (sameTo_next HS.out hl1 hl2 (by rw [← HX.out, ← HY.out]; exact he))
          clear he
          go_wp2
          go_quiet (fail)
          go_wp2
          go_roundw
          case rel => exact ⟨k + 1, by omega, by go_num, HS2, below_drewN hbel _⟩
          case measure => simp [intOf]; omega
        · have q1 : ∀ w, (binOp .neq 52 (.agg #[.string x.n, .string x.v]) (.agg #[.string y.n, .string y.v])).run Tryd.prog w = .ok (.bool true) w := fun w => by rw [tstNe, tst_ne he]; rfl
          have HB : Hid (Z = false) := Lib.hid (HZ.out.trans (dB_no (same_ne hl1 hl2 (by rw [← HX.out, ← HY.out]; exact he))))
          clear he
          go_wp2
          go_quiet (fail)
          go_wp2
          go_ret
          exact ⟨ret_bool HB.out.symm, below_drewN hbel _⟩
      · have HB : Hid (Z = true) := Lib.hid (HZ.out.trans (dB_yes (sameTo_all (HN.out.symm.trans HM.out) (by have := HS.out; rwa [show k = l.length by have := HN.out; omega] at this))))
        go_wp2
        go_ret
        exact ⟨ret_bool HB.out.symm, hbel⟩
  · have HB : Hid (Z = false) := Lib.hid (HZ.out.trans (dB_no (fun h => hlen (congrArg List.length h))))
    clear hc hc'
    generalize l.length = n at *
    generalize l'.length = m at *
    have h1 : ((n : Int) != (m : Int)) = true := by simp; omega
    go_enter Tryd.func51, Tryd.ntmps51
    go_wp2
    go_ret
    exact ⟨ret_bool HB.out.symm, Below.refl _ _⟩
set_option maxRecDepth 100000 in
set_option maxHeartbeats 2000000 in
theorem isSame_any (x y : StR) (s s' : Stp) (w : World) (hx : x.n = s.n) (hy : y.n = s'.n) (hu : HasX w x.tv s.ts) (hv : HasX w y.tv s'.ts) :
    Calls Tryd.prog 28 #[.agg #[.string x.n, x.tv], .agg #[.string y.n, y.tv]] w fun e w' => e = .returned (.bool (dB (s = s'))) ∧ Below w.heap.size w w' := by
  obtain ⟨n, tv⟩ := x
  obtain ⟨n', tv'⟩ := y
  obtain ⟨sn, ts⟩ := s
  obtain ⟨sn', ts'⟩ := s'
  dsimp only at hx hy hu hv ⊢
  subst hx hy
  have hb := below_al (below_al (Below.refl w.heap.size w) (.cells #[.string n, tv] 50)) (.cells #[.string n', tv'] 50)
  have HC := Lib.hid (equalX_any tv tv' ts ts' _ (HasR.below hu hb) (HasR.below hv hb))
  have HB := Lib.hid hb
  clear hu hv hb
  by_cases he : n = n'
  · subst he
    obtain ⟨b, hb⟩ : ∃ b, b = dB (ts = ts') := ⟨_, rfl⟩
    have HZ : Hid (dB ((⟨n, ts⟩ : Stp) = ⟨n, ts'⟩) = b) := Lib.hid (by rw [hb]; exact dB_same (by simp))
    rw [← hb] at HC
    clear hb
    go_enter Tryd.func28, Tryd.ntmps28
    go_wp2_with (go_at_call 51; refine (HC.out).mono ?_; rintro e w' ⟨rfl, hb1⟩)
    go_ret
    exact ⟨ret_bool HZ.out.symm, below_step HB.out hb1⟩
  · have h1 := str_ne7 he
    have HF : Hid (dB ((⟨n, ts⟩ : Stp) = ⟨n', ts'⟩) = false) := Lib.hid (dB_no fun h => he (by cases h; rfl))
    clear he
    go_enter Tryd.func28, Tryd.ntmps28
    go_wp2
    go_ret
    exact ⟨ret_bool HF.out.symm, HB.out⟩
set_option maxRecDepth 100000 in
set_option maxHeartbeats 2000000 in
theorem equalF_any (u v : Value) (l l' : List Stp) (w : World) (hu : HasS w u l) (hv : HasS w v l') :
    Calls Tryd.prog 27 #[u, v, .func (.func 28) #[] #[]] w fun e w' => e = .returned (.bool (dB (l = l'))) ∧ Below w.heap.size w w' := by
  obtain ⟨A, cap, rfl, hn', hc⟩ := hu.at
  obtain ⟨A', cap', rfl, hm', hc'⟩ := hv.at
  clear hu hv
  obtain ⟨Z, hZ⟩ : ∃ Z, Z = dB (l = l') := ⟨_, rfl⟩
  have HZ := Lib.hid hZ
  rw [← hZ]
  clear hZ
  by_cases hlen : l.length = l'.length
  · obtain ⟨n, hnn⟩ : ∃ n, n = l.length := ⟨_, rfl⟩
    have HN : Hid (n = l.length) := Lib.hid hnn
    have HM : Hid (n = l'.length) := Lib.hid (hnn.trans hlen)
    rw [← HM.out] at hm' ⊢
    rw [← hnn] at hn' ⊢
    clear hnn hlen hm'
    go_enter Tryd.func27, Tryd.ntmps27
    go_wp2
    go_loopw [17] (fun i wr => ∃ k : Nat, k ≤ n ∧ i = .int .i64 k ∧ Hid (SameTo l l' k) ∧ Below w.heap.size w wr) (fun i _ => n - (intOf i).toNat)
    case atStart => exact ⟨0, Nat.zero_le _, rfl, Lib.hid (sameTo_0 l l'), Below.refl _ _⟩
    case round =>
      obtain ⟨k, hk, rfl, HS, hbel⟩ := hrel
      by_cases hlt : k < n
      · have hl1 : k < l.length := by rw [← HN.out]; exact hlt
        have hl2 : k < l'.length := by rw [← HM.out]; exact hlt
        obtain ⟨a, x, rfl, hab, hx, hxn, hxt⟩ := hc k hl1
        obtain ⟨a', y, rfl, hab', hy, hyn, hyt⟩ := hc' k hl2
        obtain ⟨c0, c1⟩ := hx.below hbel hab
        obtain ⟨d0, d1⟩ := hy.below hbel hab'
        have hab2 := Nat.lt_of_lt_of_le hab hbel.size
        have hab2' := Nat.lt_of_lt_of_le hab' hbel.size
        obtain ⟨xA, xc, xe, -⟩ := id hxt
        obtain ⟨yA, yc, ye, -⟩ := id hyt
        have HCALL := Lib.hid (fun W (hb : Below w.heap.size w W) => isSame_any x y l[k] l'[k] W hxn hyn (HasR.below hxt hb) (HasR.below hyt hb))
        have HEQ : Hid (l[k] = l'[k] → SameTo l l' (k + 1)) := Lib.hid (sameTo_next HS.out hl1 hl2)
        have HNE : Hid (¬ l[k] = l'[k] → Z = false) := Lib.hid fun he => HZ.out.trans (dB_no (same_ne hl1 hl2 he))
        generalize l[k].ts.length = xm at xe
        generalize l'[k].ts.length = ym at ye
        generalize l[k] = s at HCALL HEQ HNE
        generalize l'[k] = s' at HCALL HEQ HNE
        clear hx hy hxn hyn hxt hyt hc hc'
        obtain ⟨xn, xtv⟩ := x
        obtain ⟨yn, ytv⟩ := y
        dsimp only at xe ye c0 c1 d0 d1 HCALL
        subst xe ye
        obtain ⟨b, hb⟩ : ∃ b, b = dB (s = s') := ⟨_, rfl⟩
        have HBT := Lib.hid hb
        rw [← hb] at HCALL
        clear hb
        have HB := Lib.hid (below_al (below_al hbel (.cells #[.string xn, .slice xA xm xc] 50)) (.cells #[.string yn, .slice yA ym yc] 50))
        go_wp2_with fail
        refine (HCALL.out _ HB.out).mono ?_
        rintro e w1 ⟨rfl, hb1⟩
        have HB1 := Lib.hid (below_step HB.out hb1)
        clear hb1
        cases b with
        | true =>
          have HS2 := Lib.hid (HEQ.out (dB_true HBT.out.symm))
          go_wp2
          go_roundw
          case rel => exact ⟨k + 1, by omega, by go_num, HS2, HB1.out⟩
          case measure => simp [intOf]; omega
        | false =>
          have HF := Lib.hid (HNE.out (dB_false HBT.out.symm))
          go_wp2
          go_ret
          exact ⟨ret_bool HF.out.symm, HB1.out⟩
      · have HB : Hid (Z = true) := Lib.hid (HZ.out.trans (dB_yes (sameTo_all (HN.out.symm.trans HM.out) (by have := HS.out; rwa [show k = l.length by have := HN.out; omega] at this))))
        go_wp2
        go_ret
        exact ⟨ret_bool HB.out.symm, hbel⟩
  · have HB : Hid (Z = false) := Lib.hid (HZ.out.trans (dB_no (fun h => hlen (congrArg List.length h))))
    clear hc hc'
    generalize l.length = n at *
    generalize l'.length = m at *
    have h1 : ((n : Int) != (m : Int)) = true := by simp; omega
    go_enter Tryd.func27, Tryd.ntmps27
    go_wp2
    go_ret
    exact ⟨ret_bool HB.out.symm, Below.refl _ _⟩
set_option maxRecDepth 100000 in
set_option maxHeartbeats 2000000 in
theorem iSame_any (u v : PthV) (p p' : Pth) (w : World) (hu : HasP7 w u p) (hv : HasP7 w v p') :
    Calls Tryd.prog 12 #[u.val, v.val] w fun e w' => e = .returned (.bool (dB (p = p'))) ∧ Below w.heap.size w w' := by
  obtain ⟨r, k, st⟩ := p
  obtain ⟨r', k', st'⟩ := p'
  obtain ⟨ur, uk, sv⟩ := u
  obtain ⟨vr, vk, sv'⟩ := v
  obtain ⟨rfl, rfl, hs⟩ := hu
  obtain ⟨rfl, rfl, hs'⟩ := hv
  dsimp only at hs hs' ⊢
  have hb := below_al (below_al (Below.refl w.heap.size w) (.cells #[.bool ur, .int .i64 uk, sv] 26)) (.cells #[.bool vr, .int .i64 vk, sv'] 26)
  have HC := Lib.hid (equalF_any sv sv' st st' _ (hs.below hb) (hs'.below hb))
  have HB := Lib.hid hb
  obtain ⟨Z, hZ⟩ : ∃ Z, Z = dB ((⟨ur, uk, st⟩ : Pth) = ⟨vr, vk, st'⟩) := ⟨_, rfl⟩
  obtain ⟨b, hbt⟩ : ∃ b, b = dB (st = st') := ⟨_, rfl⟩
  have HF1 : Hid (¬ ur = vr → Z = false) := Lib.hid fun he => hZ.trans (dB_no fun h => he (by cases h; rfl))
  have HF2 : Hid (¬ uk = vk → Z = false) := Lib.hid fun he => hZ.trans (dB_no fun h => he (by cases h; rfl))
  have HF3 : Hid (ur = vr → uk = vk → Z = b) := Lib.hid fun e1 e2 => by subst e1 e2; rw [hZ, hbt]; exact dB_same (by simp)
  rw [← hZ]
  rw [← hbt] at HC
  clear hZ hbt
  clear hs hs' hb
  by_cases he : uk = vk
  · have h1 : (uk == vk) = true := by simp [he]
    have HE := Lib.hid he
    clear he
    cases ur <;> cases vr
    all_goals
      go_enter Tryd.func12, Tryd.ntmps12
      go_wp2_with (go_at_call 27; refine (HC.out).mono ?_; rintro e w' ⟨rfl, hb1⟩)
      go_ret
      first
        | exact ⟨ret_bool (HF1.out (by simp)).symm, HB.out⟩
        | exact ⟨ret_bool (HF3.out (by first | rfl | trivial) HE.out).symm, below_step HB.out hb1⟩
  · have h1 : (uk == vk) = false := by simp [he]
    have HE := Lib.hid he
    clear he
    cases ur <;> cases vr
    all_goals
      go_enter Tryd.func12, Tryd.ntmps12
      go_wp2
      go_ret
      exact ⟨ret_bool (HF2.out HE.out).symm, HB.out⟩
end Go.Proofs.YtdfapkceanicoaaDoor

/- CHAPTER 2, THIRD PART: spec's IsName. -/
namespace Go.Proofs.YtdfapkceanicoaaDoor
open Go.RowKit

def NameUpTo (s : ByteArray) (k : Nat) : Prop := (∀ j (h : j < s.size), j < k → nbB s[j] = true) ∧ (0 < k → ∀ h : 0 < s.size, letB s[0] = true)
theorem name_step {s : ByteArray} {k : Nat} (h : NameUpTo s k) (hk : k < s.size) (h1 : nbB s[k] = true) (h0 : k = 0 → letB s[k] = true) : NameUpTo s (k + 1) :=
  ⟨fun j hj hjk => if he : j < k then h.1 j hj he else by
    obtain rfl : j = k := by omega
    exact h1, fun _ hs => if he : 0 < k then h.2 he hs else by
    obtain rfl : k = 0 := by omega
    exact h0 rfl⟩
theorem nb_let {c : UInt8} (h : letB c = true) : nbB c = true := by unfold nbB; rw [h]; rfl
theorem nb_dig {c : UInt8} (h : digB c = true) : nbB c = true := by unfold nbB; rw [h]; simp
theorem nb_dash {c : UInt8} (h : c = 45) : nbB c = true := by unfold nbB; rw [h]; simp
theorem nb_no {c : UInt8} (h : letB c = false) (h' : digB c = false) (h'' : c ≠ 45) : nbB c = false := by unfold nbB; rw [h, h', beq_eq_false_iff_ne.2 h'']; rfl
set_option maxRecDepth 100000 in
set_option maxHeartbeats 400000 in
theorem sIsName_any (s : ByteArray) (hs : s.size ≤ maxLen) (w : World) :
    Calls Tryd.prog 24 #[.string s] w fun e w' => e = .returned (.bool (nameB s)) ∧ w = w' := by
  unfold maxLen at hs
  go_enter Tryd.func24, Tryd.ntmps24
  go_wp2
  go_loop [3] (fun i => ∃ k : Nat, k ≤ s.size ∧ i = .int .i64 k ∧ NameUpTo s k) (fun i => s.size - (intOf i).toNat)
  case atStart => exact ⟨0, by omega, rfl, fun _ _ h => by omega, fun h => by omega⟩
  case round =>
    obtain ⟨k, hk, rfl, hr⟩ := hrel
    have HR := Lib.hid hr
    clear hr
    by_cases hlt : k < s.size
    · have hby : (s[k].toNat : Int) ≤ 255 := by have := s[k].toNat_lt; omega
      cases hl : letB s[k]
      · have HL := Lib.hid hl
        clear hl
        by_cases hk0 : k = 0
        · subst hk0
          go_wp2_with (go_at_call 26; ((with_reducible refine (sLet_any _ _).mono ?_)); rw [HL.out]; rintro e w' ⟨rfl, rfl⟩)
          go_ret
          exact ⟨ret_bool (name_no fun h => by have := h.2.2.1 hlt; rw [HL.out] at this; cases this), rfl⟩
        · have hk1 : ((k : Int) == 0) = false := by simp only [beq_eq_false_iff_ne, ne_eq]; omega
          cases hd : digB s[k]
          · have HD := Lib.hid hd
            clear hd
            by_cases h2 : s[k] = 45
            · have h2' : ((s[k].toNat : Int) == 45) = true := by rw [h2]; rfl
              have H2 := Lib.hid h2
              clear h2
              go_wp2_with (first
                | (go_at_call 26; ((with_reducible refine (sLet_any _ _).mono ?_)); rw [HL.out]; rintro e w' ⟨rfl, rfl⟩)
                | (go_at_call 26; ((with_reducible refine (sDig_any' _ _).mono ?_)); rw [HD.out]; rintro e w' ⟨rfl, rfl⟩))
              go_round
              case rel => exact ⟨k + 1, by omega, by go_num, name_step HR.out hlt (nb_dash H2.out) fun h => absurd h hk0⟩
              case measure => simp [intOf]; omega
            · have h2' : ((s[k].toNat : Int) == 45) = false := byte_ne (d := 45) h2
              have H2 := Lib.hid h2
              clear h2
              go_wp2_with (first
                | (go_at_call 26; ((with_reducible refine (sLet_any _ _).mono ?_)); rw [HL.out]; rintro e w' ⟨rfl, rfl⟩)
                | (go_at_call 26; ((with_reducible refine (sDig_any' _ _).mono ?_)); rw [HD.out]; rintro e w' ⟨rfl, rfl⟩))
              go_ret
              exact ⟨ret_bool (name_no fun h => by have := h.2.2.2.2 k hlt; rw [nb_no HL.out HD.out H2.out] at this; cases this), rfl⟩
          · have HD := Lib.hid hd
            clear hd
            go_wp2_with (first
              | (go_at_call 26; ((with_reducible refine (sLet_any _ _).mono ?_)); rw [HL.out]; rintro e w' ⟨rfl, rfl⟩)
              | (go_at_call 26; ((with_reducible refine (sDig_any' _ _).mono ?_)); rw [HD.out]; rintro e w' ⟨rfl, rfl⟩))
            go_round
            case rel => exact ⟨k + 1, by omega, by go_num, name_step HR.out hlt (nb_dig HD.out) fun h => absurd h hk0⟩
            case measure => simp [intOf]; omega
      · have HL := Lib.hid hl
        clear hl
        go_wp2_with (go_at_call 26; ((with_reducible refine (sLet_any _ _).mono ?_)); rw [HL.out]; rintro e w' ⟨rfl, rfl⟩)
        go_round
        case rel => exact ⟨k + 1, by omega, by go_num, name_step HR.out hlt (nb_let HL.out) fun _ => HL.out⟩
        case measure => simp [intOf]; omega
    · by_cases h1 : 1 ≤ s.size ∧ s.size ≤ 16
      · obtain ⟨h1, h16⟩ := h1
        by_cases h2 : s[s.size - 1] = 45
        · have h2' : ((s[s.size - 1].toNat : Int) == 45) = true := by rw [h2]; rfl
          have H2 := Lib.hid h2
          clear h2
          go_wp2_with (go_at_call 26; refine (sIn_yes _ _ _ _ (by omega) (by omega)).mono ?_; rintro e w' ⟨rfl, rfl⟩)
          go_ret
          exact ⟨ret_bool (by rw [bne, h2']; exact name_no fun h => h.2.2.2.1 (by omega) H2.out), rfl⟩
        · have h2' : ((s[s.size - 1].toNat : Int) == 45) = false := byte_ne (d := 45) h2
          have H2 := Lib.hid h2
          clear h2
          go_wp2_with (go_at_call 26; refine (sIn_yes _ _ _ _ (by omega) (by omega)).mono ?_; rintro e w' ⟨rfl, rfl⟩)
          go_ret
          exact ⟨ret_bool (by rw [bne, h2']; exact name_yes ⟨by omega, by omega, HR.out.2 (by omega), fun _ => H2.out, fun j h => HR.out.1 j h (by omega)⟩), rfl⟩
      · go_wp2_with (go_at_call 26; refine (sIn_no _ _ _ _ (by omega)).mono ?_; rintro e w' ⟨rfl, rfl⟩)
        go_ret
        exact ⟨ret_bool (name_no fun h => h1 ⟨h.1, h.2.1⟩), rfl⟩
end Go.Proofs.YtdfapkceanicoaaDoor

/- CHAPTER 7, impl: Test.isValid, hasNameOf, slices.ContainsFunc at it. -/
namespace Go.Proofs.YtdfapkceanicoaaDoor
open Go.RowKit

noncomputable def tstV (x : Tst) : Bool := nameB x.n && textB x.v
set_option maxRecDepth 100000 in
set_option maxHeartbeats 1000000 in
theorem iTst_any (x : Tst) (hx : TstSz x) (w : World) :
    Calls Tryd.prog 74 #[.agg #[.string x.n, .string x.v]] w fun e w' => e = .returned (.bool (tstV x)) ∧ Below w.heap.size w w' := by
  have H1 := Lib.hid (fun w => iIsName_any x.n (by unfold maxLen; have := hx.1; omega) w)
  have H2 := Lib.hid (fun w => iIsText_any x.v (by unfold maxLen; have := hx.2; omega) w)
  have HB := Lib.hid (below_al (Below.refl w.heap.size w) (.cells #[.string x.n, .string x.v] 52))
  unfold tstV
  generalize nameB x.n = b1 at *
  generalize textB x.v = b2 at *
  cases b1
  · go_enter Tryd.func74, Tryd.ntmps74
    go_wp2_with (first | (go_at_call 73; refine (H1.out _).mono ?_; rintro e w' ⟨rfl, rfl⟩))
    go_ret
    exact ⟨rfl, HB.out⟩
  · go_enter Tryd.func74, Tryd.ntmps74
    go_wp2_with (first
      | (go_at_call 73; refine (H1.out _).mono ?_; rintro e w' ⟨rfl, rfl⟩)
      | (go_at_call 94; refine (H2.out _).mono ?_; rintro e w' ⟨rfl, rfl⟩))
    go_ret
    exact ⟨rfl, HB.out⟩
set_option maxRecDepth 100000 in
theorem hasName_any (x y : Tst) (w : World) :
    Calls Tryd.prog 76 #[.agg #[.string x.n, .string x.v], .agg #[.string y.n, .string y.v]] w fun e w' => e = .returned (.bool (dB (x.n = y.n))) ∧ Below w.heap.size w w' := by
  have HB := Lib.hid (below_al (below_al (Below.refl w.heap.size w) (.cells #[.string x.n, .string x.v] 52)) (.cells #[.string y.n, .string y.v] 52))
  by_cases h : x.n = y.n
  · rw [dB_yes h]
    have h1 : (x.n.toList == y.n.toList) = true := by rw [h]; simp
    have HH := Lib.hid h
    clear h
    go_enter Tryd.func76, Tryd.ntmps76
    go_wp2
    go_ret
    exact ⟨rfl, HB.out⟩
  · rw [dB_no h]
    have h1 : (x.n.toList == y.n.toList) = false := str_ne7 h
    clear h
    go_enter Tryd.func76, Tryd.ntmps76
    go_wp2
    go_ret
    exact ⟨rfl, HB.out⟩
/-- one of the tests l has the name of x -/
def NameIn (x : Tst) (l : List Tst) : Prop := ∃ y ∈ l, x.n = y.n
set_option maxRecDepth 100000 in
set_option maxHeartbeats 2000000 in
theorem indexF_any (v : Value) (l : List Tst) (x : Tst) (w : World) (hv : HasX w v l) :
    Calls Tryd.prog 95 #[v, .func (.func 76) #[.agg #[.string x.n, .string x.v]] #[]] w fun e w' => (∃ r : Int, e = .returned (.int .i64 r) ∧ Hid (decide (0 ≤ r) = dB (NameIn x l))) ∧ Below w.heap.size w w' := by
  obtain ⟨A, cap, rfl, hn', hc⟩ := hv
  obtain ⟨n, hnn⟩ : ∃ n, n = l.length := ⟨_, rfl⟩
  have HN : Hid (n = l.length) := Lib.hid hnn
  rw [← hnn] at hn' ⊢
  clear hnn
  go_enter Tryd.func95, Tryd.ntmps95
  go_wp2
  go_loopw [8] (fun i wr => ∃ k : Nat, k ≤ n ∧ i = .int .i64 k ∧ Hid (∀ j (hj : j < l.length), j < k → x.n ≠ l[j].n) ∧ Below w.heap.size w wr) (fun i _ => n - (intOf i).toNat)
  case atStart => exact ⟨0, Nat.zero_le _, rfl, Lib.hid (fun j _ h => absurd h (by omega)), Below.refl _ _⟩
  case round =>
    obtain ⟨k, hk, rfl, HS, hbel⟩ := hrel
    by_cases hlt : k < n
    · have hl1 : k < l.length := by rw [← HN.out]; exact hlt
      obtain ⟨a, rfl, hab, hx⟩ := HasX.xk hc k hl1
      obtain ⟨y, hye⟩ : ∃ y, y = l[k] := ⟨_, rfl⟩
      rw [← hye] at hx
      have HY := Lib.hid hye
      obtain ⟨c0, c1⟩ := hx.below hbel hab
      have HC := Lib.hid (hasName_any x y wr)
      obtain ⟨b, hb⟩ : ∃ b, b = dB (x.n = y.n) := ⟨_, rfl⟩
      have HBT := Lib.hid hb
      rw [← hb] at HC
      clear hx hye hc hb
      go_wp2_with fail
      refine HC.out.mono ?_
      rintro e w1 ⟨rfl, hb1⟩
      have HB1 := Lib.hid (below_step hbel hb1)
      clear hb1
      cases b with
      | true =>
        have HL : Hid (decide (0 ≤ (k : Int)) = dB (NameIn x l)) := Lib.hid (by rw [dB_yes ⟨l[k], List.getElem_mem hl1, by rw [← HY.out]; exact dB_true HBT.out.symm⟩]; simp)
        go_wp2
        go_ret
        exact ⟨⟨_, rfl, HL⟩, HB1.out⟩
      | false =>
        have HS2 : Hid (∀ j (hj : j < l.length), j < k + 1 → x.n ≠ l[j].n) := Lib.hid fun j hj hjk => by
          by_cases e : j = k
          · subst e; rw [← HY.out]; exact dB_false HBT.out.symm
          · exact HS.out j hj (by omega)
        go_wp2
        go_roundw
        case rel => exact ⟨k + 1, by omega, by go_num, HS2, HB1.out⟩
        case measure => simp [intOf]; omega
    · have HL : Hid (decide (0 ≤ (-1 : Int)) = dB (NameIn x l)) := Lib.hid (by
        rw [dB_no]
        · rfl
        · rintro ⟨y, hy, e⟩
          obtain ⟨j, hj, rfl⟩ := List.getElem_of_mem hy
          exact HS.out j hj (by have := HN.out; omega) e)
      clear hc
      go_wp2
      go_ret
      exact ⟨⟨_, rfl, HL⟩, hbel⟩
set_option maxRecDepth 100000 in
theorem containsF_any (v : Value) (l : List Tst) (x : Tst) (w : World) (hv : HasX w v l) :
    Calls Tryd.prog 75 #[v, .func (.func 76) #[.agg #[.string x.n, .string x.v]] #[]] w fun e w' => e = .returned (.bool (dB (NameIn x l))) ∧ Below w.heap.size w w' := by
  have HC := Lib.hid (indexF_any v l x w hv)
  obtain ⟨A, cap, rfl, -⟩ := id hv
  clear hv
  go_enter Tryd.func75, Tryd.ntmps75
  go_wp2_with (go_at_call 95; refine (HC.out).mono ?_; rintro e w' ⟨⟨r, rfl, hr⟩, hb⟩)
  go_ret
  exact ⟨ret_bool hr.out, hb⟩
set_option maxRecDepth 100000 in
theorem isEmpty_any (v : PthV) (p : Pth) (w : World) (h : HasP7 w v p) :
    Calls Tryd.prog 44 #[v.val] w fun e w' => e = .returned (.bool (!p.root && decide (p.ups = 0) && decide (p.st.length = 0))) ∧ Below w.heap.size w w' := by
  obtain ⟨r, u, l⟩ := p
  obtain ⟨r', u', sv⟩ := v
  obtain ⟨rfl, rfl, hs⟩ := h
  dsimp only at hs ⊢
  obtain ⟨A, cap, rfl, hn, -⟩ := hs.at
  clear hs
  generalize l.length = n at *
  have HB := Lib.hid (below_al (Below.refl w.heap.size w) (.cells #[.bool r', .int .i64 u', .slice A n cap] 26))
  by_cases h1 : u' = 0
  · subst h1
    by_cases h2 : n = 0
    · subst h2
      cases r'
      all_goals
        go_enter Tryd.func44, Tryd.ntmps44
        go_wp2
        go_ret
        exact ⟨rfl, HB.out⟩
    · have e1 : ((n : Int) == 0) = false := by simp; omega
      have e2 : decide (n = 0) = false := by simp [h2]
      rw [e2]
      clear h2 e2
      cases r'
      all_goals
        go_enter Tryd.func44, Tryd.ntmps44
        go_wp2
        go_ret
        exact ⟨rfl, HB.out⟩
  · have e1 : (u' == 0) = false := by simp [h1]
    have e2 : decide (u' = 0) = false := by simp [h1]
    rw [e2]
    clear h1 e2
    cases r'
    all_goals
      go_enter Tryd.func44, Tryd.ntmps44
      go_wp2
      go_ret
      exact ⟨rfl, HB.out⟩
end Go.Proofs.YtdfapkceanicoaaDoor

/- CHAPTER 7, impl: Step.isValid. -/
namespace Go.Proofs.YtdfapkceanicoaaDoor
open Go.RowKit

/-- a slice's length fits its room -/
def CapX (v : Value) : Prop := ∀ A n c, v = .slice A n c → n ≤ c
theorem RowX.capX {B : Nat} {w : World} {v : Value} {l : List Tst} (h : RowX B w v l) : CapX v := by
  intro A n c e
  rcases RowR.form h with ⟨e', _⟩ | ⟨g, cap, e', _⟩
  · rw [e'] at e; cases e; exact Nat.le_refl _
  · subst e'; cases e; exact RowR.cap h
/-- steps as they are read, each with room for its tests -/
def HasSC (w : World) (v : Value) (l : List Stp) : Prop := ∃ R : List StR, HasR StR.enc 2 w v R ∧ R.length = l.length ∧ ∀ i (h : i < R.length) (h' : i < l.length), (R[i].n = l[i].n ∧ HasX w R[i].tv l[i].ts) ∧ CapX R[i].tv
theorem HasSC.below {w w' : World} {v : Value} {l : List Stp} (h : HasSC w v l) (hb : Below w.heap.size w w') : HasSC w' v l := by
  obtain ⟨R, h1, h2, h3⟩ := h
  exact ⟨R, HasR.below h1 hb, h2, fun i a b => ⟨⟨(h3 i a b).1.1, HasR.below (h3 i a b).1.2 hb⟩, (h3 i a b).2⟩⟩
theorem OwnS.hasC {B : Nat} {w : World} {v : Value} {l : List Stp} {S : Nat → Prop} (h : OwnS B w v l S) : HasSC w v l := by
  obtain ⟨R, K, h1, h2, h3, _⟩ := h
  rw [List.length_map] at h2
  refine ⟨R, RowR.has StR.enc_len h1, h2, fun i a b => ?_⟩
  obtain ⟨S1, S2, ho, _⟩ := h3 i a (by rw [List.length_map]; exact b)
  rw [List.getElem_map] at ho
  exact ⟨⟨ho.1.1, RowR.hasX ho.1.2⟩, RowX.capX ho.1.2⟩
theorem HasSC.at {w : World} {v : Value} {l : List Stp} (h : HasSC w v l) : ∃ (A : Option Addr) (cap : Nat), v = .slice A l.length cap ∧ l.length ≤ 9223372036854775807 ∧
    ∀ i (hi : i < l.length), ∃ (a : Addr) (r : StR), A = some a ∧ (a.add (i * 2)).block < w.heap.size ∧ Sk w (a.add (i * 2)) r ∧ r.n = l[i].n ∧ HasX w r.tv l[i].ts ∧ CapX r.tv := by
  obtain ⟨R, ⟨A, cap, hv, hn, hc⟩, h2, h3⟩ := h
  refine ⟨A, cap, by rw [← h2]; exact hv, by rw [← h2]; exact hn, fun i hi => ?_⟩
  have hi' : i < R.length := by rw [h2]; exact hi
  obtain ⟨a, ha, hb, hk⟩ := HasSR.sk hc i hi'
  exact ⟨a, R[i], ha, hb, hk, (h3 i hi' hi).1.1, (h3 i hi' hi).1.2, (h3 i hi' hi).2⟩
theorem hasX_take {w : World} {A : Option Addr} {n c k : Nat} {l : List Tst} (h : HasX w (.slice A n c) l) (hk : k ≤ n) : HasX w (.slice A k c) (l.take k) := by
  obtain ⟨A', cap, e, hn, hc⟩ := h
  cases e
  refine ⟨A, c, by rw [List.length_take, Nat.min_eq_left hk], by rw [List.length_take]; omega, fun i hi => ?_⟩
  have hi' : i < l.length := by rw [List.length_take] at hi; omega
  obtain ⟨a, h1, h2, h3⟩ := hc i hi'
  exact ⟨a, h1, h2, fun j x hx => h3 j x (by rw [List.getElem_take] at hx; exact hx)⟩
theorem two_cells' {w : World} {b : Nat} {a0 a1 : Value} {t : TypeId} (h : w.heap[b]? = some (.cells #[a0, a1] t (0, 0))) : w.cell? ⟨b, 0, none⟩ = some a0 ∧ w.cell? ⟨b, 1, none⟩ = some a1 := by
  constructor
  · rw [cell_of_row _ b 0 _ _ _ h]; rfl
  · rw [cell_of_row _ b 1 _ _ _ h]; rfl
/-- the first k tests are valid, no two of them with one name -/
def TsOk (l : List Tst) (k : Nat) : Prop := ∀ i (hi : i < l.length), i < k → tstV l[i] = true ∧ ¬ NameIn l[i] (l.take i)
def StpOk (s : Stp) : Prop := nameB s.n = true ∧ s.ts.length ≤ 3 ∧ TsOk s.ts s.ts.length
theorem tsOk_next {l : List Tst} {k : Nat} (h : TsOk l k) (hk : k < l.length) (h1 : tstV l[k] = true) (h2 : ¬ NameIn l[k] (l.take k)) : TsOk l (k + 1) := fun i hi hik => by
  by_cases e : i = k
  · subst e; exact ⟨h1, h2⟩
  · exact h i hi (by omega)
set_option maxRecDepth 100000 in
set_option maxHeartbeats 4000000 in
theorem iStp_any (r : StR) (s : Stp) (w : World) (hr : r.n = s.n) (ht : HasX w r.tv s.ts) (hcap : CapX r.tv) (hz : StpSz s) :
    Calls Tryd.prog 45 #[.agg #[.string r.n, r.tv]] w fun e w' => e = .returned (.bool (dB (StpOk s))) ∧ Below w.heap.size w w' := by
  obtain ⟨sn, l⟩ := s
  obtain ⟨rn, tv⟩ := r
  dsimp only at hr ht hcap
  subst hr
  have HN1 := Lib.hid (fun w => iIsName_any rn (by unfold maxLen; have := hz.1; dsimp only at this; omega) w)
  have HCT := Lib.hid (fun A k c n (h : tv = .slice A n c) (hk : k ≤ n) (x : Tst) W (hb : Below w.heap.size w W) => containsF_any (.slice A k c) (l.take k) x W (HasR.below (hasX_take (h ▸ ht) hk) hb))
  obtain ⟨A, cap, rfl, hn', hc⟩ := id ht
  obtain ⟨n, hnn⟩ : ∃ n, n = l.length := ⟨_, rfl⟩
  have HN : Hid (n = l.length) := Lib.hid hnn
  have hnc := hcap A l.length cap rfl
  rw [← hnn] at hn' hnc HCT ⊢
  obtain ⟨Z, hZ⟩ : ∃ Z, Z = dB (StpOk ⟨rn, l⟩) := ⟨_, rfl⟩
  have HF1 : Hid (nameB rn = false → Z = false) := Lib.hid fun h => hZ.trans (dB_no fun hh => by have := hh.1; rw [h] at this; cases this)
  have HF2 : Hid (3 < n → Z = false) := Lib.hid fun h => hZ.trans (dB_no fun hh => by have := hh.2.1; dsimp only at this; omega)
  have HF3 : Hid (∀ k (hk : k < l.length), (tstV l[k] = false ∨ NameIn l[k] (l.take k)) → Z = false) := Lib.hid fun k hk h => hZ.trans (dB_no fun hh => by
    have := hh.2.2 k hk hk
    rcases h with h | h
    · rw [this.1] at h; cases h
    · exact this.2 h)
  have HF4 : Hid (nameB rn = true → n ≤ 3 → TsOk l l.length → Z = true) := Lib.hid fun h1 h2 h3 => hZ.trans (dB_yes ⟨h1, by dsimp only; omega, h3⟩)
  have HSZ : Hid (∀ x ∈ l, TstSz x) := Lib.hid hz.2.2
  rw [← hZ]
  generalize nameB rn = b0 at *
  have hb0 := below_al (Below.refl w.heap.size w) (.cells #[.string rn, .slice A n cap] 50)
  have HB0 := Lib.hid hb0
  have HBX : Hid (∀ W, Below (w.alloc (.cells #[.string rn, .slice A n cap] 50)).heap.size (w.alloc (.cells #[.string rn, .slice A n cap] 50)) W → W.cell? ⟨w.heap.size, 0, none⟩ = some (.string rn) ∧ W.cell? ⟨w.heap.size, 1, none⟩ = some (.slice A n cap)) := Lib.hid fun W hb => two_cells' ((hb.block _ (by simp)).trans (alloc_new_at' _ _ rfl))
  clear hnn hZ ht hcap hz hb0
  cases b0
  · have HL := Lib.hid (HF1.out rfl)
    clear hc
    go_enter Tryd.func45, Tryd.ntmps45
    go_wp2_with (first | (go_at_call 73; refine (HN1.out _).mono ?_; rintro e w' ⟨rfl, rfl⟩))
    go_ret
    exact ⟨ret_bool HL.out.symm, HB0.out⟩
  by_cases h3 : 3 < n
  · have HL := Lib.hid (HF2.out h3)
    clear hc
    go_enter Tryd.func45, Tryd.ntmps45
    go_wp2_with (first | (go_at_call 73; refine (HN1.out _).mono ?_; rintro e w' ⟨rfl, rfl⟩))
    go_ret
    exact ⟨ret_bool HL.out.symm, HB0.out⟩
  obtain ⟨W0, hW0⟩ : ∃ W0, W0 = w.alloc (.cells #[.string rn, .slice A n cap] 50) := ⟨_, rfl⟩
  have hz0 : W0.heap.size = w.heap.size + 1 := by rw [hW0]; simp
  have HZ0 := Lib.hid hz0
  rw [← hW0] at HB0 HBX
  clear hz0
  go_enter Tryd.func45, Tryd.ntmps45
  go_wp2_with (first | (go_at_call 73; refine (HN1.out _).mono ?_; rintro e w' ⟨rfl, rfl⟩))
  rw [← hW0]
  go_loopw [18] (fun i wr => ∃ k : Nat, k ≤ n ∧ i = .int .i64 k ∧ Hid (TsOk l k) ∧ Hid (Below W0.heap.size W0 wr)) (fun i _ => n - (intOf i).toNat)
  case atStart => exact ⟨0, Nat.zero_le _, rfl, Lib.hid (fun i _ h => absurd h (by omega)), Lib.hid (Below.refl _ _)⟩
  case round =>
    obtain ⟨k, hk, rfl, HS, HBW⟩ := hrel
    by_cases hlt : k < n
    · have hl1 : k < l.length := by rw [← HN.out]; exact hlt
      obtain ⟨a, rfl, hab, hx⟩ := HasX.xk hc k hl1
      have HTV := Lib.hid (iTst_any l[k] (HSZ.out _ (List.getElem_mem hl1)))
      have HCX := Lib.hid (HCT.out (some a) k cap n rfl hk l[k])
      have HF5 := Lib.hid (HF3.out k hl1)
      have HNX := Lib.hid (tsOk_next HS.out hl1)
      obtain ⟨x, hxe⟩ : ∃ x, x = l[k] := ⟨_, rfl⟩
      rw [← hxe] at hx HTV HCX HF5 HNX
      have hbel := below_step HB0.out HBW.out
      obtain ⟨c0, c1⟩ := hx.below hbel hab
      have hkc : (k : Int) ≤ (cap : Int) := by omega
      obtain ⟨W1, hW1⟩ : ∃ W1, W1 = wr.alloc (.cells #[.string x.n, .string x.v] 52) := ⟨_, rfl⟩
      have hB1 : Below W0.heap.size W0 W1 := by rw [hW1]; exact below_al HBW.out _
      have HK : Hid (∀ W, Below W1.heap.size W1 W → (W.cell? ⟨wr.heap.size, 0, none⟩ = some (.string x.n) ∧ W.cell? ⟨wr.heap.size, 1, none⟩ = some (.string x.v)) ∧ (W.cell? ⟨w.heap.size, 0, none⟩ = some (.string rn) ∧ W.cell? ⟨w.heap.size, 1, none⟩ = some (.slice (some a) n cap)) ∧ Below W1.heap.size W1 W) := Lib.hid fun W hb => ⟨two_cells' ((hb.block _ (by rw [hW1]; simp)).trans (by rw [hW1]; exact alloc_new_at' _ _ rfl)), HBX.out _ (below_step hB1 hb), hb⟩
      have HB1 := Lib.hid hB1
      have HLOW : Hid (∀ W, Below W1.heap.size W1 W → Below w.heap.size w W) := Lib.hid fun W hb => below_step (below_step HB0.out hB1) hb
      obtain ⟨b1, hb1⟩ : ∃ b, b = tstV x := ⟨_, rfl⟩
      obtain ⟨b2, hb2⟩ : ∃ b, b = dB (NameIn x (l.take k)) := ⟨_, rfl⟩
      have HB2 := Lib.hid hb2
      rw [← hb1] at HTV HF5 HNX
      rw [← hb2] at HCX
      clear hx hxe hc hbel hB1 hb1 hb2 HCT HF3
      obtain ⟨⟨d0, d1⟩, ⟨e0, e1⟩, -⟩ := HK.out _ (Below.refl _ _)
      cases b1
      -- <<region
      · have HL := Lib.hid (HF5.out (.inl rfl))
        go_wp2
        rw [← hW1]
        clear hW1 d0 d1 e0 e1 c0 c1
        refine wp_region_held_drew (S := (fun W => (W.cell? ⟨wr.heap.size, 0, none⟩ = some (.string x.n) ∧ W.cell? ⟨wr.heap.size, 1, none⟩ = some (.string x.v)) ∧ (W.cell? ⟨w.heap.size, 0, none⟩ = some (.string rn) ∧ W.cell? ⟨w.heap.size, 1, none⟩ = some (.slice (some a) n cap)) ∧ Below W1.heap.size W1 W)) (by kernel_rfl) (HK.out _ (Below.refl _ _).drew) (fun hHeld => ?_)
        refine wpAnyH_take (i := 0) (oi := { dst := some 23, op := Op.load 52 (Operand.tmp 4), type := 52, pos := _, after := #[], guard := none }) (v := ?v0) rfl (by kernel_rfl) (by kernel_rfl) (by kernel_rfl) (fun _ _ _ h => h) (Or.inl ⟨by rfl, ?hy0⟩) (by assumption) ?rest0
        case hy0 => ((intro w hSw; (try dsimp only at hSw); go_simp); try with_reducible rfl)
        case' rest0 => (try simp only [Act.put, List.setIfInBounds_toArray, List.set_cons_zero, List.set_cons_succ])
        refine wpAnyH_ready (rs := [1]) (by kernel_rfl) (by simp) ?_
        refine AllReadyH.cons (o := { dst := some 24, op := Op.call { callee := Callee.value (Operand.func 74), args := #[Operand.tmp 23], argTypes := #[52] }, type := 4, pos := _, after := #[{ on := 0, ground := Ground.data }], guard := none }) rfl (fun K hK => ?_) AllReadyH.nil
        go_simp
        refine (HTV.out _).mono ?_
        rintro e w2 ⟨rfl, hbm⟩
        refine hK.out _ _ (HK.out _ (below_step hHeld.2.2 hbm)) (fun hHeld2 => ?_)
        clear hK K hHeld
        try simp only [Act.put, List.setIfInBounds_toArray, List.set_cons_zero, List.set_cons_succ]
        refine wpAnyH_take (i := 2) (oi := { dst := some 25, op := Op.unOp UnOp.not 4 (Operand.tmp 24), type := 4, pos := _, after := #[{ on := 1, ground := Ground.data }], guard := none }) (v := ?v2) rfl (by kernel_rfl) (by kernel_rfl) (by kernel_rfl) (fun _ _ _ h => h) (Or.inl ⟨by rfl, ?hy2⟩) (by assumption) ?rest2
        case hy2 => ((intro w hSw; (try dsimp only at hSw); go_simp); try with_reducible rfl)
        case' rest2 => (try simp only [Act.put, List.setIfInBounds_toArray, List.set_cons_zero, List.set_cons_succ])
        refine wpAnyH_take (i := 3) (oi := { dst := some 26, op := Op.move (Operand.tmp 25), type := 4, pos := _, after := #[{ on := 2, ground := Ground.data }, { on := 1, ground := Ground.chain }], guard := none }) (v := ?v3) rfl (by kernel_rfl) (by kernel_rfl) (by kernel_rfl) (fun _ _ _ h => h) (Or.inl ⟨by rfl, ?hy3⟩) (by assumption) ?rest3
        case hy3 => ((intro w hSw; (try dsimp only at hSw); go_simp); try with_reducible rfl)
        case' rest3 => (try simp only [Act.put, List.setIfInBounds_toArray, List.set_cons_zero, List.set_cons_succ])
        refine wpAnyH_take (i := 4) (oi := { dst := some 27, op := Op.fieldAddr 50 (Operand.tmp 1) 1, type := 0, pos := _, after := #[{ on := 3, ground := Ground.guard }], guard := some (3, false) }) (v := undef) rfl (by kernel_rfl) (by kernel_rfl) (by kernel_rfl) (fun _ _ _ h => h) (Or.inr ⟨by rfl, rfl⟩) (by assumption) ?_
        try simp only [Act.put, List.setIfInBounds_toArray, List.set_cons_zero, List.set_cons_succ]
        refine wpAnyH_take (i := 5) (oi := { dst := some 28, op := Op.load 48 (Operand.tmp 27), type := 48, pos := _, after := #[{ on := 4, ground := Ground.data }, { on := 3, ground := Ground.guard }], guard := some (3, false) }) (v := undef) rfl (by kernel_rfl) (by kernel_rfl) (by kernel_rfl) (fun _ _ _ h => h) (Or.inr ⟨by rfl, rfl⟩) (by assumption) ?_
        try simp only [Act.put, List.setIfInBounds_toArray, List.set_cons_zero, List.set_cons_succ]
        refine wpAnyH_take (i := 6) (oi := { dst := some 29, op := Op.move (Operand.tmp 3), type := 3, pos := _, after := #[{ on := 3, ground := Ground.guard }], guard := some (3, false) }) (v := undef) rfl (by kernel_rfl) (by kernel_rfl) (by kernel_rfl) (fun _ _ _ h => h) (Or.inr ⟨by rfl, rfl⟩) (by assumption) ?_
        try simp only [Act.put, List.setIfInBounds_toArray, List.set_cons_zero, List.set_cons_succ]
        refine wpAnyH_take (i := 7) (oi := { dst := some 30, op := Op.slice 48 (Operand.tmp 28) none (some (Operand.tmp 29)) none, type := 48, pos := _, after := #[{ on := 5, ground := Ground.data }, { on := 6, ground := Ground.data }, { on := 3, ground := Ground.guard }], guard := some (3, false) }) (v := undef) rfl (by kernel_rfl) (by kernel_rfl) (by kernel_rfl) (fun _ _ _ h => h) (Or.inr ⟨by rfl, rfl⟩) (by assumption) ?_
        try simp only [Act.put, List.setIfInBounds_toArray, List.set_cons_zero, List.set_cons_succ]
        refine wpAnyH_take (i := 8) (oi := { dst := some 31, op := Op.load 52 (Operand.tmp 4), type := 52, pos := _, after := #[{ on := 3, ground := Ground.guard }], guard := some (3, false) }) (v := undef) rfl (by kernel_rfl) (by kernel_rfl) (by kernel_rfl) (fun _ _ _ h => h) (Or.inr ⟨by rfl, rfl⟩) (by assumption) ?_
        try simp only [Act.put, List.setIfInBounds_toArray, List.set_cons_zero, List.set_cons_succ]
        refine wpAnyH_take (i := 9) (oi := { dst := some 32, op := Op.makeFunc (Fn.func 76) #[Operand.tmp 31] #[], type := 107, pos := _, after := #[{ on := 8, ground := Ground.data }, { on := 3, ground := Ground.guard }], guard := some (3, false) }) (v := undef) rfl (by kernel_rfl) (by kernel_rfl) (by kernel_rfl) (fun _ _ _ h => h) (Or.inr ⟨by rfl, rfl⟩) (by assumption) ?_
        try simp only [Act.put, List.setIfInBounds_toArray, List.set_cons_zero, List.set_cons_succ]
        refine wpAnyH_take (i := 10) (oi := { dst := some 33, op := Op.call { callee := Callee.value (Operand.func 75), args := #[Operand.tmp 30, Operand.tmp 32], argTypes := #[48, 107] }, type := 4, pos := _, after := #[{ on := 7, ground := Ground.data }, { on := 9, ground := Ground.data }, { on := 3, ground := Ground.chain }, { on := 3, ground := Ground.guard }], guard := some (3, false) }) (v := undef) rfl (by kernel_rfl) (by kernel_rfl) (by kernel_rfl) (fun _ _ _ h => h) (Or.inr ⟨by rfl, rfl⟩) (by assumption) ?_
        try simp only [Act.put, List.setIfInBounds_toArray, List.set_cons_zero, List.set_cons_succ]
        refine wpAnyH_take (i := 11) (oi := { dst := some 34, op := Op.pick (Operand.tmp 26) (Operand.const (Value.bool true)) (Operand.tmp 33), type := 4, pos := _, after := #[{ on := 3, ground := Ground.data }, { on := 10, ground := Ground.data }], guard := none }) (v := ?v11) rfl (by kernel_rfl) (by kernel_rfl) (by kernel_rfl) (fun _ _ _ h => h) (Or.inl ⟨by rfl, ?hy11⟩) (by assumption) ?rest11
        case hy11 => ((intro w hSw; (try dsimp only at hSw); go_simp); try with_reducible rfl)
        case' rest11 => (try simp only [Act.put, List.setIfInBounds_toArray, List.set_cons_zero, List.set_cons_succ])
        refine wpAnyH_done (by kernel_rfl) ?_ _
        have hB2 := HLOW.out _ hHeld2.2.2
        go_wp2
        go_ret
        exact ⟨ret_bool HL.out.symm, hB2⟩
      · cases b2
        · have HTS := Lib.hid (HNX.out rfl (dB_false HB2.out.symm))
          go_wp2
          rw [← hW1]
          clear hW1
          go_region_held3 (fun W => (W.cell? ⟨wr.heap.size, 0, none⟩ = some (.string x.n) ∧ W.cell? ⟨wr.heap.size, 1, none⟩ = some (.string x.v)) ∧ (W.cell? ⟨w.heap.size, 0, none⟩ = some (.string rn) ∧ W.cell? ⟨w.heap.size, 1, none⟩ = some (.slice (some a) n cap)) ∧ Below W1.heap.size W1 W) (first | exact HK.out _ (Below.refl _ _).drew | exact HK.out _ (below_step (by assumption : _ ∧ _ ∧ Below _ _ _).2.2 hbm) | go_keep)
            (first
              | (go_at_call 74; refine (HTV.out _).mono ?_; rintro e w2 ⟨rfl, hbm⟩)
              | (go_at_call 75; refine (HCX.out _ (HLOW.out _ (by assumption : _ ∧ _ ∧ Below _ _ _).2.2)).mono ?_; rintro e w3 ⟨rfl, hbm⟩))
          have hB3 := (by assumption : _ ∧ _ ∧ Below W1.heap.size W1 w3).2.2
          clear d0 d1 e0 e1 c0 c1
          go_wp2
          go_roundw
          case rel => exact ⟨k + 1, by omega, by go_num, HTS, Lib.hid (below_step HB1.out hB3)⟩
          case measure => simp [intOf]; omega
        · have HL := Lib.hid (HF5.out (.inr (dB_true HB2.out.symm)))
          go_wp2
          rw [← hW1]
          clear hW1
          go_region_held3 (fun W => (W.cell? ⟨wr.heap.size, 0, none⟩ = some (.string x.n) ∧ W.cell? ⟨wr.heap.size, 1, none⟩ = some (.string x.v)) ∧ (W.cell? ⟨w.heap.size, 0, none⟩ = some (.string rn) ∧ W.cell? ⟨w.heap.size, 1, none⟩ = some (.slice (some a) n cap)) ∧ Below W1.heap.size W1 W) (first | exact HK.out _ (Below.refl _ _).drew | exact HK.out _ (below_step (by assumption : _ ∧ _ ∧ Below _ _ _).2.2 hbm) | go_keep)
            (first
              | (go_at_call 74; refine (HTV.out _).mono ?_; rintro e w2 ⟨rfl, hbm⟩)
              | (go_at_call 75; refine (HCX.out _ (HLOW.out _ (by assumption : _ ∧ _ ∧ Below _ _ _).2.2)).mono ?_; rintro e w3 ⟨rfl, hbm⟩))
          have hB3 := (by assumption : _ ∧ _ ∧ Below W1.heap.size W1 w3).2.2
          clear d0 d1 e0 e1 c0 c1
          go_wp2
          go_ret
          exact ⟨ret_bool HL.out.symm, HLOW.out _ hB3⟩
    · have HL := Lib.hid (HF4.out (by first | rfl | trivial) (by omega) (by have := HS.out; rwa [show k = l.length by have := HN.out; omega] at this))
      have hB := below_step HB0.out HBW.out
      clear hc
      go_wp2
      go_ret
      exact ⟨ret_bool HL.out.symm, hB⟩
      -- >>region
end Go.Proofs.YtdfapkceanicoaaDoor

/- CHAPTER 7: IsPath of both. -/
namespace Go.Proofs.YtdfapkceanicoaaDoor
open Go.RowKit

theorem three_cells' {w : World} {b : Nat} {a0 a1 a2 : Value} {t : TypeId} (h : w.heap[b]? = some (.cells #[a0, a1, a2] t (0, 0))) : w.cell? ⟨b, 0, none⟩ = some a0 ∧ w.cell? ⟨b, 1, none⟩ = some a1 ∧ w.cell? ⟨b, 2, none⟩ = some a2 := by
  refine ⟨?_, ?_, ?_⟩
  · rw [cell_of_row _ b 0 _ _ _ h]; rfl
  · rw [cell_of_row _ b 1 _ _ _ h]; rfl
  · rw [cell_of_row _ b 2 _ _ _ h]; rfl
/-- a valid path -/
def PthOk (p : Pth) : Prop := (0 ≤ p.ups ∧ p.ups ≤ 8) ∧ p.st.length ≤ 10 ∧ ¬ (p.root = true ∧ 0 < p.ups) ∧ ¬ (p.root = false ∧ p.ups = 0 ∧ p.st.length = 0) ∧ ∀ i (hi : i < p.st.length), StpOk p.st[i]
def StsOk (l : List Stp) (k : Nat) : Prop := ∀ i (hi : i < l.length), i < k → StpOk l[i]
theorem stsOk_next {l : List Stp} {k : Nat} (h : StsOk l k) (hk : k < l.length) (h1 : StpOk l[k]) : StsOk l (k + 1) := fun i hi hik => by
  by_cases e : i = k
  · subst e; exact h1
  · exact h i hi (by omega)
set_option maxRecDepth 100000 in
set_option maxHeartbeats 4000000 in
theorem iPth_any (v : PthV) (p : Pth) (w : World) (h : HasP7 w v p) (hsc : HasSC w v.sv p.st) (hz : PthSz p) :
    Calls Tryd.prog 21 #[v.val] w fun e w' => e = .returned (.bool (dB (PthOk p))) ∧ Below w.heap.size w w' := by
  have HEM := Lib.hid (fun W (hb : Below w.heap.size w W) => isEmpty_any v p W (h.below hb))
  obtain ⟨r, u, l⟩ := p
  obtain ⟨r', u', sv⟩ := v
  obtain ⟨rfl, rfl, -⟩ := h
  dsimp only at hsc HEM ⊢
  obtain ⟨A, cap, rfl, hn', hc⟩ := hsc.at
  obtain ⟨n, hnn⟩ : ∃ n, n = l.length := ⟨_, rfl⟩
  have HN : Hid (n = l.length) := Lib.hid hnn
  rw [← hnn] at hn' HEM ⊢
  obtain ⟨Z, hZ⟩ : ∃ Z, Z = dB (PthOk ⟨r', u', l⟩) := ⟨_, rfl⟩
  have HF1 : Hid (u' < 0 → Z = false) := Lib.hid fun h => hZ.trans (dB_no fun hh => by have := hh.1.1; dsimp only at this; omega)
  have HF2 : Hid (8 < u' → Z = false) := Lib.hid fun h => hZ.trans (dB_no fun hh => by have := hh.1.2; dsimp only at this; omega)
  have HF3 : Hid (10 < n → Z = false) := Lib.hid fun h => hZ.trans (dB_no fun hh => by have := hh.2.1; dsimp only at this; omega)
  have HF4 : Hid (r' = true → 0 < u' → Z = false) := Lib.hid fun h1 h2 => hZ.trans (dB_no fun hh => hh.2.2.1 ⟨h1, h2⟩)
  obtain ⟨be, hbe⟩ : ∃ be, be = (!r' && decide (u' = 0) && decide (n = 0)) := ⟨_, rfl⟩
  rw [← hbe] at HEM
  have HF5 : Hid (be = true → Z = false) := Lib.hid fun h => hZ.trans (dB_no fun hh => hh.2.2.2.1 (by rw [hbe] at h; simp at h; exact ⟨h.1.1, h.1.2, by dsimp only; omega⟩))
  have HF6 : Hid (∀ k (hk : k < l.length), ¬ StpOk l[k] → Z = false) := Lib.hid fun k hk h => hZ.trans (dB_no fun hh => h (hh.2.2.2.2 k hk))
  have HF7 : Hid (0 ≤ u' → u' ≤ 8 → n ≤ 10 → ¬ (r' = true ∧ 0 < u') → be = false → StsOk l l.length → Z = true) := Lib.hid fun h1 h2 h3 h4 h5 h6 => hZ.trans (dB_yes ⟨⟨h1, h2⟩, by dsimp only; omega, h4, by
    rintro ⟨e1, e2, e3⟩
    dsimp only at e1 e2 e3
    rw [hbe, e1, e2, hnn, e3] at h5
    simp at h5, fun i hi => h6 i hi hi⟩)
  have HSZ : Hid (∀ s ∈ l, StpSz s) := Lib.hid hz.2
  rw [← hZ]
  have hb0 := below_al (Below.refl w.heap.size w) (.cells #[.bool r', .int .i64 u', .slice A n cap] 26)
  have HB0 := Lib.hid hb0
  clear hnn hZ hz hsc hbe
  by_cases h1 : u' < 0
  · have HL := Lib.hid (HF1.out h1)
    clear hc
    go_enter Tryd.func21, Tryd.ntmps21
    go_wp2
    go_ret
    exact ⟨ret_bool HL.out.symm, HB0.out⟩
  by_cases h2 : 8 < u'
  · have HL := Lib.hid (HF2.out h2)
    clear hc
    go_enter Tryd.func21, Tryd.ntmps21
    go_wp2
    go_ret
    exact ⟨ret_bool HL.out.symm, HB0.out⟩
  by_cases h3 : 10 < n
  · have HL := Lib.hid (HF3.out h3)
    clear hc
    go_enter Tryd.func21, Tryd.ntmps21
    go_wp2
    go_ret
    exact ⟨ret_bool HL.out.symm, HB0.out⟩
  have HU : Hid (0 ≤ u' ∧ u' ≤ 8 ∧ n ≤ 10) := Lib.hid ⟨by omega, by omega, by omega⟩
  by_cases h4 : r' = true ∧ 0 < u'
  · obtain ⟨rfl, h5⟩ := h4
    have HL := Lib.hid (HF4.out rfl h5)
    clear hc
    go_enter Tryd.func21, Tryd.ntmps21
    go_wp2
    go_ret
    exact ⟨ret_bool HL.out.symm, HB0.out⟩
  have H4 := Lib.hid h4
  have h5 : r' = true → ¬ 0 < u' := fun e h => h4 ⟨e, h⟩
  clear h4
  obtain ⟨W0, hW0⟩ : ∃ W0, W0 = w.alloc (.cells #[.bool r', .int .i64 u', .slice A n cap] 26) := ⟨_, rfl⟩
  have HBX : Hid (∀ W, Below W0.heap.size W0 W → W.cell? ⟨w.heap.size, 0, none⟩ = some (.bool r') ∧ W.cell? ⟨w.heap.size, 1, none⟩ = some (.int .i64 u') ∧ W.cell? ⟨w.heap.size, 2, none⟩ = some (.slice A n cap)) := Lib.hid fun W hb => three_cells' ((hb.block _ (by rw [hW0]; simp)).trans (by rw [hW0]; exact alloc_new_at' _ _ rfl))
  have HLOW : Hid (∀ W, Below W0.heap.size W0 W → Below w.heap.size w W) := Lib.hid fun W hb => by rw [hW0] at hb; exact below_step hb0 hb
  have HEM2 : Hid (Calls Tryd.prog 44 #[.agg #[.bool r', .int .i64 u', .slice A n cap]] W0 fun e w' => e = .returned (.bool be) ∧ Below W0.heap.size W0 w') := Lib.hid (HEM.out W0 (by rw [hW0]; exact hb0))
  rw [hW0] at HBX HLOW HEM2
  clear hW0 hb0 HEM
  cases be
  · cases r'
    all_goals
      (try have h6 : ¬ 0 < u' := h5 rfl)
      clear h5
      go_enter Tryd.func21, Tryd.ntmps21
      go_wp2_with (first | (go_at_call 44; refine (HEM2.out).mono ?_; rintro e w1 ⟨rfl, hb1⟩; have HB1 := Lib.hid hb1; obtain ⟨x0, x1, x2⟩ := HBX.out _ hb1; clear hb1))
      have HB2 := Lib.hid (HLOW.out _ HB1.out)
      clear x0 x1 x2
      go_loopw [33] (fun i wr => ∃ k : Nat, k ≤ n ∧ i = .int .i64 k ∧ Hid (StsOk l k) ∧ Below w.heap.size w wr) (fun i _ => n - (intOf i).toNat)
      case atStart => exact ⟨0, Nat.zero_le _, rfl, Lib.hid (fun i _ h => absurd h (by omega)), HB2.out⟩
      case round =>
        obtain ⟨k, hk, rfl, HS, hbel⟩ := hrel
        by_cases hlt : k < n
        · have hl1 : k < l.length := by rw [← HN.out]; exact hlt
          obtain ⟨a, q, rfl, hab, hx, hqn, hqt, hqc⟩ := hc k hl1
          obtain ⟨c0, c1⟩ := hx.below hbel hab
          obtain ⟨qA, qc, qe, -⟩ := id hqt
          have HC := Lib.hid (fun W (hb : Below w.heap.size w W) => iStp_any q l[k] W hqn (HasR.below hqt hb) hqc (HSZ.out _ (List.getElem_mem hl1)))
          have HNX := Lib.hid (stsOk_next HS.out hl1)
          have HBD := Lib.hid (HF6.out k hl1)
          generalize l[k].ts.length = qm at qe
          generalize l[k] = s at HC HNX HBD
          obtain ⟨qn, qtv⟩ := q
          dsimp only at qe c0 c1 HC
          subst qe
          obtain ⟨b, hb⟩ : ∃ b, b = dB (StpOk s) := ⟨_, rfl⟩
          have HBB := Lib.hid hb
          rw [← hb] at HC
          have HB3 := Lib.hid (below_al hbel (.cells #[.string qn, .slice qA qm qc] 50))
          clear hx hqn hqt hqc hb hc
          go_wp2_with fail
          refine (HC.out _ HB3.out).mono ?_
          rintro e w2 ⟨rfl, hb2⟩
          have HB4 := Lib.hid (below_step HB3.out hb2)
          clear hb2
          cases b
          · have HL := Lib.hid (HBD.out (dB_false HBB.out.symm))
            go_wp2
            go_ret
            exact ⟨ret_bool HL.out.symm, HB4.out⟩
          · have HS2 := Lib.hid (HNX.out (dB_true HBB.out.symm))
            go_wp2
            go_roundw
            case rel => exact ⟨k + 1, by omega, by go_num, HS2, HB4.out⟩
            case measure => simp [intOf]; omega
        · have HL := Lib.hid (HF7.out HU.out.1 HU.out.2.1 HU.out.2.2 H4.out (by first | rfl | trivial) (by have := HS.out; rwa [show k = l.length by have := HN.out; omega] at this))
          clear hc
          go_wp2
          go_ret
          exact ⟨ret_bool HL.out.symm, hbel⟩
  · have HL := Lib.hid (HF5.out rfl)
    clear hc
    cases r'
    all_goals
      (try have h6 : ¬ 0 < u' := h5 rfl)
      clear h5
      go_enter Tryd.func21, Tryd.ntmps21
      go_wp2_with (first | (go_at_call 44; refine (HEM2.out).mono ?_; rintro e w1 ⟨rfl, hb1⟩; have HB1 := Lib.hid hb1))
      go_ret
      exact ⟨ret_bool HL.out.symm, HLOW.out _ HB1.out⟩
set_option maxRecDepth 100000 in
theorem iIsPth_any (v : PthV) (p : Pth) (w : World) (h : HasP7 w v p) (hsc : HasSC w v.sv p.st) (hz : PthSz p) :
    Calls Tryd.prog 10 #[v.val] w fun e w' => e = .returned (.bool (dB (PthOk p))) ∧ Below w.heap.size w w' := by
  have HC := Lib.hid (fun W (hb : Below w.heap.size w W) => iPth_any v p W (h.below hb) (hsc.below hb) hz)
  obtain ⟨A, c, h1, -⟩ := hsc.at
  generalize dB (PthOk p) = b at *
  generalize p.st.length = n at h1
  clear h hsc hz
  obtain ⟨r, u, sv⟩ := v
  dsimp only at h1
  subst h1
  have HB0 := Lib.hid (below_al (Below.refl w.heap.size w) (.cells #[.bool r, .int .i64 u, .slice A n c] 26))
  go_enter Tryd.func10, Tryd.ntmps10
  go_wp2_with (first | (go_at_call 21; refine (HC.out _ HB0.out).mono ?_; rintro e w1 ⟨rfl, hb1⟩))
  go_ret
  exact ⟨rfl, below_step HB0.out hb1⟩
end Go.Proofs.YtdfapkceanicoaaDoor

/- CHAPTER 7, spec: IsPath. -/
namespace Go.Proofs.YtdfapkceanicoaaDoor
open Go.RowKit

theorem nameIn_take {l : List Tst} {k j : Nat} (hj : j < l.length) (hk : k < l.length) (h : j < k) (e : l[j].n = l[k].n) : NameIn l[k] (l.take k) :=
  ⟨l[j], by rw [← List.getElem_take (j := k) (h := by rw [List.length_take]; omega)]; exact List.getElem_mem _, e.symm⟩
theorem not_nameIn {l : List Tst} {k : Nat} (hk : k < l.length) (h : ∀ q (hq : q < l.length), q < k → l[q].n ≠ l[k].n) : ¬ NameIn l[k] (l.take k) := by
  rintro ⟨y, hy, e⟩
  obtain ⟨q, hq, rfl⟩ := List.getElem_of_mem hy
  rw [List.length_take] at hq
  rw [List.getElem_take] at e
  exact h q (by omega) (by omega) e.symm
theorem hasX_tell' {w : World} {A : Option Addr} {n c : Nat} {l : List Tst} (h : HasX w (.slice A n c) l) (k : Nat) (hk : k < l.length) : ∃ a, A = some a ∧ (a.add (k * 2)).block < w.heap.size ∧ Xk w (a.add (k * 2)) l[k] := by
  obtain ⟨A', c', e, _, hc⟩ := h
  cases e
  exact HasX.xk hc k hk
set_option maxRecDepth 100000 in
set_option maxHeartbeats 8000000 in
theorem sIsPth_any (v : PthV) (p : Pth) (w : World) (h : HasP7 w v p) (hz : PthSz p) :
    Calls Tryd.prog 11 #[v.val] w fun e w' => e = .returned (.bool (dB (PthOk p))) ∧ Below w.heap.size w w' := by
  obtain ⟨r, u, l⟩ := p
  obtain ⟨r', u', sv⟩ := v
  obtain ⟨rfl, rfl, hs⟩ := h
  dsimp only at hs ⊢
  obtain ⟨A, cap, rfl, hn', hc⟩ := hs.at
  obtain ⟨n, hnn⟩ : ∃ n, n = l.length := ⟨_, rfl⟩
  have HN : Hid (n = l.length) := Lib.hid hnn
  rw [← hnn] at hn' ⊢
  obtain ⟨Z, hZ⟩ : ∃ Z, Z = dB (PthOk ⟨r', u', l⟩) := ⟨_, rfl⟩
  have HF6 : Hid (∀ k (hk : k < l.length), ¬ StpOk l[k] → Z = false) := Lib.hid fun k hk h => hZ.trans (dB_no fun hh => h (hh.2.2.2.2 k hk))
  have HF7 : Hid (StsOk l l.length → Z = (decide (0 ≤ u' ∧ u' ≤ 8) && decide (n ≤ 10) && (!r' || decide (u' = 0)) && (r' || decide (0 < u') || decide (0 < n)))) := Lib.hid fun h6 => by
    rw [hZ]
    by_cases hp : PthOk ⟨r', u', l⟩
    · rw [dB_yes hp]
      obtain ⟨h1, h2, h3, h4, -⟩ := hp
      dsimp only at h1 h2 h3 h4
      rw [← hnn] at h2 h4
      have e1 : decide (0 ≤ u' ∧ u' ≤ 8) = true := by simpa using h1
      have e2 : decide (n ≤ 10) = true := by simpa using h2
      rw [e1, e2]
      cases r'
      · by_cases hu : 0 < u'
        · simp [hu]
        · have : 0 < n := by
            rcases Nat.eq_zero_or_pos n with e | e
            · exact absurd ⟨rfl, by omega, e⟩ h4
            · exact e
          simp [this]
      · have : u' = 0 := by
          have : ¬ 0 < u' := fun e => h3 ⟨rfl, e⟩
          omega
        simp [this]
    · rw [dB_no hp]
      symm
      cases hb : (decide (0 ≤ u' ∧ u' ≤ 8) && decide (n ≤ 10) && (!r' || decide (u' = 0)) && (r' || decide (0 < u') || decide (0 < n))) with
      | false => rfl
      | true =>
        exfalso
        apply hp
        simp only [Bool.and_eq_true, Bool.or_eq_true, decide_eq_true_eq, Bool.not_eq_true'] at hb
        obtain ⟨⟨⟨h1, h2⟩, h3⟩, h4⟩ := hb
        refine ⟨h1, by dsimp only; omega, ?_, ?_, fun i hi => h6 i hi hi⟩
        · rintro ⟨e1, e2⟩
          dsimp only at e1 e2
          rw [e1] at h3
          rcases h3 with h3 | h3
          · cases h3
          · omega
        · rintro ⟨e1, e2, e3⟩
          dsimp only at e1 e2 e3
          rw [e1] at h4
          rcases h4 with (h4 | h4) | h4
          · cases h4
          · omega
          · omega
  have HSZ : Hid (∀ s ∈ l, StpSz s) := Lib.hid hz.2
  rw [← hZ]
  have hb0 := below_al (Below.refl w.heap.size w) (.cells #[.bool r', .int .i64 u', .slice A n cap] 26)
  obtain ⟨W0, hW0⟩ : ∃ W0, W0 = w.alloc (.cells #[.bool r', .int .i64 u', .slice A n cap] 26) := ⟨_, rfl⟩
  rw [← hW0] at hb0
  have HBX : Hid (∀ W, Below W0.heap.size W0 W → (W.cell? ⟨w.heap.size, 0, none⟩ = some (.bool r') ∧ W.cell? ⟨w.heap.size, 1, none⟩ = some (.int .i64 u') ∧ W.cell? ⟨w.heap.size, 2, none⟩ = some (.slice A n cap)) ∧ Below w.heap.size w W) := Lib.hid fun W hb => ⟨three_cells' ((hb.block _ (by rw [hW0]; simp)).trans (by rw [hW0]; exact alloc_new_at' _ _ rfl)), below_step hb0 hb⟩
  clear hnn hZ hz hb0 hs
  go_enter Tryd.func11, Tryd.ntmps11
  go_wp2
  rw [← hW0]
  clear hW0
  go_loopw [3] (fun i wr => ∃ k : Nat, k ≤ n ∧ i = .int .i64 k ∧ Hid (StsOk l k) ∧ Hid (Below W0.heap.size W0 wr)) (fun i _ => n - (intOf i).toNat)
  case atStart => exact ⟨0, Nat.zero_le _, rfl, Lib.hid (fun i _ h => absurd h (by omega)), Lib.hid (Below.refl _ _)⟩
  case round =>
    obtain ⟨k, hk, rfl, HS, HBW⟩ := hrel
    obtain ⟨⟨x0, x1, x2⟩, hbel⟩ := HBX.out _ HBW.out
    by_cases hlt : k < n
    · have hl1 : k < l.length := by rw [← HN.out]; exact hlt
      obtain ⟨a, q, rfl, hab, hx, hqn, hqt⟩ := hc k hl1
      have HCL : Hid (∀ W, Below W0.heap.size W0 W → W.cell? (a.add (k * 2)) = some (.string q.n) ∧ W.cell? ⟨(a.add (k * 2)).block, (a.add (k * 2)).off + 1, none⟩ = some q.tv) := Lib.hid fun W hb => hx.below (HBX.out W hb).2 hab
      obtain ⟨c0, c1⟩ := HCL.out _ HBW.out
      have hsz := HSZ.out _ (List.getElem_mem hl1)
      have HNX := Lib.hid (stsOk_next HS.out hl1)
      have HBD := Lib.hid (HF6.out k hl1)
      obtain ⟨qA, qc, qe, hqm, -⟩ := id hqt
      generalize l[k] = s at hqn hqt hsz HNX HBD qe hqm
      obtain ⟨sn, ts⟩ := s
      obtain ⟨qn, qtv⟩ := q
      dsimp only at hqn hqt qe hqm c0 c1 HCL
      subst hqn qe
      have HXT := Lib.hid (fun W (hb : Below W0.heap.size W0 W) => HasR.below hqt (HBX.out W hb).2)
      have HNM := Lib.hid (fun w => sIsName_any qn (by unfold maxLen; have := hsz.1; dsimp only at this; omega) w)
      have HTZ : Hid (∀ t ∈ ts, TstSz t) := Lib.hid hsz.2.2
      obtain ⟨m, hm⟩ : ∃ m, m = ts.length := ⟨_, rfl⟩
      have HM : Hid (m = ts.length) := Lib.hid hm
      rw [← hm] at c1 HCL HXT hqm
      have HB1 : Hid (∀ i (hi : i < ts.length), (tstV ts[i] = false ∨ NameIn ts[i] (ts.take i)) → Z = false) := Lib.hid fun i hi hh => HBD.out fun hok => by
        have := hok.2.2 i hi hi
        rcases hh with h | h
        · rw [this.1] at h; cases h
        · exact this.2 h
      have HB2 : Hid (nameB qn = false ∨ 3 < m → Z = false) := Lib.hid fun hh => HBD.out fun hok => by
        rcases hh with h | h
        · have := hok.1; dsimp only at this; rw [this] at h; cases h
        · have := hok.2.1; dsimp only at this; omega
      have HB3 : Hid (nameB qn = true → m ≤ 3 → TsOk ts ts.length → StsOk l (k + 1)) := Lib.hid fun h1 h2 h3 => HNX.out ⟨h1, by dsimp only; omega, h3⟩
      clear hx hqt hsz hm hc
      have HKN : Hid (k + 1 ≤ n ∧ k < n) := Lib.hid ⟨by omega, hlt⟩
      go_wp2
      obtain ⟨K, hK⟩ : ∃ K, K = k := ⟨_, rfl⟩
      subst hK
      obtain ⟨wo, hwo⟩ : ∃ wo : World, wo = wr := ⟨_, rfl⟩
      subst hwo
      go_loopw [5] (fun i wq => ∃ j : Nat, j ≤ m ∧ i = .int .i64 j ∧ Hid (TsOk ts j) ∧ Hid (Below W0.heap.size W0 wq)) (fun i _ => m - (intOf i).toNat)
      case atStart => exact ⟨0, Nat.zero_le _, rfl, Lib.hid (fun i _ h => absurd h (by omega)), HBW⟩
      case round =>
        clear x0 x1 x2 c0 c1 hbel
        obtain ⟨j, hj, rfl, HJ, HBJ⟩ := hrel
        obtain ⟨⟨x0, x1, x2⟩, -⟩ := HBX.out _ HBJ.out
        obtain ⟨c0, c1⟩ := HCL.out _ HBJ.out
        by_cases hjm : j < m
        · have hl3 : j < ts.length := by rw [← HM.out]; exact hjm
          have hxt := HXT.out _ HBJ.out
          obtain ⟨A2, c2', ea, _, hxc⟩ := HXT.out _ HBJ.out
          have HTJ := Lib.hid (HB1.out j hl3)
          have HNJ := Lib.hid (tsOk_next HJ.out hl3)
          have htz := HTZ.out _ (List.getElem_mem hl3)
          have HN2 := Lib.hid (fun w => sIsName_any ts[j].n (by unfold maxLen; have := htz.1; omega) w)
          have HT2 := Lib.hid (fun w => sIsText_any ts[j].v (by unfold maxLen; have := htz.2; omega) w)
          have HTV : Hid (tstV ts[j] = (nameB ts[j].n && textB ts[j].v)) := Lib.hid rfl
          have HNT : Hid (∀ q (hq : q < ts.length), q < j → ts[q].n = ts[j].n → NameIn ts[j] (ts.take j)) := Lib.hid fun q hq h e => nameIn_take hq hl3 h e
          have HNN : Hid ((∀ q (hq : q < ts.length), q < j → ts[q].n ≠ ts[j].n) → ¬ NameIn ts[j] (ts.take j)) := Lib.hid (not_nameIn hl3)
          have HCX : Hid (∀ q (hq : q < ts.length) W, Below W0.heap.size W0 W → ∃ b, qA = some b ∧ Xk W (b.add (q * 2)) ts[q]) := Lib.hid fun q hq W hb => by
            obtain ⟨b, h1, _, h2⟩ := hasX_tell' (HXT.out W hb) q hq
            exact ⟨b, h1, h2⟩
          clear hxt ea hxc htz
          go_wp2
          obtain ⟨J, hJ⟩ : ∃ J, J = j := ⟨_, rfl⟩
          subst hJ
          obtain ⟨wp, hwp⟩ : ∃ wp : World, wp = wr := ⟨_, rfl⟩
          subst hwp
          go_loopw [6] (fun i wq => ∃ g : Nat, g ≤ J ∧ i = .int .i64 g ∧ Hid (∀ q (hq : q < ts.length), q < g → ts[q].n ≠ ts[J].n) ∧ Hid (Below W0.heap.size W0 wq)) (fun i _ => J - (intOf i).toNat)
          case atStart => exact ⟨0, Nat.zero_le _, rfl, Lib.hid (fun q _ h => absurd h (by omega)), HBJ⟩
          case round =>
            clear x0 x1 x2 c0 c1
            obtain ⟨g, hg, rfl, HG, HBG⟩ := hrel
            obtain ⟨⟨x0, x1, x2⟩, -⟩ := HBX.out _ HBG.out
            obtain ⟨c0, c1⟩ := HCL.out _ HBG.out
            obtain ⟨b, rfl, d0, d1⟩ := HCX.out J hl3 _ HBG.out
            by_cases hgj : g < J
            · have hl4 : g < ts.length := by omega
              obtain ⟨b', eb, f0, f1⟩ := HCX.out g hl4 _ HBG.out
              cases eb
              have hgm : g < m := by omega
              have HTG := Lib.hid (fun e => HTJ.out (.inr (HNT.out g hl4 hgj e)))
              have HGG : Hid (ts[g].n ≠ ts[J].n → ∀ q (hq : q < ts.length), q < g + 1 → ts[q].n ≠ ts[J].n) := Lib.hid fun e q hq h => by
                by_cases h' : q = g
                · subst h'; exact e
                · exact HG.out q hq (by omega)
              generalize ts[g].n = y1 at f0 HTG HGG
              generalize ts[J].n = x1' at d0 HTG HGG
              clear f1
              by_cases he : y1 = x1'
              · have h1 : (y1.toList == x1'.toList) = true := by rw [he]; simp
                have HL := Lib.hid (HTG.out he)
                clear he
                go_wp2
                go_quiet (fail)
                go_wp2
                go_ret
                exact ⟨ret_bool HL.out.symm, below_drewN (HBX.out _ HBG.out).2 _⟩
              · have h1 : (y1.toList == x1'.toList) = false := str_ne7 he
                have HG2 := Lib.hid (HGG.out he)
                clear he
                go_wp2
                go_quiet (fail)
                go_wp2
                go_roundw
                case rel => exact ⟨g + 1, by omega, by go_num, HG2, Lib.hid (below_drewN HBG.out _)⟩
                case measure => simp [intOf]; omega
            · have HNJ2 := Lib.hid (HNN.out (by have := HG.out; rwa [show g = J by omega] at this))
              obtain ⟨b1, hb1⟩ : ∃ b, b = nameB ts[J].n := ⟨_, rfl⟩
              obtain ⟨b2, hb2⟩ : ∃ b, b = textB ts[J].v := ⟨_, rfl⟩
              rw [← hb1, ← hb2] at HTV
              rw [← hb1] at HN2
              rw [← hb2] at HT2
              have HBB := (HBX.out _ HBG.out).2
              clear hb1 hb2
              cases b1
              · have HL := Lib.hid (HTJ.out (.inl HTV.out))
                go_wp2_with (first | (go_at_call 24; refine (HN2.out _).mono ?_; rintro e w' ⟨rfl, rfl⟩))
                go_ret
                exact ⟨ret_bool HL.out.symm, HBB⟩
              · cases b2
                · have HL := Lib.hid (HTJ.out (.inl HTV.out))
                  go_wp2_with (first
                    | (go_at_call 24; refine (HN2.out _).mono ?_; rintro e w' ⟨rfl, rfl⟩)
                    | (go_at_call 25; refine (HT2.out _).mono ?_; rintro e w' ⟨rfl, rfl⟩))
                  go_ret
                  exact ⟨ret_bool HL.out.symm, HBB⟩
                · have HJ2 := Lib.hid (HNJ.out HTV.out HNJ2.out)
                  go_wp2_with (first
                    | (go_at_call 24; refine (HN2.out _).mono ?_; rintro e w' ⟨rfl, rfl⟩)
                    | (go_at_call 25; refine (HT2.out _).mono ?_; rintro e w' ⟨rfl, rfl⟩))
                  go_roundw
                  case rel => exact ⟨J + 1, by omega, by go_num, HJ2, HBG⟩
                  case measure => simp [intOf]; omega
        · have HTS : Hid (TsOk ts ts.length) := Lib.hid (by have := HJ.out; rwa [show j = ts.length by have := HM.out; omega] at this)
          have HBB := (HBX.out _ HBJ.out).2
          generalize nameB qn = b1 at HNM HB2 HB3
          cases b1
          · have HL := Lib.hid (HB2.out (.inl rfl))
            go_wp2_with (first | (go_at_call 24; refine (HNM.out _).mono ?_; rintro e w' ⟨rfl, rfl⟩))
            go_ret
            exact ⟨ret_bool HL.out.symm, HBB⟩
          · by_cases h3 : 3 < m
            · have HL := Lib.hid (HB2.out (.inr h3))
              go_wp2_with (first | (go_at_call 24; refine (HNM.out _).mono ?_; rintro e w' ⟨rfl, rfl⟩))
              go_ret
              exact ⟨ret_bool HL.out.symm, HBB⟩
            · have HS2 := Lib.hid (HB3.out rfl (by omega) HTS.out)
              go_wp2_with (first | (go_at_call 24; refine (HNM.out _).mono ?_; rintro e w' ⟨rfl, rfl⟩))
              go_roundw
              case rel => exact ⟨K + 1, HKN.out.1, by go_num, HS2, HBJ⟩
              case measure => simp [intOf]; have := HKN.out.2; omega
    · have HZ := HF7.out (by have := HS.out; rwa [show k = l.length by have := HN.out; omega] at this)
      clear hc
      have HZ := Lib.hid HZ
      have HIN := Lib.hid (fun w => sIn_any u' 0 8 w)

      by_cases r0 : 0 ≤ u' ∧ u' ≤ 8
      · rw [show decide (0 ≤ u' ∧ u' ≤ 8) = true by simpa using r0] at HIN HZ
        by_cases r1 : n ≤ 10
        · have q1 : decide ((n : Int) ≤ 10) = true := by simp; omega
          have q2 : (n : Int) ≤ 10 := by omega
          have q3 : decide (n ≤ 10) = true := by simp; omega
          cases r'
          · by_cases r2 : 0 < u'
            · have q4 : decide (0 < u') = true := by simp; omega
              have q5 : (u' == 0) = false := beq_eq_false_iff_ne.2 (by omega)
              by_cases r3 : n = 0
              · subst r3
                go_wp2_with (first | (go_at_call 26; refine (HIN.out _).mono ?_; rintro e w' ⟨rfl, rfl⟩))
                go_ret
                exact ⟨ret_bool (by rw [HZ.out]; simp [q3, q4]), hbel⟩
              · have q6 : decide ((0 : Int) < (n : Int)) = true := by simp; omega
                have q7 : (0 : Int) < (n : Int) := by omega
                go_wp2_with (first | (go_at_call 26; refine (HIN.out _).mono ?_; rintro e w' ⟨rfl, rfl⟩))
                go_ret
                exact ⟨ret_bool (by rw [HZ.out]; simp [q3, q4]), hbel⟩
            · obtain rfl : u' = 0 := by omega
              by_cases r3 : n = 0
              · subst r3
                go_wp2_with (first | (go_at_call 26; refine (HIN.out _).mono ?_; rintro e w' ⟨rfl, rfl⟩))
                go_ret
                exact ⟨ret_bool (by rw [HZ.out]; simp []), hbel⟩
              · have q6 : decide ((0 : Int) < (n : Int)) = true := by simp; omega
                have q7 : (0 : Int) < (n : Int) := by omega
                have q8 : 0 < n := by omega
                go_wp2_with (first | (go_at_call 26; refine (HIN.out _).mono ?_; rintro e w' ⟨rfl, rfl⟩))
                go_ret
                exact ⟨ret_bool (by rw [HZ.out]; simp [q3, q8]), hbel⟩
          · by_cases r2 : u' = 0
            · subst r2
              go_wp2_with (first | (go_at_call 26; refine (HIN.out _).mono ?_; rintro e w' ⟨rfl, rfl⟩))
              go_ret
              exact ⟨ret_bool (by rw [HZ.out]; simp [q3]), hbel⟩
            · have q4 : decide (u' = 0) = false := by simp; omega
              have q5 : (u' == 0) = false := beq_eq_false_iff_ne.2 r2
              go_wp2_with (first | (go_at_call 26; refine (HIN.out _).mono ?_; rintro e w' ⟨rfl, rfl⟩))
              go_ret
              exact ⟨ret_bool (by rw [HZ.out]; simp [q3, q4]), hbel⟩
        · have q1 : decide ((n : Int) ≤ 10) = false := by simp; omega
          have q2 : ¬ (n : Int) ≤ 10 := by omega
          have q3 : decide (n ≤ 10) = false := by simp; omega
          go_wp2_with (first | (go_at_call 26; refine (HIN.out _).mono ?_; rintro e w' ⟨rfl, rfl⟩))
          go_ret
          exact ⟨ret_bool (by rw [HZ.out]; simp [q3]), hbel⟩
      · rw [show decide (0 ≤ u' ∧ u' ≤ 8) = false by simpa using r0] at HIN HZ
        go_wp2_with (first | (go_at_call 26; refine (HIN.out _).mono ?_; rintro e w' ⟨rfl, rfl⟩))
        go_ret
        exact ⟨ret_bool (by rw [HZ.out]; simp []), hbel⟩
end Go.Proofs.YtdfapkceanicoaaDoor
