/- CHAPTER 4, FIRST PART: AreRanges, isRange, InRanges. -/
import Derived.Test.YtkifdbeklagelaaGreatDoorRng
import Derived.Test.YtkifdbeklagelaaGreatDoorIn
import Derived.IntWalk
set_option linter.unusedVariables false
set_option linter.unusedSimpArgs false
namespace Go.Proofs.YtkifdbeklagelaaGreatDoor
open Go.RowKit

/-- valid ranges -/
def Are (l : List Rg) : Prop := l.length ≤ 6 ∧ Nrm l
noncomputable def areB (l : List Rg) : Bool := @decide (Are l) (Classical.propDecidable _)
theorem areB_yes {l : List Rg} (h : Are l) : areB l = true := @decide_eq_true _ (Classical.propDecidable _) h
theorem areB_no {l : List Rg} (h : ¬ Are l) : areB l = false := @decide_eq_false _ (Classical.propDecidable _) h
/-- the next one stands well behind those before -/
def NextOk (l : List Rg) (k : Nat) (h : k < l.length) : Prop := l[k].ok ∧ ∀ (h0 : 0 < k), l[k - 1].bef l[k]
theorem nrm_take {l : List Rg} (h : Nrm l) (k : Nat) : Nrm (l.take k) := ⟨h.1.sublist (List.take_sublist _ _), fun x hx => h.2 x (List.mem_of_mem_take hx)⟩
theorem nrm_next {l : List Rg} {k : Nat} (hk : k < l.length) (h : Nrm (l.take k)) (hn : NextOk l k hk) : Nrm (l.take (k + 1)) := by
  rw [List.take_succ_eq_append_getElem hk]
  refine nrm_snoc h hn.1 fun z hz => ?_
  obtain ⟨j, hj, rfl⟩ := List.getElem_of_mem hz
  rw [List.length_take] at hj
  rw [List.getElem_take]
  have h1 := hn.2 (by omega)
  by_cases e : j = k - 1
  · subst e; exact h1
  · have hlen : (l.take k).length = k := by rw [List.length_take]; omega
    have := (List.pairwise_iff_getElem.1 h.1) j (k - 1) (by omega) (by omega) (by omega)
    rw [List.getElem_take, List.getElem_take] at this
    exact bef_trans this (by have := h.2 (l.take k)[k - 1] (List.getElem_mem (by omega)); rwa [List.getElem_take] at this) h1
theorem nrm_nextOk {l : List Rg} {k : Nat} (hk : k < l.length) (h : Nrm l) : NextOk l k hk :=
  ⟨h.2 _ (List.getElem_mem hk), fun h0 => (List.pairwise_iff_getElem.1 h.1) (k - 1) k (by omega) hk (by omega)⟩
theorem nextNo {l : List Rg} {k : Nat} (hk : k < l.length) (h : ¬ NextOk l k hk) : areB l = false := areB_no fun ha => h (nrm_nextOk hk ha.2)

set_option maxRecDepth 100000 in
theorem ok_yes {x : Rg} (h : x.ok) (w : World) : Calls Tryz.prog 155 #[.agg #[.int .i64 x.lo, .int .i64 x.hi]] w fun e w' => e = .returned (.bool true) ∧ Below w.heap.size w w' := by
  obtain ⟨h1, h2, h3⟩ := h
  go_enter Tryz.func155, Tryz.ntmps155
  go_wp2
  go_ret
  exact ⟨rfl, below_al (Below.refl _ _) _⟩
set_option maxRecDepth 100000 in
theorem ok_no {x : Rg} (h : ¬ x.ok) (w : World) : Calls Tryz.prog 155 #[.agg #[.int .i64 x.lo, .int .i64 x.hi]] w fun e w' => e = .returned (.bool false) ∧ Below w.heap.size w w' := by
  by_cases h1 : -1000000000 ≤ x.lo
  · by_cases h2 : x.lo ≤ x.hi
    · have h3 : ¬ x.hi ≤ 1000000000 := fun h3 => h ⟨h2, h1, h3⟩
      clear h
      go_enter Tryz.func155, Tryz.ntmps155
      go_wp2
      go_ret
      exact ⟨rfl, below_al (Below.refl _ _) _⟩
    · clear h
      go_enter Tryz.func155, Tryz.ntmps155
      go_wp2
      go_ret
      exact ⟨rfl, below_al (Below.refl _ _) _⟩
  · clear h
    go_enter Tryz.func155, Tryz.ntmps155
    go_wp2
    go_ret
    exact ⟨rfl, below_al (Below.refl _ _) _⟩
theorem take_prev {l : List Rg} {k : Nat} (h : Nrm (l.take k)) (hk : k ≤ l.length) (h0 : 0 < k) : (l[k - 1]'(by omega)).ok := by
  have hl : k - 1 < (l.take k).length := by rw [List.length_take]; omega
  have := h.2 (l.take k)[k - 1] (List.getElem_mem hl)
  rwa [List.getElem_take] at this
set_option maxRecDepth 100000 in
set_option maxHeartbeats 2000000 in
theorem sAre_any (v : Value) (l : List Rg) (w : World) (hv : HasG w v l) :
    Calls Tryz.prog 53 #[v] w fun e w' => e = .returned (.bool (areB l)) ∧ Below w.heap.size w w' := by
  obtain ⟨A, cap, rfl, hn', hc⟩ := hv
  obtain ⟨n, hnn⟩ : ∃ n, n = l.length := ⟨_, rfl⟩
  have HN : Hid (n = l.length) := Lib.hid hnn
  rw [← hnn] at hn' ⊢
  clear hnn
  obtain ⟨r, hr⟩ : ∃ r, r = areB l := ⟨_, rfl⟩
  have HR : Hid (r = areB l) := Lib.hid hr
  rw [← hr]
  clear hr
  go_enter Tryz.func53, Tryz.ntmps53
  go_wp2
  go_loopw [3] (fun i wr => ∃ k : Nat, k ≤ n ∧ i = .int .i64 k ∧ Hid (Nrm (l.take k)) ∧ Below w.heap.size w wr) (fun i _ => n - (intOf i).toNat)
  case atStart => exact ⟨0, Nat.zero_le _, rfl, Lib.hid ⟨by simp, by simp⟩, Below.refl _ _⟩
  case round =>
    obtain ⟨k, hk, rfl, HP, hbel⟩ := hrel
    by_cases hlt : k < n
    · have hlk : k < l.length := by rw [← HN.out]; exact hlt
      obtain ⟨a, rfl, hab, hcell0⟩ := HasG.gk hc k hlk
      obtain ⟨x, hx⟩ : ∃ x, x = l[k] := ⟨_, rfl⟩
      rw [← hx] at hcell0
      obtain ⟨c0, c1⟩ := hcell0.below hbel hab
      have HX := Lib.hid hx
      clear hx hcell0
      obtain ⟨p, d1, p1, p2, HPV⟩ : ∃ p : Rg, (0 < k → wr.cell? ⟨(a.add ((k - 1) * 2)).block, (a.add ((k - 1) * 2)).off + 1, none⟩ = some (.int .i64 p.hi)) ∧ -1000000000 ≤ p.hi ∧ p.hi ≤ 1000000000 ∧ Hid (∀ h0 : 0 < k, p = l[k - 1]) := by
        by_cases h0 : 0 < k
        · obtain ⟨a', e', hab', hcell'⟩ := HasG.gk hc (k - 1) (by omega)
          cases e'
          have := take_prev HP.out (by omega) h0
          exact ⟨l[k - 1], fun _ => (hcell'.below hbel hab').2, by have h1 := this.1; have h2 := this.2.1; omega, this.2.2, Lib.hid fun _ => rfl⟩
        · exact ⟨⟨0, 0⟩, fun h => absurd h h0, by simp, by simp, Lib.hid fun h => absurd h h0⟩
      clear hc
      by_cases a1 : x.hi < x.lo
      · have HB := Lib.hid (nextNo hlk (by unfold NextOk Rg.ok; rw [← HX.out]; omega))
        go_wp2
        go_quiet (fail)
        go_wp2
        go_ret
        exact ⟨ret_bool (by rw [HR.out, HB.out]), below_drewN hbel _⟩
      · have b1 : decide (x.hi < x.lo) = false := by simpa using a1
        by_cases a2 : x.lo < -1000000000
        · have HB := Lib.hid (nextNo hlk (by unfold NextOk Rg.ok; rw [← HX.out]; omega))
          go_wp2
          go_quiet (fail)
          go_wp2
          go_ret
          exact ⟨ret_bool (by rw [HR.out, HB.out]), below_drewN hbel _⟩
        · have b2 : decide (x.lo < -1000000000) = false := by simpa using a2
          by_cases a3 : 1000000000 < x.hi
          · have HB := Lib.hid (nextNo hlk (by unfold NextOk Rg.ok; rw [← HX.out]; omega))
            go_wp2
            go_quiet (fail)
            go_wp2
            go_ret
            exact ⟨ret_bool (by rw [HR.out, HB.out]), below_drewN hbel _⟩
          · have b3 : decide (1000000000 < x.hi) = false := by simpa using a3
            have HO : Hid (x.ok) := Lib.hid ⟨by omega, by omega, by omega⟩
            by_cases a4 : 0 < k
            · have e1 := d1 a4
              clear d1
              have hw1 : IntKind.i64.wrap ((k : Int) - 1) = (k : Int) - 1 := IntWalk.i64_in _ (by omega)
              have hw2 : IntKind.i64.wrap (p.hi + 1) = p.hi + 1 := IntWalk.i64_in _ (by omega)
              have h01 : 0 ≤ (k : Int) - 1 := by omega
              have hlt1 : (k : Int) - 1 < (n : Int) := by omega
              have htn : ((k : Int) - 1).toNat = k - 1 := by omega
              have hk0' : decide (0 < (k : Int)) = true := by simp; omega
              by_cases a5 : x.lo ≤ p.hi + 1
              · have HB := Lib.hid (nextNo hlk (fun h => by have := h.2 a4; unfold Rg.bef at this; rw [← HX.out, ← HPV.out a4] at this; omega))
                go_wp2
                go_quiet (fail)
                go_wp2
                go_ret
                exact ⟨ret_bool (by rw [HR.out, HB.out]), below_drewN hbel _⟩
              · have HB := Lib.hid (nrm_next hlk HP.out ⟨by rw [← HX.out]; exact HO.out, fun h0 => by unfold Rg.bef; rw [← HX.out, ← HPV.out a4]; omega⟩)
                go_wp2
                go_quiet (fail)
                go_wp2
                go_roundw
                case rel => exact ⟨k + 1, by omega, by go_num, HB, below_drewN hbel _⟩
                case measure => simp [intOf]; omega
            · have hk0' : decide (0 < (k : Int)) = false := by simp; omega
              have HB := Lib.hid (nrm_next hlk HP.out ⟨by rw [← HX.out]; exact HO.out, fun h0 => absurd h0 a4⟩)
              clear d1
              go_wp2
              go_quiet (fail)
              go_wp2
              go_roundw
              case rel => exact ⟨k + 1, by omega, by go_num, HB, below_drewN hbel _⟩
              case measure => simp [intOf]; omega
    · have e : k = n := by omega
      subst e
      by_cases h6 : k ≤ 6
      · go_wp2
        go_ret
        exact ⟨ret_bool (by rw [HR.out, areB_yes ⟨by rw [← HN.out]; exact h6, by have := HP.out; rwa [List.take_of_length_le (by have := HN.out; omega)] at this⟩]; simp; omega), hbel⟩
      · go_wp2
        go_ret
        exact ⟨ret_bool (by rw [HR.out, areB_no fun h => h6 (by rw [HN.out]; exact h.1)]; simp; omega), hbel⟩
end Go.Proofs.YtkifdbeklagelaaGreatDoor
