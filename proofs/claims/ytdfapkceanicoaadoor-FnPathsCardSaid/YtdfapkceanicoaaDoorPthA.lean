/- CHAPTER 7: laws.szPath, eqPath (and what they call). -/
import Derived.Test.YtdfapkceanicoaaDoorPth
set_option linter.unusedVariables false
set_option linter.unusedSimpArgs false
namespace Go.Proofs.YtdfapkceanicoaaDoor
open Go.RowKit

def TstSz (x : Tst) : Prop := x.n.size ≤ 1048576 ∧ x.v.size ≤ 1048576
def StpSz (s : Stp) : Prop := s.n.size ≤ 1048576 ∧ s.ts.length ≤ 1048576 ∧ ∀ t ∈ s.ts, TstSz t
def PthSz (p : Pth) : Prop := p.st.length ≤ 1048576 ∧ ∀ s ∈ p.st, StpSz s
theorem all_step {α : Type} {P : α → Prop} {l : List α} {k : Nat} (hk : k < l.length) (h : ∀ x ∈ l.take k, P x) (h1 : P l[k]) : ∀ x ∈ l.take (k + 1), P x := by
  intro x hx
  rw [List.take_add_one, List.getElem?_eq_getElem hk] at hx
  rcases List.mem_append.1 hx with h2 | h2
  · exact h x h2
  · simp at h2; rw [h2]; exact h1
theorem held_two {w w1 w2 : World} {p q : Addr} {x0 x1 y0 y1 : Value} (k : Below w1.heap.size w1 w2)
    (h : (w1.cell? p = some x0 ∧ w1.cell? ⟨p.block, p.off + 1, none⟩ = some x1) ∧ (w1.cell? q = some y0 ∧ w1.cell? ⟨q.block, q.off + 1, none⟩ = some y1) ∧ Below w.heap.size w w1)
    (hp : p.block < w.heap.size) (hq : q.block < w.heap.size) :
    (w2.cell? p = some x0 ∧ w2.cell? ⟨p.block, p.off + 1, none⟩ = some x1) ∧ (w2.cell? q = some y0 ∧ w2.cell? ⟨q.block, q.off + 1, none⟩ = some y1) ∧ Below w.heap.size w w2 :=
  ⟨⟨by rw [k.cell (Nat.lt_of_lt_of_le hp h.2.2.size)]; exact h.1.1, by rw [k.cell (p := ⟨p.block, p.off + 1, none⟩) (Nat.lt_of_lt_of_le hp h.2.2.size)]; exact h.1.2⟩,
   ⟨by rw [k.cell (Nat.lt_of_lt_of_le hq h.2.2.size)]; exact h.2.1.1, by rw [k.cell (p := ⟨q.block, q.off + 1, none⟩) (Nat.lt_of_lt_of_le hq h.2.2.size)]; exact h.2.1.2⟩, below_step h.2.2 k⟩
set_option maxRecDepth 100000 in
theorem eqTst_same (a b : ByteArray) (w : World) :
    Calls Tryd.prog 101 #[.agg #[.string a, .string b], .agg #[.string a, .string b]] w fun e w' => e = .returned (.bool true) ∧ Below w.heap.size w w' := by
  go_enter Tryd.func101, Tryd.ntmps101
  go_wp2
  go_ret
  exact ⟨rfl, ((Below.refl _ _).alloc (Nat.le_refl _) _).alloc (by simp) _⟩
set_option maxRecDepth 100000 in
set_option maxHeartbeats 1000000 in
theorem eqTsts_any (u v : Value) (l : List Tst) (w : World) (hu : HasX w u l) (hv : HasX w v l) :
    Calls Tryd.prog 88 #[u, v] w fun e w' => e = .returned (.bool true) ∧ Below w.heap.size w w' := by
  obtain ⟨A, cap, rfl, hn', hc⟩ := hu
  obtain ⟨A', cap', rfl, _, hc'⟩ := hv
  obtain ⟨n, hnn⟩ : ∃ n, n = l.length := ⟨_, rfl⟩
  have HN : Hid (n = l.length) := Lib.hid hnn
  rw [← hnn] at hn' ⊢
  clear hnn
  go_enter Tryd.func88, Tryd.ntmps88
  go_wp2
  go_loopw [5] (fun i wr => ∃ k : Nat, k ≤ n ∧ i = .int .i64 k ∧ Below w.heap.size w wr) (fun i _ => n - (intOf i).toNat)
  case atStart => exact ⟨0, Nat.zero_le _, rfl, Below.refl _ _⟩
  case round =>
    obtain ⟨k, hk, rfl, hbel⟩ := hrel
    by_cases hlt : k < n
    · obtain ⟨a, rfl, hab, hcell0⟩ := HasX.xk hc k (by rw [← HN.out]; exact hlt)
      obtain ⟨a', rfl, hab', hcell0'⟩ := HasX.xk hc' k (by rw [← HN.out]; exact hlt)
      obtain ⟨x, hx⟩ : ∃ x, x = l[k]'(by rw [← HN.out]; exact hlt) := ⟨_, rfl⟩
      rw [← hx] at hcell0 hcell0'
      obtain ⟨c0, c1⟩ := hcell0.below hbel hab
      obtain ⟨d0, d1⟩ := hcell0'.below hbel hab'
      clear hx hc hc' hcell0 hcell0'
      go_wp2
      go_region_held3 (fun w' => (w'.cell? (a.add (k * 2)) = some (.string x.n) ∧ w'.cell? ⟨(a.add (k * 2)).block, (a.add (k * 2)).off + 1, none⟩ = some (.string x.v)) ∧ (w'.cell? (a'.add (k * 2)) = some (.string x.n) ∧ w'.cell? ⟨(a'.add (k * 2)).block, (a'.add (k * 2)).off + 1, none⟩ = some (.string x.v)) ∧ Below w.heap.size w w') (first | exact ⟨⟨c0, c1⟩, ⟨d0, d1⟩, hbel.drew⟩ | exact held_two hbm (by assumption) hab hab' | go_keep) (first | (go_at_call 101; refine (eqTst_same _ _ _).mono ?_; rintro e w1 ⟨rfl, hbm⟩))
      go_wp2
      go_roundw
      case rel => exact ⟨k + 1, by omega, by go_num, (by assumption : _ ∧ _ ∧ Below _ _ _).2.2⟩
      case measure => simp [intOf]; omega
    · go_wp2
      go_ret
      exact ⟨rfl, hbel⟩
set_option maxRecDepth 100000 in
theorem eqStp_any (x y : StR) (s : Stp) (w : World) (hx : x.n = s.n) (hy : y.n = s.n) (hu : HasX w x.tv s.ts) (hv : HasX w y.tv s.ts) :
    Calls Tryd.prog 57 #[.agg #[.string x.n, x.tv], .agg #[.string y.n, y.tv]] w fun e w' => e = .returned (.bool true) ∧ Below w.heap.size w w' := by
  obtain ⟨n, tv⟩ := x
  obtain ⟨n', tv'⟩ := y
  dsimp only at hx hy hu hv ⊢
  rw [← hx] at hy
  subst hy
  have hb := below_al (below_al (Below.refl w.heap.size w) (.cells #[.string n', tv] 50)) (.cells #[.string n', tv'] 50)
  have HC := Lib.hid (eqTsts_any tv tv' s.ts _ (HasR.below hu hb) (HasR.below hv hb))
  have HB := Lib.hid hb
  clear hu hv hb hx
  go_enter Tryd.func57, Tryd.ntmps57
  go_wp2_with (go_at_call 88; refine (HC.out).mono ?_; rintro e w' ⟨rfl, hb1⟩)
  go_ret
  exact ⟨rfl, below_step HB.out hb1⟩
set_option maxRecDepth 100000 in
set_option maxHeartbeats 2000000 in
theorem eqStps_any (u v : Value) (l : List Stp) (w : World) (hu : HasS w u l) (hv : HasS w v l) :
    Calls Tryd.prog 32 #[u, v] w fun e w' => e = .returned (.bool true) ∧ Below w.heap.size w w' := by
  obtain ⟨A, cap, rfl, hn', hc⟩ := hu.at
  obtain ⟨A', cap', rfl, _, hc'⟩ := hv.at
  obtain ⟨n, hnn⟩ : ∃ n, n = l.length := ⟨_, rfl⟩
  have HN : Hid (n = l.length) := Lib.hid hnn
  rw [← hnn] at hn' ⊢
  clear hnn hu hv
  go_enter Tryd.func32, Tryd.ntmps32
  go_wp2
  go_loopw [5] (fun i wr => ∃ k : Nat, k ≤ n ∧ i = .int .i64 k ∧ Below w.heap.size w wr) (fun i _ => n - (intOf i).toNat)
  case atStart => exact ⟨0, Nat.zero_le _, rfl, Below.refl _ _⟩
  case round =>
    obtain ⟨k, hk, rfl, hbel⟩ := hrel
    by_cases hlt : k < n
    · have hlk : k < l.length := by rw [← HN.out]; exact hlt
      obtain ⟨a, x, rfl, hab, hx, hxn, hxt⟩ := hc k hlk
      obtain ⟨a', y, rfl, hab', hy, hyn, hyt⟩ := hc' k hlk
      obtain ⟨c0, c1⟩ := hx.below hbel hab
      obtain ⟨d0, d1⟩ := hy.below hbel hab'
      have HCALL := Lib.hid (fun W (hb : Below w.heap.size w W) => eqStp_any x y l[k] W hxn hyn (HasR.below hxt hb) (HasR.below hyt hb))
      clear hx hy hc hc' hxn hxt hyn hyt
      go_wp2
      go_region_held3 (fun w' => (w'.cell? (a.add (k * 2)) = some (.string x.n) ∧ w'.cell? ⟨(a.add (k * 2)).block, (a.add (k * 2)).off + 1, none⟩ = some x.tv) ∧ (w'.cell? (a'.add (k * 2)) = some (.string y.n) ∧ w'.cell? ⟨(a'.add (k * 2)).block, (a'.add (k * 2)).off + 1, none⟩ = some y.tv) ∧ Below w.heap.size w w') (first | exact ⟨⟨c0, c1⟩, ⟨d0, d1⟩, hbel.drew⟩ | exact held_two hbm (by assumption) hab hab' | go_keep) (first | (go_at_call 57; refine (HCALL.out _ (by assumption : _ ∧ _ ∧ Below _ _ _).2.2).mono ?_; rintro e w1 ⟨rfl, hbm⟩))
      go_wp2
      go_roundw
      case rel => exact ⟨k + 1, by omega, by go_num, (by assumption : _ ∧ _ ∧ Below _ _ _).2.2⟩
      case measure => simp [intOf]; omega
    · go_wp2
      go_ret
      exact ⟨rfl, hbel⟩
set_option maxRecDepth 100000 in
set_option maxHeartbeats 1000000 in
theorem eqPth_any (u v : PthV) (p : Pth) (w : World) (hu : HasP7 w u p) (hv : HasP7 w v p) :
    Calls Tryd.prog 14 #[u.val, v.val] w fun e w' => e = .returned (.bool true) ∧ Below w.heap.size w w' := by
  obtain ⟨r, k, st⟩ := p
  obtain ⟨r', k', sv⟩ := u
  obtain ⟨r2, k2, sv2⟩ := v
  obtain ⟨rfl, rfl, hs⟩ := hu
  obtain ⟨e1, e2, hs2⟩ := hv
  dsimp only at hs hs2 e1 e2 ⊢
  subst e1 e2
  have hb := below_al (below_al (Below.refl w.heap.size w) (.cells #[.bool r2, .int .i64 k2, sv] 26)) (.cells #[.bool r2, .int .i64 k2, sv2] 26)
  have HC := Lib.hid (eqStps_any sv sv2 st _ (hs.below hb) (hs2.below hb))
  have HB := Lib.hid hb
  have q1 : (k2 != k2) = false := by simp
  clear hs hs2 hb
  cases r2
  all_goals
    go_enter Tryd.func14, Tryd.ntmps14
    go_wp2_with (go_at_call 32; refine (HC.out).mono ?_; rintro e w' ⟨rfl, hb1⟩)
    go_ret
    exact ⟨rfl, below_step HB.out hb1⟩
end Go.Proofs.YtdfapkceanicoaaDoor
