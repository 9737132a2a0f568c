/- MERGED for a claim: PthA Dig. -/
import Derived.Test.YtdkpleghpnflhaaPth
import Derived.Test.YtdkpleghpnflhaaBuf
import Derived.Test.YtdkpleghpnflhaaNumPlain
set_option linter.unusedVariables false
set_option linter.unusedSimpArgs false
/- CHAPTER 7: laws.szPath, eqPath (and what they call). -/
namespace Go.Proofs.Ytdkpleghpnflhaa
open Go.RowKit

def TstSz (x : Tst) : Prop := x.n.size ≤ 1048576 ∧ x.v.size ≤ 1048576
def StpSz (s : Stp) : Prop := s.n.size ≤ 1048576 ∧ s.ts.length ≤ 1048576 ∧ ∀ t ∈ s.ts, TstSz t
def PthSz (p : Pth) : Prop := p.st.length ≤ 1048576 ∧ ∀ s ∈ p.st, StpSz s
theorem all_step {α : Type} {P : α → Prop} {l : List α} {k : Nat} (hk : k < l.length) (h : ∀ x ∈ l.take k, P x) (h1 : P l[k]) : ∀ x ∈ l.take (k + 1), P x := by
  intro x hx
  rw [List.take_add_one, List.getElem?_eq_getElem hk] at hx
  rcases List.mem_append.1 hx with h2 | h2
  · exact h x h2
  · simp at h2; rw [h2]; exact h1
set_option maxRecDepth 100000 in
set_option maxHeartbeats 1000000 in
theorem szTst_any (x : Tst) (hx : TstWf x) (left : Int) (h0 : 0 ≤ left) (h1 : left ≤ 1048576) (w : World) :
    Calls Try.prog 73 #[.agg #[.string x.n, .string x.v], .int .i64 left] w fun e w' => (∃ y : Int, e = .returned (.int .i64 y) ∧ (0 ≤ y → TstSz x) ∧ -1 ≤ y ∧ y ≤ left) ∧ Below w.heap.size w w' := by
  obtain ⟨n, v⟩ := x
  obtain ⟨hn, hv⟩ := hx
  dsimp only at hn hv ⊢
  have hb := below_al (Below.refl w.heap.size w) (.cells #[.string n, .string v] 150)
  have e1 : IntKind.i64.wrap (left - n.size) = left - n.size := by rw [IntKind.wrap_i64]; omega
  by_cases z1 : left - n.size < 0
  · go_enter Try.func73, Try.ntmps73
    go_wp2
    go_ret
    exact ⟨⟨-1, rfl, fun h => absurd h (by omega), by omega, by omega⟩, hb⟩
  · have e2 : IntKind.i64.wrap (left - n.size - v.size) = left - n.size - v.size := by rw [IntKind.wrap_i64]; omega
    by_cases z2 : left - n.size - v.size < 0
    · go_enter Try.func73, Try.ntmps73
      go_wp2
      go_ret
      exact ⟨⟨-1, rfl, fun h => absurd h (by omega), by omega, by omega⟩, hb⟩
    · go_enter Try.func73, Try.ntmps73
      go_wp2
      go_ret
      exact ⟨⟨_, rfl, fun h => ⟨by dsimp only; omega, by dsimp only; omega⟩, by omega, by omega⟩, hb⟩
set_option maxRecDepth 100000 in
set_option maxHeartbeats 1000000 in
theorem szTsts_any (v : Value) (l : List Tst) (hv0 : ∀ x ∈ l, TstWf x) (left : Int) (h0 : 0 ≤ left) (h1 : left ≤ 1048576) (w : World) (hv : HasX w v l) :
    Calls Try.prog 70 #[v, .int .i64 left] w fun e w' => (∃ y : Int, e = .returned (.int .i64 y) ∧ (0 ≤ y → l.length ≤ 1048576 ∧ ∀ x ∈ l, TstSz x) ∧ -1 ≤ y ∧ y ≤ left) ∧ Below w.heap.size w w' := by
  obtain ⟨A, cap, rfl, hn', hc⟩ := hv
  obtain ⟨n, hnn⟩ : ∃ n, n = l.length := ⟨_, rfl⟩
  have HN : Hid (n = l.length) := Lib.hid hnn
  rw [← hnn] at hn' ⊢
  clear hnn
  have e1 : IntKind.i64.wrap (left - n) = left - n := by rw [IntKind.wrap_i64]; omega
  by_cases hbig : left < n
  · have z1 : left - n < 0 := by omega
    go_enter Try.func70, Try.ntmps70
    go_wp2
    go_ret
    exact ⟨⟨-1, rfl, fun h => absurd h (by omega), by omega, by omega⟩, Below.refl _ _⟩
  · have z1 : ¬ left - n < 0 := by omega
    obtain ⟨y0, hy0⟩ : ∃ y0, y0 = left - n := ⟨_, rfl⟩
    have e2 : IntKind.i64.wrap (left - n) = y0 := by rw [e1, hy0]
    rw [← hy0] at z1
    clear e1
    have hy1 : y0 ≤ left := by omega
    have hnb : (n : Int) ≤ 1048576 := by omega
    clear hy0 hbig
    go_enter Try.func70, Try.ntmps70
    go_wp2
    go_loopw [1, 5] (fun x i wr => ∃ (k : Nat) (y : Int), k ≤ n ∧ i = .int .i64 k ∧ x = .int .i64 y ∧ 0 ≤ y ∧ y ≤ left ∧ Hid (∀ s ∈ l.take k, TstSz s) ∧ Below w.heap.size w wr) (fun _ i _ => n - (intOf i).toNat)
    case atStart => exact ⟨0, y0, Nat.zero_le _, rfl, rfl, by omega, hy1, Lib.hid (by simp), Below.refl _ _⟩
    case round =>
      obtain ⟨k, y, hk, rfl, rfl, hy0, hy1, HS, hbel⟩ := hrel
      by_cases hlt : k < n
      · have hlk : k < l.length := by rw [← HN.out]; exact hlt
        obtain ⟨a, rfl, hab, hcell⟩ := HasX.xk hc k hlk
        obtain ⟨c0, c1⟩ := hcell.below hbel hab
        have HC := Lib.hid (szTst_any l[k] (hv0 _ (List.getElem_mem hlk)) y hy0 (by omega))
        have HT : Hid (TstSz l[k] → ∀ s ∈ l.take (k + 1), TstSz s) := Lib.hid (all_step hlk HS.out)
        generalize l[k] = x at c0 c1 HC HT
        clear hcell hc hv0
        go_wp2_with fail
        refine (HC.out _).mono ?_
        rintro e w1 ⟨⟨z, rfl, hz, hz1, hz2⟩, hb1⟩
        have hbel1 := below_step hbel hb1
        by_cases hz0 : z < 0
        · clear hz
          go_wp2
          go_ret
          exact ⟨⟨-1, rfl, fun h => absurd h (by omega), by omega, by omega⟩, hbel1⟩
        · have HT2 := Lib.hid (HT.out (hz (by omega)))
          clear hz
          go_wp2
          go_roundw
          case rel => exact ⟨k + 1, z, by omega, by go_num, rfl, by omega, by omega, HT2, hbel1⟩
          case measure => simp [intOf]; omega
      · go_wp2
        go_ret
        exact ⟨⟨_, rfl, fun h => ⟨by omega, by have h2 := HS.out; rwa [List.take_of_length_le (by have := HN.out; omega)] at h2⟩, by omega, by omega⟩, hbel⟩
set_option maxRecDepth 100000 in
set_option maxHeartbeats 1000000 in
theorem szStp_any (r : StR) (s : Stp) (hs : StpWf s) (left : Int) (h0 : 0 ≤ left) (h1 : left ≤ 1048576) (w : World) (hr : r.n = s.n) (hv : HasX w r.tv s.ts) :
    Calls Try.prog 67 #[.agg #[.string r.n, r.tv], .int .i64 left] w fun e w' => (∃ y : Int, e = .returned (.int .i64 y) ∧ (0 ≤ y → StpSz s) ∧ -1 ≤ y ∧ y ≤ left) ∧ Below w.heap.size w w' := by
  obtain ⟨n, ts⟩ := s
  obtain ⟨n', tv⟩ := r
  obtain ⟨hn, hw⟩ := hs
  dsimp only at hr hn hw hv ⊢
  subst hr
  have hb := below_al (Below.refl w.heap.size w) (.cells #[.string n', tv] 143)
  have HC := Lib.hid (fun y a b => szTsts_any tv ts hw y a b _ (HasR.below hv hb))
  have HB := Lib.hid hb
  clear hv hw hb
  have e1 : IntKind.i64.wrap (left - n'.size) = left - n'.size := by rw [IntKind.wrap_i64]; omega
  by_cases z1 : left - n'.size < 0
  · go_enter Try.func67, Try.ntmps67
    go_wp2
    go_ret
    exact ⟨⟨-1, rfl, fun h => absurd h (by omega), by omega, by omega⟩, HB.out⟩
  · have HL : Hid (n'.size ≤ 1048576) := Lib.hid (by omega)
    go_enter Try.func67, Try.ntmps67
    go_wp2_with fail
    refine (HC.out _ (by omega) (by omega)).mono ?_
    rintro e w1 ⟨⟨z, rfl, hz, hz1, hz2⟩, hb1⟩
    have hbel1 := below_step HB.out hb1
    by_cases hz0 : z < 0
    · clear hz
      go_wp2
      go_ret
      exact ⟨⟨-1, rfl, fun h => absurd h (by omega), by omega, by omega⟩, hbel1⟩
    · have HZ := Lib.hid (hz (by omega))
      clear hz
      go_wp2
      go_ret
      exact ⟨⟨_, rfl, fun _ => ⟨HL.out, HZ.out.1, HZ.out.2⟩, by omega, by omega⟩, hbel1⟩
set_option maxRecDepth 100000 in
set_option maxHeartbeats 1000000 in
theorem szStps_any (v : Value) (l : List Stp) (hv0 : ∀ x ∈ l, StpWf x) (left : Int) (h0 : 0 ≤ left) (h1 : left ≤ 1048576) (w : World) (hv : HasS w v l) :
    Calls Try.prog 64 #[v, .int .i64 left] w fun e w' => (∃ y : Int, e = .returned (.int .i64 y) ∧ (0 ≤ y → l.length ≤ 1048576 ∧ ∀ x ∈ l, StpSz x) ∧ -1 ≤ y ∧ y ≤ left) ∧ Below w.heap.size w w' := by
  obtain ⟨A, cap, rfl, hn', hc⟩ := hv.at
  obtain ⟨n, hnn⟩ : ∃ n, n = l.length := ⟨_, rfl⟩
  have HN : Hid (n = l.length) := Lib.hid hnn
  rw [← hnn] at hn' ⊢
  clear hnn hv
  have e1 : IntKind.i64.wrap (left - n) = left - n := by rw [IntKind.wrap_i64]; omega
  by_cases hbig : left < n
  · have z1 : left - n < 0 := by omega
    go_enter Try.func64, Try.ntmps64
    go_wp2
    go_ret
    exact ⟨⟨-1, rfl, fun h => absurd h (by omega), by omega, by omega⟩, Below.refl _ _⟩
  · have z1 : ¬ left - n < 0 := by omega
    obtain ⟨y0, hy0⟩ : ∃ y0, y0 = left - n := ⟨_, rfl⟩
    have e2 : IntKind.i64.wrap (left - n) = y0 := by rw [e1, hy0]
    rw [← hy0] at z1
    clear e1
    have hy1 : y0 ≤ left := by omega
    have hnb : (n : Int) ≤ 1048576 := by omega
    clear hy0 hbig
    go_enter Try.func64, Try.ntmps64
    go_wp2
    go_loopw [1, 5] (fun x i wr => ∃ (k : Nat) (y : Int), k ≤ n ∧ i = .int .i64 k ∧ x = .int .i64 y ∧ 0 ≤ y ∧ y ≤ left ∧ Hid (∀ s ∈ l.take k, StpSz s) ∧ Below w.heap.size w wr) (fun _ i _ => n - (intOf i).toNat)
    case atStart => exact ⟨0, y0, Nat.zero_le _, rfl, rfl, by omega, hy1, Lib.hid (by simp), Below.refl _ _⟩
    case round =>
      obtain ⟨k, y, hk, rfl, rfl, hy0, hy1, HS, hbel⟩ := hrel
      by_cases hlt : k < n
      · have hlk : k < l.length := by rw [← HN.out]; exact hlt
        obtain ⟨a, r, rfl, hab, hcell, hrn, hrt⟩ := hc k hlk
        obtain ⟨c0, c1⟩ := hcell.below hbel hab
        have HC := Lib.hid (szStp_any r l[k] (hv0 _ (List.getElem_mem hlk)) y hy0 (by omega) _ hrn (HasR.below hrt hbel))
        have HT : Hid (StpSz l[k] → ∀ s ∈ l.take (k + 1), StpSz s) := Lib.hid (all_step hlk HS.out)
        clear hcell hc hv0 hrn hrt
        generalize l[k] = x at HC HT
        go_wp2_with fail
        refine (HC.out).mono ?_
        rintro e w1 ⟨⟨z, rfl, hz, hz1, hz2⟩, hb1⟩
        have hbel1 := below_step hbel hb1
        by_cases hz0 : z < 0
        · clear hz
          go_wp2
          go_ret
          exact ⟨⟨-1, rfl, fun h => absurd h (by omega), by omega, by omega⟩, hbel1⟩
        · have HT2 := Lib.hid (HT.out (hz (by omega)))
          clear hz
          go_wp2
          go_roundw
          case rel => exact ⟨k + 1, z, by omega, by go_num, rfl, by omega, by omega, HT2, hbel1⟩
          case measure => simp [intOf]; omega
      · go_wp2
        go_ret
        exact ⟨⟨_, rfl, fun h => ⟨by omega, by have h2 := HS.out; rwa [List.take_of_length_le (by have := HN.out; omega)] at h2⟩, by omega, by omega⟩, hbel⟩
set_option maxRecDepth 100000 in
set_option maxHeartbeats 1000000 in
theorem szPth_any (v : PthV) (p : Pth) (hp : PthWf p) (left : Int) (h0 : 0 ≤ left) (h1 : left ≤ 1048576) (w : World) (h : HasP7 w v p) :
    Calls Try.prog 59 #[v.val, .int .i64 left] w fun e w' => (∃ y : Int, e = .returned (.int .i64 y) ∧ (0 ≤ y → PthSz p) ∧ -1 ≤ y ∧ y ≤ left) ∧ Below w.heap.size w w' := by
  obtain ⟨r, u, st⟩ := p
  obtain ⟨r', u', sv⟩ := v
  obtain ⟨rfl, rfl, hs⟩ := h
  dsimp only at hs ⊢
  have hb := below_al (Below.refl w.heap.size w) (.cells #[.bool r', .int .i64 u', sv] 117)
  have HC := Lib.hid (szStps_any sv st hp.2 left h0 h1 _ (hs.below hb))
  have HB := Lib.hid hb
  clear hs hp hb
  go_enter Try.func59, Try.ntmps59
  go_wp2_with fail
  refine (HC.out).mono ?_
  rintro e w1 ⟨⟨z, rfl, hz, hz1, hz2⟩, hb1⟩
  have hbel1 := below_step HB.out hb1
  by_cases hz0 : z < 0
  · clear hz
    go_wp2
    go_ret
    exact ⟨⟨-1, rfl, fun h => absurd h (by omega), by omega, by omega⟩, hbel1⟩
  · have HZ := Lib.hid (hz (by omega))
    clear hz
    go_wp2
    go_ret
    exact ⟨⟨_, rfl, fun _ => ⟨HZ.out.1, HZ.out.2⟩, by omega, by omega⟩, hbel1⟩
theorem held_two {w w1 w2 : World} {p q : Addr} {x0 x1 y0 y1 : Value} (k : Below w1.heap.size w1 w2)
    (h : (w1.cell? p = some x0 ∧ w1.cell? ⟨p.block, p.off + 1, none⟩ = some x1) ∧ (w1.cell? q = some y0 ∧ w1.cell? ⟨q.block, q.off + 1, none⟩ = some y1) ∧ Below w.heap.size w w1)
    (hp : p.block < w.heap.size) (hq : q.block < w.heap.size) :
    (w2.cell? p = some x0 ∧ w2.cell? ⟨p.block, p.off + 1, none⟩ = some x1) ∧ (w2.cell? q = some y0 ∧ w2.cell? ⟨q.block, q.off + 1, none⟩ = some y1) ∧ Below w.heap.size w w2 :=
  ⟨⟨by rw [k.cell (Nat.lt_of_lt_of_le hp h.2.2.size)]; exact h.1.1, by rw [k.cell (p := ⟨p.block, p.off + 1, none⟩) (Nat.lt_of_lt_of_le hp h.2.2.size)]; exact h.1.2⟩,
   ⟨by rw [k.cell (Nat.lt_of_lt_of_le hq h.2.2.size)]; exact h.2.1.1, by rw [k.cell (p := ⟨q.block, q.off + 1, none⟩) (Nat.lt_of_lt_of_le hq h.2.2.size)]; exact h.2.1.2⟩, below_step h.2.2 k⟩
set_option maxRecDepth 100000 in
theorem eqTst_same (a b : ByteArray) (w : World) :
    Calls Try.prog 75 #[.agg #[.string a, .string b], .agg #[.string a, .string b]] w fun e w' => e = .returned (.bool true) ∧ Below w.heap.size w w' := by
  go_enter Try.func75, Try.ntmps75
  go_wp2
  go_ret
  exact ⟨rfl, ((Below.refl _ _).alloc (Nat.le_refl _) _).alloc (by simp) _⟩
set_option maxRecDepth 100000 in
set_option maxHeartbeats 1000000 in
theorem eqTsts_any (u v : Value) (l : List Tst) (w : World) (hu : HasX w u l) (hv : HasX w v l) :
    Calls Try.prog 72 #[u, v] w fun e w' => e = .returned (.bool true) ∧ Below w.heap.size w w' := by
  obtain ⟨A, cap, rfl, hn', hc⟩ := hu
  obtain ⟨A', cap', rfl, _, hc'⟩ := hv
  obtain ⟨n, hnn⟩ : ∃ n, n = l.length := ⟨_, rfl⟩
  have HN : Hid (n = l.length) := Lib.hid hnn
  rw [← hnn] at hn' ⊢
  clear hnn
  go_enter Try.func72, Try.ntmps72
  go_wp2
  go_loopw [5] (fun i wr => ∃ k : Nat, k ≤ n ∧ i = .int .i64 k ∧ Below w.heap.size w wr) (fun i _ => n - (intOf i).toNat)
  case atStart => exact ⟨0, Nat.zero_le _, rfl, Below.refl _ _⟩
  case round =>
    obtain ⟨k, hk, rfl, hbel⟩ := hrel
    by_cases hlt : k < n
    · obtain ⟨a, rfl, hab, hcell0⟩ := HasX.xk hc k (by rw [← HN.out]; exact hlt)
      obtain ⟨a', rfl, hab', hcell0'⟩ := HasX.xk hc' k (by rw [← HN.out]; exact hlt)
      obtain ⟨x, hx⟩ : ∃ x, x = l[k]'(by rw [← HN.out]; exact hlt) := ⟨_, rfl⟩
      rw [← hx] at hcell0 hcell0'
      obtain ⟨c0, c1⟩ := hcell0.below hbel hab
      obtain ⟨d0, d1⟩ := hcell0'.below hbel hab'
      clear hx hc hc' hcell0 hcell0'
      go_wp2
      go_region_held3 (fun w' => (w'.cell? (a.add (k * 2)) = some (.string x.n) ∧ w'.cell? ⟨(a.add (k * 2)).block, (a.add (k * 2)).off + 1, none⟩ = some (.string x.v)) ∧ (w'.cell? (a'.add (k * 2)) = some (.string x.n) ∧ w'.cell? ⟨(a'.add (k * 2)).block, (a'.add (k * 2)).off + 1, none⟩ = some (.string x.v)) ∧ Below w.heap.size w w') (first | exact ⟨⟨c0, c1⟩, ⟨d0, d1⟩, hbel.drew⟩ | exact held_two hbm (by assumption) hab hab' | go_keep) (first | (go_at_call 75; refine (eqTst_same _ _ _).mono ?_; rintro e w1 ⟨rfl, hbm⟩))
      go_wp2
      go_roundw
      case rel => exact ⟨k + 1, by omega, by go_num, (by assumption : _ ∧ _ ∧ Below _ _ _).2.2⟩
      case measure => simp [intOf]; omega
    · go_wp2
      go_ret
      exact ⟨rfl, hbel⟩
set_option maxRecDepth 100000 in
theorem eqStp_any (x y : StR) (s : Stp) (w : World) (hx : x.n = s.n) (hy : y.n = s.n) (hu : HasX w x.tv s.ts) (hv : HasX w y.tv s.ts) :
    Calls Try.prog 69 #[.agg #[.string x.n, x.tv], .agg #[.string y.n, y.tv]] w fun e w' => e = .returned (.bool true) ∧ Below w.heap.size w w' := by
  obtain ⟨n, tv⟩ := x
  obtain ⟨n', tv'⟩ := y
  dsimp only at hx hy hu hv ⊢
  rw [← hx] at hy
  subst hy
  have hb := below_al (below_al (Below.refl w.heap.size w) (.cells #[.string n', tv] 127)) (.cells #[.string n', tv'] 127)
  have HC := Lib.hid (eqTsts_any tv tv' s.ts _ (HasR.below hu hb) (HasR.below hv hb))
  have HB := Lib.hid hb
  clear hu hv hb hx
  go_enter Try.func69, Try.ntmps69
  go_wp2_with (go_at_call 72; refine (HC.out).mono ?_; rintro e w' ⟨rfl, hb1⟩)
  go_ret
  exact ⟨rfl, below_step HB.out hb1⟩
set_option maxRecDepth 100000 in
set_option maxHeartbeats 2000000 in
theorem eqStps_any (u v : Value) (l : List Stp) (w : World) (hu : HasS w u l) (hv : HasS w v l) :
    Calls Try.prog 66 #[u, v] w fun e w' => e = .returned (.bool true) ∧ Below w.heap.size w w' := by
  obtain ⟨A, cap, rfl, hn', hc⟩ := hu.at
  obtain ⟨A', cap', rfl, _, hc'⟩ := hv.at
  obtain ⟨n, hnn⟩ : ∃ n, n = l.length := ⟨_, rfl⟩
  have HN : Hid (n = l.length) := Lib.hid hnn
  rw [← hnn] at hn' ⊢
  clear hnn hu hv
  go_enter Try.func66, Try.ntmps66
  go_wp2
  go_loopw [5] (fun i wr => ∃ k : Nat, k ≤ n ∧ i = .int .i64 k ∧ Below w.heap.size w wr) (fun i _ => n - (intOf i).toNat)
  case atStart => exact ⟨0, Nat.zero_le _, rfl, Below.refl _ _⟩
  case round =>
    obtain ⟨k, hk, rfl, hbel⟩ := hrel
    by_cases hlt : k < n
    · have hlk : k < l.length := by rw [← HN.out]; exact hlt
      obtain ⟨a, x, rfl, hab, hx, hxn, hxt⟩ := hc k hlk
      obtain ⟨a', y, rfl, hab', hy, hyn, hyt⟩ := hc' k hlk
      obtain ⟨c0, c1⟩ := hx.below hbel hab
      obtain ⟨d0, d1⟩ := hy.below hbel hab'
      have HCALL := Lib.hid (fun W (hb : Below w.heap.size w W) => eqStp_any x y l[k] W hxn hyn (HasR.below hxt hb) (HasR.below hyt hb))
      clear hx hy hc hc' hxn hxt hyn hyt
      go_wp2
      go_region_held3 (fun w' => (w'.cell? (a.add (k * 2)) = some (.string x.n) ∧ w'.cell? ⟨(a.add (k * 2)).block, (a.add (k * 2)).off + 1, none⟩ = some x.tv) ∧ (w'.cell? (a'.add (k * 2)) = some (.string y.n) ∧ w'.cell? ⟨(a'.add (k * 2)).block, (a'.add (k * 2)).off + 1, none⟩ = some y.tv) ∧ Below w.heap.size w w') (first | exact ⟨⟨c0, c1⟩, ⟨d0, d1⟩, hbel.drew⟩ | exact held_two hbm (by assumption) hab hab' | go_keep) (first | (go_at_call 69; refine (HCALL.out _ (by assumption : _ ∧ _ ∧ Below _ _ _).2.2).mono ?_; rintro e w1 ⟨rfl, hbm⟩))
      go_wp2
      go_roundw
      case rel => exact ⟨k + 1, by omega, by go_num, (by assumption : _ ∧ _ ∧ Below _ _ _).2.2⟩
      case measure => simp [intOf]; omega
    · go_wp2
      go_ret
      exact ⟨rfl, hbel⟩
set_option maxRecDepth 100000 in
set_option maxHeartbeats 1000000 in
theorem eqPth_any (u v : PthV) (p : Pth) (w : World) (hu : HasP7 w u p) (hv : HasP7 w v p) :
    Calls Try.prog 63 #[u.val, v.val] w fun e w' => e = .returned (.bool true) ∧ Below w.heap.size w w' := by
  obtain ⟨r, k, st⟩ := p
  obtain ⟨r', k', sv⟩ := u
  obtain ⟨r2, k2, sv2⟩ := v
  obtain ⟨rfl, rfl, hs⟩ := hu
  obtain ⟨e1, e2, hs2⟩ := hv
  dsimp only at hs hs2 e1 e2 ⊢
  subst e1 e2
  have hb := below_al (below_al (Below.refl w.heap.size w) (.cells #[.bool r2, .int .i64 k2, sv] 109)) (.cells #[.bool r2, .int .i64 k2, sv2] 109)
  have HC := Lib.hid (eqStps_any sv sv2 st _ (hs.below hb) (hs2.below hb))
  have HB := Lib.hid hb
  have q1 : (k2 != k2) = false := by simp
  clear hs hs2 hb
  cases r2
  all_goals
    go_enter Try.func63, Try.ntmps63
    go_wp2_with (go_at_call 66; refine (HC.out).mono ?_; rintro e w' ⟨rfl, hb1⟩)
    go_ret
    exact ⟨rfl, below_step HB.out hb1⟩
end Go.Proofs.Ytdkpleghpnflhaa

/- ONE DIGIT AFTER THE OTHER, AS A TEXT: 'string([]byte{b}) + out'. No function is spoken of. -/
namespace Go.Proofs.Ytdkpleghpnflhaa
open Go.RowKit NumP

theorem digit_byte (q : Nat) : (u8v (UInt8.ofNat (48 + q % 10))) = .int .u8 (48 + (q : Int) % 10) := by
  unfold u8v; congr 1; simp only [UInt8.toNat_ofNat']; omega
theorem sFmt_step {q m : Nat} {l : List UInt8} (hq : 0 < q) (h : dec q ++ l = dec m) :
    (q / 10 = 0 → UInt8.ofNat (48 + q % 10) :: l = dec m) ∧ (0 < q / 10 → dec (q / 10) ++ UInt8.ofNat (48 + q % 10) :: l = dec m) := by
  by_cases hs : q < 10
  · rw [dec_small hs] at h
    rw [Nat.mod_eq_of_lt hs]
    exact ⟨fun _ => h, fun h' => by omega⟩
  · rw [dec_big (by omega), List.append_assoc] at h
    exact ⟨fun h' => by omega, fun _ => h⟩
def SF (m q : Nat) (l : List UInt8) : Prop := (q = 0 → l = dec m) ∧ (0 < q → dec q ++ l = dec m)

/-- 'string([]byte{b})' -/
theorem conv_one (wr : World) (b : UInt8) : (convert 104 9 (.slice (some ⟨wr.heap.size, 0, none⟩) 1 1)).run Try.prog (wr.alloc (.cells #[u8v b] 5)) = .ok (.string ⟨#[b]⟩) (wr.alloc (.cells #[u8v b] 5)) := by
  have h := run_convert_bytes_back (P := Try.prog) (wr.alloc (.cells #[u8v b] 5)) 104 9 5 ⟨wr.heap.size, 0, none⟩ 1 [b] Try.underlying104 Try.underlying5 Try.underlying9 (fun j hj => by
    have hj0 : j = 0 := by simpa using hj
    subst hj0
    simp [go_sem, u8v, Addr.add])
  exact h
theorem SF_step {q m : Nat} {l : List UInt8} (hm : m < 18446744073709551616) (hq : 0 < q) (h : SF m q l) : SF m (q / 10) (UInt8.ofNat (48 + q % 10) :: l) ∧ (UInt8.ofNat (48 + q % 10) :: l).length ≤ 20 := by
  have h' := sFmt_step hq (h.2 hq)
  refine ⟨⟨h'.1, h'.2⟩, ?_⟩
  have e := congrArg List.length (h.2 hq)
  have := dec_length m
  have := ndig_le20 hm
  have := dec_length q
  have := ndig_pos q
  simp only [List.length_append] at e
  simp only [List.length_cons]
  omega
theorem str_cons (b : UInt8) (l : List UInt8) : (ByteArray.mk #[b] ++ ByteArray.mk l.toArray) = ByteArray.mk (b :: l).toArray := ByteArray.mk_append_mk [b] l
theorem val_str {a b : ByteArray} (h : a = b) : Value.string a = Value.string b := by rw [h]

end Go.Proofs.Ytdkpleghpnflhaa
