/- CHAPTER 10: laws.szGroup, szGroupS, szAugment, szAugmentS, szModule. PRINTED by tools/gen_mo.py. -/
import Derived.Test.YtdkpleghpnflhaaMo
set_option linter.unusedVariables false
set_option linter.unusedSimpArgs false
namespace Go.Proofs.Ytdkpleghpnflhaa
open Go.RowKit Go.ChangeShapes Go.WideShapes Go.Deep Go.Joins
set_option maxRecDepth 100000

def wgS {α : Type} (f : α → Nat) : List α → Nat
  | [] => 0
  | x :: l => f x + wgS f l
theorem wgS_step {α : Type} (f : α → Nat) : ∀ (l : List α) (k : Nat) (h : k < l.length), wgS f (l.take (k + 1)) = wgS f (l.take k) + f l[k]
  | [], _, h => by cases h
  | x :: l, 0, _ => by simp [wgS]
  | x :: l, k + 1, h => by
    simp only [List.take_succ_cons, wgS, List.getElem_cons_succ]
    rw [wgS_step f l k (by simpa using h)]
    omega
theorem wgS_take {α : Type} (f : α → Nat) : ∀ (l : List α) (k : Nat), wgS f (l.take k) ≤ wgS f l
  | [], k => by simp
  | x :: l, 0 => by simp [wgS]
  | x :: l, k + 1 => by have := wgS_take f l k; simp only [List.take_succ_cons, wgS]; omega
def ScsSz (l : List Sc) : Prop := ∀ e, SizT ScSz e l
def GrpSz (x : Grp) : Prop := x.n.size ≤ 1048576 ∧ ScsSz x.l
def AugSz (x : Aug) : Prop := StrsSz x.ns ∧ ScsSz x.l
def wG (l : List Grp) : Nat := wgS (fun x => wszS x.l) l
def wA (l : List Aug) : Nat := wgS (fun x => wszS x.l) l
structure ModSz (m : Mod) : Prop where
  n : m.n.size ≤ 1048576
  gl : m.gs.length ≤ 1048576
  gs : ∀ x ∈ m.gs, GrpSz x
  b : ScsSz m.b
  ul : m.us.length ≤ 1048576
  us : ∀ x ∈ m.us, AugSz x
theorem szSs_any (v : Value) (l : List Sc) (w : World) (left : Int) (hv : HasSs w v l) (hf : ∀ e, FitT ScWf e l) (h0 : 0 ≤ left) (h1 : left ≤ 1048576) :
    Calls Try.prog 5 #[v, .int .i64 left] w fun e w' => (∃ y : Int, e = .returned (.int .i64 y) ∧ (0 ≤ y → ScsSz l ∧ wszS l ≤ (left - y).toNat) ∧ -1 ≤ y ∧ y ≤ left) ∧ Below w.heap.size w w' := by
  obtain ⟨d, hd⟩ := hv
  refine (szSS_any d v l w left hd (hf d) h0 h1).mono ?_
  rintro e w' ⟨y, he, hy, h2, h3, hb⟩
  exact ⟨⟨y, he, fun h => ⟨SizT.all (hy h).1 (rd_deepT hd), (hy h).2.2⟩, h2, h3⟩, hb⟩
set_option maxHeartbeats 1000000 in
theorem szGrp_any (r : GpR) (s : Grp) (hs : GrpWf s) (left : Int) (h0 : 0 ≤ left) (h1 : left ≤ 1048576) (w : World) (hr : gpK.rd w r s) :
    Calls Try.prog 33 #[.agg #[.string r.n, r.kv], .int .i64 left] w fun e w' => (∃ y : Int, e = .returned (.int .i64 y) ∧ (0 ≤ y → GrpSz s ∧ wszS s.l ≤ (left - y).toNat) ∧ -1 ≤ y ∧ y ≤ left) ∧ Below w.heap.size w w' := by
  obtain ⟨n, ts⟩ := s
  obtain ⟨n', tv⟩ := r
  obtain ⟨hn, hw⟩ := hs
  obtain ⟨hr, hv⟩ := hr
  dsimp only at hr hn hw hv ⊢
  subst hr
  have hb := below_al (Below.refl w.heap.size w) (.cells #[.string n', tv] 78)
  have HC := Lib.hid (fun y a b => szSs_any tv ts _ y (hv.imp fun _ h => h.below hb) hw a b)
  have HB := Lib.hid hb
  clear hv hw hb
  have e1 : IntKind.i64.wrap (left - n'.size) = left - n'.size := by rw [IntKind.wrap_i64]; omega
  by_cases z1 : left - n'.size < 0
  · go_enter Try.func33, Try.ntmps33
    go_wp2
    go_ret
    exact ⟨⟨-1, rfl, fun h => absurd h (by omega), by omega, by omega⟩, HB.out⟩
  · have HL : Hid (n'.size ≤ 1048576) := Lib.hid (by omega)
    go_enter Try.func33, Try.ntmps33
    go_wp2_with fail
    refine (HC.out _ (by omega) (by omega)).mono ?_
    rintro e w1 ⟨⟨z, rfl, hz, hz1, hz2⟩, hb1⟩
    have hbel1 := below_step HB.out hb1
    by_cases hz0 : z < 0
    · clear hz
      go_wp2
      go_ret
      exact ⟨⟨-1, rfl, fun h => absurd h (by omega), by omega, by omega⟩, hbel1⟩
    · have HZ := Lib.hid (hz (by omega))
      clear hz
      go_wp2
      go_ret
      exact ⟨⟨_, rfl, fun _ => ⟨⟨HL.out, HZ.out.1⟩, Nat.le_trans HZ.out.2 (by omega)⟩, by omega, by omega⟩, hbel1⟩
set_option maxHeartbeats 1000000 in
theorem szAug_any (r : AuR) (s : Aug) (hs : AugWf s) (left : Int) (h0 : 0 ≤ left) (h1 : left ≤ 1048576) (w : World) (hr : auK.rd w r s) :
    Calls Try.prog 34 #[.agg #[r.nv, r.kv], .int .i64 left] w fun e w' => (∃ y : Int, e = .returned (.int .i64 y) ∧ (0 ≤ y → AugSz s ∧ wszS s.l ≤ (left - y).toNat) ∧ -1 ≤ y ∧ y ≤ left) ∧ Below w.heap.size w w' := by
  obtain ⟨ns, ts⟩ := s
  obtain ⟨nv, tv⟩ := r
  obtain ⟨hn, hw⟩ := hs
  obtain ⟨hr, hv⟩ := hr
  dsimp only at hr hn hw hv ⊢
  obtain ⟨A1, n1, c1, rfl⟩ : ∃ A n c, nv = .slice A n c := by obtain ⟨A, c, h, _⟩ := hr; exact ⟨A, _, c, h⟩
  obtain ⟨A2, n2, c2, rfl⟩ : ∃ A n c, tv = .slice A n c := by obtain ⟨d, h⟩ := hv; obtain ⟨A, c, h⟩ := h.form; exact ⟨A, _, c, h⟩
  have hb := below_al (Below.refl w.heap.size w) (.cells #[.slice A1 n1 c1, .slice A2 n2 c2] 81)
  obtain ⟨W0, hW0⟩ : ∃ X, X = w.alloc (.cells #[.slice A1 n1 c1, .slice A2 n2 c2] 81) := ⟨_, rfl⟩
  have HX : Hid (W0.heap[w.heap.size]? = some (.cells #[.slice A1 n1 c1, .slice A2 n2 c2] 81 (0, 0))) := Lib.hid (by rw [hW0]; exact heap_alloc_new _ _)
  rw [← hW0] at hb
  have HS := Lib.hid (szStrsB (.slice A1 n1 c1) ns left W0 (hr.below hb) hn h0 h1)
  have HC := Lib.hid (fun y a b => szSs_any (.slice A2 n2 c2) ts W0 y (hv.imp fun _ h => h.below hb) hw a b)
  have HB := Lib.hid hb
  clear hr hv hw hb hn
  go_enter Try.func34, Try.ntmps34
  go_wp2_with fail
  rw [← hW0]
  refine (HS.out).mono ?_
  rintro e w' ⟨⟨x, rfl, hx, hx1, hx2⟩, rfl⟩
  by_cases hx0 : x < 0
  · clear hx
    go_wp2
    go_ret
    exact ⟨⟨-1, rfl, fun h => absurd h (by omega), by omega, by omega⟩, by first | exact HB.out | (rw [← hW0]; exact HB.out)⟩
  have HX1 := Lib.hid (hx (by omega))
  obtain ⟨b0, b1⟩ : W0.cell? ⟨w.heap.size, 0, none⟩ = some (.slice A1 n1 c1) ∧ W0.cell? ⟨w.heap.size, 1, none⟩ = some (.slice A2 n2 c2) := ⟨by rw [cell_of_row _ _ 0 _ _ _ HX.out]; rfl, by rw [cell_of_row _ _ 1 _ _ _ HX.out]; rfl⟩
  clear hx hW0
  go_wp2_with fail
  refine (HC.out x (by omega) (by omega)).mono ?_
  rintro e w1 ⟨⟨z, rfl, hz, hz1, hz2⟩, hb1⟩
  have hbel1 := below_step HB.out hb1
  by_cases hz0 : z < 0
  · clear hz
    go_wp2
    go_ret
    exact ⟨⟨-1, rfl, fun h => absurd h (by omega), by omega, by omega⟩, hbel1⟩
  · have HZ := Lib.hid (hz (by omega))
    clear hz
    go_wp2
    go_ret
    exact ⟨⟨_, rfl, fun _ => ⟨⟨HX1.out, HZ.out.1⟩, Nat.le_trans HZ.out.2 (by omega)⟩, by omega, by omega⟩, hbel1⟩
set_option maxHeartbeats 1000000 in
theorem szGrps_any (v : Value) (l : List Grp) (hv0 : ∀ x ∈ l, GrpWf x) (left : Int) (h0 : 0 ≤ left) (h1 : left ≤ 1048576) (w : World) (hv : HasGroup w v l) :
    Calls Try.prog 17 #[v, .int .i64 left] w fun e w' => (∃ y : Int, e = .returned (.int .i64 y) ∧ (0 ≤ y → (l.length ≤ 1048576 ∧ ∀ x ∈ l, GrpSz x) ∧ wgS (fun x => wszS x.l) l ≤ (left - y).toNat) ∧ -1 ≤ y ∧ y ≤ left) ∧ Below w.heap.size w w' := by
  obtain ⟨A, cap, rfl, hn', hc⟩ := hv.at
  obtain ⟨n, hnn⟩ : ∃ n, n = l.length := ⟨_, rfl⟩
  have HN : Hid (n = l.length) := Lib.hid hnn
  rw [← hnn] at hn' ⊢
  clear hnn hv
  have e1 : IntKind.i64.wrap (left - n) = left - n := by rw [IntKind.wrap_i64]; omega
  by_cases hbig : left < n
  · have z1 : left - n < 0 := by omega
    go_enter Try.func17, Try.ntmps17
    go_wp2
    go_ret
    exact ⟨⟨-1, rfl, fun h => absurd h (by omega), by omega, by omega⟩, Below.refl _ _⟩
  · have z1 : ¬ left - n < 0 := by omega
    obtain ⟨y0, hy0⟩ : ∃ y0, y0 = left - n := ⟨_, rfl⟩
    have e2 : IntKind.i64.wrap (left - n) = y0 := by rw [e1, hy0]
    rw [← hy0] at z1
    clear e1
    have hy1 : y0 ≤ left := by omega
    have hnb : (n : Int) ≤ 1048576 := by omega
    clear hy0 hbig
    go_enter Try.func17, Try.ntmps17
    go_wp2
    go_loopw [1, 5] (fun x i wr => ∃ (k : Nat) (y : Int), k ≤ n ∧ i = .int .i64 k ∧ x = .int .i64 y ∧ 0 ≤ y ∧ y ≤ left ∧ Hid (∀ s ∈ l.take k, GrpSz s) ∧ Hid (wgS (fun x => wszS x.l) (l.take k) ≤ (left - y).toNat) ∧ Below w.heap.size w wr) (fun _ i _ => n - (intOf i).toNat)
    case atStart => exact ⟨0, y0, Nat.zero_le _, rfl, rfl, by omega, hy1, Lib.hid (by simp), Lib.hid (by simp [wgS]), Below.refl _ _⟩
    case round =>
      obtain ⟨k, y, hk, rfl, rfl, hy0, hy1, HS, HW, hbel⟩ := hrel
      by_cases hlt : k < n
      · have hlk : k < l.length := by rw [← HN.out]; exact hlt
        obtain ⟨a, r, rfl, hab, hcell, hrd⟩ := hc k hlk
        obtain ⟨c0, c1⟩ := hcell.below hbel hab
        have HC := Lib.hid (szGrp_any r l[k] (hv0 _ (List.getElem_mem hlk)) y hy0 (by omega) _ (gpK.rd_below hrd hbel))
        have HT : Hid (GrpSz l[k] → ∀ s ∈ l.take (k + 1), GrpSz s) := Lib.hid (all_step hlk HS.out)
        have HWT : Hid (∀ z : Int, -1 ≤ z → z ≤ y → wszS l[k].l ≤ (y - z).toNat → wgS (fun x => wszS x.l) (l.take (k + 1)) ≤ (left - z).toNat) := Lib.hid fun z g1 g2 g3 => by rw [wgS_step _ l k hlk]; have := HW.out; omega
        clear hcell hc hv0 hrd
        generalize l[k] = x at HC HT HWT
        go_wp2_with fail
        refine (HC.out).mono ?_
        rintro e w1 ⟨⟨z, rfl, hz, hz1, hz2⟩, hb1⟩
        have hbel1 := below_step hbel hb1
        by_cases hz0 : z < 0
        · clear hz
          go_wp2
          go_ret
          exact ⟨⟨-1, rfl, fun h => absurd h (by omega), by omega, by omega⟩, hbel1⟩
        · have HT2 := Lib.hid (HT.out (hz (by omega)).1)
          have HW2 := Lib.hid (HWT.out z hz1 hz2 (hz (by omega)).2)
          clear hz
          go_wp2
          go_roundw
          case rel => exact ⟨k + 1, z, by omega, by go_num, rfl, by omega, by omega, HT2, HW2, hbel1⟩
          case measure => simp [intOf]; omega
      · go_wp2
        go_ret
        exact ⟨⟨_, rfl, fun h => ⟨⟨by omega, by have h2 := HS.out; rwa [List.take_of_length_le (by have := HN.out; omega)] at h2⟩, by have h2 := HW.out; rwa [List.take_of_length_le (by have := HN.out; omega)] at h2⟩, by omega, by omega⟩, hbel⟩
set_option maxHeartbeats 1000000 in
theorem szAugs_any (v : Value) (l : List Aug) (hv0 : ∀ x ∈ l, AugWf x) (left : Int) (h0 : 0 ≤ left) (h1 : left ≤ 1048576) (w : World) (hv : HasAugment w v l) :
    Calls Try.prog 18 #[v, .int .i64 left] w fun e w' => (∃ y : Int, e = .returned (.int .i64 y) ∧ (0 ≤ y → (l.length ≤ 1048576 ∧ ∀ x ∈ l, AugSz x) ∧ wgS (fun x => wszS x.l) l ≤ (left - y).toNat) ∧ -1 ≤ y ∧ y ≤ left) ∧ Below w.heap.size w w' := by
  obtain ⟨A, cap, rfl, hn', hc⟩ := hv.at
  obtain ⟨n, hnn⟩ : ∃ n, n = l.length := ⟨_, rfl⟩
  have HN : Hid (n = l.length) := Lib.hid hnn
  rw [← hnn] at hn' ⊢
  clear hnn hv
  have e1 : IntKind.i64.wrap (left - n) = left - n := by rw [IntKind.wrap_i64]; omega
  by_cases hbig : left < n
  · have z1 : left - n < 0 := by omega
    go_enter Try.func18, Try.ntmps18
    go_wp2
    go_ret
    exact ⟨⟨-1, rfl, fun h => absurd h (by omega), by omega, by omega⟩, Below.refl _ _⟩
  · have z1 : ¬ left - n < 0 := by omega
    obtain ⟨y0, hy0⟩ : ∃ y0, y0 = left - n := ⟨_, rfl⟩
    have e2 : IntKind.i64.wrap (left - n) = y0 := by rw [e1, hy0]
    rw [← hy0] at z1
    clear e1
    have hy1 : y0 ≤ left := by omega
    have hnb : (n : Int) ≤ 1048576 := by omega
    clear hy0 hbig
    go_enter Try.func18, Try.ntmps18
    go_wp2
    go_loopw [1, 5] (fun x i wr => ∃ (k : Nat) (y : Int), k ≤ n ∧ i = .int .i64 k ∧ x = .int .i64 y ∧ 0 ≤ y ∧ y ≤ left ∧ Hid (∀ s ∈ l.take k, AugSz s) ∧ Hid (wgS (fun x => wszS x.l) (l.take k) ≤ (left - y).toNat) ∧ Below w.heap.size w wr) (fun _ i _ => n - (intOf i).toNat)
    case atStart => exact ⟨0, y0, Nat.zero_le _, rfl, rfl, by omega, hy1, Lib.hid (by simp), Lib.hid (by simp [wgS]), Below.refl _ _⟩
    case round =>
      obtain ⟨k, y, hk, rfl, rfl, hy0, hy1, HS, HW, hbel⟩ := hrel
      by_cases hlt : k < n
      · have hlk : k < l.length := by rw [← HN.out]; exact hlt
        obtain ⟨a, r, rfl, hab, hcell, hrd⟩ := hc k hlk
        obtain ⟨c0, c1⟩ := hcell.below hbel hab
        have HC := Lib.hid (szAug_any r l[k] (hv0 _ (List.getElem_mem hlk)) y hy0 (by omega) _ (auK.rd_below hrd hbel))
        have HT : Hid (AugSz l[k] → ∀ s ∈ l.take (k + 1), AugSz s) := Lib.hid (all_step hlk HS.out)
        have HWT : Hid (∀ z : Int, -1 ≤ z → z ≤ y → wszS l[k].l ≤ (y - z).toNat → wgS (fun x => wszS x.l) (l.take (k + 1)) ≤ (left - z).toNat) := Lib.hid fun z g1 g2 g3 => by rw [wgS_step _ l k hlk]; have := HW.out; omega
        clear hcell hc hv0 hrd
        generalize l[k] = x at HC HT HWT
        go_wp2_with fail
        refine (HC.out).mono ?_
        rintro e w1 ⟨⟨z, rfl, hz, hz1, hz2⟩, hb1⟩
        have hbel1 := below_step hbel hb1
        by_cases hz0 : z < 0
        · clear hz
          go_wp2
          go_ret
          exact ⟨⟨-1, rfl, fun h => absurd h (by omega), by omega, by omega⟩, hbel1⟩
        · have HT2 := Lib.hid (HT.out (hz (by omega)).1)
          have HW2 := Lib.hid (HWT.out z hz1 hz2 (hz (by omega)).2)
          clear hz
          go_wp2
          go_roundw
          case rel => exact ⟨k + 1, z, by omega, by go_num, rfl, by omega, by omega, HT2, HW2, hbel1⟩
          case measure => simp [intOf]; omega
      · go_wp2
        go_ret
        exact ⟨⟨_, rfl, fun h => ⟨⟨by omega, by have h2 := HS.out; rwa [List.take_of_length_le (by have := HN.out; omega)] at h2⟩, by have h2 := HW.out; rwa [List.take_of_length_le (by have := HN.out; omega)] at h2⟩, by omega, by omega⟩, hbel⟩
set_option maxHeartbeats 2000000 in
theorem szMo_any (v : MoV) (m : Mod) (w : World) (left : Int) (hv : HasMo w v m) (hm : ModWf m) (h0 : 0 ≤ left) (h1 : left ≤ 1048576) :
    Calls Try.prog 4 #[v.val, .int .i64 left] w fun e w' => (∃ y : Int, e = .returned (.int .i64 y) ∧ (0 ≤ y → ModSz m ∧ wG m.gs + wszS m.b + wA m.us ≤ (left - y).toNat) ∧ -1 ≤ y ∧ y ≤ left) ∧ Below w.heap.size w w' := by
  obtain ⟨n', gv, bv, av⟩ := v
  obtain ⟨h2, h3, h4, h5⟩ := hv
  dsimp only at h2 h3 h4 h5 ⊢
  obtain ⟨A1, n1, c1, rfl⟩ : ∃ A n c, gv = .slice A n c := by obtain ⟨A, c, h, _⟩ := h3.at; exact ⟨A, _, c, h⟩
  obtain ⟨A2, n2, c2, rfl⟩ : ∃ A n c, bv = .slice A n c := by obtain ⟨d, h⟩ := h4; obtain ⟨A, c, h⟩ := h.form; exact ⟨A, _, c, h⟩
  obtain ⟨A3, n3, c3, rfl⟩ : ∃ A n c, av = .slice A n c := by obtain ⟨A, c, h, _⟩ := h5.at; exact ⟨A, _, c, h⟩
  have hns : n'.size ≤ 9223372036854775807 := by rw [h2]; exact hm.n
  have HN : Hid (m.n.size = n'.size) := Lib.hid (by rw [h2])
  obtain ⟨W0, hW0⟩ : ∃ X, X = w.alloc (.cells #[.string n', .slice A1 n1 c1, .slice A2 n2 c2, .slice A3 n3 c3] 26) := ⟨_, rfl⟩
  have HX : Hid (W0.heap[w.heap.size]? = some (.cells #[.string n', .slice A1 n1 c1, .slice A2 n2 c2, .slice A3 n3 c3] 26 (0, 0))) := Lib.hid (by rw [hW0]; exact heap_alloc_new _ _)
  have hb : Below w.heap.size w W0 := by rw [hW0]; exact below_al (Below.refl _ _) _
  have HG := Lib.hid (fun y a b => szGrps_any (.slice A1 n1 c1) m.gs hm.gs y a b W0 (RdL.below h3 hb))
  have HBB := Lib.hid (fun W (hb2 : Below w.heap.size w W) y a b => szSs_any (.slice A2 n2 c2) m.b W y (h4.imp fun _ h => h.below hb2) hm.b a b)
  have HA := Lib.hid (fun W (hb2 : Below w.heap.size w W) y a b => szAugs_any (.slice A3 n3 c3) m.us hm.us y a b W (RdL.below h5 hb2))
  have HCE := Lib.hid (fun W (hb2 : Below W0.heap.size W0 W) => (show (W.cell? ⟨w.heap.size, 2, none⟩ = some (.slice A2 n2 c2) ∧ W.cell? ⟨w.heap.size, 3, none⟩ = some (.slice A3 n3 c3)) from by
    have hX := (hb2.block w.heap.size (Array.getElem?_eq_some_iff.1 HX.out).1).trans HX.out
    exact ⟨by rw [cell_of_row _ _ 2 _ _ _ hX]; rfl, by rw [cell_of_row _ _ 3 _ _ _ hX]; rfl⟩))
  have HB0 := Lib.hid hb
  clear h2 h3 h4 h5 hm hb HX
  obtain ⟨q, hq⟩ : ∃ q : Int, q = left - n'.size := ⟨_, rfl⟩
  have e1 : IntKind.i64.wrap (left - n'.size) = q := by rw [IntKind.wrap_i64]; omega
  have HQ := Lib.hid hq
  by_cases z1 : q < 0
  · go_enter Try.func4, Try.ntmps4
    go_wp2
    go_ret
    exact ⟨⟨-1, rfl, fun h => absurd h (by omega), by omega, by omega⟩, by rw [← hW0]; exact HB0.out⟩
  have hql : q ≤ left := by omega
  clear hq
  go_enter Try.func4, Try.ntmps4
  go_wp2_with fail
  rw [← hW0]
  refine (HG.out q (by omega) (by omega)).mono ?_
  rintro e w1 ⟨⟨x, rfl, hx, hx1, hx2⟩, hb1⟩
  have HB1 := Lib.hid (below_step HB0.out hb1)
  have HB01 := Lib.hid hb1
  by_cases hx0 : x < 0
  · clear hx
    go_wp2
    go_ret
    exact ⟨⟨-1, rfl, fun h => absurd h (by omega), by omega, by omega⟩, HB1.out⟩
  have HX1 := Lib.hid (hx (by omega))
  obtain ⟨b2, b3⟩ := HCE.out w1 hb1
  clear hx hb1
  go_wp2_with fail
  refine (HBB.out _ HB1.out x (by omega) (by omega)).mono ?_
  rintro e w2 ⟨⟨y, rfl, hy, hy1, hy2⟩, hb1⟩
  have HB2 := Lib.hid (below_step HB1.out hb1)
  have HB02 := Lib.hid (below_step HB01.out hb1)
  by_cases hy0 : y < 0
  · clear hy
    go_wp2
    go_ret
    exact ⟨⟨-1, rfl, fun h => absurd h (by omega), by omega, by omega⟩, HB2.out⟩
  have HY1 := Lib.hid (hy (by omega))
  clear hy hb1 b2 b3
  obtain ⟨b2, b3⟩ := HCE.out w2 HB02.out
  go_wp2_with fail
  refine (HA.out _ HB2.out y (by omega) (by omega)).mono ?_
  rintro e w3 ⟨⟨z, rfl, hz, hz1, hz2⟩, hb1⟩
  have HB3 := Lib.hid (below_step HB2.out hb1)
  by_cases hz0 : z < 0
  · clear hz
    go_wp2
    go_ret
    exact ⟨⟨-1, rfl, fun h => absurd h (by omega), by omega, by omega⟩, HB3.out⟩
  have HZ1 := Lib.hid (hz (by omega))
  clear hz hb1 b2 b3
  go_wp2
  go_ret
  refine ⟨⟨_, rfl, fun _ => ⟨⟨by rw [HN.out]; have := HQ.out; omega, HX1.out.1.1, HX1.out.1.2, HY1.out.1, HZ1.out.1.1, HZ1.out.1.2⟩, ?_⟩, by omega, by omega⟩, HB3.out⟩
  have g1 : wG m.gs ≤ (q - x).toNat := HX1.out.2
  have g2 : wszS m.b ≤ (x - y).toNat := HY1.out.2
  have g3 : wA m.us ≤ (y - z).toNat := HZ1.out.2
  have g4 := HQ.out
  omega
end Go.Proofs.Ytdkpleghpnflhaa
