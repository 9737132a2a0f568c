/- For every type and every list of ranges laws.FnExactNarrowType returns true: impl.NarrowType answers as spec.NarrowType does, in both results and every field, writes into no argument, and its answer owns its memory (types and lists of more than 1048576 ranges, names and bytes the law itself lets pass); no condition. -/
import Derived.Test.YtdmccopggmienaaGreatTyL
import Derived.Test.YtdmccopggmienaaGreatTyO
import Derived.Test.YtdmccopggmienaaGreatRows
import Derived.WalkKit
import Derived.ProofKit
import Derived.OpenShut
import Derived.ShutString
import Derived.ChangeOld
import Derived.Below
namespace Go.Proofs.YtdmccopggmienaaGreat.fnExactNarrowType
open Go.ChangeShapes Go.WideShapes Go.ChangeAt Go.RowKit
open Go.ChangeMaps (open_string shut_string)
set_option linter.unusedVariables false

theorem own : ownKnob Tryz.prog.godebug = none := by kernel_rfl
theorem laidOut : laidOutB Tryz.prog = true := by kernel_rfl

/-- a variable of the call's own that holds a type: kept by what leaves its block alone -/
def LBox (T : TypeId) (w : World) (b : Nat) (k : Int) (vr vn : Value) (pt ph : ByteArray) : Prop := w.heap[b]? = some (.cells #[.int .i64 k, vr, vn, .string pt, .string ph] T (0, 0))
theorem LBox.below {T : TypeId} {w w' : World} {b : Nat} {k : Int} {vr vn : Value} {pt ph : ByteArray} (h : LBox T w b k vr vn pt ph) (hb : Below w.heap.size w w') : LBox T w' b k vr vn pt ph := (hb.block b (Array.getElem?_eq_some_iff.1 h).1).trans h
theorem LBox.turns {T : TypeId} {S : Nat → Prop} {w w' : World} {b : Nat} {k : Int} {vr vn : Value} {pt ph : ByteArray} (h : LBox T w b k vr vn pt ph) (ht : TurnsAt S w w') (hn : ¬ S b) : LBox T w' b k vr vn pt ph := (ht.block b (Array.getElem?_eq_some_iff.1 h).1 hn).trans h
theorem LBox.lt {T : TypeId} {w : World} {b : Nat} {k : Int} {vr vn : Value} {pt ph : ByteArray} (h : LBox T w b k vr vn pt ph) : b < w.heap.size := (Array.getElem?_eq_some_iff.1 h).1
theorem narr_len {t : Ty} {r : List Rg} (h1 : t.rg.length ≤ 1048576) (h2 : t.nm.length ≤ 1048576) : (narrT t r).1.rg.length ≤ 2097152 ∧ (narrT t r).1.nm.length ≤ 1048576 := by
  cases ha : mayB t with
  | false => rw [narr_a ha]; exact ⟨by show t.rg.length ≤ _; omega, h2⟩
  | true =>
    cases hb : areB r with
    | false => rw [narr_b hb]; exact ⟨by show t.rg.length ≤ _; omega, h2⟩
    | true =>
      cases hn : nothB t r with
      | true => rw [narr_c hn]; exact ⟨by show t.rg.length ≤ _; omega, h2⟩
      | false =>
        cases hf : isTyB (narT t r) with
        | false => rw [narr_d hf]; exact ⟨by show t.rg.length ≤ _; omega, h2⟩
        | true =>
          rw [narr_e ha hb hn hf]
          have hm : mayB (narT t r) = true := by
            unfold mayB at ha ⊢
            rw [hf]
            have : (decide (t.k = 1) || decide (t.k = 2)) = true := by revert ha; cases isTyB t <;> simp
            exact this
          have := are_len (may_are hm)
          exact ⟨by show (narT t r).rg.length ≤ _; omega, h2⟩
def NarC (f : Nat) (t : Ty) (r : List Rg) (R : Ty) (b : Bool) : Prop := ∀ v u W, HasTy W v t → CapN v.vn → NilTy v → HasG W u r → Calls Tryz.prog f #[v.val, u] W fun e w' => ∃ v' : TyV, e = .returned (.tuple #[v'.val, .bool b]) ∧ OwnTy W.heap.size w' v' R ∧ Below W.heap.size W w'

set_option maxRecDepth 100000 in
set_option maxHeartbeats 16000000 in
theorem walk (y0 : TyV) (t0 : Ty) (a1 : Option Addr) (len1 cap1 : Nat) (l1 : List Rg) (w : World) (hin0 : HasTy w y0 t0) (s0 : TyWf t0) (hin1 : HasG w (.slice a1 len1 cap1) l1) (s1 : ∀ x ∈ l1, RgWf x) :
    Calls Tryz.prog 5 #[y0.val, .slice a1 len1 cap1] w fun e w' => e = .returned (.bool true) ∧ Below w.heap.size w w' := by
  have HSZ := Lib.hid (fun W (hb : Below w.heap.size w W) => szTy_any y0 t0 W (hin0.below hb) s0 1048576 (by omega) (by omega))
  have HSR := Lib.hid (fun x (h0 : 0 ≤ x) (h1 : x ≤ 1048576) W (hb : Below w.heap.size w W) => szRngsX (.slice a1 len1 cap1) l1 x W (HasR.below hin1 hb) h0 h1)
  have HTO := Lib.hid (fun h1 h2 W (hb : Below w.heap.size w W) => toTy_any y0 t0 W (hin0.below hb) h1 h2)
  have HTR := Lib.hid (fun h1 W (hb : Below w.heap.size w W) => toRngs_any (.slice a1 len1 cap1) l1 W (HasR.below hin1 hb) h1)
  obtain ⟨A, c, h1, -⟩ := id hin0.rg
  obtain ⟨A', c', h2, -⟩ := id hin0.nm
  generalize hn : t0.rg.length = n at h1
  generalize hm : t0.nm.length = m at h2
  obtain ⟨k0, vr0, vn0, pt0, ph0⟩ := y0
  dsimp only at h1 h2
  subst h1 h2
  have HB0 := Lib.hid (Below.refl w.heap.size w)
  clear hin0 hin1 s0 s1
  go_enter Tryz.func5, Tryz.ntmps5
  go_wp2_with fail
  refine (HSZ.out _ (below_al HB0.out _)).mono ?_
  rintro e w1 ⟨⟨x, rfl, hx, hx1, hx2⟩, hb1⟩
  have HB1 := Lib.hid (below_step (below_al HB0.out _) hb1)
  by_cases hx0 : x < 0
  · clear hx
    go_wp2
    go_ret
    exact ⟨rfl, HB1.out⟩
  have HS := Lib.hid (hx (by omega))
  have A1 : LBox 25 w1 w.heap.size k0 (.slice A n c) (.slice A' m c') pt0 ph0 := (hb1.block _ (by simp)).trans (heap_alloc_new' _ _ rfl)
  clear hx hn hm hb1
  go_wp2_with fail
  refine (HSR.out x (by omega) hx2 _ HB1.out).mono ?_
  rintro e w' ⟨⟨y, rfl, hy⟩, rfl⟩
  by_cases hy0 : y < 0
  · clear hy
    go_wp2
    go_ret
    exact ⟨rfl, HB1.out⟩
  have HLR : Hid (l1.length ≤ 1048576) := Lib.hid (by have := hy (by omega); omega)
  have HLEN := Lib.hid (narr_len (r := l1) HS.out.1 HS.out.2.1)
  have C1 : NarC 14 t0 l1 (narrT t0 l1).1 (narrT t0 l1).2 := fun v u W h hc hk hr => sNarrow_any v t0 u l1 W h hc hk HS.out.2.2 HS.out.1 HS.out.2.1 hr HLR.out
  have C2 : NarC 16 t0 l1 (narrT t0 l1).1 (narrT t0 l1).2 := fun v u W h hc hk hr => iNarrow_any v t0 u l1 W h hc hk HS.out.2.2 HS.out.1 HS.out.2.1 hr HLR.out
  generalize (narrT t0 l1).1 = R at C1 C2 HLEN
  generalize (narrT t0 l1).2 = b at C1 C2
  have C1 := Lib.hid C1
  have C2 := Lib.hid C2
  have HTO := Lib.hid (HTO.out HS.out.1 HS.out.2.1)
  have HTR := Lib.hid (HTR.out HLR.out)
  obtain ⟨mq, hmq⟩ : ∃ mq, mq = mTyQ R := ⟨_, rfl⟩
  have HMQ := Lib.hid hmq
  have hmq0 : ¬ ((mq : Int) < 0) := by omega
  obtain ⟨mx, hmx⟩ : ∃ mx, mx = mTyQ t0 := ⟨_, rfl⟩
  have HMX := Lib.hid hmx
  have HMX1 : Hid (mx ≤ 4194305) := Lib.hid (by have := HS.out.1; have := HS.out.2.1; unfold mTyQ at hmx; omega)
  clear hmq hmx hy hx1 hx2
  have HA1 := Lib.hid A1
  have z1 : Hid (w.heap.size + 1 ≤ w1.heap.size) := Lib.hid (by have := A1.lt; omega)
  clear A1
  cases b
  all_goals
    skip
    obtain ⟨⟨ac0, ac1, ac2, ac3, ac4⟩, -⟩ := five HA1.out
    go_wp2_with fail
    refine (HTO.out _ HB1.out).mono ?_
    rintro e w2 ⟨va, rfl, hown, hb⟩
    obtain ⟨Dva, nva, cva, g1⟩ : ∃ A n c, va.vr = .slice A n c := by obtain ⟨A, c, hv, _⟩ := RowR.hasG hown.rg; exact ⟨A, _, c, hv⟩
    obtain ⟨Fva, mva, dva, g2⟩ : ∃ A n c, va.vn = .slice A n c := by obtain ⟨A, c, hv, _⟩ := Row.has hown.nm; exact ⟨A, _, c, hv⟩
    obtain ⟨kva, rva, sva, pva, qva⟩ := va
    dsimp only at g1 g2
    subst g1 g2
    have hbE := hb
    have HA2 := Lib.hid (HA1.out.below hbE)
    clear HA1
    have HB2 := Lib.hid (below_step HB1.out hbE)
    have z2 : Hid (w1.heap.size + 0 ≤ w2.heap.size) := Lib.hid (by have := hb.size; (try simp at this); omega)
    have HXA2 := Lib.hid hown
    have BXA : Hid (∀ j, TyV.own ⟨kva, .slice Dva nva cva, .slice Fva mva dva, pva, qva⟩ j → w1.heap.size ≤ j ∧ j < w2.heap.size) := Lib.hid fun j hj => by have := hown.lt hj; (try simp at this); omega
    clear hown hb hbE
    clear ac0 ac1 ac2 ac3 ac4
    go_wp2_with fail
    refine (HTR.out _ HB2.out).mono ?_
    rintro e w3 ⟨ua, rfl, hrow, hb⟩
    obtain ⟨Dua, nua, cua, rfl⟩ : ∃ A n c, ua = .slice A n c := by obtain ⟨A, c, hv, _⟩ := RowR.hasG hrow; exact ⟨A, _, c, hv⟩
    have hbE := hb
    have HA3 := Lib.hid (HA2.out.below hbE)
    clear HA2
    have HXA3 := Lib.hid (HXA2.out.below hbE)
    clear HXA2
    have HB3 := Lib.hid (below_step HB2.out hbE)
    have z3 : Hid (w2.heap.size + 0 ≤ w3.heap.size) := Lib.hid (by have := hb.size; (try simp at this); omega)
    have HUA3 := Lib.hid hrow
    have BUA : Hid (∀ j, (Value.slice Dua nua cua).ownBlock = some j → w2.heap.size ≤ j ∧ j < w3.heap.size) := Lib.hid fun j hj => by have := RowR.lt hrow hj; (try simp at this); omega
    clear hrow hb hbE
    skip
    go_wp2_with fail
    refine (C1.out ⟨kva, .slice Dva nva cva, .slice Fva mva dva, pva, qva⟩ (.slice Dua nua cua) _ HXA3.out.has HXA3.out.nm.capN HXA3.out.nilTy (RowR.hasG HUA3.out)).mono ?_
    rintro e w4 ⟨vw, rfl, hown, hb⟩
    obtain ⟨Dvw, nvw, cvw, g1⟩ : ∃ A n c, vw.vr = .slice A n c := by obtain ⟨A, c, hv, _⟩ := RowR.hasG hown.rg; exact ⟨A, _, c, hv⟩
    obtain ⟨Fvw, mvw, dvw, g2⟩ : ∃ A n c, vw.vn = .slice A n c := by obtain ⟨A, c, hv, _⟩ := Row.has hown.nm; exact ⟨A, _, c, hv⟩
    obtain ⟨kvw, rvw, svw, pvw, qvw⟩ := vw
    dsimp only at g1 g2
    subst g1 g2
    have hbE := hb
    have HA4 := Lib.hid (HA3.out.below hbE)
    clear HA3
    clear HXA3
    clear HUA3
    have HB4 := Lib.hid (below_step HB3.out hbE)
    have z4 : Hid (w3.heap.size + 0 ≤ w4.heap.size) := Lib.hid (by have := hb.size; (try simp at this); omega)
    have HOVW4 := Lib.hid hown
    have BOVW : Hid (∀ j, TyV.own ⟨kvw, .slice Dvw nvw cvw, .slice Fvw mvw dvw, pvw, qvw⟩ j → w3.heap.size ≤ j ∧ j < w4.heap.size) := Lib.hid fun j hj => by have := hown.lt hj; (try simp at this); omega
    clear hown hb hbE
    skip
    obtain ⟨⟨ac0, ac1, ac2, ac3, ac4⟩, -⟩ := five HA4.out
    have zq0 : w.heap.size < w4.heap.size := HA4.out.lt
    go_wp2_with fail
    refine (HTO.out _ (below_al HB4.out _)).mono ?_
    rintro e w5 ⟨vx, rfl, hown, hb⟩
    obtain ⟨Dvx, nvx, cvx, g1⟩ : ∃ A n c, vx.vr = .slice A n c := by obtain ⟨A, c, hv, _⟩ := RowR.hasG hown.rg; exact ⟨A, _, c, hv⟩
    obtain ⟨Fvx, mvx, dvx, g2⟩ : ∃ A n c, vx.vn = .slice A n c := by obtain ⟨A, c, hv, _⟩ := Row.has hown.nm; exact ⟨A, _, c, hv⟩
    obtain ⟨kvx, rvx, svx, pvx, qvx⟩ := vx
    dsimp only at g1 g2
    subst g1 g2
    have hbE := below_step (below_al (Below.refl _ _) (.cells #[.int .i64 kvw, .slice Dvw nvw cvw, .slice Fvw mvw dvw, .string pvw, .string qvw] 31)) hb
    have HA5 := Lib.hid (HA4.out.below hbE)
    clear HA4
    have HOVW5 := Lib.hid (HOVW4.out.below hbE)
    clear HOVW4
    have HW5 : Hid (LBox 31 w5 w4.heap.size kvw (.slice Dvw nvw cvw) (.slice Fvw mvw dvw) pvw qvw) := Lib.hid ((hb.block _ (by simp)).trans (heap_alloc_new' _ _ rfl))
    have HB5 := Lib.hid (below_step HB4.out hbE)
    have z5 : Hid (w4.heap.size + 1 ≤ w5.heap.size) := Lib.hid (by have := hb.size; (try simp at this); omega)
    have HXX5 := Lib.hid hown
    have BXX : Hid (∀ j, TyV.own ⟨kvx, .slice Dvx nvx cvx, .slice Fvx mvx dvx, pvx, qvx⟩ j → w4.heap.size + 1 ≤ j ∧ j < w5.heap.size) := Lib.hid fun j hj => by have := hown.lt hj; (try simp at this); omega
    clear hown hb hbE
    clear ac0 ac1 ac2 ac3 ac4 zq0
    go_wp2_with fail
    refine (HTR.out _ (below_al HB5.out _)).mono ?_
    rintro e w6 ⟨ux, rfl, hrow, hb⟩
    obtain ⟨Dux, nux, cux, rfl⟩ : ∃ A n c, ux = .slice A n c := by obtain ⟨A, c, hv, _⟩ := RowR.hasG hrow; exact ⟨A, _, c, hv⟩
    have hbE := below_step (below_al (Below.refl _ _) (.cells #[.int .i64 kvx, .slice Dvx nvx cvx, .slice Fvx mvx dvx, .string pvx, .string qvx] 31)) hb
    have HA6 := Lib.hid (HA5.out.below hbE)
    clear HA5
    have HOVW6 := Lib.hid (HOVW5.out.below hbE)
    clear HOVW5
    have HW6 := Lib.hid (HW5.out.below hbE)
    clear HW5
    have HXX6 := Lib.hid (HXX5.out.below hbE)
    clear HXX5
    have HX6 : Hid (LBox 31 w6 w5.heap.size kvx (.slice Dvx nvx cvx) (.slice Fvx mvx dvx) pvx qvx) := Lib.hid ((hb.block _ (by simp)).trans (heap_alloc_new' _ _ rfl))
    have HB6 := Lib.hid (below_step HB5.out hbE)
    have z6 : Hid (w5.heap.size + 1 ≤ w6.heap.size) := Lib.hid (by have := hb.size; (try simp at this); omega)
    have HUX6 := Lib.hid hrow
    have BUX : Hid (∀ j, (Value.slice Dux nux cux).ownBlock = some j → w5.heap.size + 1 ≤ j ∧ j < w6.heap.size) := Lib.hid fun j hj => by have := RowR.lt hrow hj; (try simp at this); omega
    clear hrow hb hbE
    skip
    obtain ⟨⟨xc0, xc1, xc2, xc3, xc4⟩, -⟩ := five HX6.out
    go_wp2_with fail
    refine (C2.out ⟨kvx, .slice Dvx nvx cvx, .slice Fvx mvx dvx, pvx, qvx⟩ (.slice Dux nux cux) _ HXX6.out.has HXX6.out.nm.capN HXX6.out.nilTy (RowR.hasG HUX6.out)).mono ?_
    rintro e w7 ⟨vg, rfl, hown, hb⟩
    obtain ⟨Dvg, nvg, cvg, g1⟩ : ∃ A n c, vg.vr = .slice A n c := by obtain ⟨A, c, hv, _⟩ := RowR.hasG hown.rg; exact ⟨A, _, c, hv⟩
    obtain ⟨Fvg, mvg, dvg, g2⟩ : ∃ A n c, vg.vn = .slice A n c := by obtain ⟨A, c, hv, _⟩ := Row.has hown.nm; exact ⟨A, _, c, hv⟩
    obtain ⟨kvg, rvg, svg, pvg, qvg⟩ := vg
    dsimp only at g1 g2
    subst g1 g2
    have hbE := hb
    have HA7 := Lib.hid (HA6.out.below hbE)
    clear HA6
    have HOVW7 := Lib.hid (HOVW6.out.below hbE)
    clear HOVW6
    have HW7 := Lib.hid (HW6.out.below hbE)
    clear HW6
    have HXX7 := Lib.hid (HXX6.out.below hbE)
    clear HXX6
    have HX7 := Lib.hid (HX6.out.below hbE)
    clear HX6
    have HUX7 := Lib.hid (RowR.below HUX6.out hbE)
    clear HUX6
    have HB7 := Lib.hid (below_step HB6.out hbE)
    have z7 : Hid (w6.heap.size + 0 ≤ w7.heap.size) := Lib.hid (by have := hb.size; (try simp at this); omega)
    have HOVG7 := Lib.hid hown
    have BOVG : Hid (∀ j, TyV.own ⟨kvg, .slice Dvg nvg cvg, .slice Fvg mvg dvg, pvg, qvg⟩ j → w6.heap.size ≤ j ∧ j < w7.heap.size) := Lib.hid fun j hj => by have := hown.lt hj; (try simp at this); omega
    clear hown hb hbE
    clear xc0 xc1 xc2 xc3 xc4
    obtain ⟨⟨wc0, wc1, wc2, wc3, wc4⟩, -⟩ := five HW7.out
    have zq1 : w4.heap.size < w7.heap.size := HW7.out.lt
    go_wp2_with fail
    refine (eqTy_any ⟨kvg, .slice Dvg nvg cvg, .slice Fvg mvg dvg, pvg, qvg⟩ ⟨kvw, .slice Dvw nvw cvw, .slice Fvw mvw dvw, pvw, qvw⟩ R _ (HOVG7.out.below (below_al (Below.refl _ _) _)).has (HOVW7.out.below (below_al (Below.refl _ _) _)).has).mono ?_
    rintro e w8 ⟨rfl, hb⟩
    have hbE := below_step (below_al (Below.refl _ _) (.cells #[.int .i64 kvg, .slice Dvg nvg cvg, .slice Fvg mvg dvg, .string pvg, .string qvg] 31)) hb
    have HA8 := Lib.hid (HA7.out.below hbE)
    clear HA7
    have HOVW8 := Lib.hid (HOVW7.out.below hbE)
    clear HOVW7
    have HW8 := Lib.hid (HW7.out.below hbE)
    clear HW7
    have HXX8 := Lib.hid (HXX7.out.below hbE)
    clear HXX7
    have HX8 := Lib.hid (HX7.out.below hbE)
    clear HX7
    have HUX8 := Lib.hid (RowR.below HUX7.out hbE)
    clear HUX7
    have HOVG8 := Lib.hid (HOVG7.out.below hbE)
    clear HOVG7
    have HG8 : Hid (LBox 31 w8 w7.heap.size kvg (.slice Dvg nvg cvg) (.slice Fvg mvg dvg) pvg qvg) := Lib.hid ((hb.block _ (by simp)).trans (heap_alloc_new' _ _ rfl))
    have HB8 := Lib.hid (below_step HB7.out hbE)
    have z8 : Hid (w7.heap.size + 1 ≤ w8.heap.size) := Lib.hid (by have := hb.size; (try simp at this); omega)
    clear hb hbE
    clear wc0 wc1 wc2 wc3 wc4 zq1
    obtain ⟨⟨xc0, xc1, xc2, xc3, xc4⟩, -⟩ := five HX8.out
    obtain ⟨⟨ac0, ac1, ac2, ac3, ac4⟩, -⟩ := five HA8.out
    have HK : Hid (∀ W, Below w8.heap.size w8 W → ((W.cell? ⟨w5.heap.size, 0, none⟩ = some (.int .i64 kvx) ∧ W.cell? ⟨w5.heap.size, 1, none⟩ = some (.slice Dvx nvx cvx) ∧ W.cell? ⟨w5.heap.size, 2, none⟩ = some (.slice Fvx mvx dvx) ∧ W.cell? ⟨w5.heap.size, 3, none⟩ = some (.string pvx) ∧ W.cell? ⟨w5.heap.size, 4, none⟩ = some (.string qvx)) ∧ (W.cell? ⟨w.heap.size, 0, none⟩ = some (.int .i64 k0) ∧ W.cell? ⟨w.heap.size, 1, none⟩ = some (.slice A n c) ∧ W.cell? ⟨w.heap.size, 2, none⟩ = some (.slice A' m c') ∧ W.cell? ⟨w.heap.size, 3, none⟩ = some (.string pt0) ∧ W.cell? ⟨w.heap.size, 4, none⟩ = some (.string ph0)) ∧ Below w8.heap.size w8 W)) := Lib.hid fun W hb => ⟨(five (HX8.out.below hb)).1, (five (HA8.out.below hb)).1, hb⟩
    have HXW := Lib.hid (fun W (hb : Below w8.heap.size w8 W) => HXX8.out.has.below hb)
    go_wp2
    go_region_held3 (fun W => (W.cell? ⟨w5.heap.size, 0, none⟩ = some (.int .i64 kvx) ∧ W.cell? ⟨w5.heap.size, 1, none⟩ = some (.slice Dvx nvx cvx) ∧ W.cell? ⟨w5.heap.size, 2, none⟩ = some (.slice Fvx mvx dvx) ∧ W.cell? ⟨w5.heap.size, 3, none⟩ = some (.string pvx) ∧ W.cell? ⟨w5.heap.size, 4, none⟩ = some (.string qvx)) ∧ (W.cell? ⟨w.heap.size, 0, none⟩ = some (.int .i64 k0) ∧ W.cell? ⟨w.heap.size, 1, none⟩ = some (.slice A n c) ∧ W.cell? ⟨w.heap.size, 2, none⟩ = some (.slice A' m c') ∧ W.cell? ⟨w.heap.size, 3, none⟩ = some (.string pt0) ∧ W.cell? ⟨w.heap.size, 4, none⟩ = some (.string ph0)) ∧ Below w8.heap.size w8 W) (first | exact HK.out _ (Below.refl _ _).drew | exact HK.out _ (below_step (by assumption : _ ∧ _ ∧ Below _ _ _).2.2 hbm) | go_keep)
      (first
        | (go_at_call 8; refine (HTO.out _ (below_step HB8.out (by assumption : _ ∧ _ ∧ Below _ _ _).2.2)).mono ?_; rintro e wr ⟨vr, rfl, hownr, hbm⟩)
        | (go_at_call 10; refine (eqTy_any ⟨kvx, .slice Dvx nvx cvx, .slice Fvx mvx dvx, pvx, qvx⟩ vr t0 _ (HXW.out _ (by assumption : _ ∧ _ ∧ Below _ _ _).2.2) hownr.has).mono ?_; rintro e w9 ⟨rfl, hbm⟩))
    have hb := (by assumption : _ ∧ _ ∧ Below w8.heap.size w8 w9).2.2
    clear xc0 xc1 xc2 xc3 xc4 ac0 ac1 ac2 ac3 ac4 HK HXW
    have hbE := hb
    have HA9 := Lib.hid (HA8.out.below hbE)
    clear HA8
    have HOVW9 := Lib.hid (HOVW8.out.below hbE)
    clear HOVW8
    have HW9 := Lib.hid (HW8.out.below hbE)
    clear HW8
    have HXX9 := Lib.hid (HXX8.out.below hbE)
    clear HXX8
    have HX9 := Lib.hid (HX8.out.below hbE)
    clear HX8
    have HUX9 := Lib.hid (RowR.below HUX8.out hbE)
    clear HUX8
    have HOVG9 := Lib.hid (HOVG8.out.below hbE)
    clear HOVG8
    have HG9 := Lib.hid (HG8.out.below hbE)
    clear HG8
    have HB9 := Lib.hid (below_step HB8.out hbE)
    have z9 : Hid (w8.heap.size + 0 ≤ w9.heap.size) := Lib.hid (by have := hb.size; (try simp at this); omega)
    clear hb hbE hownr
    skip
    go_wp2_with fail
    refine (HTR.out _ HB9.out).mono ?_
    rintro e w10 ⟨ue, rfl, hrow, hb⟩
    obtain ⟨Due, nue, cue, rfl⟩ : ∃ A n c, ue = .slice A n c := by obtain ⟨A, c, hv, _⟩ := RowR.hasG hrow; exact ⟨A, _, c, hv⟩
    have hbE := hb
    have HA10 := Lib.hid (HA9.out.below hbE)
    clear HA9
    have HOVW10 := Lib.hid (HOVW9.out.below hbE)
    clear HOVW9
    have HW10 := Lib.hid (HW9.out.below hbE)
    clear HW9
    have HXX10 := Lib.hid (HXX9.out.below hbE)
    clear HXX9
    have HX10 := Lib.hid (HX9.out.below hbE)
    clear HX9
    have HUX10 := Lib.hid (RowR.below HUX9.out hbE)
    clear HUX9
    have HOVG10 := Lib.hid (HOVG9.out.below hbE)
    clear HOVG9
    have HG10 := Lib.hid (HG9.out.below hbE)
    clear HG9
    have HB10 := Lib.hid (below_step HB9.out hbE)
    have z10 : Hid (w9.heap.size + 0 ≤ w10.heap.size) := Lib.hid (by have := hb.size; (try simp at this); omega)
    have HUE10 := Lib.hid hrow
    have BUE : Hid (∀ j, (Value.slice Due nue cue).ownBlock = some j → w9.heap.size ≤ j ∧ j < w10.heap.size) := Lib.hid fun j hj => by have := RowR.lt hrow hj; (try simp at this); omega
    clear hrow hb hbE
    skip
    go_wp2_with fail
    refine (eqRngs_any (.slice Dux nux cux) (.slice Due nue cue) l1 _ (RowR.hasG HUX10.out) (RowR.hasG HUE10.out)).mono ?_
    rintro e w11 ⟨rfl, hb⟩
    have hbE := hb
    have HA11 := Lib.hid (HA10.out.below hbE)
    clear HA10
    have HOVW11 := Lib.hid (HOVW10.out.below hbE)
    clear HOVW10
    have HW11 := Lib.hid (HW10.out.below hbE)
    clear HW10
    have HXX11 := Lib.hid (HXX10.out.below hbE)
    clear HXX10
    have HX11 := Lib.hid (HX10.out.below hbE)
    clear HX10
    have HUX11 := Lib.hid (RowR.below HUX10.out hbE)
    clear HUX10
    have HOVG11 := Lib.hid (HOVG10.out.below hbE)
    clear HOVG10
    have HG11 := Lib.hid (HG10.out.below hbE)
    clear HG10
    clear HUE10
    have HB11 := Lib.hid (below_step HB10.out hbE)
    have z11 : Hid (w10.heap.size + 0 ≤ w11.heap.size) := Lib.hid (by have := hb.size; (try simp at this); omega)
    clear hb hbE
    skip
    obtain ⟨⟨xc0, xc1, xc2, xc3, xc4⟩, -⟩ := five HX11.out
    go_wp2_with fail
    refine (markTy_any _ ⟨kvx, .slice Dvx nvx cvx, .slice Fvx mvx dvx, pvx, qvx⟩ t0 _ HXX11.out (by have := HS.out.1; omega) HS.out.2.1).mono ?_
    rw [← HMX.out]
    rintro e w12 ⟨rfl, hown, ht⟩
    have HA12 := Lib.hid (HA11.out.turns ht (fun hs => by have := BXX.out _ hs; have := z1.out; have := z2.out; have := z3.out; have := z4.out; have := z5.out; have := z6.out; have := z7.out; have := z8.out; have := z9.out; have := z10.out; have := z11.out; omega))
    clear HA11
    have HOVW12 := Lib.hid (HOVW11.out.apart ht (fun j h1 h2 => by have := BOVW.out _ h1; have := BXX.out _ h2; have := z1.out; have := z2.out; have := z3.out; have := z4.out; have := z5.out; have := z6.out; have := z7.out; have := z8.out; have := z9.out; have := z10.out; have := z11.out; omega))
    clear HOVW11
    have HW12 := Lib.hid (HW11.out.turns ht (fun hs => by have := BXX.out _ hs; have := z1.out; have := z2.out; have := z3.out; have := z4.out; have := z5.out; have := z6.out; have := z7.out; have := z8.out; have := z9.out; have := z10.out; have := z11.out; omega))
    clear HW11
    clear HXX11
    clear HX11
    have HUX12 := Lib.hid (rowR_apart HUX11.out ht (fun j h1 h2 => by have := BUX.out _ h1; have := BXX.out _ h2; have := z1.out; have := z2.out; have := z3.out; have := z4.out; have := z5.out; have := z6.out; have := z7.out; have := z8.out; have := z9.out; have := z10.out; have := z11.out; omega))
    clear HUX11
    have HOVG12 := Lib.hid (HOVG11.out.apart ht (fun j h1 h2 => by have := BOVG.out _ h1; have := BXX.out _ h2; have := z1.out; have := z2.out; have := z3.out; have := z4.out; have := z5.out; have := z6.out; have := z7.out; have := z8.out; have := z9.out; have := z10.out; have := z11.out; omega))
    clear HOVG11
    have HG12 := Lib.hid (HG11.out.turns ht (fun hs => by have := BXX.out _ hs; have := z1.out; have := z2.out; have := z3.out; have := z4.out; have := z5.out; have := z6.out; have := z7.out; have := z8.out; have := z9.out; have := z10.out; have := z11.out; omega))
    clear HG11
    have HB12 := Lib.hid (HB11.out.trans (ht.below (B := w.heap.size) HB11.out.size (fun j hj => by have := BXX.out _ hj; have := z1.out; have := z2.out; have := z3.out; have := z4.out; have := z5.out; have := z6.out; have := z7.out; have := z8.out; have := z9.out; have := z10.out; have := z11.out; omega)))
    have z12 : Hid (w11.heap.size + 0 ≤ w12.heap.size) := Lib.hid (by have := ht.size; omega)
    clear hown ht
    clear xc0 xc1 xc2 xc3 xc4
    go_wp2_with fail
    refine (markRngsQ _ (.slice Dux nux cux) l1 mx _ HUX12.out HLR.out (by have := HMX1.out; omega)).mono ?_
    rintro e w13 ⟨⟨q2, rfl, hq2⟩, hrow, hg⟩
    have ht := grown_turns hg (S := fun j => (Value.slice Dux nux cux).ownBlock = some j) (fun b hb => hb)
    have hq20 : ¬ ((q2 : Int) < 0) := by omega
    have HA13 := Lib.hid (HA12.out.turns ht (fun hs => by have := BUX.out _ hs; have := z1.out; have := z2.out; have := z3.out; have := z4.out; have := z5.out; have := z6.out; have := z7.out; have := z8.out; have := z9.out; have := z10.out; have := z11.out; have := z12.out; omega))
    clear HA12
    have HOVW13 := Lib.hid (HOVW12.out.apart ht (fun j h1 h2 => by have := BOVW.out _ h1; have := BUX.out _ h2; have := z1.out; have := z2.out; have := z3.out; have := z4.out; have := z5.out; have := z6.out; have := z7.out; have := z8.out; have := z9.out; have := z10.out; have := z11.out; have := z12.out; omega))
    clear HOVW12
    have HW13 := Lib.hid (HW12.out.turns ht (fun hs => by have := BUX.out _ hs; have := z1.out; have := z2.out; have := z3.out; have := z4.out; have := z5.out; have := z6.out; have := z7.out; have := z8.out; have := z9.out; have := z10.out; have := z11.out; have := z12.out; omega))
    clear HW12
    clear HUX12
    have HOVG13 := Lib.hid (HOVG12.out.apart ht (fun j h1 h2 => by have := BOVG.out _ h1; have := BUX.out _ h2; have := z1.out; have := z2.out; have := z3.out; have := z4.out; have := z5.out; have := z6.out; have := z7.out; have := z8.out; have := z9.out; have := z10.out; have := z11.out; have := z12.out; omega))
    clear HOVG12
    have HG13 := Lib.hid (HG12.out.turns ht (fun hs => by have := BUX.out _ hs; have := z1.out; have := z2.out; have := z3.out; have := z4.out; have := z5.out; have := z6.out; have := z7.out; have := z8.out; have := z9.out; have := z10.out; have := z11.out; have := z12.out; omega))
    clear HG12
    have HB13 := Lib.hid (HB12.out.trans (ht.below (B := w.heap.size) HB12.out.size (fun j hj => by have := BUX.out _ hj; have := z1.out; have := z2.out; have := z3.out; have := z4.out; have := z5.out; have := z6.out; have := z7.out; have := z8.out; have := z9.out; have := z10.out; have := z11.out; have := z12.out; omega)))
    have z13 : Hid (w12.heap.size + 0 ≤ w13.heap.size) := Lib.hid (by have := ht.size; omega)
    clear hrow hg ht hq2
    skip
    obtain ⟨⟨gc0, gc1, gc2, gc3, gc4⟩, -⟩ := five HG13.out
    obtain ⟨⟨wc0, wc1, wc2, wc3, wc4⟩, -⟩ := five HW13.out
    go_wp2_with fail
    refine (eqTy_any ⟨kvg, .slice Dvg nvg cvg, .slice Fvg mvg dvg, pvg, qvg⟩ ⟨kvw, .slice Dvw nvw cvw, .slice Fvw mvw dvw, pvw, qvw⟩ R _ HOVG13.out.has HOVW13.out.has).mono ?_
    rintro e w14 ⟨rfl, hb⟩
    have hbE := hb
    have HA14 := Lib.hid (HA13.out.below hbE)
    clear HA13
    have HOVW14 := Lib.hid (HOVW13.out.below hbE)
    clear HOVW13
    have HW14 := Lib.hid (HW13.out.below hbE)
    clear HW13
    have HOVG14 := Lib.hid (HOVG13.out.below hbE)
    clear HOVG13
    have HG14 := Lib.hid (HG13.out.below hbE)
    clear HG13
    have HB14 := Lib.hid (below_step HB13.out hbE)
    have z14 : Hid (w13.heap.size + 0 ≤ w14.heap.size) := Lib.hid (by have := hb.size; (try simp at this); omega)
    clear hb hbE
    clear gc0 gc1 gc2 gc3 gc4 wc0 wc1 wc2 wc3 wc4
    obtain ⟨⟨gc0, gc1, gc2, gc3, gc4⟩, -⟩ := five HG14.out
    go_wp2_with fail
    refine (markTy_any _ ⟨kvg, .slice Dvg nvg cvg, .slice Fvg mvg dvg, pvg, qvg⟩ R _ HOVG14.out HLEN.out.1 HLEN.out.2).mono ?_
    rw [← HMQ.out]
    rintro e w15 ⟨rfl, hown, ht⟩
    have HOG := Lib.hid hown
    have HA15 := Lib.hid (HA14.out.turns ht (fun hs => by have := BOVG.out _ hs; have := z1.out; have := z2.out; have := z3.out; have := z4.out; have := z5.out; have := z6.out; have := z7.out; have := z8.out; have := z9.out; have := z10.out; have := z11.out; have := z12.out; have := z13.out; have := z14.out; omega))
    clear HA14
    have HOVW15 := Lib.hid (HOVW14.out.apart ht (fun j h1 h2 => by have := BOVW.out _ h1; have := BOVG.out _ h2; have := z1.out; have := z2.out; have := z3.out; have := z4.out; have := z5.out; have := z6.out; have := z7.out; have := z8.out; have := z9.out; have := z10.out; have := z11.out; have := z12.out; have := z13.out; have := z14.out; omega))
    clear HOVW14
    have HW15 := Lib.hid (HW14.out.turns ht (fun hs => by have := BOVG.out _ hs; have := z1.out; have := z2.out; have := z3.out; have := z4.out; have := z5.out; have := z6.out; have := z7.out; have := z8.out; have := z9.out; have := z10.out; have := z11.out; have := z12.out; have := z13.out; have := z14.out; omega))
    clear HW14
    clear HOVG14
    have HG15 := Lib.hid (HG14.out.turns ht (fun hs => by have := BOVG.out _ hs; have := z1.out; have := z2.out; have := z3.out; have := z4.out; have := z5.out; have := z6.out; have := z7.out; have := z8.out; have := z9.out; have := z10.out; have := z11.out; have := z12.out; have := z13.out; have := z14.out; omega))
    clear HG14
    have HB15 := Lib.hid (HB14.out.trans (ht.below (B := w.heap.size) HB14.out.size (fun j hj => by have := BOVG.out _ hj; have := z1.out; have := z2.out; have := z3.out; have := z4.out; have := z5.out; have := z6.out; have := z7.out; have := z8.out; have := z9.out; have := z10.out; have := z11.out; have := z12.out; have := z13.out; have := z14.out; omega)))
    have z15 : Hid (w14.heap.size + 0 ≤ w15.heap.size) := Lib.hid (by have := ht.size; omega)
    clear hown ht
    clear gc0 gc1 gc2 gc3 gc4
    obtain ⟨⟨gc0, gc1, gc2, gc3, gc4⟩, -⟩ := five HG15.out
    go_wp2_with fail
    refine (heldTy_any ⟨kvg, .slice Dvg nvg cvg, .slice Fvg mvg dvg, pvg, qvg⟩ R _ HOG.out.has HLEN.out.1 HLEN.out.2).mono ?_
    rw [← HMQ.out]
    rintro e w16 ⟨rfl, hb⟩
    have hbE := hb
    have HA16 := Lib.hid (HA15.out.below hbE)
    clear HA15
    have HOVW16 := Lib.hid (HOVW15.out.below hbE)
    clear HOVW15
    have HW16 := Lib.hid (HW15.out.below hbE)
    clear HW15
    have HG16 := Lib.hid (HG15.out.below hbE)
    clear HG15
    have HOG16 := Lib.hid (HOG.out.below hbE)
    clear HOG
    have HB16 := Lib.hid (below_step HB15.out hbE)
    have z16 : Hid (w15.heap.size + 0 ≤ w16.heap.size) := Lib.hid (by have := hb.size; (try simp at this); omega)
    clear hb hbE
    clear gc0 gc1 gc2 gc3 gc4
    obtain ⟨⟨ac0, ac1, ac2, ac3, ac4⟩, -⟩ := five HA16.out
    go_wp2_with fail
    refine (HTO.out _ HB16.out).mono ?_
    rintro e w17 ⟨vh, rfl, hown, hb⟩
    obtain ⟨Dvh, nvh, cvh, g1⟩ : ∃ A n c, vh.vr = .slice A n c := by obtain ⟨A, c, hv, _⟩ := RowR.hasG hown.rg; exact ⟨A, _, c, hv⟩
    obtain ⟨Fvh, mvh, dvh, g2⟩ : ∃ A n c, vh.vn = .slice A n c := by obtain ⟨A, c, hv, _⟩ := Row.has hown.nm; exact ⟨A, _, c, hv⟩
    obtain ⟨kvh, rvh, svh, pvh, qvh⟩ := vh
    dsimp only at g1 g2
    subst g1 g2
    have hbE := hb
    have HA17 := Lib.hid (HA16.out.below hbE)
    clear HA16
    have HOVW17 := Lib.hid (HOVW16.out.below hbE)
    clear HOVW16
    have HW17 := Lib.hid (HW16.out.below hbE)
    clear HW16
    have HG17 := Lib.hid (HG16.out.below hbE)
    clear HG16
    have HOG17 := Lib.hid (HOG16.out.below hbE)
    clear HOG16
    have HB17 := Lib.hid (below_step HB16.out hbE)
    have z17 : Hid (w16.heap.size + 0 ≤ w17.heap.size) := Lib.hid (by have := hb.size; (try simp at this); omega)
    have HXH17 := Lib.hid hown
    have BXH : Hid (∀ j, TyV.own ⟨kvh, .slice Dvh nvh cvh, .slice Fvh mvh dvh, pvh, qvh⟩ j → w16.heap.size ≤ j ∧ j < w17.heap.size) := Lib.hid fun j hj => by have := hown.lt hj; (try simp at this); omega
    clear hown hb hbE
    clear ac0 ac1 ac2 ac3 ac4
    go_wp2_with fail
    refine (HTR.out _ HB17.out).mono ?_
    rintro e w18 ⟨uh, rfl, hrow, hb⟩
    obtain ⟨Duh, nuh, cuh, rfl⟩ : ∃ A n c, uh = .slice A n c := by obtain ⟨A, c, hv, _⟩ := RowR.hasG hrow; exact ⟨A, _, c, hv⟩
    have hbE := hb
    have HA18 := Lib.hid (HA17.out.below hbE)
    clear HA17
    have HOVW18 := Lib.hid (HOVW17.out.below hbE)
    clear HOVW17
    have HW18 := Lib.hid (HW17.out.below hbE)
    clear HW17
    have HG18 := Lib.hid (HG17.out.below hbE)
    clear HG17
    have HOG18 := Lib.hid (HOG17.out.below hbE)
    clear HOG17
    have HXH18 := Lib.hid (HXH17.out.below hbE)
    clear HXH17
    have HB18 := Lib.hid (below_step HB17.out hbE)
    have z18 : Hid (w17.heap.size + 0 ≤ w18.heap.size) := Lib.hid (by have := hb.size; (try simp at this); omega)
    have HUH18 := Lib.hid hrow
    have BUH : Hid (∀ j, (Value.slice Duh nuh cuh).ownBlock = some j → w17.heap.size ≤ j ∧ j < w18.heap.size) := Lib.hid fun j hj => by have := RowR.lt hrow hj; (try simp at this); omega
    clear hrow hb hbE
    skip
    go_wp2_with fail
    refine (C2.out ⟨kvh, .slice Dvh nvh cvh, .slice Fvh mvh dvh, pvh, qvh⟩ (.slice Duh nuh cuh) _ HXH18.out.has HXH18.out.nm.capN HXH18.out.nilTy (RowR.hasG HUH18.out)).mono ?_
    rintro e w19 ⟨vz, rfl, hown, hb⟩
    obtain ⟨Dvz, nvz, cvz, g1⟩ : ∃ A n c, vz.vr = .slice A n c := by obtain ⟨A, c, hv, _⟩ := RowR.hasG hown.rg; exact ⟨A, _, c, hv⟩
    obtain ⟨Fvz, mvz, dvz, g2⟩ : ∃ A n c, vz.vn = .slice A n c := by obtain ⟨A, c, hv, _⟩ := Row.has hown.nm; exact ⟨A, _, c, hv⟩
    obtain ⟨kvz, rvz, svz, pvz, qvz⟩ := vz
    dsimp only at g1 g2
    subst g1 g2
    have hbE := hb
    clear HA18
    have HOVW19 := Lib.hid (HOVW18.out.below hbE)
    clear HOVW18
    have HW19 := Lib.hid (HW18.out.below hbE)
    clear HW18
    have HG19 := Lib.hid (HG18.out.below hbE)
    clear HG18
    have HOG19 := Lib.hid (HOG18.out.below hbE)
    clear HOG18
    clear HXH18
    clear HUH18
    have HB19 := Lib.hid (below_step HB18.out hbE)
    have z19 : Hid (w18.heap.size + 0 ≤ w19.heap.size) := Lib.hid (by have := hb.size; (try simp at this); omega)
    have HOVZ19 := Lib.hid hown
    have BOVZ : Hid (∀ j, TyV.own ⟨kvz, .slice Dvz nvz cvz, .slice Fvz mvz dvz, pvz, qvz⟩ j → w18.heap.size ≤ j ∧ j < w19.heap.size) := Lib.hid fun j hj => by have := hown.lt hj; (try simp at this); omega
    clear hown hb hbE
    skip
    obtain ⟨⟨wc0, wc1, wc2, wc3, wc4⟩, -⟩ := five HW19.out
    have zq1 : w4.heap.size < w19.heap.size := HW19.out.lt
    go_wp2_with fail
    refine (eqTy_any ⟨kvz, .slice Dvz nvz cvz, .slice Fvz mvz dvz, pvz, qvz⟩ ⟨kvw, .slice Dvw nvw cvw, .slice Fvw mvw dvw, pvw, qvw⟩ R _ (HOVZ19.out.below (below_al (Below.refl _ _) _)).has (HOVW19.out.below (below_al (Below.refl _ _) _)).has).mono ?_
    rintro e w20 ⟨rfl, hb⟩
    have hbE := below_step (below_al (Below.refl _ _) (.cells #[.int .i64 kvz, .slice Dvz nvz cvz, .slice Fvz mvz dvz, .string pvz, .string qvz] 31)) hb
    clear HOVW19
    clear HW19
    have HG20 := Lib.hid (HG19.out.below hbE)
    clear HG19
    have HOG20 := Lib.hid (HOG19.out.below hbE)
    clear HOG19
    clear HOVZ19
    have HB20 := Lib.hid (below_step HB19.out hbE)
    have z20 : Hid (w19.heap.size + 1 ≤ w20.heap.size) := Lib.hid (by have := hb.size; (try simp at this); omega)
    clear hb hbE
    clear wc0 wc1 wc2 wc3 wc4 zq1
    obtain ⟨⟨gc0, gc1, gc2, gc3, gc4⟩, -⟩ := five HG20.out
    go_wp2_with fail
    refine (heldTy_any ⟨kvg, .slice Dvg nvg cvg, .slice Fvg mvg dvg, pvg, qvg⟩ R _ HOG20.out.has HLEN.out.1 HLEN.out.2).mono ?_
    rw [← HMQ.out]
    rintro e w21 ⟨rfl, hb⟩
    have hbE := hb
    clear HG20
    clear HOG20
    have HB21 := Lib.hid (below_step HB20.out hbE)
    have z21 : Hid (w20.heap.size + 0 ≤ w21.heap.size) := Lib.hid (by have := hb.size; (try simp at this); omega)
    clear hb hbE
    clear gc0 gc1 gc2 gc3 gc4
    go_wp2
    go_ret
    exact ⟨rfl, HB21.out⟩

/-! ### THE ROW's STEP -/
set_option maxRecDepth 100000 in
theorem lifted (os : Os) (started : os.Started) (H : Type) (enc : TypeId × Value → H) :
    ReturnsInHanded {} Tryz.checked os 5 .any (Rows.fnExactNarrowTypeSpec.pre6 enc Tryz.prog Tryz.f5 Rows.fnExactNarrowTypeRow.domain false) (Rows.fnExactNarrowTypeSpec.post enc Tryz.prog Tryz.f5 false true false false) := by
  refine returnsInHanded_of_change (C := Tryz.checked) own started (by kernel_rfl) Tryz.func5
    (ChangeSpec.witness6 (enc := enc) (C := Tryz.checked) false ⟨#[], #[.agg #[.int .i64 0, .slice none 0 0, .slice none 0 0, .string ⟨#[]⟩, .string ⟨#[]⟩], .slice none 0 0], []⟩ 8 (by kernel_rfl) (by kernel_rfl) (by kernel_rfl) (by kernel_rfl)) ?_
  intro W base args ds gs before hval0 hW hcnd _
  have hval : ∀ (j : Nat) t v, Tryz.f5.params[j]? = some t → args[j]? = some v → Value.okWide Tryz.prog W .any base t v := hval0
  have hW' := hW
  obtain ⟨p, q, hA0, hV, rfl, hfz, hnd⟩ := hW
  have hA : DataW.TrodAll enc Tryz.prog W 0 (fun _ => true) true Tryz.f5.params.toList args.toList ds p := hA0
  rw [Tryz.params5] at hA hval
  obtain ⟨v0, vs0, d0, ds0, p0, q0, hargs, rfl, rfl, h0, r0⟩ := trodAll_cons hA
  obtain ⟨v1, vs1, d1, ds1, p1, q1, rfl, rfl, rfl, h1, r1⟩ := trodAll_cons r0
  obtain ⟨rfl, rfl, rfl⟩ := trodAll_nil r1
  obtain rfl : args = #[v0, v1] := by cases args; simp_all
  obtain ⟨rfl, rfl⟩ := trodVars_none hV
  obtain ⟨y0, t0, rfl, w0, s0⟩ := ty_open (hval 0 25 v0 rfl rfl) h0
  have k0 := h0
  have lt0 : ∀ x ∈ p0, x.block < W.heap.size := by obtain ⟨m, hm⟩ := k0; exact DataW.trod_lt m _ _ _ hm
  obtain ⟨a1, len1, cap1, rfl⟩ := okWide_slice Tryz.underlying22 (hval 1 22 v1 rfl rfl)
  have k1 := h1
  have lt1 : ∀ x ∈ p1, x.block < W.heap.size := by obtain ⟨m, hm⟩ := k1; exact DataW.trod_lt m _ _ _ hm
  obtain ⟨l1, w1, s1⟩ : ∃ l, HasG W (.slice a1 len1 cap1) l ∧ ∀ x ∈ l, RgWf x := by
    obtain ⟨fuel, hf⟩ := h1
    obtain ⟨a, len, cap, l, hcs, hw, hg⟩ := rngs_open hf
    simp [Value.cells] at hcs
    obtain ⟨rfl, rfl, rfl⟩ := hcs
    exact ⟨l, hw, hg⟩
  clear hA0 hval0
  refine (walk y0 t0 a1 len1 cap1 l1 W w0 s0 w1 s1).mono fun e W' ⟨he, bel⟩ => ?_
  subst he
  exact ⟨_, rfl, _, _, _, [], _, [], hW', trodAll_mk1 (shut_bool Tryz.underlying4 _), (trodAll_cons_mk (Below.trod laidOut (by kernel_rfl) (of_decide_eq_true (by kernel_rfl)) k0 bel lt0) (trodAll_cons_mk (Below.trod laidOut (by kernel_rfl) (of_decide_eq_true (by kernel_rfl)) k1 bel lt1) trodAll_mk0)), rfl, bel.frame _, fun h => by cases h⟩

theorem over : Rows.fnExactNarrowTypeRow.holds Tryz.pinned (OpenSpec.ofChange Rows.fnExactNarrowTypeSpec) :=
  OpenClaim.holds_of_wide 5 Tryz.f5 rfl rfl rfl rfl rfl rfl rfl ⟨rfl, rfl, rfl, rfl, rfl⟩ rfl rfl rfl rfl rfl (by kernel_rfl) Tryz.func5 (by kernel_rfl)
    (of_decide_eq_true (by kernel_rfl)) (by unfold Func.isWrapper; first | (rw [if_pos (by decide +kernel)]; kernel_rfl) | (rw [if_neg (by decide +kernel)]; exact ⟨rfl, rfl⟩))
    (fun os started H enc _ => lifted os started H enc)

theorem proved : Rows.FnExactNarrowTypeSaid := over
#print axioms proved
end Go.Proofs.YtdmccopggmienaaGreat.fnExactNarrowType
