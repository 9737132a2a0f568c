/- For every path laws.FnExactPlainPath returns true: impl.PlainPath answers as spec.PlainPath does, writes into nothing and shares no memory with its argument or its later answers (paths of more than 1048576 steps, tests and bytes the law itself lets pass); no condition. -/
import Derived.Test.YtdmccopggmienaaPthM
import Derived.Test.YtdmccopggmienaaRows
import Derived.WalkKit
import Derived.ProofKit
import Derived.OpenShut
import Derived.ShutString
import Derived.ChangeOld
import Derived.Below
namespace Go.Proofs.Ytdmccopggmienaa.fnExactPlainPath
open Go.ChangeShapes Go.WideShapes Go.ChangeAt Go.RowKit
open Go.ChangeMaps (open_string shut_string)
set_option linter.unusedVariables false

theorem own : ownKnob Try.prog.godebug = none := by kernel_rfl
theorem laidOut : laidOutB Try.prog = true := by kernel_rfl

/-- a variable of the call's own that holds a path -/
def PBox (T : TypeId) (w : World) (b : Nat) (r : Bool) (u : Int) (sv : Value) : Prop := w.heap[b]? = some (.cells #[.bool r, .int .i64 u, sv] T (0, 0))
theorem PBox.below {T : TypeId} {w w' : World} {b : Nat} {r : Bool} {u : Int} {sv : Value} (h : PBox T w b r u sv) (hb : Below w.heap.size w w') : PBox T w' b r u sv := (hb.block b (Array.getElem?_eq_some_iff.1 h).1).trans h
theorem PBox.lt {T : TypeId} {w : World} {b : Nat} {r : Bool} {u : Int} {sv : Value} (h : PBox T w b r u sv) : b < w.heap.size := (Array.getElem?_eq_some_iff.1 h).1
theorem PBox.tell {T : TypeId} {w : World} {b : Nat} {r : Bool} {u : Int} {sv : Value} (h : PBox T w b r u sv) : w.cell? ⟨b, 0, none⟩ = some (.bool r) ∧ w.cell? ⟨b, 1, none⟩ = some (.int .i64 u) ∧ w.cell? ⟨b, 2, none⟩ = some sv := (three_fro h).1
theorem PBox.turns {T : TypeId} {w w' : World} {b : Nat} {r : Bool} {u : Int} {sv : Value} {S : Nat → Prop} (h : PBox T w b r u sv) (ht : TurnsAt S w w') (hb : ¬ S b) : PBox T w' b r u sv := (ht.block b h.lt hb).trans h
/-- PlainPath's answer -/
def Ans (B : Nat) (w : World) (v : PthV) (p : Pth) : Prop := v.root = p.root ∧ v.ups = p.ups ∧ RowT7 B w v.sv (p.st.map plR)
theorem Ans.below {B : Nat} {w w' : World} {v : PthV} {p : Pth} (h : Ans B w v p) (hb : Below w.heap.size w w') : Ans B w' v p := ⟨h.1, h.2.1, RowR.below h.2.2 hb⟩
theorem Ans.turns {B : Nat} {w w' : World} {v : PthV} {p : Pth} {S : Nat → Prop} (h : Ans B w v p) (ht : TurnsAt S w w') (hd : ∀ b, v.sv.ownBlock = some b → S b → False) : Ans B w' v p := ⟨h.1, h.2.1, rowR_apart h.2.2 ht hd⟩
theorem Ans.has {B : Nat} {w : World} {v : PthV} {p : Pth} (h : Ans B w v p) : HasP7 w v (plP p) := by
  obtain ⟨S, hS⟩ := rowT_plain h.2.2
  exact ⟨h.1, h.2.1, hS.has⟩
theorem Ans.form {B : Nat} {w : World} {v : PthV} {p : Pth} (h : Ans B w v p) : ∃ A n c, v.sv = .slice A n c := by obtain ⟨A, c, hv, _⟩ := RowR.has StR.enc_len h.2.2; exact ⟨A, _, c, hv⟩
theorem Ans.lt {B : Nat} {w : World} {v : PthV} {p : Pth} (h : Ans B w v p) {b : Nat} (hb : v.sv.ownBlock = some b) : B ≤ b ∧ b < w.heap.size := RowR.lt h.2.2 hb

set_option maxRecDepth 100000 in
set_option maxHeartbeats 16000000 in
theorem walk (y0 : PthV) (t0 : Pth) (w : World) (hin : HasP7 w y0 t0) (s0 : PthWf t0) :
    Calls Try.prog 5 #[y0.val] w fun e w' => e = .returned (.bool true) ∧ Below w.heap.size w w' := by
  have HSA := Lib.hid (fun x (h0 : 0 ≤ x) (h1 : x ≤ 1048576) W (hb : Below w.heap.size w W) => szPth_any y0 t0 s0 x h0 h1 W (hin.below hb))
  have HTA := Lib.hid (fun hz W (hb : Below w.heap.size w W) => toPth_any y0 t0 W (hin.below hb) hz)
  obtain ⟨A, c, h1, -⟩ := hin.st.at
  obtain ⟨q, hq⟩ : ∃ q : Int, q = ((1 + t0.st.length : Nat) : Int) := ⟨_, rfl⟩
  have HSP : Hid (PthSz t0 → ∀ v W, HasP7 W v t0 → Calls Try.prog 14 #[v.val] W fun e w' => ∃ v' : PthV, e = .returned v'.val ∧ Ans W.heap.size w' v' t0 ∧ Below W.heap.size W w') := Lib.hid fun hz v W h => sPlain_any v t0 W h hz.1
  have HIM : Hid (PthSz t0 → ∀ v W, HasP7 W v t0 → Calls Try.prog 15 #[v.val] W fun e w' => ∃ v' : PthV, e = .returned v'.val ∧ Ans W.heap.size w' v' t0 ∧ Below W.heap.size W w') := Lib.hid fun hz v W h => iPlain_any v t0 W h hz.1
  have HMK : Hid (PthSz t0 → ∀ B v W, Ans B W v t0 → Calls Try.prog 16 #[v.val, .int .i64 1] W fun e w' => e = .returned (.int .i64 q) ∧ RowT7 B w' v.sv (marksS 1 t0.st.length) ∧ TurnsAt (fun b => v.sv.ownBlock = some b) W w') := Lib.hid fun hz B v W h => by rw [hq]; exact markPth0 B v t0.st W h.2.2 hz.1
  have HHE : Hid (PthSz t0 → ∀ (v : PthV) W, HasR StR.enc 2 W v.sv (marksS 1 t0.st.length) → Calls Try.prog 17 #[v.val, .int .i64 1] W fun e w' => e = .returned (.int .i64 q) ∧ Below W.heap.size W w') := Lib.hid fun hz v W h => by rw [hq]; exact heldPth0 v _ W h hz.1
  have hq0 : ¬ q < 0 := by omega
  generalize t0.st.length = n at h1 HMK HHE hq
  obtain ⟨r0, u0, v0⟩ := y0
  dsimp only at h1
  subst h1
  have HB0 := Lib.hid (Below.refl w.heap.size w)
  clear hin s0 hq
  go_enter Try.func5, Try.ntmps5
  go_wp2_with fail
  refine (HSA.out 1048576 (by omega) (by omega) _ (below_al HB0.out _)).mono ?_
  rintro e w1 ⟨⟨x, rfl, hx, hx1, hx2⟩, hb1⟩
  have HB1 := Lib.hid (below_step (below_al HB0.out _) hb1)
  by_cases hx0 : x < 0
  · clear hx
    go_wp2
    go_ret
    exact ⟨rfl, HB1.out⟩
  have HZ0 := Lib.hid (hx (by omega))
  have HA1 : Hid (PBox 24 w1 w.heap.size r0 u0 (.slice A n c)) := Lib.hid ((hb1.block _ (by simp)).trans (alloc_new_at' _ _ rfl))
  have HTA := Lib.hid (HTA.out HZ0.out)
  have HSP := Lib.hid (HSP.out HZ0.out)
  have HIM := Lib.hid (HIM.out HZ0.out)
  have HMK := Lib.hid (HMK.out HZ0.out)
  have HHE := Lib.hid (HHE.out HZ0.out)
  clear hx hb1 hx1 hx2
  obtain ⟨a0, a1, a2⟩ := HA1.out.tell
  go_wp2_with fail
  refine (HTA.out _ HB1.out).mono ?_
  rintro e w2 ⟨va, SA, rfl, hoa, hb2⟩
  have HB2 := Lib.hid (below_step HB1.out hb2)
  have HA2 := Lib.hid (HA1.out.below hb2)
  have HOA := Lib.hid hoa
  clear a0 a1 a2 hb2 hoa HA1
  go_wp2_with fail
  refine (HSP.out va _ HOA.out.has).mono ?_
  rintro e w3 ⟨vs, rfl, hvs, hb3⟩
  obtain ⟨As, ns, cs, g1⟩ := hvs.form
  obtain ⟨rs, us, svs⟩ := vs
  dsimp only at g1
  subst g1
  have HB3 := Lib.hid (below_step HB2.out hb3)
  have HA3 := Lib.hid (HA2.out.below hb3)
  have HVS3 := Lib.hid hvs
  have HSB : Hid (∀ b, (Value.slice As ns cs).ownBlock = some b → b < w3.heap.size) := Lib.hid fun b h => (hvs.lt h).2
  have hq3 : w.heap.size < w3.heap.size := HA3.out.lt
  have HQ3 := Lib.hid hq3
  obtain ⟨a0, a1, a2⟩ := HA3.out.tell
  clear hb3 HA2 HOA hvs
  go_wp2_with fail
  refine (HTA.out _ (below_al HB3.out _)).mono ?_
  rintro e w4 ⟨vx, SX, rfl, hox, hb⟩
  obtain ⟨Ax, nx, cx, g1⟩ : ∃ A n c, vx.sv = .slice A n c := by obtain ⟨A, c, hv, _⟩ := hox.has.st.at; exact ⟨A, _, c, hv⟩
  obtain ⟨rx, ux, svx⟩ := vx
  dsimp only at g1
  subst g1
  have hbE := below_step (below_al (Below.refl w3.heap.size w3) (.cells #[.bool rs, .int .i64 us, .slice As ns cs] 29)) hb
  have HB4 := Lib.hid (below_step HB3.out hbE)
  have HA4 := Lib.hid (HA3.out.below hbE)
  have HVS4 := Lib.hid (HVS3.out.below hbE)
  have HS4 : Hid (PBox 29 w4 w3.heap.size rs us (.slice As ns cs)) := Lib.hid ((hb.block _ (by simp)).trans (alloc_new_at' _ _ rfl))
  have HOX4 := Lib.hid hox
  have HSX : Hid (∀ b, SX b → w3.heap.size < b ∧ b < w4.heap.size) := Lib.hid fun b h => by have := OwL.lt hox.st b h; simp at this; omega
  clear a0 a1 a2 hb hbE hox HA3 HVS3 hq3
  go_wp2_with fail
  refine (HIM.out ⟨rx, ux, .slice Ax nx cx⟩ _ (HOX4.out.has.below (below_al (Below.refl _ _) _))).mono ?_
  rintro e w5 ⟨vy, rfl, hvy, hb⟩
  obtain ⟨Ay, ny, cy, g1⟩ := hvy.form
  obtain ⟨ry, uy, svy⟩ := vy
  dsimp only at g1
  subst g1
  have hbE := below_step (below_al (Below.refl w4.heap.size w4) (.cells #[.bool rx, .int .i64 ux, .slice Ax nx cx] 29)) hb
  have HB5 := Lib.hid (below_step HB4.out hbE)
  have HA5 := Lib.hid (HA4.out.below hbE)
  have HVS5 := Lib.hid (HVS4.out.below hbE)
  have HS5 := Lib.hid (HS4.out.below hbE)
  have HOX5 := Lib.hid (HOX4.out.below hbE)
  have HX5 : Hid (PBox 29 w5 w4.heap.size rx ux (.slice Ax nx cx)) := Lib.hid ((hb.block _ (by simp)).trans (alloc_new_at' _ _ rfl))
  have HYB : Hid (∀ b, (Value.slice Ay ny cy).ownBlock = some b → w4.heap.size < b ∧ b < w5.heap.size) := Lib.hid fun b h => by have := hvy.lt h; simp at this; omega
  have HVY5 := Lib.hid hvy
  have HQ5 : Hid (w3.heap.size < w4.heap.size ∧ w4.heap.size < w5.heap.size) := Lib.hid ⟨HS4.out.lt, HX5.out.lt⟩
  have hq5 : w3.heap.size < w5.heap.size := HS5.out.lt
  obtain ⟨b0, b1, b2⟩ := HS5.out.tell
  clear hb hbE hvy HA4 HVS4 HS4 HOX4
  go_wp2_with fail
  refine (eqPth_any ⟨ry, uy, .slice Ay ny cy⟩ ⟨rs, us, .slice As ns cs⟩ (plP t0) _ (HVY5.out.has.below (below_al (Below.refl _ _) _)) (HVS5.out.has.below (below_al (Below.refl _ _) _))).mono ?_
  rintro e w6 ⟨rfl, hb⟩
  have hbE := below_step (below_al (Below.refl w5.heap.size w5) (.cells #[.bool ry, .int .i64 uy, .slice Ay ny cy] 29)) hb
  have HB6 := Lib.hid (below_step HB5.out hbE)
  have HA6 := Lib.hid (HA5.out.below hbE)
  have HVS6 := Lib.hid (HVS5.out.below hbE)
  have HS6 := Lib.hid (HS5.out.below hbE)
  have HOX6 := Lib.hid (HOX5.out.below hbE)
  have HX6 := Lib.hid (HX5.out.below hbE)
  have HVY6 := Lib.hid (HVY5.out.below hbE)
  have HY6 : Hid (PBox 29 w6 w5.heap.size ry uy (.slice Ay ny cy)) := Lib.hid ((hb.block _ (by simp)).trans (alloc_new_at' _ _ rfl))
  clear hb hbE b0 b1 b2 hq5 HA5 HVS5 HS5 HOX5 HX5 HVY5
  have HK : Hid (∀ W, Below w6.heap.size w6 W → ((W.cell? ⟨w4.heap.size, 0, none⟩ = some (.bool rx) ∧ W.cell? ⟨w4.heap.size, 1, none⟩ = some (.int .i64 ux) ∧ W.cell? ⟨w4.heap.size, 2, none⟩ = some (.slice Ax nx cx)) ∧ (W.cell? ⟨w.heap.size, 0, none⟩ = some (.bool r0) ∧ W.cell? ⟨w.heap.size, 1, none⟩ = some (.int .i64 u0) ∧ W.cell? ⟨w.heap.size, 2, none⟩ = some (.slice A n c)) ∧ Below w6.heap.size w6 W)) := Lib.hid fun W hb => ⟨(HX6.out.below hb).tell, (HA6.out.below hb).tell, hb⟩
  obtain ⟨⟨a0, a1, a2⟩, ⟨c0, c1, c2⟩, -⟩ := HK.out _ (Below.refl _ _)
  go_wp2
  go_region_held3 (fun W => (W.cell? ⟨w4.heap.size, 0, none⟩ = some (.bool rx) ∧ W.cell? ⟨w4.heap.size, 1, none⟩ = some (.int .i64 ux) ∧ W.cell? ⟨w4.heap.size, 2, none⟩ = some (.slice Ax nx cx)) ∧ (W.cell? ⟨w.heap.size, 0, none⟩ = some (.bool r0) ∧ W.cell? ⟨w.heap.size, 1, none⟩ = some (.int .i64 u0) ∧ W.cell? ⟨w.heap.size, 2, none⟩ = some (.slice A n c)) ∧ Below w6.heap.size w6 W) (first | exact HK.out _ (Below.refl _ _).drew | exact HK.out _ (below_step (by assumption : _ ∧ _ ∧ Below _ _ _).2.2 hbm) | go_keep)
    (first
      | (go_at_call 9; refine (HTA.out _ (below_step HB6.out (by assumption : _ ∧ _ ∧ Below _ _ _).2.2)).mono ?_; rintro e wr ⟨vr, SR, rfl, hor, hbm⟩)
      | (go_at_call 11; refine (eqPth_any ⟨rx, ux, .slice Ax nx cx⟩ vr t0 _ (HOX6.out.has.below (by assumption : _ ∧ _ ∧ Below _ _ _).2.2) hor.has).mono ?_; rintro e w7 ⟨rfl, hbm⟩))
  have hb := (by assumption : _ ∧ _ ∧ Below w6.heap.size w6 w7).2.2
  have HB7 := Lib.hid (below_step HB6.out hb)
  have HA7 := Lib.hid (HA6.out.below hb)
  have HVS7 := Lib.hid (HVS6.out.below hb)
  have HS7 := Lib.hid (HS6.out.below hb)
  have HOX7 := Lib.hid (HOX6.out.below hb)
  have HVY7 := Lib.hid (HVY6.out.below hb)
  have HY7 := Lib.hid (HY6.out.below hb)
  have HX7 := Lib.hid (HX6.out.below hb)
  clear HK HA6 HVS6 HS6 HOX6 HX6 HVY6 HY6 hor a0 a1 a2 c0 c1 c2 hb
  obtain ⟨a0, a1, a2⟩ := HX7.out.tell
  go_wp2_with fail
  refine (markPth_any _ ⟨rx, ux, .slice Ax nx cx⟩ t0 SX _ HOX7.out HZ0.out).mono ?_
  rintro e w8 ⟨z, ⟨rfl, hz⟩, ht⟩
  have HB8 := Lib.hid (HB7.out.trans (ht.below (B := w.heap.size) HB7.out.size (fun b h => by have := HSX.out b h; have := HQ3.out; omega)))
  have HA8 := Lib.hid (HA7.out.turns ht (fun h => by have := HSX.out _ h; have := HQ3.out; omega))
  have HS8 := Lib.hid (HS7.out.turns ht (fun h => by have := HSX.out _ h; omega))
  have HY8 := Lib.hid (HY7.out.turns ht (fun h => by have := HSX.out _ h; have := HQ5.out; omega))
  have HVS8 := Lib.hid (HVS7.out.turns ht (fun b e h => by have := HSX.out _ h; have := HSB.out b e; omega))
  have HVY8 := Lib.hid (HVY7.out.turns ht (fun b e h => by have := HSX.out _ h; have := HYB.out b e; omega))
  have hz1 : ¬ z < 0 := by omega
  have hz2 : decide (z < 0) = false := by simp; omega
  clear a0 a1 a2 ht HA7 HVS7 HS7 HOX7 HVY7 HY7 HX7 hz
  obtain ⟨a0, a1, a2⟩ := HS8.out.tell
  obtain ⟨b0, b1, b2⟩ := HY8.out.tell
  go_wp2_with fail
  refine (eqPth_any ⟨ry, uy, .slice Ay ny cy⟩ ⟨rs, us, .slice As ns cs⟩ (plP t0) _ HVY8.out.has HVS8.out.has).mono ?_
  rintro e w9 ⟨rfl, hb⟩
  have HB9 := Lib.hid (below_step HB8.out hb)
  have HA9 := Lib.hid (HA8.out.below hb)
  have HS9 := Lib.hid (HS8.out.below hb)
  have HY9 := Lib.hid (HY8.out.below hb)
  have HVS9 := Lib.hid (HVS8.out.below hb)
  have HVY9 := Lib.hid (HVY8.out.below hb)
  clear a0 a1 a2 b0 b1 b2 hb HA8 HS8 HY8 HVS8 HVY8 hz1 hz2
  obtain ⟨b0, b1, b2⟩ := HY9.out.tell
  go_wp2_with fail
  refine (HMK.out _ ⟨ry, uy, .slice Ay ny cy⟩ _ HVY9.out).mono ?_
  rintro e w10 ⟨rfl, hm, ht⟩
  have HB10 := Lib.hid (HB9.out.trans (ht.below (B := w.heap.size) HB9.out.size (fun b h => by have := HYB.out b h; have := HQ3.out; have := HQ5.out; omega)))
  have HA10 := Lib.hid (HA9.out.turns ht (fun h => by have := HYB.out _ h; have := HQ3.out; have := HQ5.out; omega))
  have HS10 := Lib.hid (HS9.out.turns ht (fun h => by have := HYB.out _ h; have := HQ5.out; omega))
  have HY10 := Lib.hid (HY9.out.turns ht (fun h => by have := HYB.out _ h; omega))
  have HVS10 := Lib.hid (HVS9.out.turns ht (fun b e h => by have := HYB.out _ h; have := HSB.out b e; have := HQ5.out; omega))
  have HMY10 := Lib.hid hm
  clear b0 b1 b2 hm ht HA9 HS9 HY9 HVS9 HVY9
  obtain ⟨b0, b1, b2⟩ := HY10.out.tell
  go_wp2_with fail
  refine (HHE.out ⟨ry, uy, .slice Ay ny cy⟩ _ (RowR.has StR.enc_len HMY10.out)).mono ?_
  rintro e w11 ⟨rfl, hb⟩
  have HB11 := Lib.hid (below_step HB10.out hb)
  have HA11 := Lib.hid (HA10.out.below hb)
  have HS11 := Lib.hid (HS10.out.below hb)
  have HY11 := Lib.hid (HY10.out.below hb)
  have HVS11 := Lib.hid (HVS10.out.below hb)
  have HMY11 := Lib.hid (RowR.below HMY10.out hb)
  clear b0 b1 b2 hb HA10 HS10 HY10 HVS10 HMY10
  obtain ⟨a0, a1, a2⟩ := HA11.out.tell
  go_wp2_with fail
  refine (HTA.out _ HB11.out).mono ?_
  rintro e w12 ⟨vz, SZ, rfl, hoz, hb⟩
  have HB12 := Lib.hid (below_step HB11.out hb)
  have HS12 := Lib.hid (HS11.out.below hb)
  have HY12 := Lib.hid (HY11.out.below hb)
  have HVS12 := Lib.hid (HVS11.out.below hb)
  have HMY12 := Lib.hid (RowR.below HMY11.out hb)
  have HOZ := Lib.hid hoz
  clear a0 a1 a2 hb hoz HA11 HS11 HY11 HVS11 HMY11
  go_wp2_with fail
  refine (HIM.out vz _ HOZ.out.has).mono ?_
  rintro e w13 ⟨vu, rfl, hvu, hb⟩
  obtain ⟨Au, nu, cu, g1⟩ := hvu.form
  obtain ⟨ru, uu, svu⟩ := vu
  dsimp only at g1
  subst g1
  have HB13 := Lib.hid (below_step HB12.out hb)
  have HS13 := Lib.hid (HS12.out.below hb)
  have HY13 := Lib.hid (HY12.out.below hb)
  have HVS13 := Lib.hid (HVS12.out.below hb)
  have HMY13 := Lib.hid (RowR.below HMY12.out hb)
  have HVU13 := Lib.hid hvu
  have hq13 : w3.heap.size < w13.heap.size := HS13.out.lt
  clear hb hvu HS12 HY12 HVS12 HMY12 HOZ
  obtain ⟨a0, a1, a2⟩ := HS13.out.tell
  go_wp2_with fail
  refine (eqPth_any ⟨ru, uu, .slice Au nu cu⟩ ⟨rs, us, .slice As ns cs⟩ (plP t0) _ (HVU13.out.has.below (below_al (Below.refl _ _) _)) (HVS13.out.has.below (below_al (Below.refl _ _) _))).mono ?_
  rintro e w14 ⟨rfl, hb⟩
  have hbE := below_step (below_al (Below.refl w13.heap.size w13) (.cells #[.bool ru, .int .i64 uu, .slice Au nu cu] 29)) hb
  have HB14 := Lib.hid (below_step HB13.out hbE)
  have HY14 := Lib.hid (HY13.out.below hbE)
  have HMY14 := Lib.hid (RowR.below HMY13.out hbE)
  clear a0 a1 a2 hb hbE hq13 HS13 HY13 HVS13 HMY13 HVU13
  obtain ⟨b0, b1, b2⟩ := HY14.out.tell
  go_wp2_with fail
  refine (HHE.out ⟨ry, uy, .slice Ay ny cy⟩ _ (RowR.has StR.enc_len HMY14.out)).mono ?_
  rintro e w15 ⟨rfl, hb⟩
  have HB15 := Lib.hid (below_step HB14.out hb)
  clear b0 b1 b2 hb HY14 HMY14
  go_wp2
  go_ret
  exact ⟨rfl, HB15.out⟩

/-! ### THE ROW's STEP -/
set_option maxRecDepth 100000 in
theorem lifted (os : Os) (started : os.Started) (H : Type) (enc : TypeId × Value → H) :
    ReturnsInHanded {} Try.checked os 5 .any (Rows.fnExactPlainPathSpec.pre6 enc Try.prog Try.f5 Rows.fnExactPlainPathRow.domain false) (Rows.fnExactPlainPathSpec.post enc Try.prog Try.f5 false true false false) := by
  refine returnsInHanded_of_change (C := Try.checked) own started (by kernel_rfl) Try.func5
    (ChangeSpec.witness6 (enc := enc) (C := Try.checked) false ⟨#[], #[.agg #[.bool false, .int .i64 0, .slice none 0 0]], []⟩ 8 (by kernel_rfl) (by kernel_rfl) (by kernel_rfl) (by kernel_rfl)) ?_
  intro W base args ds gs before hval0 hW hcnd _
  have hval : ∀ (j : Nat) t v, Try.f5.params[j]? = some t → args[j]? = some v → Value.okWide Try.prog W .any base t v := hval0
  have hW' := hW
  obtain ⟨p, q, hA0, hV, rfl, hfz, hnd⟩ := hW
  have hA : DataW.TrodAll enc Try.prog W 0 (fun _ => true) true Try.f5.params.toList args.toList ds p := hA0
  rw [Try.params5] at hA hval
  obtain ⟨v0, vs0, d0, ds0, p0, q0, hargs, rfl, rfl, h0, r0⟩ := trodAll_cons hA
  obtain ⟨rfl, rfl, rfl⟩ := trodAll_nil r0
  obtain rfl : args = #[v0] := by cases args; simp_all
  obtain ⟨rfl, rfl⟩ := trodVars_none hV
  obtain ⟨y0, t0, rfl, w0, s0⟩ := pth_open (hval 0 24 v0 rfl rfl) h0
  have k0 := h0
  have lt0 : ∀ x ∈ p0, x.block < W.heap.size := by obtain ⟨m, hm⟩ := k0; exact DataW.trod_lt m _ _ _ hm
  clear hA0 hval0
  refine (walk y0 t0 W w0 s0).mono fun e W' ⟨he, bel⟩ => ?_
  subst he
  exact ⟨_, rfl, _, _, _, [], _, [], hW', trodAll_mk1 (shut_bool Try.underlying4 _), (trodAll_cons_mk (Below.trod laidOut (by kernel_rfl) (of_decide_eq_true (by kernel_rfl)) k0 bel lt0) trodAll_mk0), rfl, bel.frame _, fun h => by cases h⟩

theorem over : Rows.fnExactPlainPathRow.holds Try.pinned (OpenSpec.ofChange Rows.fnExactPlainPathSpec) :=
  OpenClaim.holds_of_wide 5 Try.f5 rfl rfl rfl rfl rfl rfl rfl ⟨rfl, rfl, rfl, rfl, rfl⟩ rfl rfl rfl rfl rfl (by kernel_rfl) Try.func5 (by kernel_rfl)
    (of_decide_eq_true (by kernel_rfl)) (by unfold Func.isWrapper; first | (rw [if_pos (by decide +kernel)]; kernel_rfl) | (rw [if_neg (by decide +kernel)]; exact ⟨rfl, rfl⟩))
    (fun os started H enc _ => lifted os started H enc)

theorem proved : Rows.FnExactPlainPathSaid := over
#print axioms proved
end Go.Proofs.Ytdmccopggmienaa.fnExactPlainPath
