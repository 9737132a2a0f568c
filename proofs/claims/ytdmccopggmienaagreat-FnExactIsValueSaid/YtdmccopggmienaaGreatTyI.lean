/- CHAPTER 6, impl: canonInt, isTextOf, canonBool, CanonValue, IsValue. (Printed by wip/tools/gen_tyI.py.) -/
import Derived.Test.YtdmccopggmienaaGreatTyG
import Derived.Test.YtdmccopggmienaaGreatTyE
set_option linter.unusedVariables false
set_option linter.unusedSimpArgs false
namespace Go.Proofs.YtdmccopggmienaaGreat
open Go.RowKit NumP

theorem canon_no {t : Ty} (s : ByteArray) (h : isTyB t = false) : canonT t s = none := by unfold canonT; rw [if_neg (by rw [h]; simp)]
theorem canon_yes {t : Ty} (s : ByteArray) (h : isTyB t = true) : canonT t s = canO t s := by unfold canonT; rw [if_pos h]
theorem canon_none {t : Ty} {s : ByteArray} (h : canO t s = none) : canonT t s = none := by unfold canonT; split <;> simp [h]
theorem tup_none {t : Ty} {s : ByteArray} (h : canonT t s = none) : tupS (canonT t s) = .tuple #[.string ⟨#[]⟩, .bool false] := by rw [h]; rfl
theorem tup_some {t : Ty} {s x : ByteArray} (h : canonT t s = some x) : tupS (canonT t s) = .tuple #[.string x, .bool true] := by rw [h]; rfl
/-- the number that a text is read as (0 where there is none), and whether it is one of the ranges' -/
def numO (o : Option Int) : Int := o.getD 0
noncomputable def okI (l : List Rg) (o : Option Int) : Bool := match o with | some n => inB l n | none => false
set_option maxRecDepth 100000 in
set_option maxHeartbeats 1000000 in
theorem canonInt_any (v : Value) (l : List Rg) (s : ByteArray) (hs : s.size ≤ 1048576) (w : World) (hv : HasG w v l) :
    Calls Tryz.prog 30 #[.agg #[v], .string s] w fun e w' => e = .returned (.tuple #[.string (fmtS (numO (readL s.data.toList))), .bool (okI l (readL s.data.toList))]) ∧ Below w.heap.size w w' := by
  have hR := fun w => iRead_any s (by unfold maxLen; omega) w
  obtain ⟨A, c, rfl, -⟩ := id hv
  have hb0 := below_al (Below.refl w.heap.size w) (.cells #[.slice A l.length c] 55)
  have HV := Lib.hid (fun n W (hb : Below w.heap.size w W) => iInR_any (.slice A l.length c) l n W (HasR.below hv hb))
  have HB0 := Lib.hid hb0
  have HK : Hid (∀ W, Below (w.alloc (.cells #[.slice A l.length c] 55)).heap.size (w.alloc (.cells #[.slice A l.length c] 55)) W → W.cell? ⟨w.heap.size, 0, none⟩ = some (.slice A l.length c)) := Lib.hid fun W hb => by
    rw [hb.cell (by simp)]
    rw [cell_of_row _ _ 0 _ _ _ (heap_alloc_new w _)]; rfl
  clear hv hb0 hs
  cases ho : readL s.data.toList with
  | none =>
    rw [ho] at hR
    have HR : Hid (∀ w, Calls Tryz.prog 58 #[.string s] w fun e w' => e = .returned (.tuple #[.int .i64 0, .bool false]) ∧ w = w') := Lib.hid hR
    have HF := Lib.hid (fun w => iFmt_any 0 (by omega) (by omega) w)
    clear ho hR
    generalize l.length = n at *
    go_enter Tryz.func30, Tryz.ntmps30
    go_wp2_with (first
      | (go_at_call 58; refine (HR.out _).mono ?_; rintro e w1 ⟨rfl, rfl⟩)
      | (go_at_call 59; refine (HF.out _).mono ?_; rintro e w2 ⟨rfl, hb2⟩; have c2 := HK.out _ hb2))
    go_ret2
    exact ⟨rfl, below_step HB0.out hb2⟩
  | some x =>
    rw [ho] at hR
    have HR : Hid (∀ w, Calls Tryz.prog 58 #[.string s] w fun e w' => e = .returned (.tuple #[.int .i64 x, .bool true]) ∧ w = w') := Lib.hid hR
    have hbd := readL_bd ho
    have HF := Lib.hid (fun w => iFmt_any x (by omega) (by omega) w)
    replace HV := Lib.hid (HV.out x)
    have HO : Hid (okI l (some x) = inB l x) := Lib.hid rfl
    obtain ⟨b, hb⟩ : ∃ b, b = inB l x := ⟨_, rfl⟩
    rw [← hb] at HV HO
    clear ho hR hb hbd
    generalize l.length = n at *
    go_enter Tryz.func30, Tryz.ntmps30
    go_wp2_with (first
      | (go_at_call 58; refine (HR.out _).mono ?_; rintro e w1 ⟨rfl, rfl⟩)
      | (go_at_call 59; refine (HF.out _).mono ?_; rintro e w2 ⟨rfl, hb2⟩; have c2 := HK.out _ hb2; have HB2 := Lib.hid (below_step HB0.out hb2))
      | (go_at_call 60; refine (HV.out _ HB2.out).mono ?_; rintro e w3 ⟨rfl, hb3⟩))
    go_ret2
    exact ⟨by rw [HO.out]; rfl, below_step HB2.out hb3⟩
set_option maxRecDepth 100000 in
set_option maxHeartbeats 1000000 in
theorem isTextOf_any (v : Value) (l : List Rg) (pt s : ByteArray) (hp : pt.size ≤ 1048576) (hs : s.size ≤ 1048576) (w : World) (hv : HasG w v l) :
    Calls Tryz.prog 31 #[.agg #[v, .string pt], .string s] w fun e w' => e = .returned (.bool (textB s && inB l s.size && (emB pt || textOfB pt s))) ∧ Below w.heap.size w w' := by
  have HT := Lib.hid (fun w => iIsText_any s (by unfold maxLen; omega) w)
  have HM := Lib.hid (fun w => iMText_any pt s (by unfold maxLen; omega) (by omega) w)
  obtain ⟨A, c, rfl, -⟩ := id hv
  have hb0 := below_al (Below.refl w.heap.size w) (.cells #[.slice A l.length c, .string pt] 58)
  have HV := Lib.hid (fun W (hb : Below w.heap.size w W) => iInR_any (.slice A l.length c) l s.size W (HasR.below hv hb))
  have HB0 := Lib.hid hb0
  have HK : Hid (∀ W, Below (w.alloc (.cells #[.slice A l.length c, .string pt] 58)).heap.size (w.alloc (.cells #[.slice A l.length c, .string pt] 58)) W → W.cell? ⟨w.heap.size, 0, none⟩ = some (.slice A l.length c) ∧ W.cell? ⟨w.heap.size, 1, none⟩ = some (.string pt)) := Lib.hid fun W hb => by
    rw [hb.cell (by simp), hb.cell (by simp)]
    rw [cell_of_row _ _ 0 _ _ _ (heap_alloc_new w _), cell_of_row _ _ 1 _ _ _ (heap_alloc_new w _)]; exact ⟨rfl, rfl⟩
  clear hv hb0
  generalize textB s = b1 at *
  generalize inB l s.size = b2 at *
  generalize textOfB pt s = b3 at *
  generalize l.length = n at *
  cases b1
  · go_enter Tryz.func31, Tryz.ntmps31
    go_wp2_with (first | (go_at_call 61; refine (HT.out _).mono ?_; rintro e w1 ⟨rfl, rfl⟩))
    go_ret
    exact ⟨rfl, HB0.out⟩
  · cases b2
    · go_enter Tryz.func31, Tryz.ntmps31
      go_wp2_with (first
        | (go_at_call 61; refine (HT.out _).mono ?_; rintro e w1 ⟨rfl, rfl⟩)
        | (go_at_call 60; refine (HV.out _ HB0.out).mono ?_; rintro e w3 ⟨rfl, hb3⟩))
      go_ret
      exact ⟨rfl, below_step HB0.out hb3⟩
    · rcases em_cases pt with rfl | ⟨p1, p2, p3, p4⟩
      · go_enter Tryz.func31, Tryz.ntmps31
        go_wp2_with (first
          | (go_at_call 61; refine (HT.out _).mono ?_; rintro e w1 ⟨rfl, rfl⟩)
          | (go_at_call 60; refine (HV.out _ HB0.out).mono ?_; rintro e w3 ⟨rfl, hb3⟩; obtain ⟨c0, c1⟩ := HK.out _ hb3))
        go_ret
        exact ⟨rfl, below_step HB0.out hb3⟩
      · go_enter Tryz.func31, Tryz.ntmps31
        go_wp2_with (first
          | (go_at_call 61; refine (HT.out _).mono ?_; rintro e w1 ⟨rfl, rfl⟩)
          | (go_at_call 60; refine (HV.out _ HB0.out).mono ?_; rintro e w3 ⟨rfl, hb3⟩; obtain ⟨c0, c1⟩ := HK.out _ hb3; have HB3 := Lib.hid (below_step HB0.out hb3))
          | (go_at_call 62; refine (HM.out _).mono ?_; rintro e w4 ⟨rfl, hb4⟩))
        go_ret
        exact ⟨ret_bool (by rw [p4]; rfl), below_step HB3.out hb4⟩
/-- what canonBool answers -/
def tupB : Option ByteArray → Value := tupS
set_option maxRecDepth 100000 in
set_option maxHeartbeats 1000000 in
theorem canonBool_any (s : ByteArray) (o : Option ByteArray) (ho : BoolIs s o) (w : World) :
    Calls Tryz.prog 32 #[.string s] w fun e w' => e = .returned (tupS o) ∧ w = w' := by
  rcases ho with rfl | rfl | rfl | rfl | ⟨h1, h2, h3, h4⟩
  all_goals
    go_enter Tryz.func32, Tryz.ntmps32
    go_wp2
    go_ret2
    exact ⟨rfl, rfl⟩
/-- the walk of CanonValue where the type has been told: K is what kindOf returns -/
def CanK (K : Value) (v : TyV) (s : ByteArray) (o : Option ByteArray) (w : World) : Prop :=
  (∀ W, Below w.heap.size w W → Calls Tryz.prog 29 #[v.val] W fun e w' => e = .returned K ∧ Below W.heap.size W w') →
  Calls Tryz.prog 9 #[v.val, .string s] w fun e w' => e = .returned (tupS o) ∧ Below w.heap.size w w'

set_option maxRecDepth 100000 in
set_option maxHeartbeats 2000000 in
theorem can_nil (k : Int) (A A' : Option Addr) (n c m c' : Nat) (pt ph s : ByteArray) (w : World)  :
    CanK (.nilIface) ⟨k, .slice A n c, .slice A' m c', pt, ph⟩ s (none) w := by
  intro hC
  have HC := Lib.hid hC
  have T0 := ta_nil_int
  have T1 := ta_nil_text
  have T2 := ta_nil_bool
  have T3 := ta_nil_enum
  have T4 := ta_nil_ref
  have T5 := ta_nil_flag
  have HB0 := Lib.hid (below_al (Below.refl w.heap.size w) (.cells #[.int .i64 k, .slice A n c, .slice A' m c', .string pt, .string ph] 31))
  clear hC
  go_enter Tryz.func9, Tryz.ntmps9
  go_wp2_with (first | (go_at_call 29; refine (HC.out _ HB0.out).mono ?_; rintro e w1 ⟨rfl, hb1⟩; have HB1 := Lib.hid (below_step HB0.out hb1)))
  go_ret2
  exact ⟨rfl, HB1.out⟩
set_option maxRecDepth 100000 in
set_option maxHeartbeats 2000000 in
theorem can_int (k : Int) (A A' : Option Addr) (n c m c' : Nat) (pt ph s : ByteArray) (w : World) (l : List Rg) (hn : n = l.length) (hs : s.size ≤ 1048576) (hv : HasG w (.slice A n c) l) :
    CanK (.iface 55 (.agg #[.slice A n c])) ⟨k, .slice A n c, .slice A' m c', pt, ph⟩ s (intO l s) w := by
  intro hC
  have HC := Lib.hid hC
  have T0 := ta_int_int
  have HB0 := Lib.hid (below_al (Below.refl w.heap.size w) (.cells #[.int .i64 k, .slice A n c, .slice A' m c', .string pt, .string ph] 31))
  have HI := Lib.hid (fun W (hb : Below w.heap.size w W) => canonInt_any (.slice A n c) l s hs W (HasR.below hv hb))
  have hO : intO l s = if okI l (readL s.data.toList) = true then some (fmtS (numO (readL s.data.toList))) else none := by unfold intO okI; cases readL s.data.toList <;> rfl
  rw [hO]
  generalize fmtS (numO (readL s.data.toList)) = x at *
  generalize okI l (readL s.data.toList) = b at *
  clear hO hv hn
  clear hC
  cases b
  all_goals
    go_enter Tryz.func9, Tryz.ntmps9
    go_wp2_with (first
      | (go_at_call 29; refine (HC.out _ HB0.out).mono ?_; rintro e w1 ⟨rfl, hb1⟩; have HB1 := Lib.hid (below_step HB0.out hb1))
      | (go_at_call 30; refine (HI.out _ (below_al HB1.out _)).mono ?_; rintro e w2 ⟨rfl, hb2⟩; have HB2 := Lib.hid (below_step (below_al HB1.out _) hb2)))
    go_ret2
    exact ⟨rfl, HB2.out⟩
set_option maxRecDepth 100000 in
set_option maxHeartbeats 2000000 in
theorem can_text (k : Int) (A A' : Option Addr) (n c m c' : Nat) (pt ph s : ByteArray) (w : World) (l : List Rg) (hn : n = l.length) (hp : pt.size ≤ 1048576) (hs : s.size ≤ 1048576) (hv : HasG w (.slice A n c) l) :
    CanK (.iface 58 (.agg #[.slice A n c, .string pt])) ⟨k, .slice A n c, .slice A' m c', pt, ph⟩ s (if (textB s && inB l s.size && (emB pt || textOfB pt s)) = true then some s else none) w := by
  intro hC
  have HC := Lib.hid hC
  have T0 := ta_text_int
  have T1 := ta_text_text
  have HB0 := Lib.hid (below_al (Below.refl w.heap.size w) (.cells #[.int .i64 k, .slice A n c, .slice A' m c', .string pt, .string ph] 31))
  have HI := Lib.hid (fun W (hb : Below w.heap.size w W) => isTextOf_any (.slice A n c) l pt s hp hs W (HasR.below hv hb))
  generalize (textB s && inB l s.size && (emB pt || textOfB pt s)) = b at *
  clear hv hn
  clear hC
  cases b
  all_goals
    go_enter Tryz.func9, Tryz.ntmps9
    go_wp2_with (first
      | (go_at_call 29; refine (HC.out _ HB0.out).mono ?_; rintro e w1 ⟨rfl, hb1⟩; have HB1 := Lib.hid (below_step HB0.out hb1))
      | (go_at_call 31; refine (HI.out _ (below_al HB1.out _)).mono ?_; rintro e w2 ⟨rfl, hb2⟩; have HB2 := Lib.hid (below_step (below_al HB1.out _) hb2)))
    go_ret2
    exact ⟨rfl, HB2.out⟩
set_option maxRecDepth 100000 in
set_option maxHeartbeats 2000000 in
theorem can_bool (k : Int) (A A' : Option Addr) (n c m c' : Nat) (pt ph s : ByteArray) (w : World) (o : Option ByteArray) (ho : BoolIs s o) :
    CanK (.iface 61 (.agg #[])) ⟨k, .slice A n c, .slice A' m c', pt, ph⟩ s (o) w := by
  intro hC
  have HC := Lib.hid hC
  have T0 := ta_bool_int
  have T1 := ta_bool_text
  have T2 := ta_bool_bool
  have HB0 := Lib.hid (below_al (Below.refl w.heap.size w) (.cells #[.int .i64 k, .slice A n c, .slice A' m c', .string pt, .string ph] 31))
  have HI := Lib.hid (fun w => canonBool_any s o ho w)
  clear ho
  clear hC
  cases o
  · have HI2 : Hid (∀ w, Calls Tryz.prog 32 #[.string s] w fun e w' => e = .returned (.tuple #[.string ⟨#[]⟩, .bool false]) ∧ w = w') := Lib.hid HI.out
    clear HI
    go_enter Tryz.func9, Tryz.ntmps9
    go_wp2_with (first
      | (go_at_call 29; refine (HC.out _ HB0.out).mono ?_; rintro e w1 ⟨rfl, hb1⟩; have HB1 := Lib.hid (below_step HB0.out hb1))
      | (go_at_call 32; refine (HI2.out _).mono ?_; rintro e w2 ⟨rfl, rfl⟩))
    go_ret2
    exact ⟨rfl, below_al HB1.out _⟩
  · rename_i x
    have HI2 : Hid (∀ w, Calls Tryz.prog 32 #[.string s] w fun e w' => e = .returned (.tuple #[.string x, .bool true]) ∧ w = w') := Lib.hid HI.out
    clear HI
    go_enter Tryz.func9, Tryz.ntmps9
    go_wp2_with (first
      | (go_at_call 29; refine (HC.out _ HB0.out).mono ?_; rintro e w1 ⟨rfl, hb1⟩; have HB1 := Lib.hid (below_step HB0.out hb1))
      | (go_at_call 32; refine (HI2.out _).mono ?_; rintro e w2 ⟨rfl, rfl⟩))
    go_ret2
    exact ⟨rfl, below_al HB1.out _⟩
set_option maxRecDepth 100000 in
set_option maxHeartbeats 2000000 in
theorem can_enum (k : Int) (A A' : Option Addr) (n c m c' : Nat) (pt ph s : ByteArray) (w : World) (l : List ByteArray) (hm : m = l.length) (hv : Has w (.slice A' m c') l) :
    CanK (.iface 64 (.agg #[.slice A' m c'])) ⟨k, .slice A n c, .slice A' m c', pt, ph⟩ s (if memB s l = true then some s else none) w := by
  intro hC
  have HC := Lib.hid hC
  have T0 := ta_enum_int
  have T1 := ta_enum_text
  have T2 := ta_enum_bool
  have T3 := ta_enum_enum
  have HB0 := Lib.hid (below_al (Below.refl w.heap.size w) (.cells #[.int .i64 k, .slice A n c, .slice A' m c', .string pt, .string ph] 31))
  have HI := Lib.hid (fun W (hb : Below w.heap.size w W) => containsB_any (.slice A' m c') l s W (hv.below hb))
  generalize memB s l = b at *
  clear hv hm
  clear hC
  cases b
  all_goals
    go_enter Tryz.func9, Tryz.ntmps9
    go_wp2_with (first
      | (go_at_call 29; refine (HC.out _ HB0.out).mono ?_; rintro e w1 ⟨rfl, hb1⟩; have HB1 := Lib.hid (below_step HB0.out hb1))
      | (go_at_call 33; refine (HI.out _ (below_al HB1.out _)).mono ?_; rintro e w2 ⟨rfl, rfl⟩))
    go_ret2
    exact ⟨rfl, below_al HB1.out _⟩
set_option maxRecDepth 100000 in
set_option maxHeartbeats 2000000 in
theorem can_ref (k : Int) (A A' : Option Addr) (n c m c' : Nat) (pt ph s : ByteArray) (w : World) (hs : s.size ≤ 1048576) :
    CanK (.iface 67 (.agg #[.string ph])) ⟨k, .slice A n c, .slice A' m c', pt, ph⟩ s (if (!emB s && textB s) = true then some s else none) w := by
  intro hC
  have HC := Lib.hid hC
  have T0 := ta_ref_int
  have T1 := ta_ref_text
  have T2 := ta_ref_bool
  have T3 := ta_ref_enum
  have T4 := ta_ref_ref
  have HB0 := Lib.hid (below_al (Below.refl w.heap.size w) (.cells #[.int .i64 k, .slice A n c, .slice A' m c', .string pt, .string ph] 31))
  have HI := Lib.hid (fun w => filled_any s hs w)
  generalize (!emB s && textB s) = b at *
  clear hC
  cases b
  all_goals
    go_enter Tryz.func9, Tryz.ntmps9
    go_wp2_with (first
      | (go_at_call 29; refine (HC.out _ HB0.out).mono ?_; rintro e w1 ⟨rfl, hb1⟩; have HB1 := Lib.hid (below_step HB0.out hb1))
      | (go_at_call 34; refine (HI.out _).mono ?_; rintro e w2 ⟨rfl, rfl⟩))
    go_ret2
    exact ⟨rfl, below_al HB1.out _⟩
set_option maxRecDepth 100000 in
set_option maxHeartbeats 2000000 in
theorem can_flag (k : Int) (A A' : Option Addr) (n c m c' : Nat) (pt ph s : ByteArray) (w : World)  :
    CanK (.iface 68 (.agg #[])) ⟨k, .slice A n c, .slice A' m c', pt, ph⟩ s (if emB s = true then some s else none) w := by
  intro hC
  have HC := Lib.hid hC
  have T0 := ta_flag_int
  have T1 := ta_flag_text
  have T2 := ta_flag_bool
  have T3 := ta_flag_enum
  have T4 := ta_flag_ref
  have T5 := ta_flag_flag
  have HB0 := Lib.hid (below_al (Below.refl w.heap.size w) (.cells #[.int .i64 k, .slice A n c, .slice A' m c', .string pt, .string ph] 31))
  clear hC
  rcases em_cases s with rfl | ⟨p1, p2, p3, p4⟩
  · go_enter Tryz.func9, Tryz.ntmps9
    go_wp2_with (first | (go_at_call 29; refine (HC.out _ HB0.out).mono ?_; rintro e w1 ⟨rfl, hb1⟩; have HB1 := Lib.hid (below_step HB0.out hb1)))
    go_ret2
    exact ⟨rfl, below_al HB1.out _⟩
  · have p5 : (s.toList == ([] : List UInt8)) = false := beq_eq_false_iff_ne.2 p3
    rw [show (if emB s = true then some s else none) = none by rw [p4]; rfl]
    go_enter Tryz.func9, Tryz.ntmps9
    go_wp2_with (first | (go_at_call 29; refine (HC.out _ HB0.out).mono ?_; rintro e w1 ⟨rfl, hb1⟩; have HB1 := Lib.hid (below_step HB0.out hb1)))
    go_ret2
    exact ⟨rfl, below_al HB1.out _⟩
theorem iCanon_any (v : TyV) (t : Ty) (s : ByteArray) (w : World) (h : HasTy w v t) (hc : CapN v.vn) (hs : TySz t) (hS : s.size ≤ 1048576) :
    Calls Tryz.prog 9 #[v.val, .string s] w fun e w' => e = .returned (tupS (canonT t s)) ∧ Below w.heap.size w w' := by
  have hC := fun W (hb : Below w.heap.size w W) => kindOf_any v t W (h.below hb) hc hs
  obtain ⟨A, c, h1, -⟩ := id h.rg
  obtain ⟨A', c', h2, -⟩ := id h.nm
  cases hq : isTyB t with
  | false =>
    rw [canon_no s hq]
    rw [hq] at hC
    obtain ⟨k, vr, vn, pt, ph⟩ := v
    obtain rfl : vr = _ := h1
    obtain rfl : vn = _ := h2
    exact can_nil _ _ _ _ _ _ _ _ _ _ _ hC
  | true =>
    rw [canon_yes s hq]
    rw [hq] at hC
    obtain ⟨k, rg, nm, pt, ph⟩ := t
    obtain ⟨k', vr, vn, pt', ph'⟩ := v
    obtain ⟨rfl, hr, hn, rfl, rfl⟩ := h
    obtain ⟨s1, s2, s3⟩ := hs
    dsimp only at hr hn s1 s2 s3 hC h1 h2 ⊢
    subst h1 h2
    by_cases k1 : k' = 1
    · subst k1; exact can_int _ _ _ _ _ _ _ _ _ _ _ rg rfl hS hr hC
    by_cases k2 : k' = 2
    · subst k2; exact can_text _ _ _ _ _ _ _ _ _ _ _ rg rfl s2 hS hr hC
    by_cases k3 : k' = 3
    · subst k3; exact can_bool _ _ _ _ _ _ _ _ _ _ _ _ (boolO_is s) hC
    by_cases k4 : k' = 4
    · subst k4; exact can_enum _ _ _ _ _ _ _ _ _ _ _ nm rfl hn hC
    by_cases k5 : k' = 5
    · subst k5; exact can_ref _ _ _ _ _ _ _ _ _ _ _ hS hC
    by_cases k6 : k' = 6
    · subst k6; exact can_flag _ _ _ _ _ _ _ _ _ _ _ hC
    unfold isTyB validB at hq
    simp [k1, k2, k3, k4, k5, k6] at hq
/-- the text is the canonical form of a value -/
noncomputable def isValB (t : Ty) (s : ByteArray) : Bool := match canonT t s with | some x => x.toList == s.toList | none => false
set_option maxRecDepth 100000 in
set_option maxHeartbeats 2000000 in
theorem iIsVal_any (v : TyV) (t : Ty) (s : ByteArray) (w : World) (h : HasTy w v t) (hc : CapN v.vn) (hs : TySz t) (hS : s.size ≤ 1048576) :
    Calls Tryz.prog 12 #[v.val, .string s] w fun e w' => e = .returned (.bool (isValB t s)) ∧ Below w.heap.size w w' := by
  have HC := Lib.hid (fun W (hb : Below w.heap.size w W) => iCanon_any v t s W (h.below hb) hc hs hS)
  have HV : Hid (isValB t s = match canonT t s with | some x => x.toList == s.toList | none => false) := Lib.hid rfl
  obtain ⟨A, c, h1, -⟩ := id h.rg
  obtain ⟨A', c', h2, -⟩ := id h.nm
  obtain ⟨Z, hZ⟩ : ∃ Z, Z = isValB t s := ⟨_, rfl⟩
  rw [← hZ] at HV ⊢
  generalize canonT t s = o at HC HV
  generalize t.rg.length = n at *
  generalize t.nm.length = m at *
  obtain ⟨k, vr, vn, pt, ph⟩ := v
  dsimp only at h1 h2
  subst h1 h2
  clear h hs hS hZ hc
  have HB0 := Lib.hid (below_al (Below.refl w.heap.size w) (.cells #[.int .i64 k, .slice A n c, .slice A' m c', .string pt, .string ph] 31))
  cases o with
  | none =>
    have HC2 : Hid (∀ W, Below w.heap.size w W → Calls Tryz.prog 9 #[(⟨k, .slice A n c, .slice A' m c', pt, ph⟩ : TyV).val, .string s] W fun e w' => e = .returned (.tuple #[.string ⟨#[]⟩, .bool false]) ∧ Below W.heap.size W w') := Lib.hid HC.out
    clear HC
    go_enter Tryz.func12, Tryz.ntmps12
    go_wp2_with (first
      | (go_at_call 9; refine (HC2.out _ HB0.out).mono ?_; rintro e w1 ⟨rfl, hb1⟩; have HB1 := Lib.hid (below_step HB0.out hb1)))
    go_ret
    exact ⟨ret_bool HV.out.symm, HB1.out⟩
  | some x =>
    have HC2 : Hid (∀ W, Below w.heap.size w W → Calls Tryz.prog 9 #[(⟨k, .slice A n c, .slice A' m c', pt, ph⟩ : TyV).val, .string s] W fun e w' => e = .returned (.tuple #[.string x, .bool true]) ∧ Below W.heap.size W w') := Lib.hid HC.out
    clear HC
    go_enter Tryz.func12, Tryz.ntmps12
    go_wp2_with (first
      | (go_at_call 9; refine (HC2.out _ HB0.out).mono ?_; rintro e w1 ⟨rfl, hb1⟩; have HB1 := Lib.hid (below_step HB0.out hb1)))
    go_ret
    exact ⟨ret_bool HV.out.symm, HB1.out⟩
end Go.Proofs.YtdmccopggmienaaGreat
