/- CHAPTER 6, impl: divideType. -/
import Derived.Test.YtdalobhomlfpiaaTyB
import Derived.RegionTactic
import Derived.ChangeAlike
import Derived.BigRegion
namespace Go.Proofs.Ytdalobhomlfpiaa
open Go.RowKit

/-- what is left of a type -/
def restV (v : TyV) : TyV :=
  if v.k = 1 then { v with vr := .slice none 0 0 }
  else if v.k = 2 then { v with vr := .slice none 0 0, pt := ⟨#[]⟩ }
  else if v.k = 4 then { v with vn := .slice none 0 0 }
  else if v.k = 5 then { v with ph := ⟨#[]⟩ }
  else v
/-- the type as the type of its kind -/
def kindV (v : TyV) : Value :=
  if v.k = 1 then .iface 111 (.agg #[v.vr])
  else if v.k = 2 then .iface 113 (.agg #[v.vr, .string v.pt])
  else if v.k = 3 then .iface 115 (.agg #[])
  else if v.k = 4 then .iface 117 (.agg #[v.vn])
  else if v.k = 5 then .iface 119 (.agg #[.string v.ph])
  else if v.k = 6 then .iface 120 (.agg #[])
  else .nilIface
set_option maxRecDepth 100000 in
set_option maxHeartbeats 2000000 in
theorem divide_1 (A A' : Option Addr) (n c m c' : Nat) (pt ph : ByteArray) (w : World) :
    Calls Try.prog 58 #[(⟨1, .slice A n c, .slice A' m c', pt, ph⟩ : TyV).val] w fun e w' => e = .returned (.tuple #[.iface 111 (.agg #[.slice A n c]), (⟨1, .slice none 0 0, .slice A' m c', pt, ph⟩ : TyV).val]) ∧ Below w.heap.size w w' := by
  have HB0 := below_al (below_al (below_al (Below.refl w.heap.size w) (.cells #[.int .i64 1, .slice A n c, .slice A' m c', .string pt, .string ph] 47)) (.cells #[.int .i64 1, .slice none 0 0, .slice A' m c', .string pt, .string ph] 47)) (.cells #[.int .i64 1, .slice none 0 0, .slice A' m c', .string pt, .string ph] 47)
  go_enter Try.func58, Try.ntmps58
  go_wp2
  go_region
  go_wp2
  refine bodyPost_ret (v := .tuple #[.iface 111 (.agg #[.slice A n c]), (⟨1, .slice none 0 0, .slice A' m c', pt, ph⟩ : TyV).val]) (by simp [results, Try.results58, go_sem]) rfl ?_
  exact ⟨rfl, below_drewN HB0 1⟩
set_option maxRecDepth 100000 in
set_option maxHeartbeats 2000000 in
theorem divide_2 (A A' : Option Addr) (n c m c' : Nat) (pt ph : ByteArray) (w : World) :
    Calls Try.prog 58 #[(⟨2, .slice A n c, .slice A' m c', pt, ph⟩ : TyV).val] w fun e w' => e = .returned (.tuple #[.iface 113 (.agg #[.slice A n c, .string pt]), (⟨2, .slice none 0 0, .slice A' m c', ⟨#[]⟩, ph⟩ : TyV).val]) ∧ Below w.heap.size w w' := by
  have HB0 := below_al (below_al (below_al (Below.refl w.heap.size w) (.cells #[.int .i64 2, .slice A n c, .slice A' m c', .string pt, .string ph] 47)) (.cells #[.int .i64 2, .slice none 0 0, .slice A' m c', .string ⟨#[]⟩, .string ph] 47)) (.cells #[.int .i64 2, .slice none 0 0, .slice A' m c', .string ⟨#[]⟩, .string ph] 47)
  go_enter Try.func58, Try.ntmps58
  go_wp2
  go_region
  go_wp2
  refine bodyPost_ret (v := .tuple #[.iface 113 (.agg #[.slice A n c, .string pt]), (⟨2, .slice none 0 0, .slice A' m c', ⟨#[]⟩, ph⟩ : TyV).val]) (by simp [results, Try.results58, go_sem]) rfl ?_
  exact ⟨rfl, below_drewN HB0 1⟩
set_option maxRecDepth 100000 in
set_option maxHeartbeats 2000000 in
theorem divide_3 (A A' : Option Addr) (n c m c' : Nat) (pt ph : ByteArray) (w : World) :
    Calls Try.prog 58 #[(⟨3, .slice A n c, .slice A' m c', pt, ph⟩ : TyV).val] w fun e w' => e = .returned (.tuple #[.iface 115 (.agg #[]), (⟨3, .slice A n c, .slice A' m c', pt, ph⟩ : TyV).val]) ∧ Below w.heap.size w w' := by
  have HB0 := below_al (below_al (below_al (Below.refl w.heap.size w) (.cells #[.int .i64 3, .slice A n c, .slice A' m c', .string pt, .string ph] 47)) (.cells #[.int .i64 3, .slice A n c, .slice A' m c', .string pt, .string ph] 47)) (.cells #[.int .i64 3, .slice A n c, .slice A' m c', .string pt, .string ph] 47)
  go_enter Try.func58, Try.ntmps58
  go_wp2
  go_region
  go_wp2
  refine bodyPost_ret (v := .tuple #[.iface 115 (.agg #[]), (⟨3, .slice A n c, .slice A' m c', pt, ph⟩ : TyV).val]) (by simp [results, Try.results58, go_sem]) rfl ?_
  exact ⟨rfl, below_drewN HB0 1⟩
set_option maxRecDepth 100000 in
set_option maxHeartbeats 2000000 in
theorem divide_4 (A A' : Option Addr) (n c m c' : Nat) (pt ph : ByteArray) (w : World) :
    Calls Try.prog 58 #[(⟨4, .slice A n c, .slice A' m c', pt, ph⟩ : TyV).val] w fun e w' => e = .returned (.tuple #[.iface 117 (.agg #[.slice A' m c']), (⟨4, .slice A n c, .slice none 0 0, pt, ph⟩ : TyV).val]) ∧ Below w.heap.size w w' := by
  have HB0 := below_al (below_al (below_al (Below.refl w.heap.size w) (.cells #[.int .i64 4, .slice A n c, .slice A' m c', .string pt, .string ph] 47)) (.cells #[.int .i64 4, .slice A n c, .slice none 0 0, .string pt, .string ph] 47)) (.cells #[.int .i64 4, .slice A n c, .slice none 0 0, .string pt, .string ph] 47)
  go_enter Try.func58, Try.ntmps58
  go_wp2
  go_region
  go_wp2
  refine bodyPost_ret (v := .tuple #[.iface 117 (.agg #[.slice A' m c']), (⟨4, .slice A n c, .slice none 0 0, pt, ph⟩ : TyV).val]) (by simp [results, Try.results58, go_sem]) rfl ?_
  exact ⟨rfl, below_drewN HB0 1⟩
set_option maxRecDepth 100000 in
set_option maxHeartbeats 2000000 in
theorem divide_5 (A A' : Option Addr) (n c m c' : Nat) (pt ph : ByteArray) (w : World) :
    Calls Try.prog 58 #[(⟨5, .slice A n c, .slice A' m c', pt, ph⟩ : TyV).val] w fun e w' => e = .returned (.tuple #[.iface 119 (.agg #[.string ph]), (⟨5, .slice A n c, .slice A' m c', pt, ⟨#[]⟩⟩ : TyV).val]) ∧ Below w.heap.size w w' := by
  have HB0 := below_al (below_al (below_al (Below.refl w.heap.size w) (.cells #[.int .i64 5, .slice A n c, .slice A' m c', .string pt, .string ph] 47)) (.cells #[.int .i64 5, .slice A n c, .slice A' m c', .string pt, .string ⟨#[]⟩] 47)) (.cells #[.int .i64 5, .slice A n c, .slice A' m c', .string pt, .string ⟨#[]⟩] 47)
  go_enter Try.func58, Try.ntmps58
  go_wp2
  go_region
  go_wp2
  refine bodyPost_ret (v := .tuple #[.iface 119 (.agg #[.string ph]), (⟨5, .slice A n c, .slice A' m c', pt, ⟨#[]⟩⟩ : TyV).val]) (by simp [results, Try.results58, go_sem]) rfl ?_
  exact ⟨rfl, below_drewN HB0 1⟩
set_option maxRecDepth 100000 in
set_option maxHeartbeats 2000000 in
theorem divide_6 (A A' : Option Addr) (n c m c' : Nat) (pt ph : ByteArray) (w : World) :
    Calls Try.prog 58 #[(⟨6, .slice A n c, .slice A' m c', pt, ph⟩ : TyV).val] w fun e w' => e = .returned (.tuple #[.iface 120 (.agg #[]), (⟨6, .slice A n c, .slice A' m c', pt, ph⟩ : TyV).val]) ∧ Below w.heap.size w w' := by
  have HB0 := below_al (below_al (below_al (Below.refl w.heap.size w) (.cells #[.int .i64 6, .slice A n c, .slice A' m c', .string pt, .string ph] 47)) (.cells #[.int .i64 6, .slice A n c, .slice A' m c', .string pt, .string ph] 47)) (.cells #[.int .i64 6, .slice A n c, .slice A' m c', .string pt, .string ph] 47)
  go_enter Try.func58, Try.ntmps58
  go_wp2
  go_region
  go_wp2
  refine bodyPost_ret (v := .tuple #[.iface 120 (.agg #[]), (⟨6, .slice A n c, .slice A' m c', pt, ph⟩ : TyV).val]) (by simp [results, Try.results58, go_sem]) rfl ?_
  exact ⟨rfl, below_drewN HB0 1⟩
set_option maxRecDepth 100000 in
set_option maxHeartbeats 2000000 in
theorem divide_other (A A' : Option Addr) (n c m c' : Nat) (pt ph : ByteArray) (w : World) (k : Int) (h : k ≠ 1 ∧ k ≠ 2 ∧ k ≠ 3 ∧ k ≠ 4 ∧ k ≠ 5 ∧ k ≠ 6) :
    Calls Try.prog 58 #[(⟨k, .slice A n c, .slice A' m c', pt, ph⟩ : TyV).val] w fun e w' => e = .returned (.tuple #[.nilIface, (⟨k, .slice A n c, .slice A' m c', pt, ph⟩ : TyV).val]) ∧ Below w.heap.size w w' := by
  have HB0 := below_al (below_al (below_al (Below.refl w.heap.size w) (.cells #[.int .i64 k, .slice A n c, .slice A' m c', .string pt, .string ph] 47)) (.cells #[.int .i64 k, .slice A n c, .slice A' m c', .string pt, .string ph] 47)) (.cells #[.int .i64 k, .slice A n c, .slice A' m c', .string pt, .string ph] 47)
  obtain ⟨h1, h2, h3, h4, h5, h6⟩ := h
  have e1 : (k == 1) = false := beq_eq_false_iff_ne.2 h1
  have e2 : (k == 2) = false := beq_eq_false_iff_ne.2 h2
  have e3 : (k == 3) = false := beq_eq_false_iff_ne.2 h3
  have e4 : (k == 4) = false := beq_eq_false_iff_ne.2 h4
  have e5 : (k == 5) = false := beq_eq_false_iff_ne.2 h5
  have e6 : (k == 6) = false := beq_eq_false_iff_ne.2 h6
  go_enter Try.func58, Try.ntmps58
  go_wp2
  go_region
  go_wp2
  refine bodyPost_ret (v := .tuple #[.nilIface, (⟨k, .slice A n c, .slice A' m c', pt, ph⟩ : TyV).val]) (by simp [results, Try.results58, go_sem]) rfl ?_
  exact ⟨rfl, below_drewN HB0 1⟩
theorem divide_any (v : TyV) (A A' : Option Addr) (n c m c' : Nat) (h1 : v.vr = .slice A n c) (h2 : v.vn = .slice A' m c') (w : World) :
    Calls Try.prog 58 #[v.val] w fun e w' => e = .returned (.tuple #[kindV v, (restV v).val]) ∧ Below w.heap.size w w' := by
  obtain ⟨k, vr, vn, pt, ph⟩ := v
  obtain rfl : vr = _ := h1
  obtain rfl : vn = _ := h2
  by_cases k1 : k = 1
  · subst k1; exact divide_1 A A' n c m c' pt ph w
  by_cases k2 : k = 2
  · subst k2; exact divide_2 A A' n c m c' pt ph w
  by_cases k3 : k = 3
  · subst k3; exact divide_3 A A' n c m c' pt ph w
  by_cases k4 : k = 4
  · subst k4; exact divide_4 A A' n c m c' pt ph w
  by_cases k5 : k = 5
  · subst k5; exact divide_5 A A' n c m c' pt ph w
  by_cases k6 : k = 6
  · subst k6; exact divide_6 A A' n c m c' pt ph w
  have := divide_other A A' n c m c' pt ph w k ⟨k1, k2, k3, k4, k5, k6⟩
  rw [show kindV ⟨k, .slice A n c, .slice A' m c', pt, ph⟩ = .nilIface by unfold kindV; simp only [k1, k2, k3, k4, k5, k6, if_false], show restV ⟨k, .slice A n c, .slice A' m c', pt, ph⟩ = ⟨k, .slice A n c, .slice A' m c', pt, ph⟩ by unfold restV; simp only [k1, k2, k4, k5, if_false]]
  exact this
end Go.Proofs.Ytdalobhomlfpiaa
