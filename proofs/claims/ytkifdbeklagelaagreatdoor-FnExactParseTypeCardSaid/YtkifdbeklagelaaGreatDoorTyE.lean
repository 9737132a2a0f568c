/- MERGED for a claim: TyD TyE. -/
import Derived.Test.YtkifdbeklagelaaGreatDoorTyC
import Derived.Test.YtkifdbeklagelaaGreatDoorPatAB
import Derived.WideLaws
set_option linter.unusedVariables false
set_option linter.unusedSimpArgs false
/- CHAPTER 6, impl: isValidKind, kindOf, IsType. -/
namespace Go.Proofs.YtkifdbeklagelaaGreatDoor
open Go.RowKit

/-- what a type's own fields ask -/
noncomputable def validB (t : Ty) : Bool :=
  if t.k = 1 then areB t.rg
  else if t.k = 2 then (areB t.rg && loB t.rg) && (emB t.pt || (patS t.pt.data.toList).isSome)
  else if t.k = 3 then true
  else if t.k = 4 then enumB t.nm
  else if t.k = 5 then !emB t.ph && textB t.ph
  else decide (t.k = 6)
def restT (t : Ty) : Ty :=
  if t.k = 1 then { t with rg := [] }
  else if t.k = 2 then { t with rg := [], pt := ⟨#[]⟩ }
  else if t.k = 4 then { t with nm := [] }
  else if t.k = 5 then { t with ph := ⟨#[]⟩ }
  else t
/-- a type of chapter 6 -/
noncomputable def isTyB (t : Ty) : Bool := bareB (restT t) && validB t
theorem hasG_nil' (w : World) : HasG w (.slice none 0 0) [] := ⟨none, 0, rfl, by simp, fun i hi => absurd hi (by simp)⟩
theorem HasTy.rest {w : World} {v : TyV} {t : Ty} (h : HasTy w v t) : HasTy w (restV v) (restT t) := by
  obtain ⟨k, rg, nm, pt, ph⟩ := t
  obtain ⟨k', vr, vn, pt', ph'⟩ := v
  obtain ⟨rfl, hr, hn, rfl, rfl⟩ := h
  unfold restV restT
  dsimp only at hr hn ⊢
  split
  · exact ⟨rfl, hasG_nil' w, hn, rfl, rfl⟩
  split
  · exact ⟨rfl, hasG_nil' w, hn, rfl, rfl⟩
  split
  · exact ⟨rfl, hr, has_nil w, rfl, rfl⟩
  split
  · exact ⟨rfl, hr, hn, rfl, rfl⟩
  · exact ⟨rfl, hr, hn, rfl, rfl⟩
/-- the sizes that a type's texts have -/
def TySz (t : Ty) : Prop := (∀ s ∈ t.nm, s.size ≤ 1048576) ∧ t.pt.size ≤ 1048576 ∧ t.ph.size ≤ 1048576
/- what the tests of a type switch answer -/
theorem ta_int_int (v : Value) (w : World) : (Instr.typeAssert (.iface 155 v) 20 155 true).run Tryz.prog w = .ok (.tuple #[v, .bool true]) w := by kernel_rfl
theorem ta_int_text (v : Value) (w : World) : (Instr.typeAssert (.iface 155 v) 20 157 true).run Tryz.prog w = .ok (.tuple #[.agg #[.slice none 0 0, .string ⟨#[]⟩], .bool false]) w := by kernel_rfl
theorem ta_int_enum (v : Value) (w : World) : (Instr.typeAssert (.iface 155 v) 20 161 true).run Tryz.prog w = .ok (.tuple #[.agg #[.slice none 0 0], .bool false]) w := by kernel_rfl
theorem ta_int_ref (v : Value) (w : World) : (Instr.typeAssert (.iface 155 v) 20 163 true).run Tryz.prog w = .ok (.tuple #[.agg #[.string ⟨#[]⟩], .bool false]) w := by kernel_rfl
theorem ta_int_bool (v : Value) (w : World) : (Instr.typeAssert (.iface 155 v) 20 159 true).run Tryz.prog w = .ok (.tuple #[.agg #[], .bool false]) w := by kernel_rfl
theorem ta_int_flag (v : Value) (w : World) : (Instr.typeAssert (.iface 155 v) 20 164 true).run Tryz.prog w = .ok (.tuple #[.agg #[], .bool false]) w := by kernel_rfl
theorem ta_text_int (v : Value) (w : World) : (Instr.typeAssert (.iface 157 v) 20 155 true).run Tryz.prog w = .ok (.tuple #[.agg #[.slice none 0 0], .bool false]) w := by kernel_rfl
theorem ta_text_text (v : Value) (w : World) : (Instr.typeAssert (.iface 157 v) 20 157 true).run Tryz.prog w = .ok (.tuple #[v, .bool true]) w := by kernel_rfl
theorem ta_text_enum (v : Value) (w : World) : (Instr.typeAssert (.iface 157 v) 20 161 true).run Tryz.prog w = .ok (.tuple #[.agg #[.slice none 0 0], .bool false]) w := by kernel_rfl
theorem ta_text_ref (v : Value) (w : World) : (Instr.typeAssert (.iface 157 v) 20 163 true).run Tryz.prog w = .ok (.tuple #[.agg #[.string ⟨#[]⟩], .bool false]) w := by kernel_rfl
theorem ta_text_bool (v : Value) (w : World) : (Instr.typeAssert (.iface 157 v) 20 159 true).run Tryz.prog w = .ok (.tuple #[.agg #[], .bool false]) w := by kernel_rfl
theorem ta_text_flag (v : Value) (w : World) : (Instr.typeAssert (.iface 157 v) 20 164 true).run Tryz.prog w = .ok (.tuple #[.agg #[], .bool false]) w := by kernel_rfl
theorem ta_enum_int (v : Value) (w : World) : (Instr.typeAssert (.iface 161 v) 20 155 true).run Tryz.prog w = .ok (.tuple #[.agg #[.slice none 0 0], .bool false]) w := by kernel_rfl
theorem ta_enum_text (v : Value) (w : World) : (Instr.typeAssert (.iface 161 v) 20 157 true).run Tryz.prog w = .ok (.tuple #[.agg #[.slice none 0 0, .string ⟨#[]⟩], .bool false]) w := by kernel_rfl
theorem ta_enum_enum (v : Value) (w : World) : (Instr.typeAssert (.iface 161 v) 20 161 true).run Tryz.prog w = .ok (.tuple #[v, .bool true]) w := by kernel_rfl
theorem ta_enum_ref (v : Value) (w : World) : (Instr.typeAssert (.iface 161 v) 20 163 true).run Tryz.prog w = .ok (.tuple #[.agg #[.string ⟨#[]⟩], .bool false]) w := by kernel_rfl
theorem ta_enum_bool (v : Value) (w : World) : (Instr.typeAssert (.iface 161 v) 20 159 true).run Tryz.prog w = .ok (.tuple #[.agg #[], .bool false]) w := by kernel_rfl
theorem ta_enum_flag (v : Value) (w : World) : (Instr.typeAssert (.iface 161 v) 20 164 true).run Tryz.prog w = .ok (.tuple #[.agg #[], .bool false]) w := by kernel_rfl
theorem ta_ref_int (v : Value) (w : World) : (Instr.typeAssert (.iface 163 v) 20 155 true).run Tryz.prog w = .ok (.tuple #[.agg #[.slice none 0 0], .bool false]) w := by kernel_rfl
theorem ta_ref_text (v : Value) (w : World) : (Instr.typeAssert (.iface 163 v) 20 157 true).run Tryz.prog w = .ok (.tuple #[.agg #[.slice none 0 0, .string ⟨#[]⟩], .bool false]) w := by kernel_rfl
theorem ta_ref_enum (v : Value) (w : World) : (Instr.typeAssert (.iface 163 v) 20 161 true).run Tryz.prog w = .ok (.tuple #[.agg #[.slice none 0 0], .bool false]) w := by kernel_rfl
theorem ta_ref_ref (v : Value) (w : World) : (Instr.typeAssert (.iface 163 v) 20 163 true).run Tryz.prog w = .ok (.tuple #[v, .bool true]) w := by kernel_rfl
theorem ta_ref_bool (v : Value) (w : World) : (Instr.typeAssert (.iface 163 v) 20 159 true).run Tryz.prog w = .ok (.tuple #[.agg #[], .bool false]) w := by kernel_rfl
theorem ta_ref_flag (v : Value) (w : World) : (Instr.typeAssert (.iface 163 v) 20 164 true).run Tryz.prog w = .ok (.tuple #[.agg #[], .bool false]) w := by kernel_rfl
theorem ta_bool_int (v : Value) (w : World) : (Instr.typeAssert (.iface 159 v) 20 155 true).run Tryz.prog w = .ok (.tuple #[.agg #[.slice none 0 0], .bool false]) w := by kernel_rfl
theorem ta_bool_text (v : Value) (w : World) : (Instr.typeAssert (.iface 159 v) 20 157 true).run Tryz.prog w = .ok (.tuple #[.agg #[.slice none 0 0, .string ⟨#[]⟩], .bool false]) w := by kernel_rfl
theorem ta_bool_enum (v : Value) (w : World) : (Instr.typeAssert (.iface 159 v) 20 161 true).run Tryz.prog w = .ok (.tuple #[.agg #[.slice none 0 0], .bool false]) w := by kernel_rfl
theorem ta_bool_ref (v : Value) (w : World) : (Instr.typeAssert (.iface 159 v) 20 163 true).run Tryz.prog w = .ok (.tuple #[.agg #[.string ⟨#[]⟩], .bool false]) w := by kernel_rfl
theorem ta_bool_bool (v : Value) (w : World) : (Instr.typeAssert (.iface 159 v) 20 159 true).run Tryz.prog w = .ok (.tuple #[v, .bool true]) w := by kernel_rfl
theorem ta_bool_flag (v : Value) (w : World) : (Instr.typeAssert (.iface 159 v) 20 164 true).run Tryz.prog w = .ok (.tuple #[.agg #[], .bool false]) w := by kernel_rfl
theorem ta_flag_int (v : Value) (w : World) : (Instr.typeAssert (.iface 164 v) 20 155 true).run Tryz.prog w = .ok (.tuple #[.agg #[.slice none 0 0], .bool false]) w := by kernel_rfl
theorem ta_flag_text (v : Value) (w : World) : (Instr.typeAssert (.iface 164 v) 20 157 true).run Tryz.prog w = .ok (.tuple #[.agg #[.slice none 0 0, .string ⟨#[]⟩], .bool false]) w := by kernel_rfl
theorem ta_flag_enum (v : Value) (w : World) : (Instr.typeAssert (.iface 164 v) 20 161 true).run Tryz.prog w = .ok (.tuple #[.agg #[.slice none 0 0], .bool false]) w := by kernel_rfl
theorem ta_flag_ref (v : Value) (w : World) : (Instr.typeAssert (.iface 164 v) 20 163 true).run Tryz.prog w = .ok (.tuple #[.agg #[.string ⟨#[]⟩], .bool false]) w := by kernel_rfl
theorem ta_flag_bool (v : Value) (w : World) : (Instr.typeAssert (.iface 164 v) 20 159 true).run Tryz.prog w = .ok (.tuple #[.agg #[], .bool false]) w := by kernel_rfl
theorem ta_flag_flag (v : Value) (w : World) : (Instr.typeAssert (.iface 164 v) 20 164 true).run Tryz.prog w = .ok (.tuple #[v, .bool true]) w := by kernel_rfl
theorem ta_nil_int (w : World) : (Instr.typeAssert .nilIface 20 155 true).run Tryz.prog w = .ok (.tuple #[.agg #[.slice none 0 0], .bool false]) w := by kernel_rfl
theorem ta_nil_text (w : World) : (Instr.typeAssert .nilIface 20 157 true).run Tryz.prog w = .ok (.tuple #[.agg #[.slice none 0 0, .string ⟨#[]⟩], .bool false]) w := by kernel_rfl
theorem ta_nil_enum (w : World) : (Instr.typeAssert .nilIface 20 161 true).run Tryz.prog w = .ok (.tuple #[.agg #[.slice none 0 0], .bool false]) w := by kernel_rfl
theorem ta_nil_ref (w : World) : (Instr.typeAssert .nilIface 20 163 true).run Tryz.prog w = .ok (.tuple #[.agg #[.string ⟨#[]⟩], .bool false]) w := by kernel_rfl
theorem ta_nil_bool (w : World) : (Instr.typeAssert .nilIface 20 159 true).run Tryz.prog w = .ok (.tuple #[.agg #[], .bool false]) w := by kernel_rfl
theorem ta_nil_flag (w : World) : (Instr.typeAssert .nilIface 20 164 true).run Tryz.prog w = .ok (.tuple #[.agg #[], .bool false]) w := by kernel_rfl
set_option maxRecDepth 100000 in
set_option maxHeartbeats 2000000 in
theorem valid_1 (A : Option Addr) (n c : Nat) (rg : List Rg) (w : World) (h : HasG w (.slice A n c) rg) :
    Calls Tryz.prog 91 #[.iface 155 (.agg #[.slice A n c])] w fun e w' => e = .returned (.bool (areB rg)) ∧ Below w.heap.size w w' := by
  have Tint := ta_int_int
  have hb0 := below_al (Below.refl w.heap.size w) (.cells #[.slice A n c] 155)
  have HC := Lib.hid (iAre_any _ rg _ (h.below hb0))
  generalize areB rg = b at HC ⊢
  clear h
  go_enter Tryz.func91, Tryz.ntmps91
  go_wp2_with (go_at_call 124; refine (HC.out).mono ?_; rintro e w' ⟨rfl, hb⟩)
  go_ret
  exact ⟨rfl, below_step hb0 hb⟩
set_option maxRecDepth 100000 in
set_option maxHeartbeats 2000000 in
theorem valid_2 (A : Option Addr) (n c : Nat) (rg : List Rg) (pt : ByteArray) (hs : pt.size ≤ 1048576) (w : World) (h : HasG w (.slice A n c) rg) :
    Calls Tryz.prog 91 #[.iface 157 (.agg #[.slice A n c, .string pt])] w fun e w' => e = .returned (.bool ((areB rg && loB rg) && (emB pt || (patS pt.data.toList).isSome))) ∧ Below w.heap.size w w' := by
  have Tint := ta_text_int
  have Ttext := ta_text_text
  have hb0 := below_al (Below.refl w.heap.size w) (.cells #[.slice A n c, .string pt] 157)
  have HC := Lib.hid (areLen_any _ rg _ (h.below hb0))
  have HP := Lib.hid (fun w => iIs_any pt (by unfold maxLen; omega) w)
  have HK : Hid (∀ W, Below (w.alloc (.cells #[.slice A n c, .string pt] 157)).heap.size (w.alloc (.cells #[.slice A n c, .string pt] 157)) W → W.cell? ⟨w.heap.size, 1, none⟩ = some (.string pt)) := Lib.hid fun W hb => by
    rw [hb.cell (by simp)]
    rw [cell_of_row _ _ 1 _ _ _ (heap_alloc_new w _)]; rfl
  generalize (areB rg && loB rg) = b at HC ⊢
  generalize (patS pt.data.toList).isSome = q at HP ⊢
  clear h
  cases b with
  | false =>
    go_enter Tryz.func91, Tryz.ntmps91
    go_wp2_with (first | (go_at_call 125; refine (HC.out).mono ?_; rintro e w' ⟨rfl, hb⟩))
    go_ret
    exact ⟨rfl, below_step hb0 hb⟩
  | true =>
    rcases em_cases pt with rfl | ⟨h1, h2, h3, h4⟩
    · go_enter Tryz.func91, Tryz.ntmps91
      go_wp2_with (first | (go_at_call 125; refine (HC.out).mono ?_; rintro e w' ⟨rfl, hb⟩; have c1 := HK.out _ hb))
      go_ret
      exact ⟨rfl, below_step hb0 hb⟩
    · go_enter Tryz.func91, Tryz.ntmps91
      go_wp2_with (first | (go_at_call 125; refine (HC.out).mono ?_; rintro e w' ⟨rfl, hb⟩; have c1 := HK.out _ hb) | (go_at_call 126; refine (HP.out _).mono ?_; rintro e w2 ⟨rfl, hb2⟩))
      go_ret
      exact ⟨ret_bool (by rw [h4]; rfl), below_step (below_step hb0 hb) hb2⟩
set_option maxRecDepth 100000 in
theorem valid_3 (w : World) :
    Calls Tryz.prog 91 #[.iface 159 (.agg #[])] w fun e w' => e = .returned (.bool true) ∧ Below w.heap.size w w' := by
  have Tint := ta_bool_int
  have Ttext := ta_bool_text
  have Tenum := ta_bool_enum
  have Tref := ta_bool_ref
  have Tbool := ta_bool_bool
  have Tflag := ta_bool_flag
  go_enter Tryz.func91, Tryz.ntmps91
  go_wp2
  go_ret
  exact ⟨rfl, Below.refl _ _⟩
set_option maxRecDepth 100000 in
set_option maxHeartbeats 2000000 in
theorem valid_4 (A : Option Addr) (n c : Nat) (nm : List ByteArray) (w : World) (h : Has w (.slice A n c) nm) (hc : CapN (.slice A n c)) (hs : ∀ s ∈ nm, s.size ≤ 1048576) :
    Calls Tryz.prog 91 #[.iface 161 (.agg #[.slice A n c])] w fun e w' => e = .returned (.bool (enumB nm)) ∧ Below w.heap.size w w' := by
  have Tint := ta_enum_int
  have Ttext := ta_enum_text
  have Tenum := ta_enum_enum
  have hb0 := below_al (Below.refl w.heap.size w) (.cells #[.slice A n c] 161)
  have HC := Lib.hid (enum_any _ nm _ (h.below hb0) hc hs)
  generalize enumB nm = b at HC ⊢
  clear h hc hs
  go_enter Tryz.func91, Tryz.ntmps91
  go_wp2_with (go_at_call 127; refine (HC.out).mono ?_; rintro e w' ⟨rfl, rfl⟩)
  go_ret
  exact ⟨rfl, hb0⟩
set_option maxRecDepth 100000 in
set_option maxHeartbeats 2000000 in
theorem valid_5 (ph : ByteArray) (hs : ph.size ≤ 1048576) (w : World) :
    Calls Tryz.prog 91 #[.iface 163 (.agg #[.string ph])] w fun e w' => e = .returned (.bool (!emB ph && textB ph)) ∧ Below w.heap.size w w' := by
  have Tint := ta_ref_int
  have Ttext := ta_ref_text
  have Tenum := ta_ref_enum
  have Tref := ta_ref_ref
  have hb0 := below_al (Below.refl w.heap.size w) (.cells #[.string ph] 163)
  have HC := Lib.hid (fun w => filled_any ph hs w)
  generalize (!emB ph && textB ph) = b at HC ⊢
  clear hs
  go_enter Tryz.func91, Tryz.ntmps91
  go_wp2_with (go_at_call 128; refine (HC.out _).mono ?_; rintro e w' ⟨rfl, rfl⟩)
  go_ret
  exact ⟨rfl, hb0⟩
set_option maxRecDepth 100000 in
theorem valid_6 (w : World) :
    Calls Tryz.prog 91 #[.iface 164 (.agg #[])] w fun e w' => e = .returned (.bool true) ∧ Below w.heap.size w w' := by
  have Tint := ta_flag_int
  have Ttext := ta_flag_text
  have Tenum := ta_flag_enum
  have Tref := ta_flag_ref
  have Tbool := ta_flag_bool
  have Tflag := ta_flag_flag
  go_enter Tryz.func91, Tryz.ntmps91
  go_wp2
  go_ret
  exact ⟨rfl, Below.refl _ _⟩
set_option maxRecDepth 100000 in
theorem valid_other (w : World) :
    Calls Tryz.prog 91 #[.nilIface] w fun e w' => e = .returned (.bool false) ∧ Below w.heap.size w w' := by
  have Tint := ta_nil_int
  have Ttext := ta_nil_text
  have Tenum := ta_nil_enum
  have Tref := ta_nil_ref
  have Tbool := ta_nil_bool
  have Tflag := ta_nil_flag
  go_enter Tryz.func91, Tryz.ntmps91
  go_wp2
  go_ret
  exact ⟨rfl, Below.refl _ _⟩
end Go.Proofs.YtkifdbeklagelaaGreatDoor

/- CHAPTER 6, impl: kindOf, IsType. -/
namespace Go.Proofs.YtkifdbeklagelaaGreatDoor
open Go.RowKit

theorem valid_any (v : TyV) (t : Ty) (A A' : Option Addr) (n c m c' : Nat) (h1 : v.vr = .slice A n c) (h2 : v.vn = .slice A' m c') (w : World) (h : HasTy w v t) (hc : CapN v.vn) (hs : TySz t) :
    Calls Tryz.prog 91 #[kindV v] w fun e w' => e = .returned (.bool (validB t)) ∧ Below w.heap.size w w' := by
  obtain ⟨k', rg, nm, pt', ph'⟩ := t
  obtain ⟨k, vr, vn, pt, ph⟩ := v
  obtain ⟨rfl, hr, hn, rfl, rfl⟩ := h
  obtain rfl : vr = _ := h1
  obtain rfl : vn = _ := h2
  obtain ⟨s1, s2, s3⟩ := hs
  dsimp only at *
  by_cases k1 : k = 1
  · subst k1; exact valid_1 A n c rg w hr
  by_cases k2 : k = 2
  · subst k2; exact valid_2 A n c rg pt s2 w hr
  by_cases k3 : k = 3
  · subst k3; exact valid_3 w
  by_cases k4 : k = 4
  · subst k4; exact valid_4 A' m c' nm w hn hc s1
  by_cases k5 : k = 5
  · subst k5; exact valid_5 ph s3 w
  by_cases k6 : k = 6
  · subst k6; exact valid_6 w
  have := valid_other w
  rw [show kindV ⟨k, .slice A n c, .slice A' m c', pt, ph⟩ = .nilIface by unfold kindV; simp only [k1, k2, k3, k4, k5, k6, if_false], show validB ⟨k, rg, nm, pt, ph⟩ = false by unfold validB; simp [k1, k2, k3, k4, k5, k6]]
  exact this
set_option maxRecDepth 100000 in
set_option maxHeartbeats 2000000 in
theorem kindOf_any (v : TyV) (t : Ty) (w : World) (h : HasTy w v t) (hc : CapN v.vn) (hs : TySz t) :
    Calls Tryz.prog 59 #[v.val] w fun e w' => e = .returned (if isTyB t = true then kindV v else .nilIface) ∧ Below w.heap.size w w' := by
  obtain ⟨A, c, h1, -⟩ := id h.rg
  obtain ⟨A', c', h2, -⟩ := id h.nm
  have HD := Lib.hid (fun W => divide_any v A A' _ c _ c' h1 h2 W)
  have HF := Lib.hid (fun W (hb : Below w.heap.size w W) => fields_any (restV v) (restT t) W ((h.below hb).rest))
  have HV := Lib.hid (fun W (hb : Below w.heap.size w W) => valid_any v t A A' _ c _ c' h1 h2 W (h.below hb) hc hs)
  obtain ⟨Z, hZ⟩ : ∃ Z, Z = (if isTyB t = true then kindV v else .nilIface) := ⟨_, rfl⟩
  have HZ : Hid (Z = if (bareB (restT t) && validB t) = true then kindV v else .nilIface) := Lib.hid hZ
  rw [← hZ]
  clear hZ
  obtain ⟨A2, c2, e1, -⟩ := id h.rest.rg
  obtain ⟨A3, c3, e2, -⟩ := id h.rest.nm
  clear h hc hs
  obtain ⟨k, vr, vn, pt, ph⟩ := v
  obtain rfl : vr = _ := h1
  obtain rfl : vn = _ := h2
  generalize restV ⟨k, .slice A t.rg.length c, .slice A' t.nm.length c', pt, ph⟩ = r at HD HF e1 e2
  generalize kindV ⟨k, .slice A t.rg.length c, .slice A' t.nm.length c', pt, ph⟩ = K at HD HV HZ
  obtain ⟨rk, rr, rn, rp, rh⟩ := r
  obtain rfl : rr = _ := e1
  obtain rfl : rn = _ := e2
  generalize t.rg.length = n at *
  generalize t.nm.length = m at *
  generalize (restT t).rg.length = n2 at *
  generalize (restT t).nm.length = m2 at *
  generalize bareB (restT t) = b at HF HZ
  generalize validB t = q at HV HZ
  have HB0 := Lib.hid (Below.refl w.heap.size w)
  have walk1 : b = false → Calls Tryz.prog 59 #[(⟨k, .slice A n c, .slice A' m c', pt, ph⟩ : TyV).val] w fun e w' => e = .returned Z ∧ Below w.heap.size w w' := by
    rintro rfl
    obtain rfl : Z = .nilIface := HZ.out
    clear HV
    go_enter Tryz.func59, Tryz.ntmps59
    go_wp2_with fail
    refine (HD.out _).mono ?_
    rintro e w1 ⟨rfl, hb1⟩
    have HB1 := Lib.hid (below_step (below_al HB0.out _) hb1)
    clear hb1
    go_wp2_with fail
    refine (HF.out _ (below_al HB1.out _)).mono ?_
    rintro e w2 ⟨rfl, hb2⟩
    have HB2 := below_step (below_al HB1.out _) hb2
    go_wp2
    go_ret
    exact ⟨rfl, HB2⟩
  have walk2 : b = true → Calls Tryz.prog 59 #[(⟨k, .slice A n c, .slice A' m c', pt, ph⟩ : TyV).val] w fun e w' => e = .returned Z ∧ Below w.heap.size w w' := by
    rintro rfl
    cases q
    · obtain rfl : Z = .nilIface := HZ.out
      go_enter Tryz.func59, Tryz.ntmps59
      go_wp2_with fail
      refine (HD.out _).mono ?_
      rintro e w1 ⟨rfl, hb1⟩
      have HB1 := Lib.hid (below_step (below_al HB0.out _) hb1)
      clear hb1
      go_wp2_with fail
      refine (HF.out _ (below_al HB1.out _)).mono ?_
      rintro e w2 ⟨rfl, hb2⟩
      have HB2 := Lib.hid (below_step (below_al HB1.out _) hb2)
      clear hb2
      go_wp2_with fail
      refine (HV.out _ HB2.out).mono ?_
      rintro e w3 ⟨rfl, hb3⟩
      have HB3 := below_step HB2.out hb3
      go_wp2
      go_ret
      exact ⟨rfl, HB3⟩
    · obtain rfl : Z = K := HZ.out
      go_enter Tryz.func59, Tryz.ntmps59
      go_wp2_with fail
      refine (HD.out _).mono ?_
      rintro e w1 ⟨rfl, hb1⟩
      have HB1 := Lib.hid (below_step (below_al HB0.out _) hb1)
      clear hb1
      go_wp2_with fail
      refine (HF.out _ (below_al HB1.out _)).mono ?_
      rintro e w2 ⟨rfl, hb2⟩
      have HB2 := Lib.hid (below_step (below_al HB1.out _) hb2)
      clear hb2
      go_wp2_with fail
      refine (HV.out _ HB2.out).mono ?_
      rintro e w3 ⟨rfl, hb3⟩
      have HB3 := below_step HB2.out hb3
      go_wp2
      go_ret
      exact ⟨rfl, HB3⟩
  cases b
  · exact walk1 rfl
  · exact walk2 rfl
theorem kindV_held {v : TyV} {t : Ty} (hk : v.k = t.k) (h : isTyB t = true) : ∃ T u, kindV v = .iface T u := by
  have h6 : validB t = true := by unfold isTyB at h; revert h; cases validB t <;> simp
  unfold kindV
  split; exact ⟨_, _, rfl⟩
  split; exact ⟨_, _, rfl⟩
  split; exact ⟨_, _, rfl⟩
  split; exact ⟨_, _, rfl⟩
  split; exact ⟨_, _, rfl⟩
  split; exact ⟨_, _, rfl⟩
  rename_i k1 k2 k3 k4 k5 k6
  rw [hk] at k1 k2 k3 k4 k5 k6
  unfold validB at h6
  simp [k1, k2, k3, k4, k5, k6] at h6
set_option maxRecDepth 100000 in
set_option maxHeartbeats 2000000 in
theorem iIsTy_any (v : TyV) (t : Ty) (w : World) (h : HasTy w v t) (hc : CapN v.vn) (hs : TySz t) :
    Calls Tryz.prog 27 #[v.val] w fun e w' => e = .returned (.bool (isTyB t)) ∧ Below w.heap.size w w' := by
  obtain ⟨A, c, h1, -⟩ := id h.rg
  obtain ⟨A', c', h2, -⟩ := id h.nm
  have HC := Lib.hid (fun W (hb : Below w.heap.size w W) => kindOf_any v t W (h.below hb) hc hs)
  have HK := Lib.hid (fun hq => kindV_held (v := v) (t := t) h.k hq)
  have HB0 := Lib.hid (Below.refl w.heap.size w)
  clear h hc hs
  obtain ⟨k, vr, vn, pt, ph⟩ := v
  obtain rfl : vr = _ := h1
  obtain rfl : vn = _ := h2
  generalize kindV ⟨k, .slice A t.rg.length c, .slice A' t.nm.length c', pt, ph⟩ = K at HC HK
  generalize isTyB t = q at HC HK ⊢
  generalize t.rg.length = n at *
  generalize t.nm.length = m at *
  cases q
  · go_enter Tryz.func27, Tryz.ntmps27
    go_wp2_with fail
    refine (HC.out _ (below_al HB0.out _)).mono ?_
    rintro e w1 ⟨rfl, hb1⟩
    have HB1 := below_step (below_al HB0.out _) hb1
    go_wp2
    go_ret
    exact ⟨rfl, HB1⟩
  · obtain ⟨T, u, rfl⟩ := HK.out rfl
    clear HK
    go_enter Tryz.func27, Tryz.ntmps27
    go_wp2_with fail
    refine (HC.out _ (below_al HB0.out _)).mono ?_
    rintro e w1 ⟨rfl, hb1⟩
    have HB1 := below_step (below_al HB0.out _) hb1
    go_wp2
    go_ret
    exact ⟨rfl, HB1⟩
end Go.Proofs.YtkifdbeklagelaaGreatDoor
