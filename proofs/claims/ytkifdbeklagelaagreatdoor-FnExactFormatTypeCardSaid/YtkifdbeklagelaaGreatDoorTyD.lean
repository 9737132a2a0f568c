/- CHAPTER 6, impl: isValidKind, kindOf, IsType. -/
import Derived.Test.YtkifdbeklagelaaGreatDoorTyC
import Derived.Test.YtkifdbeklagelaaGreatDoorPatAB
import Derived.WideLaws
set_option linter.unusedVariables false
set_option linter.unusedSimpArgs false
namespace Go.Proofs.YtkifdbeklagelaaGreatDoor
open Go.RowKit

/-- what a type's own fields ask -/
noncomputable def validB (t : Ty) : Bool :=
  if t.k = 1 then areB t.rg
  else if t.k = 2 then (areB t.rg && loB t.rg) && (emB t.pt || (patS t.pt.data.toList).isSome)
  else if t.k = 3 then true
  else if t.k = 4 then enumB t.nm
  else if t.k = 5 then !emB t.ph && textB t.ph
  else decide (t.k = 6)
def restT (t : Ty) : Ty :=
  if t.k = 1 then { t with rg := [] }
  else if t.k = 2 then { t with rg := [], pt := ⟨#[]⟩ }
  else if t.k = 4 then { t with nm := [] }
  else if t.k = 5 then { t with ph := ⟨#[]⟩ }
  else t
/-- a type of chapter 6 -/
noncomputable def isTyB (t : Ty) : Bool := bareB (restT t) && validB t
theorem hasG_nil' (w : World) : HasG w (.slice none 0 0) [] := ⟨none, 0, rfl, by simp, fun i hi => absurd hi (by simp)⟩
theorem HasTy.rest {w : World} {v : TyV} {t : Ty} (h : HasTy w v t) : HasTy w (restV v) (restT t) := by
  obtain ⟨k, rg, nm, pt, ph⟩ := t
  obtain ⟨k', vr, vn, pt', ph'⟩ := v
  obtain ⟨rfl, hr, hn, rfl, rfl⟩ := h
  unfold restV restT
  dsimp only at hr hn ⊢
  split
  · exact ⟨rfl, hasG_nil' w, hn, rfl, rfl⟩
  split
  · exact ⟨rfl, hasG_nil' w, hn, rfl, rfl⟩
  split
  · exact ⟨rfl, hr, has_nil w, rfl, rfl⟩
  split
  · exact ⟨rfl, hr, hn, rfl, rfl⟩
  · exact ⟨rfl, hr, hn, rfl, rfl⟩
/-- the sizes that a type's texts have -/
def TySz (t : Ty) : Prop := (∀ s ∈ t.nm, s.size ≤ 1048576) ∧ t.pt.size ≤ 1048576 ∧ t.ph.size ≤ 1048576
/- what the tests of a type switch answer -/
theorem ta_int_int (v : Value) (w : World) : (Instr.typeAssert (.iface 155 v) 20 155 true).run Tryz.prog w = .ok (.tuple #[v, .bool true]) w := by kernel_rfl
theorem ta_int_text (v : Value) (w : World) : (Instr.typeAssert (.iface 155 v) 20 157 true).run Tryz.prog w = .ok (.tuple #[.agg #[.slice none 0 0, .string ⟨#[]⟩], .bool false]) w := by kernel_rfl
theorem ta_int_enum (v : Value) (w : World) : (Instr.typeAssert (.iface 155 v) 20 161 true).run Tryz.prog w = .ok (.tuple #[.agg #[.slice none 0 0], .bool false]) w := by kernel_rfl
theorem ta_int_ref (v : Value) (w : World) : (Instr.typeAssert (.iface 155 v) 20 163 true).run Tryz.prog w = .ok (.tuple #[.agg #[.string ⟨#[]⟩], .bool false]) w := by kernel_rfl
theorem ta_int_bool (v : Value) (w : World) : (Instr.typeAssert (.iface 155 v) 20 159 true).run Tryz.prog w = .ok (.tuple #[.agg #[], .bool false]) w := by kernel_rfl
theorem ta_int_flag (v : Value) (w : World) : (Instr.typeAssert (.iface 155 v) 20 164 true).run Tryz.prog w = .ok (.tuple #[.agg #[], .bool false]) w := by kernel_rfl
theorem ta_text_int (v : Value) (w : World) : (Instr.typeAssert (.iface 157 v) 20 155 true).run Tryz.prog w = .ok (.tuple #[.agg #[.slice none 0 0], .bool false]) w := by kernel_rfl
theorem ta_text_text (v : Value) (w : World) : (Instr.typeAssert (.iface 157 v) 20 157 true).run Tryz.prog w = .ok (.tuple #[v, .bool true]) w := by kernel_rfl
theorem ta_text_enum (v : Value) (w : World) : (Instr.typeAssert (.iface 157 v) 20 161 true).run Tryz.prog w = .ok (.tuple #[.agg #[.slice none 0 0], .bool false]) w := by kernel_rfl
theorem ta_text_ref (v : Value) (w : World) : (Instr.typeAssert (.iface 157 v) 20 163 true).run Tryz.prog w = .ok (.tuple #[.agg #[.string ⟨#[]⟩], .bool false]) w := by kernel_rfl
theorem ta_text_bool (v : Value) (w : World) : (Instr.typeAssert (.iface 157 v) 20 159 true).run Tryz.prog w = .ok (.tuple #[.agg #[], .bool false]) w := by kernel_rfl
theorem ta_text_flag (v : Value) (w : World) : (Instr.typeAssert (.iface 157 v) 20 164 true).run Tryz.prog w = .ok (.tuple #[.agg #[], .bool false]) w := by kernel_rfl
theorem ta_enum_int (v : Value) (w : World) : (Instr.typeAssert (.iface 161 v) 20 155 true).run Tryz.prog w = .ok (.tuple #[.agg #[.slice none 0 0], .bool false]) w := by kernel_rfl
theorem ta_enum_text (v : Value) (w : World) : (Instr.typeAssert (.iface 161 v) 20 157 true).run Tryz.prog w = .ok (.tuple #[.agg #[.slice none 0 0, .string ⟨#[]⟩], .bool false]) w := by kernel_rfl
theorem ta_enum_enum (v : Value) (w : World) : (Instr.typeAssert (.iface 161 v) 20 161 true).run Tryz.prog w = .ok (.tuple #[v, .bool true]) w := by kernel_rfl
theorem ta_enum_ref (v : Value) (w : World) : (Instr.typeAssert (.iface 161 v) 20 163 true).run Tryz.prog w = .ok (.tuple #[.agg #[.string ⟨#[]⟩], .bool false]) w := by kernel_rfl
theorem ta_enum_bool (v : Value) (w : World) : (Instr.typeAssert (.iface 161 v) 20 159 true).run Tryz.prog w = .ok (.tuple #[.agg #[], .bool false]) w := by kernel_rfl
theorem ta_enum_flag (v : Value) (w : World) : (Instr.typeAssert (.iface 161 v) 20 164 true).run Tryz.prog w = .ok (.tuple #[.agg #[], .bool false]) w := by kernel_rfl
theorem ta_ref_int (v : Value) (w : World) : (Instr.typeAssert (.iface 163 v) 20 155 true).run Tryz.prog w = .ok (.tuple #[.agg #[.slice none 0 0], .bool false]) w := by kernel_rfl
theorem ta_ref_text (v : Value) (w : World) : (Instr.typeAssert (.iface 163 v) 20 157 true).run Tryz.prog w = .ok (.tuple #[.agg #[.slice none 0 0, .string ⟨#[]⟩], .bool false]) w := by kernel_rfl
theorem ta_ref_enum (v : Value) (w : World) : (Instr.typeAssert (.iface 163 v) 20 161 true).run Tryz.prog w = .ok (.tuple #[.agg #[.slice none 0 0], .bool false]) w := by kernel_rfl
theorem ta_ref_ref (v : Value) (w : World) : (Instr.typeAssert (.iface 163 v) 20 163 true).run Tryz.prog w = .ok (.tuple #[v, .bool true]) w := by kernel_rfl
theorem ta_ref_bool (v : Value) (w : World) : (Instr.typeAssert (.iface 163 v) 20 159 true).run Tryz.prog w = .ok (.tuple #[.agg #[], .bool false]) w := by kernel_rfl
theorem ta_ref_flag (v : Value) (w : World) : (Instr.typeAssert (.iface 163 v) 20 164 true).run Tryz.prog w = .ok (.tuple #[.agg #[], .bool false]) w := by kernel_rfl
theorem ta_bool_int (v : Value) (w : World) : (Instr.typeAssert (.iface 159 v) 20 155 true).run Tryz.prog w = .ok (.tuple #[.agg #[.slice none 0 0], .bool false]) w := by kernel_rfl
theorem ta_bool_text (v : Value) (w : World) : (Instr.typeAssert (.iface 159 v) 20 157 true).run Tryz.prog w = .ok (.tuple #[.agg #[.slice none 0 0, .string ⟨#[]⟩], .bool false]) w := by kernel_rfl
theorem ta_bool_enum (v : Value) (w : World) : (Instr.typeAssert (.iface 159 v) 20 161 true).run Tryz.prog w = .ok (.tuple #[.agg #[.slice none 0 0], .bool false]) w := by kernel_rfl
theorem ta_bool_ref (v : Value) (w : World) : (Instr.typeAssert (.iface 159 v) 20 163 true).run Tryz.prog w = .ok (.tuple #[.agg #[.string ⟨#[]⟩], .bool false]) w := by kernel_rfl
theorem ta_bool_bool (v : Value) (w : World) : (Instr.typeAssert (.iface 159 v) 20 159 true).run Tryz.prog w = .ok (.tuple #[v, .bool true]) w := by kernel_rfl
theorem ta_bool_flag (v : Value) (w : World) : (Instr.typeAssert (.iface 159 v) 20 164 true).run Tryz.prog w = .ok (.tuple #[.agg #[], .bool false]) w := by kernel_rfl
theorem ta_flag_int (v : Value) (w : World) : (Instr.typeAssert (.iface 164 v) 20 155 true).run Tryz.prog w = .ok (.tuple #[.agg #[.slice none 0 0], .bool false]) w := by kernel_rfl
theorem ta_flag_text (v : Value) (w : World) : (Instr.typeAssert (.iface 164 v) 20 157 true).run Tryz.prog w = .ok (.tuple #[.agg #[.slice none 0 0, .string ⟨#[]⟩], .bool false]) w := by kernel_rfl
theorem ta_flag_enum (v : Value) (w : World) : (Instr.typeAssert (.iface 164 v) 20 161 true).run Tryz.prog w = .ok (.tuple #[.agg #[.slice none 0 0], .bool false]) w := by kernel_rfl
theorem ta_flag_ref (v : Value) (w : World) : (Instr.typeAssert (.iface 164 v) 20 163 true).run Tryz.prog w = .ok (.tuple #[.agg #[.string ⟨#[]⟩], .bool false]) w := by kernel_rfl
theorem ta_flag_bool (v : Value) (w : World) : (Instr.typeAssert (.iface 164 v) 20 159 true).run Tryz.prog w = .ok (.tuple #[.agg #[], .bool false]) w := by kernel_rfl
theorem ta_flag_flag (v : Value) (w : World) : (Instr.typeAssert (.iface 164 v) 20 164 true).run Tryz.prog w = .ok (.tuple #[v, .bool true]) w := by kernel_rfl
theorem ta_nil_int (w : World) : (Instr.typeAssert .nilIface 20 155 true).run Tryz.prog w = .ok (.tuple #[.agg #[.slice none 0 0], .bool false]) w := by kernel_rfl
theorem ta_nil_text (w : World) : (Instr.typeAssert .nilIface 20 157 true).run Tryz.prog w = .ok (.tuple #[.agg #[.slice none 0 0, .string ⟨#[]⟩], .bool false]) w := by kernel_rfl
theorem ta_nil_enum (w : World) : (Instr.typeAssert .nilIface 20 161 true).run Tryz.prog w = .ok (.tuple #[.agg #[.slice none 0 0], .bool false]) w := by kernel_rfl
theorem ta_nil_ref (w : World) : (Instr.typeAssert .nilIface 20 163 true).run Tryz.prog w = .ok (.tuple #[.agg #[.string ⟨#[]⟩], .bool false]) w := by kernel_rfl
theorem ta_nil_bool (w : World) : (Instr.typeAssert .nilIface 20 159 true).run Tryz.prog w = .ok (.tuple #[.agg #[], .bool false]) w := by kernel_rfl
theorem ta_nil_flag (w : World) : (Instr.typeAssert .nilIface 20 164 true).run Tryz.prog w = .ok (.tuple #[.agg #[], .bool false]) w := by kernel_rfl
set_option maxRecDepth 100000 in
set_option maxHeartbeats 2000000 in
theorem valid_1 (A : Option Addr) (n c : Nat) (rg : List Rg) (w : World) (h : HasG w (.slice A n c) rg) :
    Calls Tryz.prog 91 #[.iface 155 (.agg #[.slice A n c])] w fun e w' => e = .returned (.bool (areB rg)) ∧ Below w.heap.size w w' := by
  have Tint := ta_int_int
  have hb0 := below_al (Below.refl w.heap.size w) (.cells #[.slice A n c] 155)
  have HC := Lib.hid (iAre_any _ rg _ (h.below hb0))
  generalize areB rg = b at HC ⊢
  clear h
  go_enter Tryz.func91, Tryz.ntmps91
  go_wp2_with (go_at_call 124; refine (HC.out).mono ?_; rintro e w' ⟨rfl, hb⟩)
  go_ret
  exact ⟨rfl, below_step hb0 hb⟩
set_option maxRecDepth 100000 in
set_option maxHeartbeats 2000000 in
theorem valid_2 (A : Option Addr) (n c : Nat) (rg : List Rg) (pt : ByteArray) (hs : pt.size ≤ 1048576) (w : World) (h : HasG w (.slice A n c) rg) :
    Calls Tryz.prog 91 #[.iface 157 (.agg #[.slice A n c, .string pt])] w fun e w' => e = .returned (.bool ((areB rg && loB rg) && (emB pt || (patS pt.data.toList).isSome))) ∧ Below w.heap.size w w' := by
  have Tint := ta_text_int
  have Ttext := ta_text_text
  have hb0 := below_al (Below.refl w.heap.size w) (.cells #[.slice A n c, .string pt] 157)
  have HC := Lib.hid (areLen_any _ rg _ (h.below hb0))
  have HP := Lib.hid (fun w => iIs_any pt (by unfold maxLen; omega) w)
  have HK : Hid (∀ W, Below (w.alloc (.cells #[.slice A n c, .string pt] 157)).heap.size (w.alloc (.cells #[.slice A n c, .string pt] 157)) W → W.cell? ⟨w.heap.size, 1, none⟩ = some (.string pt)) := Lib.hid fun W hb => by
    rw [hb.cell (by simp)]
    rw [cell_of_row _ _ 1 _ _ _ (heap_alloc_new w _)]; rfl
  generalize (areB rg && loB rg) = b at HC ⊢
  generalize (patS pt.data.toList).isSome = q at HP ⊢
  clear h
  cases b with
  | false =>
    go_enter Tryz.func91, Tryz.ntmps91
    go_wp2_with (first | (go_at_call 125; refine (HC.out).mono ?_; rintro e w' ⟨rfl, hb⟩))
    go_ret
    exact ⟨rfl, below_step hb0 hb⟩
  | true =>
    rcases em_cases pt with rfl | ⟨h1, h2, h3, h4⟩
    · go_enter Tryz.func91, Tryz.ntmps91
      go_wp2_with (first | (go_at_call 125; refine (HC.out).mono ?_; rintro e w' ⟨rfl, hb⟩; have c1 := HK.out _ hb))
      go_ret
      exact ⟨rfl, below_step hb0 hb⟩
    · go_enter Tryz.func91, Tryz.ntmps91
      go_wp2_with (first | (go_at_call 125; refine (HC.out).mono ?_; rintro e w' ⟨rfl, hb⟩; have c1 := HK.out _ hb) | (go_at_call 126; refine (HP.out _).mono ?_; rintro e w2 ⟨rfl, hb2⟩))
      go_ret
      exact ⟨ret_bool (by rw [h4]; rfl), below_step (below_step hb0 hb) hb2⟩
set_option maxRecDepth 100000 in
theorem valid_3 (w : World) :
    Calls Tryz.prog 91 #[.iface 159 (.agg #[])] w fun e w' => e = .returned (.bool true) ∧ Below w.heap.size w w' := by
  have Tint := ta_bool_int
  have Ttext := ta_bool_text
  have Tenum := ta_bool_enum
  have Tref := ta_bool_ref
  have Tbool := ta_bool_bool
  have Tflag := ta_bool_flag
  go_enter Tryz.func91, Tryz.ntmps91
  go_wp2
  go_ret
  exact ⟨rfl, Below.refl _ _⟩
set_option maxRecDepth 100000 in
set_option maxHeartbeats 2000000 in
theorem valid_4 (A : Option Addr) (n c : Nat) (nm : List ByteArray) (w : World) (h : Has w (.slice A n c) nm) (hc : CapN (.slice A n c)) (hs : ∀ s ∈ nm, s.size ≤ 1048576) :
    Calls Tryz.prog 91 #[.iface 161 (.agg #[.slice A n c])] w fun e w' => e = .returned (.bool (enumB nm)) ∧ Below w.heap.size w w' := by
  have Tint := ta_enum_int
  have Ttext := ta_enum_text
  have Tenum := ta_enum_enum
  have hb0 := below_al (Below.refl w.heap.size w) (.cells #[.slice A n c] 161)
  have HC := Lib.hid (enum_any _ nm _ (h.below hb0) hc hs)
  generalize enumB nm = b at HC ⊢
  clear h hc hs
  go_enter Tryz.func91, Tryz.ntmps91
  go_wp2_with (go_at_call 127; refine (HC.out).mono ?_; rintro e w' ⟨rfl, rfl⟩)
  go_ret
  exact ⟨rfl, hb0⟩
set_option maxRecDepth 100000 in
set_option maxHeartbeats 2000000 in
theorem valid_5 (ph : ByteArray) (hs : ph.size ≤ 1048576) (w : World) :
    Calls Tryz.prog 91 #[.iface 163 (.agg #[.string ph])] w fun e w' => e = .returned (.bool (!emB ph && textB ph)) ∧ Below w.heap.size w w' := by
  have Tint := ta_ref_int
  have Ttext := ta_ref_text
  have Tenum := ta_ref_enum
  have Tref := ta_ref_ref
  have hb0 := below_al (Below.refl w.heap.size w) (.cells #[.string ph] 163)
  have HC := Lib.hid (fun w => filled_any ph hs w)
  generalize (!emB ph && textB ph) = b at HC ⊢
  clear hs
  go_enter Tryz.func91, Tryz.ntmps91
  go_wp2_with (go_at_call 128; refine (HC.out _).mono ?_; rintro e w' ⟨rfl, rfl⟩)
  go_ret
  exact ⟨rfl, hb0⟩
set_option maxRecDepth 100000 in
theorem valid_6 (w : World) :
    Calls Tryz.prog 91 #[.iface 164 (.agg #[])] w fun e w' => e = .returned (.bool true) ∧ Below w.heap.size w w' := by
  have Tint := ta_flag_int
  have Ttext := ta_flag_text
  have Tenum := ta_flag_enum
  have Tref := ta_flag_ref
  have Tbool := ta_flag_bool
  have Tflag := ta_flag_flag
  go_enter Tryz.func91, Tryz.ntmps91
  go_wp2
  go_ret
  exact ⟨rfl, Below.refl _ _⟩
set_option maxRecDepth 100000 in
theorem valid_other (w : World) :
    Calls Tryz.prog 91 #[.nilIface] w fun e w' => e = .returned (.bool false) ∧ Below w.heap.size w w' := by
  have Tint := ta_nil_int
  have Ttext := ta_nil_text
  have Tenum := ta_nil_enum
  have Tref := ta_nil_ref
  have Tbool := ta_nil_bool
  have Tflag := ta_nil_flag
  go_enter Tryz.func91, Tryz.ntmps91
  go_wp2
  go_ret
  exact ⟨rfl, Below.refl _ _⟩
end Go.Proofs.YtkifdbeklagelaaGreatDoor
