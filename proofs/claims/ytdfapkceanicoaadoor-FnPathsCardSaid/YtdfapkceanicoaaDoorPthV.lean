/- CHAPTER 7: FormatPath of both. -/
import Derived.Test.YtdfapkceanicoaaDoorPthU
set_option linter.unusedVariables false
set_option linter.unusedSimpArgs false
namespace Go.Proofs.YtdfapkceanicoaaDoor
open Go.RowKit
set_option maxRecDepth 100000

noncomputable def fmtA (p : Pth) : ByteArray := if dB (PthOk p) = true then fmtP p else ⟨#[]⟩
theorem app_nil (s : ByteArray) : s ++ ⟨#[]⟩ = s := by apply ByteArray.ext; simp
theorem nil_app (s : ByteArray) : (⟨#[]⟩ : ByteArray) ++ s = s := by apply ByteArray.ext; simp
theorem joinW_le {xs : List ByteArray} (h : ∀ x ∈ xs, x.size ≤ 16777216) (hn : xs.length ≤ 18) : (joinW xs).size ≤ 301990000 := joinW_size h hn
theorem parts_take {c k : Nat} {l : List Stp} (hz : ∀ s ∈ l, StpSz s ∧ s.ts.length ≤ 3) (hc : c ≤ 8) (hl : l.length ≤ 10) : (joinW (partsL c (l.take k))).size ≤ 301990000 :=
  joinW_le (parts_size fun s hs => hz s (List.mem_of_mem_take hs)) (by rw [partsL_len, List.length_take]; omega)
theorem join_first {pre t : ByteArray} {xs : List ByteArray} (h : t = pre ++ joinW xs) (hx : xs = []) (y : ByteArray) : t ++ y = pre ++ joinW (xs ++ [y]) := by
  subst hx
  rw [h, joinW_one, joinW_nil, app_nil]
theorem join_more {pre t : ByteArray} {xs : List ByteArray} (h : t = pre ++ joinW xs) (hx : xs ≠ []) (y : ByteArray) : t ++ ⟨#[47]⟩ ++ y = pre ++ joinW (xs ++ [y]) := by
  rw [h, joinW_snoc hx, ByteArray.append_assoc, ByteArray.append_assoc, ByteArray.append_assoc]
set_option maxHeartbeats 4000000 in
theorem iFmtP_any (v : PthV) (p : Pth) (w : World) (h : HasP7 w v p) (hsc : HasSC w v.sv p.st) (hz : PthSz p) :
    Calls Tryd.prog 8 #[v.val] w fun e w' => e = .returned (.string (fmtA p)) ∧ Below w.heap.size w w' := by
  have HV := Lib.hid (fun W (hb : Below w.heap.size w W) => iPth_any v p W (h.below hb) (hsc.below hb) hz)
  have HP := Lib.hid (fun (hok : PthOk p) W (hb : Below w.heap.size w W) => parts_any v p W (h.below hb) hok hz)
  have HJS := Lib.hid (fun (hok : PthOk p) => parts_size (c := p.ups.toNat) (pthOk_st hok hz))
  have HJN := Lib.hid (fun (hok : PthOk p) => (show (partsL p.ups.toNat p.st).length ≤ 18 by rw [partsL_len]; have := hok.1; have := hok.2.1; omega))
  obtain ⟨A, n, c, hsl⟩ : ∃ A n c, v.sv = .slice A n c := by obtain ⟨A, c, hv, _⟩ := h.st.at; exact ⟨A, _, c, hv⟩
  obtain ⟨Z, hZ⟩ : ∃ Z, Z = fmtA p := ⟨_, rfl⟩
  have hr : v.root = p.root := h.root
  obtain ⟨b, hb⟩ : ∃ b, b = dB (PthOk p) := ⟨_, rfl⟩
  rw [← hb] at HV
  rw [← hZ]
  have HF : Hid (b = false → Z = ⟨#[]⟩) := Lib.hid fun h => by rw [hZ]; unfold fmtA; rw [← hb, h]; rfl
  have HT : Hid (b = true → PthOk p ∧ Z = (if v.root = true then ⟨#[47]⟩ else ⟨#[]⟩) ++ joinW (partsL p.ups.toNat p.st)) := Lib.hid fun h => ⟨dB_true (hb.symm.trans h), by rw [hZ]; unfold fmtA; rw [← hb, if_pos h]; unfold fmtP; rw [hr]⟩
  obtain ⟨ro, up, sv⟩ := v
  dsimp only at hsl
  subst hsl
  have HB0 := Lib.hid (below_al (Below.refl w.heap.size w) (.cells #[.bool ro, .int .i64 up, .slice A n c] 26))
  have HX0 : Hid (∀ W, Below (w.alloc (.cells #[.bool ro, .int .i64 up, .slice A n c] 26)).heap.size (w.alloc (.cells #[.bool ro, .int .i64 up, .slice A n c] 26)) W → W.heap[w.heap.size]? = some (.cells #[.bool ro, .int .i64 up, .slice A n c] 26 (0, 0))) := Lib.hid fun W hb => (hb.block _ (by simp)).trans (heap_alloc_new w _)
  clear h hsc hz hr hZ hb
  cases b
  · obtain rfl := HF.out rfl
    clear HF HT
    go_enter Tryd.func8, Tryd.ntmps8
    go_wp2_with fail
    refine (HV.out _ HB0.out).mono ?_
    rintro e w1 ⟨rfl, hb1⟩
    have HB1 := Lib.hid (below_step HB0.out hb1)
    clear hb1
    go_wp2
    go_ret
    exact ⟨rfl, HB1.out⟩
  · obtain ⟨hok, rfl⟩ := HT.out rfl
    have HP := Lib.hid (HP.out hok)
    have HJS := Lib.hid (HJS.out hok)
    have HJN := Lib.hid (HJN.out hok)
    have HLN : Hid (p.ups.toNat + p.st.length = (partsL p.ups.toNat p.st).length) := Lib.hid (partsL_len _ _).symm
    generalize p.ups.toNat + p.st.length = m at HP HLN
    generalize partsL p.ups.toNat p.st = xs at *
    have hjl := joinW_le HJS.out HJN.out
    clear HF HT hok
    go_enter Tryd.func8, Tryd.ntmps8
    go_wp2_with fail
    refine (HV.out _ HB0.out).mono ?_
    rintro e w1 ⟨rfl, hb1⟩
    have HB1 := Lib.hid (below_step HB0.out hb1)
    have HBX := Lib.hid (HX0.out w1 hb1)
    have HW1 := Lib.hid hb1
    obtain ⟨b0, b1, b2⟩ := three_cells' HBX.out
    clear hb1
    go_wp2_with fail
    refine (HP.out _ HB1.out).mono ?_
    rintro e w2 ⟨g, c', rfl, hrow, hb2⟩
    have HB2 := Lib.hid (below_step HB1.out hb2)
    have HBX2 := Lib.hid ((hb2.block _ (Array.getElem?_eq_some_iff.1 HBX.out).1).trans HBX.out)
    have hJ := Tryd.strings_Join g 0 c' xs ⟨#[47]⟩ w2 (fun j x hx => by
      obtain ⟨hj, rfl⟩ := List.getElem?_eq_some_iff.1 hx
      rw [Nat.zero_add]; exact hrow.cell hj) (hrow.lt rfl).2 (by have := HJN.out; omega) (by have := hrow.cap; have := HLN.out; omega) (by have := joinW_size HJS.out HJN.out; exact Nat.le_trans this (by omega))
    rw [← HLN.out] at hJ
    have HJ : Hid (Calls Tryd.prog 22 #[.slice (some ⟨g, 0, none⟩) m c', .string ⟨#[47]⟩] w2 fun e w' => e = .returned (.string (joinW xs)) ∧ Below w2.heap.size w2 w') := Lib.hid hJ
    clear hrow hb2 b0 b1 b2 hJ
    go_wp2_with fail
    refine HJ.out.mono ?_
    rintro e w3 ⟨rfl, hb3⟩
    have HB3 := Lib.hid (below_step HB2.out hb3)
    obtain ⟨b0, b1, b2⟩ := three_cells' ((hb3.block _ (Array.getElem?_eq_some_iff.1 HBX2.out).1).trans HBX2.out)
    clear hb3
    cases ro
    · go_wp2
      go_ret
      exact ⟨by rw [nil_app]; rfl, HB3.out⟩
    · go_wp2
      go_ret
      exact ⟨rfl, HB3.out⟩
end Go.Proofs.YtdfapkceanicoaaDoor
