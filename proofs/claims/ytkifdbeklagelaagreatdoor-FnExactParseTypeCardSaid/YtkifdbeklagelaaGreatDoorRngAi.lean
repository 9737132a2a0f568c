/- CHAPTER 4: impl.AreRanges. -/
import Derived.Test.YtkifdbeklagelaaGreatDoorRngA
set_option linter.unusedVariables false
set_option linter.unusedSimpArgs false
namespace Go.Proofs.YtkifdbeklagelaaGreatDoor
open Go.RowKit

set_option maxRecDepth 100000 in
set_option maxHeartbeats 8000000 in
theorem iAre_any (v : Value) (l : List Rg) (w : World) (hv : HasG w v l) :
    Calls Tryz.prog 124 #[v] w fun e w' => e = .returned (.bool (areB l)) ∧ Below w.heap.size w w' := by
  obtain ⟨A, cap, rfl, hn', hc⟩ := hv
  obtain ⟨n, hnn⟩ : ∃ n, n = l.length := ⟨_, rfl⟩
  have HN : Hid (n = l.length) := Lib.hid hnn
  rw [← hnn] at hn' ⊢
  clear hnn
  obtain ⟨r, hr⟩ : ∃ r, r = areB l := ⟨_, rfl⟩
  have HR : Hid (r = areB l) := Lib.hid hr
  rw [← hr]
  clear hr
  by_cases h6 : 6 < n
  · clear hc
    go_enter Tryz.func124, Tryz.ntmps124
    go_wp2
    go_ret
    exact ⟨ret_bool (by rw [HR.out, areB_no fun h => by have := h.1; have := HN.out; omega]), Below.refl _ _⟩
  · go_enter Tryz.func124, Tryz.ntmps124
    go_wp2
    go_loopw [10] (fun i wr => ∃ k : Nat, k ≤ n ∧ i = .int .i64 k ∧ Hid (Nrm (l.take k)) ∧ Below w.heap.size w wr) (fun i _ => n - (intOf i).toNat)
    case atStart => exact ⟨0, Nat.zero_le _, rfl, Lib.hid ⟨by simp, by simp⟩, Below.refl _ _⟩
    case round =>
      obtain ⟨k, hk, rfl, HP, hbel⟩ := hrel
      by_cases hlt : k < n
      · have hlk : k < l.length := by rw [← HN.out]; exact hlt
        obtain ⟨a, rfl, hab, hcell0⟩ := HasG.gk hc k hlk
        obtain ⟨x, hx⟩ : ∃ x, x = l[k] := ⟨_, rfl⟩
        rw [← hx] at hcell0
        obtain ⟨c0, c1⟩ := hcell0.below hbel hab
        have HX := Lib.hid hx
        clear hx hcell0
        obtain ⟨p, d1, p1, p2, HPV⟩ : ∃ p : Rg, (0 < k → (a.add ((k - 1) * 2)).block < w.heap.size ∧ wr.cell? ⟨(a.add ((k - 1) * 2)).block, (a.add ((k - 1) * 2)).off + 1, none⟩ = some (.int .i64 p.hi)) ∧ -1000000000 ≤ p.hi ∧ p.hi ≤ 1000000000 ∧ Hid (∀ h0 : 0 < k, p = l[k - 1]) := by
          by_cases h0 : 0 < k
          · obtain ⟨a', e', hab', hcell'⟩ := HasG.gk hc (k - 1) (by omega)
            cases e'
            have := take_prev HP.out (by omega) h0
            exact ⟨l[k - 1], fun _ => ⟨hab', (hcell'.below hbel hab').2⟩, by have h1 := this.1; have h2 := this.2.1; omega, this.2.2, Lib.hid fun _ => rfl⟩
          · exact ⟨⟨0, 0⟩, fun h => absurd h h0, by simp, by simp, Lib.hid fun h => absurd h h0⟩
        clear hc
        have hb0 : Below w.heap.size w (wr.alloc (.cells #[.int .i64 x.lo, .int .i64 x.hi] 81)) := below_al hbel _
        by_cases ho : x.ok
        · have HO := Lib.hid ho
          clear ho
          by_cases a4 : 0 < k
          · obtain ⟨e0, e1⟩ := d1 a4
            clear d1
            have hw1 : IntKind.i64.wrap ((k : Int) - 1) = (k : Int) - 1 := IntWalk.i64_in _ (by omega)
            have hw2 : IntKind.i64.wrap (p.hi + 2) = p.hi + 2 := IntWalk.i64_in _ (by omega)
            have h01 : 0 ≤ (k : Int) - 1 := by omega
            have hlt1 : (k : Int) - 1 < (n : Int) := by omega
            have htn : ((k : Int) - 1).toNat = k - 1 := by omega
            have hk1 : (1 : Int) ≤ (k : Int) := by omega
            have hkn : (k : Int) ≤ (n : Int) := by omega
            have hki : (0 : Int) < (k : Int) := by omega
            have hk0' : decide (0 < (k : Int)) = true := by simp; omega
            have HK : Hid (∀ w', Below (wr.alloc (.cells #[.int .i64 x.lo, .int .i64 x.hi] 81)).heap.size (wr.alloc (.cells #[.int .i64 x.lo, .int .i64 x.hi] 81)) w' → (w'.cell? ⟨wr.heap.size, 0, none⟩ = some (.int .i64 x.lo) ∧ w'.cell? ⟨wr.heap.size, 1, none⟩ = some (.int .i64 x.hi) ∧ w'.cell? ⟨(a.add ((k - 1) * 2)).block, (a.add ((k - 1) * 2)).off + 1, none⟩ = some (.int .i64 p.hi)) ∧ Below (wr.alloc (.cells #[.int .i64 x.lo, .int .i64 x.hi] 81)).heap.size (wr.alloc (.cells #[.int .i64 x.lo, .int .i64 x.hi] 81)) w') := Lib.hid fun w' h => ⟨⟨(box2 h).1, (box2 h).2, by rw [((below_al (Below.refl wr.heap.size wr) _).trans (h.mono (by simp))).cell (p := ⟨(a.add ((k - 1) * 2)).block, (a.add ((k - 1) * 2)).off + 1, none⟩) (Nat.lt_of_lt_of_le e0 hbel.size)]; exact e1⟩, h⟩
            clear e1
            by_cases a5 : x.lo < p.hi + 2
            · have HB := Lib.hid (nextNo hlk (fun h => by have := h.2 a4; unfold Rg.bef at this; rw [← HX.out, ← HPV.out a4] at this; omega))
              go_wp2
              go_region_held3 (fun w' => (w'.cell? ⟨wr.heap.size, 0, none⟩ = some (.int .i64 x.lo) ∧ w'.cell? ⟨wr.heap.size, 1, none⟩ = some (.int .i64 x.hi) ∧ w'.cell? ⟨(a.add ((k - 1) * 2)).block, (a.add ((k - 1) * 2)).off + 1, none⟩ = some (.int .i64 p.hi)) ∧ Below (wr.alloc (.cells #[.int .i64 x.lo, .int .i64 x.hi] 81)).heap.size (wr.alloc (.cells #[.int .i64 x.lo, .int .i64 x.hi] 81)) w') (first | exact HK.out _ (Below.refl _ _).drew | exact HK.out _ (below_step (by assumption : _ ∧ Below _ _ _).2 hbm) | assumption | go_keep) (first | (go_at_call 155; refine (ok_yes HO.out _).mono ?_; rintro e w1 ⟨rfl, hbm⟩))
              have hB2 := hb0.trans ((by assumption : _ ∧ Below (wr.alloc (.cells #[.int .i64 x.lo, .int .i64 x.hi] 81)).heap.size _ _).2.mono hb0.size)
              go_wp2
              go_ret
              exact ⟨ret_bool (by rw [HR.out, HB.out]), hB2⟩
            · have HB := Lib.hid (nrm_next hlk HP.out ⟨by rw [← HX.out]; exact HO.out, fun h0 => by unfold Rg.bef; rw [← HX.out, ← HPV.out a4]; omega⟩)
              go_wp2
              go_region_held3 (fun w' => (w'.cell? ⟨wr.heap.size, 0, none⟩ = some (.int .i64 x.lo) ∧ w'.cell? ⟨wr.heap.size, 1, none⟩ = some (.int .i64 x.hi) ∧ w'.cell? ⟨(a.add ((k - 1) * 2)).block, (a.add ((k - 1) * 2)).off + 1, none⟩ = some (.int .i64 p.hi)) ∧ Below (wr.alloc (.cells #[.int .i64 x.lo, .int .i64 x.hi] 81)).heap.size (wr.alloc (.cells #[.int .i64 x.lo, .int .i64 x.hi] 81)) w') (first | exact HK.out _ (Below.refl _ _).drew | exact HK.out _ (below_step (by assumption : _ ∧ Below _ _ _).2 hbm) | assumption | go_keep) (first | (go_at_call 155; refine (ok_yes HO.out _).mono ?_; rintro e w1 ⟨rfl, hbm⟩))
              have hB2 := hb0.trans ((by assumption : _ ∧ Below (wr.alloc (.cells #[.int .i64 x.lo, .int .i64 x.hi] 81)).heap.size _ _).2.mono hb0.size)
              go_wp2
              go_roundw
              case rel => exact ⟨k + 1, by omega, by go_num, HB, hB2⟩
              case measure => simp [intOf]; omega
          · have HB := Lib.hid (nrm_next hlk HP.out ⟨by rw [← HX.out]; exact HO.out, fun h0 => absurd h0 a4⟩)
            clear d1
            obtain rfl : k = 0 := by omega
            have c0' : wr.cell? a = some (.int .i64 x.lo) := c0
            have c1' : wr.cell? ⟨a.block, a.off + 1, none⟩ = some (.int .i64 x.hi) := c1
            have HK : Hid (∀ w', Below (wr.alloc (.cells #[.int .i64 x.lo, .int .i64 x.hi] 81)).heap.size (wr.alloc (.cells #[.int .i64 x.lo, .int .i64 x.hi] 81)) w' → (w'.cell? ⟨wr.heap.size, 0, none⟩ = some (.int .i64 x.lo) ∧ w'.cell? ⟨wr.heap.size, 1, none⟩ = some (.int .i64 x.hi)) ∧ Below (wr.alloc (.cells #[.int .i64 x.lo, .int .i64 x.hi] 81)).heap.size (wr.alloc (.cells #[.int .i64 x.lo, .int .i64 x.hi] 81)) w') := Lib.hid fun w' h => ⟨box2 h, h⟩
            go_wp2
            refine wp_region_held_drew (S := fun w' => (w'.cell? ⟨wr.heap.size, 0, none⟩ = some (.int .i64 x.lo) ∧ w'.cell? ⟨wr.heap.size, 1, none⟩ = some (.int .i64 x.hi)) ∧ Below (wr.alloc (.cells #[.int .i64 x.lo, .int .i64 x.hi] 81)).heap.size (wr.alloc (.cells #[.int .i64 x.lo, .int .i64 x.hi] 81)) w') (by kernel_rfl) (HK.out _ (Below.refl _ _).drew) (fun hHeld => ?_)
            refine wpAnyH_take (i := 0) (oi := { dst := some 15, op := Op.load 81 (Operand.tmp 4), type := 81, pos := _, after := #[], guard := none }) (v := ?v0) rfl (by kernel_rfl) (by kernel_rfl) (by kernel_rfl) (fun _ _ _ h => h) (Or.inl ⟨by rfl, ?hy0⟩) (by assumption) ?rest0
            case hy0 => ((intro w hSw; (try dsimp only at hSw); go_simp); try with_reducible rfl)
            case' rest0 => (try simp only [Act.put, List.setIfInBounds_toArray, List.set_cons_zero, List.set_cons_succ])
            refine wpAnyH_ready (rs := [1]) (by kernel_rfl) (by simp) ?_
            refine AllReadyH.cons (o := { dst := some 16, op := Op.call { callee := Callee.value (Operand.func 155), args := #[Operand.tmp 15], argTypes := #[81] }, type := 4, pos := _, after := #[{ on := 0, ground := Ground.data }], guard := none }) rfl (fun K hK => ?_) AllReadyH.nil
            go_simp
            refine (ok_yes HO.out _).mono ?_
            rintro e w1 ⟨rfl, hbm⟩
            refine hK.out _ _ (HK.out _ (below_step hHeld.2 hbm)) (fun hHeld2 => ?_)
            clear hK K hHeld
            try simp only [Act.put, List.setIfInBounds_toArray, List.set_cons_zero, List.set_cons_succ]
            refine wpAnyH_take (i := 2) (oi := { dst := some 17, op := Op.unOp UnOp.not 4 (Operand.tmp 16), type := 4, pos := _, after := #[{ on := 1, ground := Ground.data }], guard := none }) (v := ?v2) rfl (by kernel_rfl) (by kernel_rfl) (by kernel_rfl) (fun _ _ _ h => h) (Or.inl ⟨by rfl, ?hy2⟩) (by assumption) ?rest2
            case hy2 => ((intro w hSw; (try dsimp only at hSw); go_simp); try with_reducible rfl)
            case' rest2 => (try simp only [Act.put, List.setIfInBounds_toArray, List.set_cons_zero, List.set_cons_succ])
            refine wpAnyH_take (i := 3) (oi := { dst := some 18, op := Op.move (Operand.tmp 17), type := 4, pos := _, after := #[{ on := 2, ground := Ground.data }, { on := 1, ground := Ground.chain }], guard := none }) (v := ?v3) rfl (by kernel_rfl) (by kernel_rfl) (by kernel_rfl) (fun _ _ _ h => h) (Or.inl ⟨by rfl, ?hy3⟩) (by assumption) ?rest3
            case hy3 => ((intro w hSw; (try dsimp only at hSw); go_simp); try with_reducible rfl)
            case' rest3 => (try simp only [Act.put, List.setIfInBounds_toArray, List.set_cons_zero, List.set_cons_succ])
            refine wpAnyH_take (i := 4) (oi := { dst := some 19, op := Op.move (Operand.tmp 3), type := 3, pos := _, after := #[{ on := 3, ground := Ground.guard }], guard := some (3, false) }) (v := ?v4) rfl (by kernel_rfl) (by kernel_rfl) (by kernel_rfl) (fun _ _ _ h => h) (Or.inl ⟨by rfl, ?hy4⟩) (by assumption) ?rest4
            case hy4 => ((intro w hSw; (try dsimp only at hSw); go_simp); try with_reducible rfl)
            case' rest4 => (try simp only [Act.put, List.setIfInBounds_toArray, List.set_cons_zero, List.set_cons_succ])
            refine wpAnyH_take (i := 5) (oi := { dst := some 20, op := Op.binOp BinOp.gtr 3 (Operand.tmp 19) (Operand.const (Value.int IntKind.i64 0)) 3, type := 4, pos := _, after := #[{ on := 4, ground := Ground.data }, { on := 3, ground := Ground.guard }], guard := some (3, false) }) (v := ?v5) rfl (by kernel_rfl) (by kernel_rfl) (by kernel_rfl) (fun _ _ _ h => h) (Or.inl ⟨by rfl, ?hy5⟩) (by assumption) ?rest5
            case hy5 => ((intro w hSw; (try dsimp only at hSw); go_simp); try with_reducible rfl)
            case' rest5 => (try simp only [Act.put, List.setIfInBounds_toArray, List.set_cons_zero, List.set_cons_succ])
            refine wpAnyH_take (i := 6) (oi := { dst := some 21, op := Op.move (Operand.tmp 20), type := 4, pos := _, after := #[{ on := 5, ground := Ground.data }, { on := 3, ground := Ground.chain }, { on := 3, ground := Ground.guard }], guard := some (3, false) }) (v := ?v6) rfl (by kernel_rfl) (by kernel_rfl) (by kernel_rfl) (fun _ _ _ h => h) (Or.inl ⟨by rfl, ?hy6⟩) (by assumption) ?rest6
            case hy6 => ((intro w hSw; (try dsimp only at hSw); go_simp); try with_reducible rfl)
            case' rest6 => (try simp only [Act.put, List.setIfInBounds_toArray, List.set_cons_zero, List.set_cons_succ])
            refine wpAnyH_take (i := 7) (oi := { dst := some 22, op := Op.fieldAddr 81 (Operand.tmp 4) 0, type := 0, pos := _, after := #[{ on := 6, ground := Ground.guard }], guard := some (6, true) }) (v := undef) rfl (by kernel_rfl) (by kernel_rfl) (by kernel_rfl) (fun _ _ _ h => h) (Or.inr ⟨by rfl, rfl⟩) (by assumption) ?_
            try simp only [Act.put, List.setIfInBounds_toArray, List.set_cons_zero, List.set_cons_succ]
            refine wpAnyH_take (i := 8) (oi := { dst := some 23, op := Op.load 3 (Operand.tmp 22), type := 3, pos := _, after := #[{ on := 7, ground := Ground.data }, { on := 6, ground := Ground.guard }], guard := some (6, true) }) (v := undef) rfl (by kernel_rfl) (by kernel_rfl) (by kernel_rfl) (fun _ _ _ h => h) (Or.inr ⟨by rfl, rfl⟩) (by assumption) ?_
            try simp only [Act.put, List.setIfInBounds_toArray, List.set_cons_zero, List.set_cons_succ]
            refine wpAnyH_take (i := 9) (oi := { dst := some 24, op := Op.move (Operand.tmp 0), type := 28, pos := _, after := #[{ on := 6, ground := Ground.guard }], guard := some (6, true) }) (v := undef) rfl (by kernel_rfl) (by kernel_rfl) (by kernel_rfl) (fun _ _ _ h => h) (Or.inr ⟨by rfl, rfl⟩) (by assumption) ?_
            try simp only [Act.put, List.setIfInBounds_toArray, List.set_cons_zero, List.set_cons_succ]
            refine wpAnyH_take (i := 10) (oi := { dst := some 25, op := Op.move (Operand.tmp 3), type := 3, pos := _, after := #[{ on := 6, ground := Ground.guard }], guard := some (6, true) }) (v := undef) rfl (by kernel_rfl) (by kernel_rfl) (by kernel_rfl) (fun _ _ _ h => h) (Or.inr ⟨by rfl, rfl⟩) (by assumption) ?_
            try simp only [Act.put, List.setIfInBounds_toArray, List.set_cons_zero, List.set_cons_succ]
            refine wpAnyH_take (i := 11) (oi := { dst := some 26, op := Op.binOp BinOp.sub 3 (Operand.tmp 25) (Operand.const (Value.int IntKind.i64 1)) 3, type := 3, pos := _, after := #[{ on := 10, ground := Ground.data }, { on := 6, ground := Ground.guard }], guard := some (6, true) }) (v := undef) rfl (by kernel_rfl) (by kernel_rfl) (by kernel_rfl) (fun _ _ _ h => h) (Or.inr ⟨by rfl, rfl⟩) (by assumption) ?_
            try simp only [Act.put, List.setIfInBounds_toArray, List.set_cons_zero, List.set_cons_succ]
            refine wpAnyH_take (i := 12) (oi := { dst := some 27, op := Op.indexAddr 28 (Operand.tmp 24) (Operand.tmp 26), type := 0, pos := _, after := #[{ on := 9, ground := Ground.data }, { on := 11, ground := Ground.data }, { on := 6, ground := Ground.guard }], guard := some (6, true) }) (v := undef) rfl (by kernel_rfl) (by kernel_rfl) (by kernel_rfl) (fun _ _ _ h => h) (Or.inr ⟨by rfl, rfl⟩) (by assumption) ?_
            try simp only [Act.put, List.setIfInBounds_toArray, List.set_cons_zero, List.set_cons_succ]
            refine wpAnyH_take (i := 13) (oi := { dst := some 28, op := Op.fieldAddr 81 (Operand.tmp 27) 1, type := 0, pos := _, after := #[{ on := 12, ground := Ground.data }, { on := 6, ground := Ground.guard }], guard := some (6, true) }) (v := undef) rfl (by kernel_rfl) (by kernel_rfl) (by kernel_rfl) (fun _ _ _ h => h) (Or.inr ⟨by rfl, rfl⟩) (by assumption) ?_
            try simp only [Act.put, List.setIfInBounds_toArray, List.set_cons_zero, List.set_cons_succ]
            refine wpAnyH_take (i := 14) (oi := { dst := some 29, op := Op.load 3 (Operand.tmp 28), type := 3, pos := _, after := #[{ on := 13, ground := Ground.data }, { on := 6, ground := Ground.guard }], guard := some (6, true) }) (v := undef) rfl (by kernel_rfl) (by kernel_rfl) (by kernel_rfl) (fun _ _ _ h => h) (Or.inr ⟨by rfl, rfl⟩) (by assumption) ?_
            try simp only [Act.put, List.setIfInBounds_toArray, List.set_cons_zero, List.set_cons_succ]
            refine wpAnyH_take (i := 15) (oi := { dst := some 30, op := Op.binOp BinOp.add 3 (Operand.tmp 29) (Operand.const (Value.int IntKind.i64 2)) 3, type := 3, pos := _, after := #[{ on := 14, ground := Ground.data }, { on := 6, ground := Ground.guard }], guard := some (6, true) }) (v := undef) rfl (by kernel_rfl) (by kernel_rfl) (by kernel_rfl) (fun _ _ _ h => h) (Or.inr ⟨by rfl, rfl⟩) (by assumption) ?_
            try simp only [Act.put, List.setIfInBounds_toArray, List.set_cons_zero, List.set_cons_succ]
            refine wpAnyH_take (i := 16) (oi := { dst := some 31, op := Op.binOp BinOp.lss 3 (Operand.tmp 23) (Operand.tmp 30) 3, type := 4, pos := _, after := #[{ on := 8, ground := Ground.data }, { on := 15, ground := Ground.data }, { on := 6, ground := Ground.guard }], guard := some (6, true) }) (v := undef) rfl (by kernel_rfl) (by kernel_rfl) (by kernel_rfl) (fun _ _ _ h => h) (Or.inr ⟨by rfl, rfl⟩) (by assumption) ?_
            try simp only [Act.put, List.setIfInBounds_toArray, List.set_cons_zero, List.set_cons_succ]
            refine wpAnyH_take (i := 17) (oi := { dst := some 32, op := Op.pick (Operand.tmp 21) (Operand.tmp 31) (Operand.const (Value.bool false)), type := 4, pos := _, after := #[{ on := 6, ground := Ground.data }, { on := 16, ground := Ground.data }, { on := 3, ground := Ground.guard }], guard := some (3, false) }) (v := ?v17) rfl (by kernel_rfl) (by kernel_rfl) (by kernel_rfl) (fun _ _ _ h => h) (Or.inl ⟨by rfl, ?hy17⟩) (by assumption) ?rest17
            case hy17 => ((intro w hSw; (try dsimp only at hSw); go_simp); try with_reducible rfl)
            case' rest17 => (try simp only [Act.put, List.setIfInBounds_toArray, List.set_cons_zero, List.set_cons_succ])
            refine wpAnyH_take (i := 18) (oi := { dst := some 33, op := Op.pick (Operand.tmp 18) (Operand.const (Value.bool true)) (Operand.tmp 32), type := 4, pos := _, after := #[{ on := 3, ground := Ground.data }, { on := 17, ground := Ground.data }], guard := none }) (v := ?v18) rfl (by kernel_rfl) (by kernel_rfl) (by kernel_rfl) (fun _ _ _ h => h) (Or.inl ⟨by rfl, ?hy18⟩) (by assumption) ?rest18
            case hy18 => ((intro w hSw; (try dsimp only at hSw); go_simp); try with_reducible rfl)
            case' rest18 => (try simp only [Act.put, List.setIfInBounds_toArray, List.set_cons_zero, List.set_cons_succ])
            refine wpAnyH_done (by kernel_rfl) ?_ _
            have hB2 := hb0.trans (hHeld2.2.mono hb0.size)
            go_wp2
            go_roundw
            case rel => exact ⟨0 + 1, by omega, by go_num, HB, hB2⟩
            case measure => simp [intOf]; omega
        · have HO := Lib.hid ho
          have HB := Lib.hid (nextNo hlk (fun h => by have := h.1; rw [← HX.out] at this; exact ho this))
          clear ho d1
          have HK : Hid (∀ w', Below (wr.alloc (.cells #[.int .i64 x.lo, .int .i64 x.hi] 81)).heap.size (wr.alloc (.cells #[.int .i64 x.lo, .int .i64 x.hi] 81)) w' → (w'.cell? ⟨wr.heap.size, 0, none⟩ = some (.int .i64 x.lo) ∧ w'.cell? ⟨wr.heap.size, 1, none⟩ = some (.int .i64 x.hi)) ∧ Below (wr.alloc (.cells #[.int .i64 x.lo, .int .i64 x.hi] 81)).heap.size (wr.alloc (.cells #[.int .i64 x.lo, .int .i64 x.hi] 81)) w') := Lib.hid fun w' h => ⟨box2 h, h⟩
          go_wp2
          refine wp_region_held_drew (S := fun w' => (w'.cell? ⟨wr.heap.size, 0, none⟩ = some (.int .i64 x.lo) ∧ w'.cell? ⟨wr.heap.size, 1, none⟩ = some (.int .i64 x.hi)) ∧ Below (wr.alloc (.cells #[.int .i64 x.lo, .int .i64 x.hi] 81)).heap.size (wr.alloc (.cells #[.int .i64 x.lo, .int .i64 x.hi] 81)) w') (by kernel_rfl) (HK.out _ (Below.refl _ _).drew) (fun hHeld => ?_)
          refine wpAnyH_take (i := 0) (oi := { dst := some 15, op := Op.load 81 (Operand.tmp 4), type := 81, pos := _, after := #[], guard := none }) (v := ?vb0) rfl (by kernel_rfl) (by kernel_rfl) (by kernel_rfl) (fun _ _ _ h => h) (Or.inl ⟨by rfl, ?hyb0⟩) (by assumption) ?restb0
          case hyb0 => ((intro w hSw; (try dsimp only at hSw); go_simp); try with_reducible rfl)
          case' restb0 => (try simp only [Act.put, List.setIfInBounds_toArray, List.set_cons_zero, List.set_cons_succ])
          refine wpAnyH_ready (rs := [1]) (by kernel_rfl) (by simp) ?_
          refine AllReadyH.cons (o := { dst := some 16, op := Op.call { callee := Callee.value (Operand.func 155), args := #[Operand.tmp 15], argTypes := #[81] }, type := 4, pos := _, after := #[{ on := 0, ground := Ground.data }], guard := none }) rfl (fun K hK => ?_) AllReadyH.nil
          go_simp
          refine (ok_no HO.out _).mono ?_
          rintro e w1 ⟨rfl, hbm⟩
          refine hK.out _ _ (HK.out _ (below_step hHeld.2 hbm)) (fun hHeld2 => ?_)
          clear hK K hHeld
          try simp only [Act.put, List.setIfInBounds_toArray, List.set_cons_zero, List.set_cons_succ]
          refine wpAnyH_take (i := 2) (oi := { dst := some 17, op := Op.unOp UnOp.not 4 (Operand.tmp 16), type := 4, pos := _, after := #[{ on := 1, ground := Ground.data }], guard := none }) (v := ?vb2) rfl (by kernel_rfl) (by kernel_rfl) (by kernel_rfl) (fun _ _ _ h => h) (Or.inl ⟨by rfl, ?hyb2⟩) (by assumption) ?restb2
          case hyb2 => ((intro w hSw; (try dsimp only at hSw); go_simp); try with_reducible rfl)
          case' restb2 => (try simp only [Act.put, List.setIfInBounds_toArray, List.set_cons_zero, List.set_cons_succ])
          refine wpAnyH_take (i := 3) (oi := { dst := some 18, op := Op.move (Operand.tmp 17), type := 4, pos := _, after := #[{ on := 2, ground := Ground.data }, { on := 1, ground := Ground.chain }], guard := none }) (v := ?vb3) rfl (by kernel_rfl) (by kernel_rfl) (by kernel_rfl) (fun _ _ _ h => h) (Or.inl ⟨by rfl, ?hyb3⟩) (by assumption) ?restb3
          case hyb3 => ((intro w hSw; (try dsimp only at hSw); go_simp); try with_reducible rfl)
          case' restb3 => (try simp only [Act.put, List.setIfInBounds_toArray, List.set_cons_zero, List.set_cons_succ])
          refine wpAnyH_take (i := 4) (oi := { dst := some 19, op := Op.move (Operand.tmp 3), type := 3, pos := _, after := #[{ on := 3, ground := Ground.guard }], guard := some (3, false) }) (v := undef) rfl (by kernel_rfl) (by kernel_rfl) (by kernel_rfl) (fun _ _ _ h => h) (Or.inr ⟨by rfl, rfl⟩) (by assumption) ?_
          try simp only [Act.put, List.setIfInBounds_toArray, List.set_cons_zero, List.set_cons_succ]
          refine wpAnyH_take (i := 5) (oi := { dst := some 20, op := Op.binOp BinOp.gtr 3 (Operand.tmp 19) (Operand.const (Value.int IntKind.i64 0)) 3, type := 4, pos := _, after := #[{ on := 4, ground := Ground.data }, { on := 3, ground := Ground.guard }], guard := some (3, false) }) (v := undef) rfl (by kernel_rfl) (by kernel_rfl) (by kernel_rfl) (fun _ _ _ h => h) (Or.inr ⟨by rfl, rfl⟩) (by assumption) ?_
          try simp only [Act.put, List.setIfInBounds_toArray, List.set_cons_zero, List.set_cons_succ]
          refine wpAnyH_take (i := 6) (oi := { dst := some 21, op := Op.move (Operand.tmp 20), type := 4, pos := _, after := #[{ on := 5, ground := Ground.data }, { on := 3, ground := Ground.chain }, { on := 3, ground := Ground.guard }], guard := some (3, false) }) (v := undef) rfl (by kernel_rfl) (by kernel_rfl) (by kernel_rfl) (fun _ _ _ h => h) (Or.inr ⟨by rfl, rfl⟩) (by assumption) ?_
          try simp only [Act.put, List.setIfInBounds_toArray, List.set_cons_zero, List.set_cons_succ]
          refine wpAnyH_take (i := 7) (oi := { dst := some 22, op := Op.fieldAddr 81 (Operand.tmp 4) 0, type := 0, pos := _, after := #[{ on := 6, ground := Ground.guard }], guard := some (6, true) }) (v := undef) rfl (by kernel_rfl) (by kernel_rfl) (by kernel_rfl) (fun _ _ _ h => h) (Or.inr ⟨by rfl, rfl⟩) (by assumption) ?_
          try simp only [Act.put, List.setIfInBounds_toArray, List.set_cons_zero, List.set_cons_succ]
          refine wpAnyH_take (i := 8) (oi := { dst := some 23, op := Op.load 3 (Operand.tmp 22), type := 3, pos := _, after := #[{ on := 7, ground := Ground.data }, { on := 6, ground := Ground.guard }], guard := some (6, true) }) (v := undef) rfl (by kernel_rfl) (by kernel_rfl) (by kernel_rfl) (fun _ _ _ h => h) (Or.inr ⟨by rfl, rfl⟩) (by assumption) ?_
          try simp only [Act.put, List.setIfInBounds_toArray, List.set_cons_zero, List.set_cons_succ]
          refine wpAnyH_take (i := 9) (oi := { dst := some 24, op := Op.move (Operand.tmp 0), type := 28, pos := _, after := #[{ on := 6, ground := Ground.guard }], guard := some (6, true) }) (v := undef) rfl (by kernel_rfl) (by kernel_rfl) (by kernel_rfl) (fun _ _ _ h => h) (Or.inr ⟨by rfl, rfl⟩) (by assumption) ?_
          try simp only [Act.put, List.setIfInBounds_toArray, List.set_cons_zero, List.set_cons_succ]
          refine wpAnyH_take (i := 10) (oi := { dst := some 25, op := Op.move (Operand.tmp 3), type := 3, pos := _, after := #[{ on := 6, ground := Ground.guard }], guard := some (6, true) }) (v := undef) rfl (by kernel_rfl) (by kernel_rfl) (by kernel_rfl) (fun _ _ _ h => h) (Or.inr ⟨by rfl, rfl⟩) (by assumption) ?_
          try simp only [Act.put, List.setIfInBounds_toArray, List.set_cons_zero, List.set_cons_succ]
          refine wpAnyH_take (i := 11) (oi := { dst := some 26, op := Op.binOp BinOp.sub 3 (Operand.tmp 25) (Operand.const (Value.int IntKind.i64 1)) 3, type := 3, pos := _, after := #[{ on := 10, ground := Ground.data }, { on := 6, ground := Ground.guard }], guard := some (6, true) }) (v := undef) rfl (by kernel_rfl) (by kernel_rfl) (by kernel_rfl) (fun _ _ _ h => h) (Or.inr ⟨by rfl, rfl⟩) (by assumption) ?_
          try simp only [Act.put, List.setIfInBounds_toArray, List.set_cons_zero, List.set_cons_succ]
          refine wpAnyH_take (i := 12) (oi := { dst := some 27, op := Op.indexAddr 28 (Operand.tmp 24) (Operand.tmp 26), type := 0, pos := _, after := #[{ on := 9, ground := Ground.data }, { on := 11, ground := Ground.data }, { on := 6, ground := Ground.guard }], guard := some (6, true) }) (v := undef) rfl (by kernel_rfl) (by kernel_rfl) (by kernel_rfl) (fun _ _ _ h => h) (Or.inr ⟨by rfl, rfl⟩) (by assumption) ?_
          try simp only [Act.put, List.setIfInBounds_toArray, List.set_cons_zero, List.set_cons_succ]
          refine wpAnyH_take (i := 13) (oi := { dst := some 28, op := Op.fieldAddr 81 (Operand.tmp 27) 1, type := 0, pos := _, after := #[{ on := 12, ground := Ground.data }, { on := 6, ground := Ground.guard }], guard := some (6, true) }) (v := undef) rfl (by kernel_rfl) (by kernel_rfl) (by kernel_rfl) (fun _ _ _ h => h) (Or.inr ⟨by rfl, rfl⟩) (by assumption) ?_
          try simp only [Act.put, List.setIfInBounds_toArray, List.set_cons_zero, List.set_cons_succ]
          refine wpAnyH_take (i := 14) (oi := { dst := some 29, op := Op.load 3 (Operand.tmp 28), type := 3, pos := _, after := #[{ on := 13, ground := Ground.data }, { on := 6, ground := Ground.guard }], guard := some (6, true) }) (v := undef) rfl (by kernel_rfl) (by kernel_rfl) (by kernel_rfl) (fun _ _ _ h => h) (Or.inr ⟨by rfl, rfl⟩) (by assumption) ?_
          try simp only [Act.put, List.setIfInBounds_toArray, List.set_cons_zero, List.set_cons_succ]
          refine wpAnyH_take (i := 15) (oi := { dst := some 30, op := Op.binOp BinOp.add 3 (Operand.tmp 29) (Operand.const (Value.int IntKind.i64 2)) 3, type := 3, pos := _, after := #[{ on := 14, ground := Ground.data }, { on := 6, ground := Ground.guard }], guard := some (6, true) }) (v := undef) rfl (by kernel_rfl) (by kernel_rfl) (by kernel_rfl) (fun _ _ _ h => h) (Or.inr ⟨by rfl, rfl⟩) (by assumption) ?_
          try simp only [Act.put, List.setIfInBounds_toArray, List.set_cons_zero, List.set_cons_succ]
          refine wpAnyH_take (i := 16) (oi := { dst := some 31, op := Op.binOp BinOp.lss 3 (Operand.tmp 23) (Operand.tmp 30) 3, type := 4, pos := _, after := #[{ on := 8, ground := Ground.data }, { on := 15, ground := Ground.data }, { on := 6, ground := Ground.guard }], guard := some (6, true) }) (v := undef) rfl (by kernel_rfl) (by kernel_rfl) (by kernel_rfl) (fun _ _ _ h => h) (Or.inr ⟨by rfl, rfl⟩) (by assumption) ?_
          try simp only [Act.put, List.setIfInBounds_toArray, List.set_cons_zero, List.set_cons_succ]
          refine wpAnyH_take (i := 17) (oi := { dst := some 32, op := Op.pick (Operand.tmp 21) (Operand.tmp 31) (Operand.const (Value.bool false)), type := 4, pos := _, after := #[{ on := 6, ground := Ground.data }, { on := 16, ground := Ground.data }, { on := 3, ground := Ground.guard }], guard := some (3, false) }) (v := undef) rfl (by kernel_rfl) (by kernel_rfl) (by kernel_rfl) (fun _ _ _ h => h) (Or.inr ⟨by rfl, rfl⟩) (by assumption) ?_
          try simp only [Act.put, List.setIfInBounds_toArray, List.set_cons_zero, List.set_cons_succ]
          refine wpAnyH_take (i := 18) (oi := { dst := some 33, op := Op.pick (Operand.tmp 18) (Operand.const (Value.bool true)) (Operand.tmp 32), type := 4, pos := _, after := #[{ on := 3, ground := Ground.data }, { on := 17, ground := Ground.data }], guard := none }) (v := ?vb18) rfl (by kernel_rfl) (by kernel_rfl) (by kernel_rfl) (fun _ _ _ h => h) (Or.inl ⟨by rfl, ?hyb18⟩) (by assumption) ?restb18
          case hyb18 => ((intro w hSw; (try dsimp only at hSw); go_simp); try with_reducible rfl)
          case' restb18 => (try simp only [Act.put, List.setIfInBounds_toArray, List.set_cons_zero, List.set_cons_succ])
          refine wpAnyH_done (by kernel_rfl) ?_ _
          have hB2 := hb0.trans (hHeld2.2.mono hb0.size)
          go_wp2
          go_ret
          exact ⟨ret_bool (by rw [HR.out, HB.out]), hB2⟩
      · have e : k = n := by omega
        subst e
        go_wp2
        go_ret
        exact ⟨ret_bool (by rw [HR.out, areB_yes ⟨by rw [← HN.out]; omega, by have := HP.out; rwa [List.take_of_length_le (by have := HN.out; omega)] at this⟩]), hbel⟩
end Go.Proofs.YtkifdbeklagelaaGreatDoor
