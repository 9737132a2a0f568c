/- CHAPTER 9: laws.eqSchemaS. PRINTED by tools/gen_scE.py. -/
import Derived.Test.YtlgooejoohcmfaaScE
set_option linter.unusedVariables false
set_option linter.unusedSimpArgs false
namespace Go.Proofs.Ytlgooejoohcmfaa
open Go.RowKit
set_option maxRecDepth 100000

theorem yieldsIf_load_at {P : Program} {ops : Array Oper} {S : World → Prop} {op : Oper} {a : Act} (hw : Region.wanted op (yielded ops a.tmps) = true) (ty : TypeId) (x : Operand) (ho : op.op = .load ty x)
    (p : Addr) (hx : a.eval x = .pointer (some p)) (v : Value) (hS : ∀ w, S w → (Instr.loadAt ty (.pointer (some p))).run P w = .ok v w) : YieldsIf P ops S op v a :=
  .inl ⟨hw, fun w hw' => by
    unfold execOp
    simp only [ho, hx, Sem.run_bind, Result.andThen_ok, hS w hw', Sem.run_pure]⟩
set_option maxHeartbeats 4000000 in
theorem eqSS_of (d : Nat) (ih : ∀ e, d = e + 1 → EqS9 e) : EqSS d := by
  intro u v l w hu hv
  obtain ⟨A, cap, rfl, hn', hc⟩ := sc_at hu
  obtain ⟨A', cap', rfl, _, hc'⟩ := sc_at hv
  obtain ⟨n, hnn⟩ : ∃ n, n = l.length := ⟨_, rfl⟩
  have HN : Hid (n = l.length) := Lib.hid hnn
  have HC : Hid (∀ i, i < n → ∃ (a a' : Addr) (x y : Array Value), A = some a ∧ A' = some a' ∧ (∀ W, Below w.heap.size w W → (Instr.loadAt 38 (.pointer (some (a.add (i * 19))))).run Try.prog W = .ok (.agg x) W) ∧ (∀ W, Below w.heap.size w W → (Instr.loadAt 38 (.pointer (some (a'.add (i * 19))))).run Try.prog W = .ok (.agg y) W) ∧ ∀ W, Below w.heap.size w W → Calls Try.prog 19 #[.agg x, .agg y] W fun e w' => e = .returned (.bool true) ∧ Below W.heap.size W w') := Lib.hid fun i hi => by
    have hl : i < l.length := by rw [← hnn]; exact hi
    obtain ⟨a, x, d', e1, e2, e3, e4, e5⟩ := hc i hl
    obtain ⟨a', y, d'', f1, f2, f3, f4, f5⟩ := hc' i hl
    subst e2
    obtain rfl : d' = d'' := by omega
    exact ⟨a, a', x.enc.toArray, y.enc.toArray, e1, f1, fun W hb => (e4.below hb e3).load Try.underlying38 (by kernel_rfl) (by kernel_rfl), fun W hb => (f4.below hb f3).load Try.underlying38 (by kernel_rfl) (by kernel_rfl), fun W hb => ih d' rfl _ _ l[i] W (RdN.below e5 hb) (RdN.below f5 hb)⟩
  rw [← hnn] at hn' ⊢
  clear hc hc' hnn hu hv ih
  go_enter Try.func10, Try.ntmps10
  go_wp2
  go_loopw [5] (fun i wr => ∃ k : Nat, k ≤ n ∧ i = .int .i64 k ∧ Below w.heap.size w wr) (fun i _ => n - (intOf i).toNat)
  case atStart => exact ⟨0, Nat.zero_le _, rfl, Below.refl _ _⟩
  case round =>
    obtain ⟨k, hk, rfl, hbel⟩ := hrel
    by_cases hlt : k < n
    · obtain ⟨a, a', x, y, rfl, rfl, hx, hy, hcall⟩ := HC.out k hlt
      have HCALL := Lib.hid hcall
      have LX := Lib.hid hx
      have LY := Lib.hid hy
      clear hx hy hcall HC
      go_wp2
      refine wp_region_held_drew (S := fun w' => Below w.heap.size w w') (by kernel_rfl) hbel.drew (fun hHeld => ?_)
      refine wpAnyH_take (i := 0) (oi := ⟨some 17, _, _, _, _, _⟩) rfl (by kernel_rfl) (by kernel_rfl) (by kernel_rfl) (fun _ _ _ h => h) (Or.inl ⟨by rfl, by (intro w hSw; go_simp; try with_reducible rfl)⟩) (by assumption) ?_
      simp only [Act.put, List.setIfInBounds_toArray, List.set_cons_zero, List.set_cons_succ]
      refine wpAnyH_take (i := 1) (oi := ⟨some 18, _, _, _, _, _⟩) rfl (by kernel_rfl) (by kernel_rfl) (by kernel_rfl) (fun _ _ _ h => h) (Or.inl ⟨by rfl, by (intro w hSw; go_simp; try with_reducible rfl)⟩) (by assumption) ?_
      simp only [Act.put, List.setIfInBounds_toArray, List.set_cons_zero, List.set_cons_succ]
      refine wpAnyH_take (i := 2) (oi := ⟨some 19, _, _, _, _, _⟩) rfl (by kernel_rfl) (by kernel_rfl) (by kernel_rfl) (fun _ _ _ h => h) (Or.inl ⟨by rfl, by (intro w hSw; go_simp; try with_reducible rfl)⟩) (by assumption) ?_
      simp only [Act.put, List.setIfInBounds_toArray, List.set_cons_zero, List.set_cons_succ]
      refine wpAnyH_take (i := 3) (oi := ⟨some 20, _, _, _, _, _⟩) rfl (by kernel_rfl) (by kernel_rfl) (by kernel_rfl) (fun _ _ _ h => h) (yieldsIf_load_at (by rfl) _ _ rfl (a.add (k * 19)) rfl (.agg x) LX.out) (by assumption) ?_
      simp only [Act.put, List.setIfInBounds_toArray, List.set_cons_zero, List.set_cons_succ]
      refine wpAnyH_take (i := 4) (oi := ⟨some 21, _, _, _, _, _⟩) rfl (by kernel_rfl) (by kernel_rfl) (by kernel_rfl) (fun _ _ _ h => h) (Or.inl ⟨by rfl, by (intro w hSw; go_simp; try with_reducible rfl)⟩) (by assumption) ?_
      simp only [Act.put, List.setIfInBounds_toArray, List.set_cons_zero, List.set_cons_succ]
      refine wpAnyH_take (i := 5) (oi := ⟨some 22, _, _, _, _, _⟩) rfl (by kernel_rfl) (by kernel_rfl) (by kernel_rfl) (fun _ _ _ h => h) (Or.inl ⟨by rfl, by (intro w hSw; go_simp; try with_reducible rfl)⟩) (by assumption) ?_
      simp only [Act.put, List.setIfInBounds_toArray, List.set_cons_zero, List.set_cons_succ]
      refine wpAnyH_take (i := 6) (oi := ⟨some 23, _, _, _, _, _⟩) rfl (by kernel_rfl) (by kernel_rfl) (by kernel_rfl) (fun _ _ _ h => h) (Or.inl ⟨by rfl, by (intro w hSw; go_simp; try with_reducible rfl)⟩) (by assumption) ?_
      simp only [Act.put, List.setIfInBounds_toArray, List.set_cons_zero, List.set_cons_succ]
      refine wpAnyH_take (i := 7) (oi := ⟨some 24, _, _, _, _, _⟩) rfl (by kernel_rfl) (by kernel_rfl) (by kernel_rfl) (fun _ _ _ h => h) (yieldsIf_load_at (by rfl) _ _ rfl (a'.add (k * 19)) rfl (.agg y) LY.out) (by assumption) ?_
      simp only [Act.put, List.setIfInBounds_toArray, List.set_cons_zero, List.set_cons_succ]
      refine wpAnyH_ready (rs := [8]) (by kernel_rfl) (by simp) ?_
      refine AllReadyH.cons (o := ⟨some 25, _, _, _, _, _⟩) rfl (fun K hK => ?_) AllReadyH.nil
      have HK := Lib.hid hK
      clear hK
      go_simp
      refine (HCALL.out _ (by assumption)).mono ?_
      rintro e w1 ⟨rfl, hbm⟩
      go_wp2_with fail
      refine HK.out.out _ _ (below_step (by assumption) hbm) (fun hHeld2 => ?_)
      clear HK
      try simp only [Act.put, List.setIfInBounds_toArray, List.set_cons_zero, List.set_cons_succ]
      refine wpAnyH_take (i := 9) (oi := ⟨some 26, _, _, _, _, _⟩) rfl (by kernel_rfl) (by kernel_rfl) (by kernel_rfl) (fun _ _ _ h => h) (Or.inl ⟨by rfl, by (intro w hSw; go_simp; try with_reducible rfl)⟩) (by assumption) ?_
      simp only [Act.put, List.setIfInBounds_toArray, List.set_cons_zero, List.set_cons_succ]
      refine wpAnyH_done (by kernel_rfl) ?_ _
      go_wp2
      go_roundw
      case rel => exact ⟨k + 1, by omega, by go_num, hHeld2⟩
      case measure => simp [intOf]; omega
    · go_wp2
      go_ret
      exact ⟨rfl, hbel⟩
theorem eqSS_any : ∀ d, EqSS d
  | 0 => eqSS_of 0 (fun e h => by cases h)
  | d + 1 => eqSS_of (d + 1) (fun e h => by cases h; exact eqS9_of (eqSS_any d))
end Go.Proofs.Ytlgooejoohcmfaa
