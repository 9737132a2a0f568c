/- CHAPTER 8, impl: isExprWithin, IsExpr. -/
import Derived.Test.YtnpgeneahjlkpaaExF
set_option linter.unusedVariables false
set_option linter.unusedSimpArgs false
namespace Go.Proofs.Ytnpgeneahjlkpaa
open Go.RowKit

theorem okE_take {n k : Nat} {l : List Ex} (hk : k < l.length) (h : ∀ x, x ∈ l.take k → okE n x) (h1 : okE n l[k]) : ∀ x, x ∈ l.take (k + 1) → okE n x := all_step hk h h1
/-- the contract of isExprWithin at depth n, whatever the tree's -/
def Within (n : Nat) : Prop := ∀ (d : Nat) (r : ExR) (t : Ex) (w : World), RdN exC d w r t → ExSz t.x → SizT ExSz d t.kids → Calls Try.prog 38 #[r.val, .int .i64 n] w fun e w' => e = .returned (.bool (dB (okE n t))) ∧ Below w.heap.size w w'
set_option maxRecDepth 100000 in
set_option maxHeartbeats 4000000 in
theorem within_any : ∀ n : Nat, n ≤ 8 → Within n := by
  intro n
  induction n with
  | zero =>
    intro _ d r t w hr _ _
    rw [dB_no (fun h : okE 0 t => h)]
    obtain ⟨op, num, text, ro, up, sv, kv⟩ := r
    have HB := Lib.hid (below_al (Below.refl w.heap.size w) (.cells #[.int .i64 op, .int .i64 num, .string text, .bool ro, .int .i64 up, sv, kv] 35))
    clear hr
    go_enter Try.func38, Try.ntmps38
    go_wp2
    go_region
    go_wp2
    go_ret
    exact ⟨rfl, below_drewN HB.out 1⟩
  | succ n ih =>
    intro hn8 d r t w hr hx hk
    have IH := Lib.hid (ih (by omega))
    clear ih
    obtain ⟨q, hq⟩ : ∃ q : Int, q = ((n + 1 : Nat) : Int) := ⟨_, rfl⟩
    have hq1 : 1 ≤ q := by omega
    have hq8 : q ≤ 8 := by omega
    have HQ : Hid (q - 1 = (n : Int)) := Lib.hid (by omega)
    have hq0 : ¬ q = 0 := by omega
    have hq0' : (q == 0) = false := by simp; omega
    rw [← hq]
    clear hq
    obtain ⟨hrd, hkids⟩ := hr
    obtain ⟨A, cap, hkv, hlen, hat⟩ := exC_at hkids
    have HFI := Lib.hid (fun W (hb : Below w.heap.size w W) => fields_any r t.x W (exC.rd_below hrd hb) hx ⟨_, _, _, hkv⟩)
    have HKC := Lib.hid (fun w => (kidCount_any r.op w).mono (R' := fun e w' => e = .returned (.int .i64 (kidN r.op)) ∧ Below w.heap.size w w') fun e w' ⟨h1, h2⟩ => ⟨h1, by rw [h2]; exact Below.refl _ _⟩)
    have hop : r.op = t.x.op := hrd.1.1.1
    obtain ⟨n1, hn1⟩ : ∃ n1 : Nat, n1 = t.kids.length := ⟨_, rfl⟩
    obtain ⟨m, hm⟩ : ∃ m : Nat, m = kidN r.op := ⟨_, rfl⟩
    obtain ⟨fb, hfb⟩ : ∃ b, b = dB (FieldOk t.x) := ⟨_, rfl⟩
    obtain ⟨Z, hZ⟩ : ∃ Z, Z = dB (okE (n + 1) t) := ⟨_, rfl⟩
    have HF1 : Hid (fb = false → Z = false) := Lib.hid fun h => hZ.trans (dB_no fun hh => by rw [hfb, dB_yes hh.1] at h; cases h)
    have HF2 : Hid (n1 ≠ m → Z = false) := Lib.hid fun h => hZ.trans (dB_no fun hh => h (by rw [hn1, hm, hop]; exact hh.2.1))
    have HF3 : Hid (∀ k (hk : k < t.kids.length), ¬ okE n t.kids[k] → Z = false) := Lib.hid fun k hk h => hZ.trans (dB_no fun hh => h (hh.2.2 _ (List.getElem_mem hk)))
    have HF4 : Hid (fb = true → n1 = m → (∀ x, x ∈ t.kids → okE n x) → Z = true) := Lib.hid fun h1 h2 h3 => hZ.trans (dB_yes ⟨by rw [← dB_tr (FieldOk t.x), ← hfb]; exact h1, by rw [← hn1, h2, hm, hop], h3⟩)
    rw [← hZ]
    rw [← hm] at HKC
    rw [← hfb] at HFI
    have hm2 : m ≤ 2 := by rw [hm]; unfold kidN; split <;> (try split) <;> omega
    have HAT : Hid (∀ k (hk : k < t.kids.length), ∃ (a : Addr) (r' : ExR), A = some a ∧ (a.add (k * 7)).block < w.heap.size ∧ Ek w (a.add (k * 7)) r' ∧ (∃ A n c, r'.sv = .slice A n c) ∧ (∃ A n c, r'.kv = .slice A n c) ∧ ∀ W, Below w.heap.size w W → Calls Try.prog 38 #[r'.val, .int .i64 (q - 1)] W fun e w' => e = .returned (.bool (dB (okE n t.kids[k]))) ∧ Below W.heap.size W w') := Lib.hid fun k hkl => by
      obtain ⟨a, r', d', e1, e2, e3, e4, e5⟩ := hat k hkl
      subst e2
      have hq := hk.2 _ (List.getElem_mem hkl)
      exact ⟨a, r', e1, e3, e4, (by obtain ⟨A, c, hv, _⟩ := e5.1.1.2.st.at; exact ⟨A, _, c, hv⟩), (by obtain ⟨A, c, hv⟩ := e5.2.form; exact ⟨A, _, c, hv⟩), fun W hb => by rw [HQ.out]; exact IH.out d' r' t.kids[k] W (e5.below hb) hq.1 hq.2⟩
    have hsl : ∃ A n c, r.sv = .slice A n c := by obtain ⟨A, c, hv, _⟩ := hrd.1.2.st.at; exact ⟨A, _, c, hv⟩
    obtain ⟨op, num, text, ro, up, sv, kv⟩ := r
    obtain ⟨A3, n3, c3, hsl⟩ := hsl
    obtain rfl : sv = .slice A3 n3 c3 := hsl
    obtain rfl : kv = .slice A t.kids.length cap := hkv
    rw [← hn1] at hlen HFI ⊢
    have HN1 := Lib.hid hn1
    have HN8 := Lib.hid hn8
    have HBB := Lib.hid (below_al (Below.refl w.heap.size w) (.cells #[.int .i64 op, .int .i64 num, .string text, .bool ro, .int .i64 up, .slice A3 n3 c3, .slice A n1 cap] 35))
    clear hrd hkids hat hx hk hop hm hfb hZ IH hn1 hn8
    obtain ⟨W0, hW0⟩ : ∃ W0, W0 = w.alloc (.cells #[.int .i64 op, .int .i64 num, .string text, .bool ro, .int .i64 up, .slice A3 n3 c3, .slice A n1 cap] 35) := ⟨_, rfl⟩
    have HK : Hid (∀ W, Below W0.heap.size W0 W → ((W.cell? ⟨w.heap.size, 0, none⟩ = some (.int .i64 op) ∧ W.cell? ⟨w.heap.size, 1, none⟩ = some (.int .i64 num) ∧ W.cell? ⟨w.heap.size, 2, none⟩ = some (.string text) ∧ W.cell? ⟨w.heap.size, 3, none⟩ = some (.bool ro) ∧ W.cell? ⟨w.heap.size, 4, none⟩ = some (.int .i64 up) ∧ W.cell? ⟨w.heap.size, 5, none⟩ = some (.slice A3 n3 c3) ∧ W.cell? ⟨w.heap.size, 6, none⟩ = some (.slice A n1 cap)) ∧ Below W0.heap.size W0 W)) := Lib.hid fun W hb => ⟨seven_cellsT ((hb.block _ (by rw [hW0]; simp)).trans (by rw [hW0]; exact alloc_new_atE _ _ rfl)), hb⟩
    have HB0 : Hid (Below w.heap.size w W0) := Lib.hid (by rw [hW0]; exact HBB.out)
    rw [hW0] at HK HB0
    clear HBB hW0
    cases fb
    · obtain rfl := HF1.out rfl
      clear HF1 HF2 HF3 HF4 HAT
      obtain ⟨⟨a0, a1, a2, a3, a4, a5, a6⟩, -⟩ := HK.out _ (Below.refl _ _)
      go_enter Try.func38, Try.ntmps38
      go_wp2
      refine wp_region_held_drew (S := fun w' => (w'.cell? ⟨w.heap.size, 0, none⟩ = some (.int .i64 op) ∧ w'.cell? ⟨w.heap.size, 1, none⟩ = some (.int .i64 num) ∧ w'.cell? ⟨w.heap.size, 2, none⟩ = some (.string text) ∧ w'.cell? ⟨w.heap.size, 3, none⟩ = some (.bool ro) ∧ w'.cell? ⟨w.heap.size, 4, none⟩ = some (.int .i64 up) ∧ w'.cell? ⟨w.heap.size, 5, none⟩ = some (.slice A3 n3 c3) ∧ w'.cell? ⟨w.heap.size, 6, none⟩ = some (.slice A n1 cap)) ∧ Below ((w.alloc (.cells #[.int .i64 op, .int .i64 num, .string text, .bool ro, .int .i64 up, .slice A3 n3 c3, .slice A n1 cap] 35))).heap.size ((w.alloc (.cells #[.int .i64 op, .int .i64 num, .string text, .bool ro, .int .i64 up, .slice A3 n3 c3, .slice A n1 cap] 35))) w') (by kernel_rfl) (HK.out _ (Below.refl _ _).drew) (fun hHeld => ?_)
      refine wpAnyH_take (i := 0) (oi := { dst := some 7, op := Op.move (Operand.tmp 1), type := 3, pos := _, after := #[], guard := none }) (v := ?vra0) rfl (by kernel_rfl) (by kernel_rfl) (by kernel_rfl) (fun _ _ _ h => h) (Or.inl ⟨by rfl, ?hyra0⟩) (by assumption) ?restra0
      case hyra0 => ((intro w hSw; (try dsimp only at hSw); go_simp); try with_reducible rfl)
      case' restra0 => (try simp only [Act.put, List.setIfInBounds_toArray, List.set_cons_zero, List.set_cons_succ])
      refine wpAnyH_take (i := 1) (oi := { dst := some 8, op := Op.binOp BinOp.eql 3 (Operand.tmp 7) (Operand.const (Value.int IntKind.i64 0)) 3, type := 4, pos := _, after := #[{ on := 0, ground := Ground.data }], guard := none }) (v := ?vra1) rfl (by kernel_rfl) (by kernel_rfl) (by kernel_rfl) (fun _ _ _ h => h) (Or.inl ⟨by rfl, ?hyra1⟩) (by assumption) ?restra1
      case hyra1 => ((intro w hSw; (try dsimp only at hSw); go_simp); try with_reducible rfl)
      case' restra1 => (try simp only [Act.put, List.setIfInBounds_toArray, List.set_cons_zero, List.set_cons_succ])
      refine wpAnyH_take (i := 2) (oi := { dst := some 9, op := Op.move (Operand.tmp 8), type := 4, pos := _, after := #[{ on := 1, ground := Ground.data }], guard := none }) (v := ?vra2) rfl (by kernel_rfl) (by kernel_rfl) (by kernel_rfl) (fun _ _ _ h => h) (Or.inl ⟨by rfl, ?hyra2⟩) (by assumption) ?restra2
      case hyra2 => ((intro w hSw; (try dsimp only at hSw); go_simp); try with_reducible rfl)
      case' restra2 => (try simp only [Act.put, List.setIfInBounds_toArray, List.set_cons_zero, List.set_cons_succ])
      refine wpAnyH_take (i := 3) (oi := { dst := some 10, op := Op.load 35 (Operand.tmp 2), type := 35, pos := _, after := #[{ on := 2, ground := Ground.guard }], guard := some (2, false) }) (v := ?vra3) rfl (by kernel_rfl) (by kernel_rfl) (by kernel_rfl) (fun _ _ _ h => h) (Or.inl ⟨by rfl, ?hyra3⟩) (by assumption) ?restra3
      case hyra3 => ((intro w hSw; (try dsimp only at hSw); go_simp); try with_reducible rfl)
      case' restra3 => (try simp only [Act.put, List.setIfInBounds_toArray, List.set_cons_zero, List.set_cons_succ])
      refine wpAnyH_ready (rs := [4]) (by kernel_rfl) (by simp) ?_
      refine AllReadyH.cons (o := { dst := some 11, op := Op.call { callee := Callee.value (Operand.func 72), args := #[Operand.tmp 10], argTypes := #[35] }, type := 4, pos := _, after := #[{ on := 3, ground := Ground.data }, { on := 2, ground := Ground.chain }, { on := 2, ground := Ground.guard }], guard := some (2, false) }) rfl (fun K hK => ?_) AllReadyH.nil
      go_simp
      refine (HFI.out _ (below_step HB0.out hHeld.2)).mono ?_
      rintro e w1 ⟨rfl, hbm⟩
      refine hK.out _ _ (HK.out _ (below_step hHeld.2 hbm)) (fun hHeld2 => ?_)
      clear hK K hHeld; have hHeld := hHeld2; clear hHeld2
      try simp only [Act.put, List.setIfInBounds_toArray, List.set_cons_zero, List.set_cons_succ]
      refine wpAnyH_take (i := 5) (oi := { dst := some 12, op := Op.unOp UnOp.not 4 (Operand.tmp 11), type := 4, pos := _, after := #[{ on := 4, ground := Ground.data }, { on := 2, ground := Ground.guard }], guard := some (2, false) }) (v := ?vra5) rfl (by kernel_rfl) (by kernel_rfl) (by kernel_rfl) (fun _ _ _ h => h) (Or.inl ⟨by rfl, ?hyra5⟩) (by assumption) ?restra5
      case hyra5 => ((intro w hSw; (try dsimp only at hSw); go_simp); try with_reducible rfl)
      case' restra5 => (try simp only [Act.put, List.setIfInBounds_toArray, List.set_cons_zero, List.set_cons_succ])
      refine wpAnyH_take (i := 6) (oi := { dst := some 13, op := Op.pick (Operand.tmp 9) (Operand.const (Value.bool true)) (Operand.tmp 12), type := 4, pos := _, after := #[{ on := 2, ground := Ground.data }, { on := 5, ground := Ground.data }], guard := none }) (v := ?vra6) rfl (by kernel_rfl) (by kernel_rfl) (by kernel_rfl) (fun _ _ _ h => h) (Or.inl ⟨by rfl, ?hyra6⟩) (by assumption) ?restra6
      case hyra6 => ((intro w hSw; (try dsimp only at hSw); go_simp); try with_reducible rfl)
      case' restra6 => (try simp only [Act.put, List.setIfInBounds_toArray, List.set_cons_zero, List.set_cons_succ])
      refine wpAnyH_take (i := 7) (oi := { dst := some 14, op := Op.move (Operand.tmp 13), type := 4, pos := _, after := #[{ on := 6, ground := Ground.data }, { on := 4, ground := Ground.chain }], guard := none }) (v := ?vra7) rfl (by kernel_rfl) (by kernel_rfl) (by kernel_rfl) (fun _ _ _ h => h) (Or.inl ⟨by rfl, ?hyra7⟩) (by assumption) ?restra7
      case hyra7 => ((intro w hSw; (try dsimp only at hSw); go_simp); try with_reducible rfl)
      case' restra7 => (try simp only [Act.put, List.setIfInBounds_toArray, List.set_cons_zero, List.set_cons_succ])
      refine wpAnyH_take (i := 8) (oi := { dst := some 15, op := Op.fieldAddr 35 (Operand.tmp 2) 4, type := 0, pos := _, after := #[{ on := 7, ground := Ground.guard }], guard := some (7, false) }) (v := undef) rfl (by kernel_rfl) (by kernel_rfl) (by kernel_rfl) (fun _ _ _ h => h) (Or.inr ⟨by rfl, rfl⟩) (by assumption) ?_
      try simp only [Act.put, List.setIfInBounds_toArray, List.set_cons_zero, List.set_cons_succ]
      refine wpAnyH_take (i := 9) (oi := { dst := some 16, op := Op.load 33 (Operand.tmp 15), type := 33, pos := _, after := #[{ on := 8, ground := Ground.data }, { on := 7, ground := Ground.guard }], guard := some (7, false) }) (v := undef) rfl (by kernel_rfl) (by kernel_rfl) (by kernel_rfl) (fun _ _ _ h => h) (Or.inr ⟨by rfl, rfl⟩) (by assumption) ?_
      try simp only [Act.put, List.setIfInBounds_toArray, List.set_cons_zero, List.set_cons_succ]
      refine wpAnyH_take (i := 10) (oi := { dst := some 17, op := Op.call { callee := Callee.builtin Builtin.len, args := #[Operand.tmp 16], argTypes := #[33] }, type := 3, pos := _, after := #[{ on := 9, ground := Ground.data }, { on := 7, ground := Ground.guard }], guard := some (7, false) }) (v := undef) rfl (by kernel_rfl) (by kernel_rfl) (by kernel_rfl) (fun _ _ _ h => h) (Or.inr ⟨by rfl, rfl⟩) (by assumption) ?_
      try simp only [Act.put, List.setIfInBounds_toArray, List.set_cons_zero, List.set_cons_succ]
      refine wpAnyH_take (i := 11) (oi := { dst := some 18, op := Op.fieldAddr 35 (Operand.tmp 2) 0, type := 0, pos := _, after := #[{ on := 7, ground := Ground.guard }], guard := some (7, false) }) (v := undef) rfl (by kernel_rfl) (by kernel_rfl) (by kernel_rfl) (fun _ _ _ h => h) (Or.inr ⟨by rfl, rfl⟩) (by assumption) ?_
      try simp only [Act.put, List.setIfInBounds_toArray, List.set_cons_zero, List.set_cons_succ]
      refine wpAnyH_take (i := 12) (oi := { dst := some 19, op := Op.load 3 (Operand.tmp 18), type := 3, pos := _, after := #[{ on := 11, ground := Ground.data }, { on := 7, ground := Ground.guard }], guard := some (7, false) }) (v := undef) rfl (by kernel_rfl) (by kernel_rfl) (by kernel_rfl) (fun _ _ _ h => h) (Or.inr ⟨by rfl, rfl⟩) (by assumption) ?_
      try simp only [Act.put, List.setIfInBounds_toArray, List.set_cons_zero, List.set_cons_succ]
      refine wpAnyH_take (i := 13) (oi := { dst := some 20, op := Op.call { callee := Callee.value (Operand.func 73), args := #[Operand.tmp 19], argTypes := #[3] }, type := 3, pos := _, after := #[{ on := 12, ground := Ground.data }, { on := 7, ground := Ground.chain }, { on := 7, ground := Ground.guard }], guard := some (7, false) }) (v := undef) rfl (by kernel_rfl) (by kernel_rfl) (by kernel_rfl) (fun _ _ _ h => h) (Or.inr ⟨by rfl, rfl⟩) (by assumption) ?_
      try simp only [Act.put, List.setIfInBounds_toArray, List.set_cons_zero, List.set_cons_succ]
      refine wpAnyH_take (i := 14) (oi := { dst := some 21, op := Op.binOp BinOp.neq 3 (Operand.tmp 17) (Operand.tmp 20) 3, type := 4, pos := _, after := #[{ on := 10, ground := Ground.data }, { on := 13, ground := Ground.data }, { on := 7, ground := Ground.guard }], guard := some (7, false) }) (v := undef) rfl (by kernel_rfl) (by kernel_rfl) (by kernel_rfl) (fun _ _ _ h => h) (Or.inr ⟨by rfl, rfl⟩) (by assumption) ?_
      try simp only [Act.put, List.setIfInBounds_toArray, List.set_cons_zero, List.set_cons_succ]
      refine wpAnyH_take (i := 15) (oi := { dst := some 22, op := Op.pick (Operand.tmp 14) (Operand.const (Value.bool true)) (Operand.tmp 21), type := 4, pos := _, after := #[{ on := 7, ground := Ground.data }, { on := 14, ground := Ground.data }], guard := none }) (v := ?vra15) rfl (by kernel_rfl) (by kernel_rfl) (by kernel_rfl) (fun _ _ _ h => h) (Or.inl ⟨by rfl, ?hyra15⟩) (by assumption) ?restra15
      case hyra15 => ((intro w hSw; (try dsimp only at hSw); go_simp); try with_reducible rfl)
      case' restra15 => (try simp only [Act.put, List.setIfInBounds_toArray, List.set_cons_zero, List.set_cons_succ])
      refine wpAnyH_done (by kernel_rfl) ?_ _
      go_wp2
      go_ret
      exact ⟨rfl, below_step HB0.out hHeld.2⟩
    · by_cases hnm : n1 = m
      · subst hnm
        have hne : ((n1 : Int) == (n1 : Int)) = true := by simp
        obtain ⟨⟨a0, a1, a2, a3, a4, a5, a6⟩, -⟩ := HK.out _ (Below.refl _ _)
        go_enter Try.func38, Try.ntmps38
        go_wp2
        go_region_held3 (fun W => (W.cell? ⟨w.heap.size, 0, none⟩ = some (.int .i64 op) ∧ W.cell? ⟨w.heap.size, 1, none⟩ = some (.int .i64 num) ∧ W.cell? ⟨w.heap.size, 2, none⟩ = some (.string text) ∧ W.cell? ⟨w.heap.size, 3, none⟩ = some (.bool ro) ∧ W.cell? ⟨w.heap.size, 4, none⟩ = some (.int .i64 up) ∧ W.cell? ⟨w.heap.size, 5, none⟩ = some (.slice A3 n3 c3) ∧ W.cell? ⟨w.heap.size, 6, none⟩ = some (.slice A n1 cap)) ∧ Below ((w.alloc (.cells #[.int .i64 op, .int .i64 num, .string text, .bool ro, .int .i64 up, .slice A3 n3 c3, .slice A n1 cap] 35))).heap.size ((w.alloc (.cells #[.int .i64 op, .int .i64 num, .string text, .bool ro, .int .i64 up, .slice A3 n3 c3, .slice A n1 cap] 35))) W) (first | exact HK.out _ (Below.refl _ _).drew | exact HK.out _ (below_step (by assumption : _ ∧ Below _ _ _).2 hbm) | go_keep)
          (first
            | (go_at_call 72; refine (HFI.out _ (below_step HB0.out (by assumption : _ ∧ Below _ _ _).2)).mono ?_; rintro e wr ⟨rfl, hbm⟩)
            | (go_at_call 73; refine (HKC.out _).mono ?_; rintro e w7 ⟨rfl, hbm⟩))
        rename_i hH
        obtain ⟨⟨b0, b1, b2, b3, b4, b5, b6⟩, hbb⟩ := hH
        have HB1 := Lib.hid (below_step HB0.out hbb)
        clear a0 a1 a2 a3 a4 a5 a6 hbb HK
        go_wp2
        go_loopw [26] (fun i wr => ∃ k : Nat, k ≤ n1 ∧ i = .int .i64 k ∧ Hid (∀ x, x ∈ t.kids.take k → okE n x) ∧ Below w.heap.size w wr) (fun i _ => n1 - (intOf i).toNat)
        case atStart => exact ⟨0, Nat.zero_le _, rfl, Lib.hid (by simp), HB1.out⟩
        case round =>
          obtain ⟨k, hk, rfl, HS, hbel⟩ := hrel
          by_cases hlt : k < n1
          · have hl1 : k < t.kids.length := by rw [← HN1.out]; exact hlt
            obtain ⟨a, qq, rfl, hab, hx, ⟨qA, qm, qc, hs1⟩, ⟨rA, rm, rc, hs2⟩, HC⟩ := HAT.out k hl1
            obtain ⟨c0, c1, c2, c3, c4, c5, c6⟩ := hx.below hbel hab
            have HC := Lib.hid HC
            have HNX := Lib.hid (okE_take (n := n) hl1 HS.out)
            have HBD := Lib.hid (HF3.out k hl1)
            generalize t.kids[k] = s at HC HNX HBD
            obtain ⟨qo, qn, qt, qr, qu, qs, qk⟩ := qq
            dsimp only at hs1 hs2 c0 c1 c2 c3 c4 c5 c6 HC
            subst hs1 hs2
            obtain ⟨b, hb⟩ : ∃ b, b = dB (okE n s) := ⟨_, rfl⟩
            have HBB := Lib.hid hb
            rw [← hb] at HC
            have HB3 := Lib.hid (below_al hbel (.cells #[.int .i64 qo, .int .i64 qn, .string qt, .bool qr, .int .i64 qu, .slice qA qm qc, .slice rA rm rc] 35))
            clear hx hb
            go_wp2_with fail
            refine (HC.out _ HB3.out).mono ?_
            rintro e w2 ⟨rfl, hb2⟩
            have HB4 := Lib.hid (below_step HB3.out hb2)
            clear hb2
            cases b
            · have HL := Lib.hid (HBD.out (dB_false HBB.out.symm))
              go_wp2
              go_ret
              exact ⟨ret_bool HL.out.symm, HB4.out⟩
            · have HS2 := Lib.hid (HNX.out (dB_true HBB.out.symm))
              go_wp2
              go_roundw
              case rel => exact ⟨k + 1, by omega, by go_num, HS2, HB4.out⟩
              case measure => simp [intOf]; omega
          · have HL := Lib.hid (HF4.out (by first | rfl | trivial) (by first | rfl | trivial) (by have := HS.out; rwa [List.take_of_length_le (by have := HN1.out; omega)] at this))
            go_wp2
            go_ret
            exact ⟨ret_bool HL.out.symm, hbel⟩
      · obtain rfl := HF2.out hnm
        clear HF1 HF2 HF3 HF4 HAT
        have hne : ((n1 : Int) != (m : Int)) = true := by simp; omega
        obtain ⟨⟨a0, a1, a2, a3, a4, a5, a6⟩, -⟩ := HK.out _ (Below.refl _ _)
        go_enter Try.func38, Try.ntmps38
        go_wp2
        go_region_held3 (fun W => (W.cell? ⟨w.heap.size, 0, none⟩ = some (.int .i64 op) ∧ W.cell? ⟨w.heap.size, 1, none⟩ = some (.int .i64 num) ∧ W.cell? ⟨w.heap.size, 2, none⟩ = some (.string text) ∧ W.cell? ⟨w.heap.size, 3, none⟩ = some (.bool ro) ∧ W.cell? ⟨w.heap.size, 4, none⟩ = some (.int .i64 up) ∧ W.cell? ⟨w.heap.size, 5, none⟩ = some (.slice A3 n3 c3) ∧ W.cell? ⟨w.heap.size, 6, none⟩ = some (.slice A n1 cap)) ∧ Below ((w.alloc (.cells #[.int .i64 op, .int .i64 num, .string text, .bool ro, .int .i64 up, .slice A3 n3 c3, .slice A n1 cap] 35))).heap.size ((w.alloc (.cells #[.int .i64 op, .int .i64 num, .string text, .bool ro, .int .i64 up, .slice A3 n3 c3, .slice A n1 cap] 35))) W) (first | exact HK.out _ (Below.refl _ _).drew | exact HK.out _ (below_step (by assumption : _ ∧ Below _ _ _).2 hbm) | go_keep)
          (first
            | (go_at_call 72; refine (HFI.out _ (below_step HB0.out (by assumption : _ ∧ Below _ _ _).2)).mono ?_; rintro e wr ⟨rfl, hbm⟩)
            | (go_at_call 73; refine (HKC.out _).mono ?_; rintro e w7 ⟨rfl, hbm⟩))
        go_wp2
        go_ret
        exact ⟨rfl, below_step HB0.out (by assumption : _ ∧ Below _ _ _).2⟩
set_option maxRecDepth 100000 in
set_option maxHeartbeats 1000000 in
theorem iIsEx_any (d : Nat) (r : ExR) (t : Ex) (w : World) (hr : RdN exC d w r t) (hx : ExSz t.x) (hk : SizT ExSz d t.kids) :
    Calls Try.prog 11 #[r.val] w fun e w' => e = .returned (.bool (dB (okE 8 t))) ∧ Below w.heap.size w w' := by
  have HC := Lib.hid (fun W (hb : Below w.heap.size w W) => within_any 8 (by omega) d r t W (hr.below hb) hx hk)
  obtain ⟨A3, n3, c3, h1⟩ : ∃ A n c, r.sv = .slice A n c := by obtain ⟨A, c, hv, _⟩ := hr.1.1.2.st.at; exact ⟨A, _, c, hv⟩
  obtain ⟨A4, n4, c4, h2⟩ : ∃ A n c, r.kv = .slice A n c := by obtain ⟨A, c, hv⟩ := hr.2.form; exact ⟨A, _, c, hv⟩
  obtain ⟨op, num, text, ro, up, sv, kv⟩ := r
  dsimp only at h1 h2
  subst h1 h2
  have HB0 := Lib.hid (below_al (Below.refl w.heap.size w) (.cells #[.int .i64 op, .int .i64 num, .string text, .bool ro, .int .i64 up, .slice A3 n3 c3, .slice A4 n4 c4] 35))
  clear hr hx hk
  go_enter Try.func11, Try.ntmps11
  go_wp2_with fail
  refine (HC.out _ HB0.out).mono ?_
  rintro e w1 ⟨rfl, hb1⟩
  have HB1 := Lib.hid (below_step HB0.out hb1)
  clear hb1
  go_wp2
  go_ret
  exact ⟨rfl, HB1.out⟩
end Go.Proofs.Ytnpgeneahjlkpaa
