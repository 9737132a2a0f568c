/- CHAPTER 7, impl: Step.isValid. -/
import Derived.Test.YtnpgeneahjlkpaaPthF
import Derived.Test.YtnpgeneahjlkpaaPthE
import Derived.Deep.RegionHeld3
import Derived.Deep.RegionWith
set_option linter.unusedVariables false
set_option linter.unusedSimpArgs false
namespace Go.Proofs.Ytnpgeneahjlkpaa
open Go.RowKit

/-- a slice's length fits its room -/
def CapX (v : Value) : Prop := ∀ A n c, v = .slice A n c → n ≤ c
theorem RowX.capX {B : Nat} {w : World} {v : Value} {l : List Tst} (h : RowX B w v l) : CapX v := by
  intro A n c e
  rcases RowR.form h with ⟨e', _⟩ | ⟨g, cap, e', _⟩
  · rw [e'] at e; cases e; exact Nat.le_refl _
  · subst e'; cases e; exact RowR.cap h
/-- steps as they are read, each with room for its tests -/
def HasSC (w : World) (v : Value) (l : List Stp) : Prop := ∃ R : List StR, HasR StR.enc 2 w v R ∧ R.length = l.length ∧ ∀ i (h : i < R.length) (h' : i < l.length), (R[i].n = l[i].n ∧ HasX w R[i].tv l[i].ts) ∧ CapX R[i].tv
theorem HasSC.below {w w' : World} {v : Value} {l : List Stp} (h : HasSC w v l) (hb : Below w.heap.size w w') : HasSC w' v l := by
  obtain ⟨R, h1, h2, h3⟩ := h
  exact ⟨R, HasR.below h1 hb, h2, fun i a b => ⟨⟨(h3 i a b).1.1, HasR.below (h3 i a b).1.2 hb⟩, (h3 i a b).2⟩⟩
theorem OwnS.hasC {B : Nat} {w : World} {v : Value} {l : List Stp} {S : Nat → Prop} (h : OwnS B w v l S) : HasSC w v l := by
  obtain ⟨R, K, h1, h2, h3, _⟩ := h
  rw [List.length_map] at h2
  refine ⟨R, RowR.has StR.enc_len h1, h2, fun i a b => ?_⟩
  obtain ⟨S1, S2, ho, _⟩ := h3 i a (by rw [List.length_map]; exact b)
  rw [List.getElem_map] at ho
  exact ⟨⟨ho.1.1, RowR.hasX ho.1.2⟩, RowX.capX ho.1.2⟩
theorem HasSC.at {w : World} {v : Value} {l : List Stp} (h : HasSC w v l) : ∃ (A : Option Addr) (cap : Nat), v = .slice A l.length cap ∧ l.length ≤ 9223372036854775807 ∧
    ∀ i (hi : i < l.length), ∃ (a : Addr) (r : StR), A = some a ∧ (a.add (i * 2)).block < w.heap.size ∧ Sk w (a.add (i * 2)) r ∧ r.n = l[i].n ∧ HasX w r.tv l[i].ts ∧ CapX r.tv := by
  obtain ⟨R, ⟨A, cap, hv, hn, hc⟩, h2, h3⟩ := h
  refine ⟨A, cap, by rw [← h2]; exact hv, by rw [← h2]; exact hn, fun i hi => ?_⟩
  have hi' : i < R.length := by rw [h2]; exact hi
  obtain ⟨a, ha, hb, hk⟩ := HasSR.sk hc i hi'
  exact ⟨a, R[i], ha, hb, hk, (h3 i hi' hi).1.1, (h3 i hi' hi).1.2, (h3 i hi' hi).2⟩
theorem hasX_take {w : World} {A : Option Addr} {n c k : Nat} {l : List Tst} (h : HasX w (.slice A n c) l) (hk : k ≤ n) : HasX w (.slice A k c) (l.take k) := by
  obtain ⟨A', cap, e, hn, hc⟩ := h
  cases e
  refine ⟨A, c, by rw [List.length_take, Nat.min_eq_left hk], by rw [List.length_take]; omega, fun i hi => ?_⟩
  have hi' : i < l.length := by rw [List.length_take] at hi; omega
  obtain ⟨a, h1, h2, h3⟩ := hc i hi'
  exact ⟨a, h1, h2, fun j x hx => h3 j x (by rw [List.getElem_take] at hx; exact hx)⟩
theorem two_cells' {w : World} {b : Nat} {a0 a1 : Value} {t : TypeId} (h : w.heap[b]? = some (.cells #[a0, a1] t (0, 0))) : w.cell? ⟨b, 0, none⟩ = some a0 ∧ w.cell? ⟨b, 1, none⟩ = some a1 := by
  constructor
  · rw [cell_of_row _ b 0 _ _ _ h]; rfl
  · rw [cell_of_row _ b 1 _ _ _ h]; rfl
/-- the first k tests are valid, no two of them with one name -/
def TsOk (l : List Tst) (k : Nat) : Prop := ∀ i (hi : i < l.length), i < k → tstV l[i] = true ∧ ¬ NameIn l[i] (l.take i)
def StpOk (s : Stp) : Prop := nameB s.n = true ∧ s.ts.length ≤ 3 ∧ TsOk s.ts s.ts.length
theorem tsOk_next {l : List Tst} {k : Nat} (h : TsOk l k) (hk : k < l.length) (h1 : tstV l[k] = true) (h2 : ¬ NameIn l[k] (l.take k)) : TsOk l (k + 1) := fun i hi hik => by
  by_cases e : i = k
  · subst e; exact ⟨h1, h2⟩
  · exact h i hi (by omega)
set_option maxRecDepth 100000 in
set_option maxHeartbeats 4000000 in
theorem iStp_any (r : StR) (s : Stp) (w : World) (hr : r.n = s.n) (ht : HasX w r.tv s.ts) (hcap : CapX r.tv) (hz : StpSz s) :
    Calls Try.prog 85 #[.agg #[.string r.n, r.tv]] w fun e w' => e = .returned (.bool (dB (StpOk s))) ∧ Below w.heap.size w w' := by
  obtain ⟨sn, l⟩ := s
  obtain ⟨rn, tv⟩ := r
  dsimp only at hr ht hcap
  subst hr
  have HN1 := Lib.hid (fun w => iIsName_any rn (by unfold maxLen; have := hz.1; dsimp only at this; omega) w)
  have HCT := Lib.hid (fun A k c n (h : tv = .slice A n c) (hk : k ≤ n) (x : Tst) W (hb : Below w.heap.size w W) => containsF_any (.slice A k c) (l.take k) x W (HasR.below (hasX_take (h ▸ ht) hk) hb))
  obtain ⟨A, cap, rfl, hn', hc⟩ := id ht
  obtain ⟨n, hnn⟩ : ∃ n, n = l.length := ⟨_, rfl⟩
  have HN : Hid (n = l.length) := Lib.hid hnn
  have hnc := hcap A l.length cap rfl
  rw [← hnn] at hn' hnc HCT ⊢
  obtain ⟨Z, hZ⟩ : ∃ Z, Z = dB (StpOk ⟨rn, l⟩) := ⟨_, rfl⟩
  have HF1 : Hid (nameB rn = false → Z = false) := Lib.hid fun h => hZ.trans (dB_no fun hh => by have := hh.1; rw [h] at this; cases this)
  have HF2 : Hid (3 < n → Z = false) := Lib.hid fun h => hZ.trans (dB_no fun hh => by have := hh.2.1; dsimp only at this; omega)
  have HF3 : Hid (∀ k (hk : k < l.length), (tstV l[k] = false ∨ NameIn l[k] (l.take k)) → Z = false) := Lib.hid fun k hk h => hZ.trans (dB_no fun hh => by
    have := hh.2.2 k hk hk
    rcases h with h | h
    · rw [this.1] at h; cases h
    · exact this.2 h)
  have HF4 : Hid (nameB rn = true → n ≤ 3 → TsOk l l.length → Z = true) := Lib.hid fun h1 h2 h3 => hZ.trans (dB_yes ⟨h1, by dsimp only; omega, h3⟩)
  have HSZ : Hid (∀ x ∈ l, TstSz x) := Lib.hid hz.2.2
  rw [← hZ]
  generalize nameB rn = b0 at *
  have hb0 := below_al (Below.refl w.heap.size w) (.cells #[.string rn, .slice A n cap] 86)
  have HB0 := Lib.hid hb0
  have HBX : Hid (∀ W, Below (w.alloc (.cells #[.string rn, .slice A n cap] 86)).heap.size (w.alloc (.cells #[.string rn, .slice A n cap] 86)) W → W.cell? ⟨w.heap.size, 0, none⟩ = some (.string rn) ∧ W.cell? ⟨w.heap.size, 1, none⟩ = some (.slice A n cap)) := Lib.hid fun W hb => two_cells' ((hb.block _ (by simp)).trans (alloc_new_at' _ _ rfl))
  clear hnn hZ ht hcap hz hb0
  cases b0
  · have HL := Lib.hid (HF1.out rfl)
    clear hc
    go_enter Try.func85, Try.ntmps85
    go_wp2_with (first | (go_at_call 109; refine (HN1.out _).mono ?_; rintro e w' ⟨rfl, rfl⟩))
    go_ret
    exact ⟨ret_bool HL.out.symm, HB0.out⟩
  by_cases h3 : 3 < n
  · have HL := Lib.hid (HF2.out h3)
    clear hc
    go_enter Try.func85, Try.ntmps85
    go_wp2_with (first | (go_at_call 109; refine (HN1.out _).mono ?_; rintro e w' ⟨rfl, rfl⟩))
    go_ret
    exact ⟨ret_bool HL.out.symm, HB0.out⟩
  obtain ⟨W0, hW0⟩ : ∃ W0, W0 = w.alloc (.cells #[.string rn, .slice A n cap] 86) := ⟨_, rfl⟩
  have hz0 : W0.heap.size = w.heap.size + 1 := by rw [hW0]; simp
  have HZ0 := Lib.hid hz0
  rw [← hW0] at HB0 HBX
  clear hz0
  go_enter Try.func85, Try.ntmps85
  go_wp2_with (first | (go_at_call 109; refine (HN1.out _).mono ?_; rintro e w' ⟨rfl, rfl⟩))
  rw [← hW0]
  go_loopw [18] (fun i wr => ∃ k : Nat, k ≤ n ∧ i = .int .i64 k ∧ Hid (TsOk l k) ∧ Hid (Below W0.heap.size W0 wr)) (fun i _ => n - (intOf i).toNat)
  case atStart => exact ⟨0, Nat.zero_le _, rfl, Lib.hid (fun i _ h => absurd h (by omega)), Lib.hid (Below.refl _ _)⟩
  case round =>
    obtain ⟨k, hk, rfl, HS, HBW⟩ := hrel
    by_cases hlt : k < n
    · have hl1 : k < l.length := by rw [← HN.out]; exact hlt
      obtain ⟨a, rfl, hab, hx⟩ := HasX.xk hc k hl1
      have HTV := Lib.hid (iTst_any l[k] (HSZ.out _ (List.getElem_mem hl1)))
      have HCX := Lib.hid (HCT.out (some a) k cap n rfl hk l[k])
      have HF5 := Lib.hid (HF3.out k hl1)
      have HNX := Lib.hid (tsOk_next HS.out hl1)
      obtain ⟨x, hxe⟩ : ∃ x, x = l[k] := ⟨_, rfl⟩
      rw [← hxe] at hx HTV HCX HF5 HNX
      have hbel := below_step HB0.out HBW.out
      obtain ⟨c0, c1⟩ := hx.below hbel hab
      have hkc : (k : Int) ≤ (cap : Int) := by omega
      obtain ⟨W1, hW1⟩ : ∃ W1, W1 = wr.alloc (.cells #[.string x.n, .string x.v] 116) := ⟨_, rfl⟩
      have hB1 : Below W0.heap.size W0 W1 := by rw [hW1]; exact below_al HBW.out _
      have HK : Hid (∀ W, Below W1.heap.size W1 W → (W.cell? ⟨wr.heap.size, 0, none⟩ = some (.string x.n) ∧ W.cell? ⟨wr.heap.size, 1, none⟩ = some (.string x.v)) ∧ (W.cell? ⟨w.heap.size, 0, none⟩ = some (.string rn) ∧ W.cell? ⟨w.heap.size, 1, none⟩ = some (.slice (some a) n cap)) ∧ Below W1.heap.size W1 W) := Lib.hid fun W hb => ⟨two_cells' ((hb.block _ (by rw [hW1]; simp)).trans (by rw [hW1]; exact alloc_new_at' _ _ rfl)), HBX.out _ (below_step hB1 hb), hb⟩
      have HB1 := Lib.hid hB1
      have HLOW : Hid (∀ W, Below W1.heap.size W1 W → Below w.heap.size w W) := Lib.hid fun W hb => below_step (below_step HB0.out hB1) hb
      obtain ⟨b1, hb1⟩ : ∃ b, b = tstV x := ⟨_, rfl⟩
      obtain ⟨b2, hb2⟩ : ∃ b, b = dB (NameIn x (l.take k)) := ⟨_, rfl⟩
      have HB2 := Lib.hid hb2
      rw [← hb1] at HTV HF5 HNX
      rw [← hb2] at HCX
      clear hx hxe hc hbel hB1 hb1 hb2 HCT HF3
      obtain ⟨⟨d0, d1⟩, ⟨e0, e1⟩, -⟩ := HK.out _ (Below.refl _ _)
      cases b1
      -- <<region
      · have HL := Lib.hid (HF5.out (.inl rfl))
        go_wp2
        rw [← hW1]
        clear hW1 d0 d1 e0 e1 c0 c1
        refine wp_region_held_drew (S := (fun W => (W.cell? ⟨wr.heap.size, 0, none⟩ = some (.string x.n) ∧ W.cell? ⟨wr.heap.size, 1, none⟩ = some (.string x.v)) ∧ (W.cell? ⟨w.heap.size, 0, none⟩ = some (.string rn) ∧ W.cell? ⟨w.heap.size, 1, none⟩ = some (.slice (some a) n cap)) ∧ Below W1.heap.size W1 W)) (by kernel_rfl) (HK.out _ (Below.refl _ _).drew) (fun hHeld => ?_)
        refine wpAnyH_take (i := 0) (oi := { dst := some 23, op := Op.load 116 (Operand.tmp 4), type := 116, pos := _, after := #[], guard := none }) (v := ?v0) rfl (by kernel_rfl) (by kernel_rfl) (by kernel_rfl) (fun _ _ _ h => h) (Or.inl ⟨by rfl, ?hy0⟩) (by assumption) ?rest0
        case hy0 => ((intro w hSw; (try dsimp only at hSw); go_simp); try with_reducible rfl)
        case' rest0 => (try simp only [Act.put, List.setIfInBounds_toArray, List.set_cons_zero, List.set_cons_succ])
        refine wpAnyH_ready (rs := [1]) (by kernel_rfl) (by simp) ?_
        refine AllReadyH.cons (o := { dst := some 24, op := Op.call { callee := Callee.value (Operand.func 110), args := #[Operand.tmp 23], argTypes := #[116] }, type := 4, pos := _, after := #[{ on := 0, ground := Ground.data }], guard := none }) rfl (fun K hK => ?_) AllReadyH.nil
        go_simp
        refine (HTV.out _).mono ?_
        rintro e w2 ⟨rfl, hbm⟩
        refine hK.out _ _ (HK.out _ (below_step hHeld.2.2 hbm)) (fun hHeld2 => ?_)
        clear hK K hHeld
        try simp only [Act.put, List.setIfInBounds_toArray, List.set_cons_zero, List.set_cons_succ]
        refine wpAnyH_take (i := 2) (oi := { dst := some 25, op := Op.unOp UnOp.not 4 (Operand.tmp 24), type := 4, pos := _, after := #[{ on := 1, ground := Ground.data }], guard := none }) (v := ?v2) rfl (by kernel_rfl) (by kernel_rfl) (by kernel_rfl) (fun _ _ _ h => h) (Or.inl ⟨by rfl, ?hy2⟩) (by assumption) ?rest2
        case hy2 => ((intro w hSw; (try dsimp only at hSw); go_simp); try with_reducible rfl)
        case' rest2 => (try simp only [Act.put, List.setIfInBounds_toArray, List.set_cons_zero, List.set_cons_succ])
        refine wpAnyH_take (i := 3) (oi := { dst := some 26, op := Op.move (Operand.tmp 25), type := 4, pos := _, after := #[{ on := 2, ground := Ground.data }, { on := 1, ground := Ground.chain }], guard := none }) (v := ?v3) rfl (by kernel_rfl) (by kernel_rfl) (by kernel_rfl) (fun _ _ _ h => h) (Or.inl ⟨by rfl, ?hy3⟩) (by assumption) ?rest3
        case hy3 => ((intro w hSw; (try dsimp only at hSw); go_simp); try with_reducible rfl)
        case' rest3 => (try simp only [Act.put, List.setIfInBounds_toArray, List.set_cons_zero, List.set_cons_succ])
        refine wpAnyH_take (i := 4) (oi := { dst := some 27, op := Op.fieldAddr 86 (Operand.tmp 1) 1, type := 0, pos := _, after := #[{ on := 3, ground := Ground.guard }], guard := some (3, false) }) (v := undef) rfl (by kernel_rfl) (by kernel_rfl) (by kernel_rfl) (fun _ _ _ h => h) (Or.inr ⟨by rfl, rfl⟩) (by assumption) ?_
        try simp only [Act.put, List.setIfInBounds_toArray, List.set_cons_zero, List.set_cons_succ]
        refine wpAnyH_take (i := 5) (oi := { dst := some 28, op := Op.load 84 (Operand.tmp 27), type := 84, pos := _, after := #[{ on := 4, ground := Ground.data }, { on := 3, ground := Ground.guard }], guard := some (3, false) }) (v := undef) rfl (by kernel_rfl) (by kernel_rfl) (by kernel_rfl) (fun _ _ _ h => h) (Or.inr ⟨by rfl, rfl⟩) (by assumption) ?_
        try simp only [Act.put, List.setIfInBounds_toArray, List.set_cons_zero, List.set_cons_succ]
        refine wpAnyH_take (i := 6) (oi := { dst := some 29, op := Op.move (Operand.tmp 3), type := 3, pos := _, after := #[{ on := 3, ground := Ground.guard }], guard := some (3, false) }) (v := undef) rfl (by kernel_rfl) (by kernel_rfl) (by kernel_rfl) (fun _ _ _ h => h) (Or.inr ⟨by rfl, rfl⟩) (by assumption) ?_
        try simp only [Act.put, List.setIfInBounds_toArray, List.set_cons_zero, List.set_cons_succ]
        refine wpAnyH_take (i := 7) (oi := { dst := some 30, op := Op.slice 84 (Operand.tmp 28) none (some (Operand.tmp 29)) none, type := 84, pos := _, after := #[{ on := 5, ground := Ground.data }, { on := 6, ground := Ground.data }, { on := 3, ground := Ground.guard }], guard := some (3, false) }) (v := undef) rfl (by kernel_rfl) (by kernel_rfl) (by kernel_rfl) (fun _ _ _ h => h) (Or.inr ⟨by rfl, rfl⟩) (by assumption) ?_
        try simp only [Act.put, List.setIfInBounds_toArray, List.set_cons_zero, List.set_cons_succ]
        refine wpAnyH_take (i := 8) (oi := { dst := some 31, op := Op.load 116 (Operand.tmp 4), type := 116, pos := _, after := #[{ on := 3, ground := Ground.guard }], guard := some (3, false) }) (v := undef) rfl (by kernel_rfl) (by kernel_rfl) (by kernel_rfl) (fun _ _ _ h => h) (Or.inr ⟨by rfl, rfl⟩) (by assumption) ?_
        try simp only [Act.put, List.setIfInBounds_toArray, List.set_cons_zero, List.set_cons_succ]
        refine wpAnyH_take (i := 9) (oi := { dst := some 32, op := Op.makeFunc (Fn.func 112) #[Operand.tmp 31] #[], type := 156, pos := _, after := #[{ on := 8, ground := Ground.data }, { on := 3, ground := Ground.guard }], guard := some (3, false) }) (v := undef) rfl (by kernel_rfl) (by kernel_rfl) (by kernel_rfl) (fun _ _ _ h => h) (Or.inr ⟨by rfl, rfl⟩) (by assumption) ?_
        try simp only [Act.put, List.setIfInBounds_toArray, List.set_cons_zero, List.set_cons_succ]
        refine wpAnyH_take (i := 10) (oi := { dst := some 33, op := Op.call { callee := Callee.value (Operand.func 111), args := #[Operand.tmp 30, Operand.tmp 32], argTypes := #[84, 156] }, type := 4, pos := _, after := #[{ on := 7, ground := Ground.data }, { on := 9, ground := Ground.data }, { on := 3, ground := Ground.chain }, { on := 3, ground := Ground.guard }], guard := some (3, false) }) (v := undef) rfl (by kernel_rfl) (by kernel_rfl) (by kernel_rfl) (fun _ _ _ h => h) (Or.inr ⟨by rfl, rfl⟩) (by assumption) ?_
        try simp only [Act.put, List.setIfInBounds_toArray, List.set_cons_zero, List.set_cons_succ]
        refine wpAnyH_take (i := 11) (oi := { dst := some 34, op := Op.pick (Operand.tmp 26) (Operand.const (Value.bool true)) (Operand.tmp 33), type := 4, pos := _, after := #[{ on := 3, ground := Ground.data }, { on := 10, ground := Ground.data }], guard := none }) (v := ?v11) rfl (by kernel_rfl) (by kernel_rfl) (by kernel_rfl) (fun _ _ _ h => h) (Or.inl ⟨by rfl, ?hy11⟩) (by assumption) ?rest11
        case hy11 => ((intro w hSw; (try dsimp only at hSw); go_simp); try with_reducible rfl)
        case' rest11 => (try simp only [Act.put, List.setIfInBounds_toArray, List.set_cons_zero, List.set_cons_succ])
        refine wpAnyH_done (by kernel_rfl) ?_ _
        have hB2 := HLOW.out _ hHeld2.2.2
        go_wp2
        go_ret
        exact ⟨ret_bool HL.out.symm, hB2⟩
      · cases b2
        · have HTS := Lib.hid (HNX.out rfl (dB_false HB2.out.symm))
          go_wp2
          rw [← hW1]
          clear hW1
          go_region_held3 (fun W => (W.cell? ⟨wr.heap.size, 0, none⟩ = some (.string x.n) ∧ W.cell? ⟨wr.heap.size, 1, none⟩ = some (.string x.v)) ∧ (W.cell? ⟨w.heap.size, 0, none⟩ = some (.string rn) ∧ W.cell? ⟨w.heap.size, 1, none⟩ = some (.slice (some a) n cap)) ∧ Below W1.heap.size W1 W) (first | exact HK.out _ (Below.refl _ _).drew | exact HK.out _ (below_step (by assumption : _ ∧ _ ∧ Below _ _ _).2.2 hbm) | go_keep)
            (first
              | (go_at_call 110; refine (HTV.out _).mono ?_; rintro e w2 ⟨rfl, hbm⟩)
              | (go_at_call 111; refine (HCX.out _ (HLOW.out _ (by assumption : _ ∧ _ ∧ Below _ _ _).2.2)).mono ?_; rintro e w3 ⟨rfl, hbm⟩))
          have hB3 := (by assumption : _ ∧ _ ∧ Below W1.heap.size W1 w3).2.2
          clear d0 d1 e0 e1 c0 c1
          go_wp2
          go_roundw
          case rel => exact ⟨k + 1, by omega, by go_num, HTS, Lib.hid (below_step HB1.out hB3)⟩
          case measure => simp [intOf]; omega
        · have HL := Lib.hid (HF5.out (.inr (dB_true HB2.out.symm)))
          go_wp2
          rw [← hW1]
          clear hW1
          go_region_held3 (fun W => (W.cell? ⟨wr.heap.size, 0, none⟩ = some (.string x.n) ∧ W.cell? ⟨wr.heap.size, 1, none⟩ = some (.string x.v)) ∧ (W.cell? ⟨w.heap.size, 0, none⟩ = some (.string rn) ∧ W.cell? ⟨w.heap.size, 1, none⟩ = some (.slice (some a) n cap)) ∧ Below W1.heap.size W1 W) (first | exact HK.out _ (Below.refl _ _).drew | exact HK.out _ (below_step (by assumption : _ ∧ _ ∧ Below _ _ _).2.2 hbm) | go_keep)
            (first
              | (go_at_call 110; refine (HTV.out _).mono ?_; rintro e w2 ⟨rfl, hbm⟩)
              | (go_at_call 111; refine (HCX.out _ (HLOW.out _ (by assumption : _ ∧ _ ∧ Below _ _ _).2.2)).mono ?_; rintro e w3 ⟨rfl, hbm⟩))
          have hB3 := (by assumption : _ ∧ _ ∧ Below W1.heap.size W1 w3).2.2
          clear d0 d1 e0 e1 c0 c1
          go_wp2
          go_ret
          exact ⟨ret_bool HL.out.symm, HLOW.out _ hB3⟩
    · have HL := Lib.hid (HF4.out (by first | rfl | trivial) (by omega) (by have := HS.out; rwa [show k = l.length by have := HN.out; omega] at this))
      have hB := below_step HB0.out HBW.out
      clear hc
      go_wp2
      go_ret
      exact ⟨ret_bool HL.out.symm, hB⟩
      -- >>region
end Go.Proofs.Ytnpgeneahjlkpaa
