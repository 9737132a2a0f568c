/- CHAPTER 8: spec.l7Copy. -/
import Derived.Test.YthmjffijhlkgcaaPtsE
import Derived.Test.YthmjffijhlkgcaaRgZ
set_option linter.unusedVariables false
set_option linter.unusedSimpArgs false
namespace Go.Proofs.Ythmjffijhlkgcaa
open Go.RowKit NumP
set_option maxRecDepth 100000 in
set_option maxHeartbeats 4000000 in
theorem sCopyPth_any (v : PthV) (p : Pth) (w : World) (h : HasP7 w v p) (hn : HasSN w v.sv p.st) (hz : p.st.length ≤ 1048576) (hzs : ∀ s ∈ p.st, s.ts.length ≤ 1048576) :
    Calls Try.prog 15 #[v.val] w fun e w' => ∃ (v' : PthV) (S : Nat → Prop), e = .returned v'.val ∧ OwnP7 w.heap.size w' v' p S ∧ Below w.heap.size w w' := by
  obtain ⟨r, u, l⟩ := p
  obtain ⟨r', u', sv⟩ := v
  obtain ⟨rfl, rfl, hs⟩ := h
  dsimp only at hs hn hz hzs ⊢
  obtain ⟨hnil, R0, hR0, hlen, hall⟩ := hn
  obtain ⟨A, cap, rfl, hn', hc0⟩ := id hR0
  have hc : ∀ i (hi : i < R0.length) (hi' : i < l.length), ∃ a, A = some a ∧ (a.add (i * 2)).block < w.heap.size ∧ Sk w (a.add (i * 2)) R0[i] ∧ R0[i].n = l[i].n ∧ HasX w R0[i].tv l[i].ts ∧ NilOk R0[i].tv ∧ l[i].ts.length ≤ 1048576 := fun i hi hi' => by
    obtain ⟨a, h1, h2, h3⟩ := HasSR.sk hc0 i hi
    exact ⟨a, h1, h2, h3, (hall i hi hi').1.1, (hall i hi hi').1.2, (hall i hi hi').2, hzs _ (List.getElem_mem hi')⟩
  obtain ⟨n, hnn⟩ : ∃ n, n = R0.length := ⟨_, rfl⟩
  have HN : Hid (n = R0.length ∧ R0.length = l.length) := Lib.hid ⟨hnn, hlen⟩
  rw [← hlen, ← hnn] at hz
  rw [← hnn] at hn' ⊢
  have HCC := Lib.hid hc
  obtain ⟨B, hB⟩ : ∃ B, B = w.heap.size := ⟨_, rfl⟩
  have hb0 := below_al (below_al (below_al (Below.refl w.heap.size w) (.cells #[.bool r', .int .i64 u', .slice A n cap] 33)) (.cells #[.bool false, .int .i64 0, .slice none 0 0] 33)) (.cells #[.bool r', .int .i64 u', .slice none 0 0] 33)
  have ht0 : Two7 w.heap.size 33 (((w.alloc (.cells #[.bool r', .int .i64 u', .slice A n cap] 33)).alloc (.cells #[.bool false, .int .i64 0, .slice none 0 0] 33)).alloc (.cells #[.bool r', .int .i64 u', .slice none 0 0] 33)) r' u' (.slice none 0 0) :=
    ⟨alloc_new_at' _ _ (by simp), by rw [Below.heap_alloc _ _ _ (by simp)]; exact alloc_new_at' _ _ (by simp)⟩
  have hx0 : (((w.alloc (.cells #[.bool r', .int .i64 u', .slice A n cap] 33)).alloc (.cells #[.bool false, .int .i64 0, .slice none 0 0] 33)).alloc (.cells #[.bool r', .int .i64 u', .slice none 0 0] 33)).heap[w.heap.size]? = some (.cells #[.bool r', .int .i64 u', .slice A n cap] 33 (0, 0)) := by rw [Below.heap_alloc _ _ _ (by simp; omega), Below.heap_alloc _ _ _ (by simp)]; exact alloc_new_at' _ _ rfl
  have HSZ := Lib.hid hz
  clear hnn hz hs hc hc0 hR0 hlen hall hnil hzs
  go_enter Try.func15, Try.ntmps15
  go_wp2
  have hsz0 : w.heap.size + 3 ≤ (((w.alloc (.cells #[.bool r', .int .i64 u', .slice A n cap] 33)).alloc (.cells #[.bool false, .int .i64 0, .slice none 0 0] 33)).alloc (.cells #[.bool r', .int .i64 u', .slice none 0 0] 33)).heap.size := by simp
  go_loopw [4] (fun i wr => ∃ (k : Nat) (D : Option Addr) (c : Nat) (S : Nat → Prop), k ≤ n ∧ i = .int .i64 k ∧ Hid (Two7 w.heap.size 33 wr r' u' (.slice D k c)) ∧ Hid (OwnS (w.heap.size + 3) wr (.slice D k c) (l.take k) S) ∧ Hid (w.heap.size + 3 ≤ wr.heap.size) ∧ Hid (wr.heap[w.heap.size]? = some (.cells #[.bool r', .int .i64 u', .slice A n cap] 33 (0, 0))) ∧ Hid (Below w.heap.size w wr)) (fun i _ => n - (intOf i).toNat)
  case atStart => exact ⟨0, none, 0, _, Nat.zero_le _, rfl, Lib.hid ht0, Lib.hid (owL_nil stK 1 _ _), Lib.hid hsz0, Lib.hid hx0, Lib.hid hb0⟩
  case round =>
    clear hb0 ht0 hsz0 hx0
    obtain ⟨k, D, c, S, hk, rfl, HT, HO, HG, HX1, HB⟩ := hrel
    obtain ⟨z0, z1, z2⟩ := (three_fro HX1.out).1
    by_cases hlt : k < n
    · have hk0 : k < R0.length := by rw [← HN.out.1]; exact hlt
      have hkl : k < l.length := by rw [← HN.out.2]; exact hk0
      obtain ⟨a, rfl, hab, hcell, hx1, hx2, hx3, hx4⟩ := HCC.out k hk0 hkl
      obtain ⟨rk, hrk⟩ : ∃ r, r = R0[k] := ⟨_, rfl⟩
      rw [← hrk] at hcell hx1 hx2 hx3
      obtain ⟨At, ct, et, -⟩ := id hx2
      obtain ⟨mt, hmt⟩ : ∃ m, m = l[k].ts.length := ⟨_, rfl⟩
      rw [← hmt] at et
      obtain ⟨rn, rtv⟩ := rk
      dsimp only at hx1 hx2 hx3 et
      subst et
      obtain ⟨c0, c1⟩ := hcell.below HB.out hab
      dsimp only at c0 c1
      have HX2 := Lib.hid (And.intro hx1 (And.intro hx2 (And.intro hx3 (And.intro hx4 hmt))))
      have HKL := Lib.hid hkl
      have HAB := Lib.hid hab
      have HM : Hid (k + 1 ≤ 1048577) := Lib.hid (by have := HSZ.out; omega)
      have HNA : Hid (∀ (W : World), RowR Tst.enc 2 67 W.heap.size (W.alloc (.cells #[] 67)) (.slice (some ⟨W.heap.size, 0, none⟩) 0 0) ([] : List Tst)) := Lib.hid fun W => ⟨by simp, .inr ⟨W.heap.size, 0, #[], rfl, Nat.le_refl _, heap_alloc_new W _, by simp, by simp, by simp, by simp⟩⟩
      have hwa := below_al ((Below.refl wr.heap.size wr).drew) (.cells #[] 67)
      obtain ⟨⟨x0, x1, x2⟩, f0, f1, f2⟩ := three_fro HT.out.1
      have hq : w.heap.size + 1 + 1 < wr.heap.size := HT.out.lt
      have HWA := Lib.hid hwa
      have HCL := Lib.hid hcell
      clear hcell hx1 hx2 hx3 hx4 hrk hmt hwa
      have HSS : Hid (∀ W, Below (w.heap.size + 3) wr W → W.cell? ⟨w.heap.size + 1 + 1, 2, none⟩ = some (.slice D k c) ∧ W.cell? ⟨w.heap.size, 2, none⟩ = some (.slice (some a) n cap) ∧ W.cell? (a.add (k * 2)) = some (.string rn) ∧ W.cell? ⟨(a.add (k * 2)).block, (a.add (k * 2)).off + 1, none⟩ = some (.slice At mt ct)) := Lib.hid fun W hb => by
        obtain ⟨u0, u1⟩ := HCL.out.below (HB.out.trans (hb.mono (by omega))) HAB.out
        exact ⟨(three_fro ((hb.block _ (by omega)).trans HT.out.1)).1.2.2, (three_fro ((hb.block _ (by omega)).trans HX1.out)).1.2.2, u0, u1⟩
      have KW0 : Hid (Below (w.heap.size + 3) wr wr.drew) := Lib.hid (Below.refl _ _).drew
      have KW1 : Hid (Below (w.heap.size + 3) wr (wr.drew.alloc (.cells #[] 67))) := Lib.hid ((Below.refl _ _).drew.alloc HG.out _)
      go_wp2
      -- <<reg
      refine wp_region_Z (fun w' => w'.cell? ⟨w.heap.size + 1 + 1, 2, none⟩ = some (.slice D k c) ∧ w'.cell? ⟨w.heap.size, 2, none⟩ = some (.slice (some a) n cap) ∧ w'.cell? (a.add (k * 2)) = some (.string rn) ∧ w'.cell? ⟨(a.add (k * 2)).block, (a.add (k * 2)).off + 1, none⟩ = some (.slice At mt ct)) 20 (by kernel_rfl) (HSS.out _ KW0.out) (fun hHeld => ?_)
      refine wpAnyZ_take (i := 0) (oi := { dst := some 17, op := Op.fieldAddr 33 (Operand.tmp 3) 2, type := 0, pos := _, after := #[], guard := none }) (v := ?va0) rfl (by kernel_rfl) (fun _ _ _ h => h) (Or.inl ⟨by rfl, ?hya0⟩) (by assumption) ?resta0
      case hya0 => ((intro w hSw; (try dsimp only at hSw); go_simp); try with_reducible rfl)
      case' resta0 => (try simp only [Act.put, List.setIfInBounds_toArray, List.set_cons_zero, List.set_cons_succ])
      refine wpAnyZ_take (i := 1) (oi := { dst := some 18, op := Op.load 31 (Operand.tmp 17), type := 31, pos := _, after := #[{ on := 0, ground := Ground.data }], guard := none }) (v := ?va1) rfl (by kernel_rfl) (fun _ _ _ h => h) (Or.inl ⟨by rfl, ?hya1⟩) (by assumption) ?resta1
      case hya1 => ((intro w hSw; (try dsimp only at hSw); go_simp); try with_reducible rfl)
      case' resta1 => (try simp only [Act.put, List.setIfInBounds_toArray, List.set_cons_zero, List.set_cons_succ])
      refine wpAnyZ_take (i := 2) (oi := { dst := some 19, op := Op.fieldAddr 33 (Operand.tmp 1) 2, type := 0, pos := _, after := #[], guard := none }) (v := ?va2) rfl (by kernel_rfl) (fun _ _ _ h => h) (Or.inl ⟨by rfl, ?hya2⟩) (by assumption) ?resta2
      case hya2 => ((intro w hSw; (try dsimp only at hSw); go_simp); try with_reducible rfl)
      case' resta2 => (try simp only [Act.put, List.setIfInBounds_toArray, List.set_cons_zero, List.set_cons_succ])
      refine wpAnyZ_take (i := 3) (oi := { dst := some 20, op := Op.load 31 (Operand.tmp 19), type := 31, pos := _, after := #[{ on := 2, ground := Ground.data }], guard := none }) (v := ?va3) rfl (by kernel_rfl) (fun _ _ _ h => h) (Or.inl ⟨by rfl, ?hya3⟩) (by assumption) ?resta3
      case hya3 => ((intro w hSw; (try dsimp only at hSw); go_simp); try with_reducible rfl)
      case' resta3 => (try simp only [Act.put, List.setIfInBounds_toArray, List.set_cons_zero, List.set_cons_succ])
      refine wpAnyZ_take (i := 4) (oi := { dst := some 21, op := Op.move (Operand.tmp 4), type := 3, pos := _, after := #[], guard := none }) (v := ?va4) rfl (by kernel_rfl) (fun _ _ _ h => h) (Or.inl ⟨by rfl, ?hya4⟩) (by assumption) ?resta4
      case hya4 => ((intro w hSw; (try dsimp only at hSw); go_simp); try with_reducible rfl)
      case' resta4 => (try simp only [Act.put, List.setIfInBounds_toArray, List.set_cons_zero, List.set_cons_succ])
      refine wpAnyZ_take (i := 5) (oi := { dst := some 22, op := Op.indexAddr 31 (Operand.tmp 20) (Operand.tmp 21), type := 0, pos := _, after := #[{ on := 3, ground := Ground.data }, { on := 4, ground := Ground.data }], guard := none }) (v := ?va5) rfl (by kernel_rfl) (fun _ _ _ h => h) (Or.inl ⟨by rfl, ?hya5⟩) (by assumption) ?resta5
      case hya5 => ((intro w hSw; (try dsimp only at hSw); go_simp); try with_reducible rfl)
      case' resta5 => (try simp only [Act.put, List.setIfInBounds_toArray, List.set_cons_zero, List.set_cons_succ])
      refine wpAnyZ_take (i := 6) (oi := { dst := some 23, op := Op.fieldAddr 62 (Operand.tmp 22) 0, type := 0, pos := _, after := #[{ on := 5, ground := Ground.data }], guard := none }) (v := ?va6) rfl (by kernel_rfl) (fun _ _ _ h => h) (Or.inl ⟨by rfl, ?hya6⟩) (by assumption) ?resta6
      case hya6 => ((intro w hSw; (try dsimp only at hSw); go_simp); try with_reducible rfl)
      case' resta6 => (try simp only [Act.put, List.setIfInBounds_toArray, List.set_cons_zero, List.set_cons_succ])
      refine wpAnyZ_take (i := 7) (oi := { dst := some 24, op := Op.load 9 (Operand.tmp 23), type := 9, pos := _, after := #[{ on := 6, ground := Ground.data }], guard := none }) (v := ?va7) rfl (by kernel_rfl) (fun _ _ _ h => h) (Or.inl ⟨by rfl, ?hya7⟩) (by assumption) ?resta7
      case hya7 => ((intro w hSw; (try dsimp only at hSw); go_simp); try with_reducible rfl)
      case' resta7 => (try simp only [Act.put, List.setIfInBounds_toArray, List.set_cons_zero, List.set_cons_succ])
      refine wpAnyZ_take (i := 9) (oi := { dst := some 26, op := Op.fieldAddr 33 (Operand.tmp 1) 2, type := 0, pos := _, after := #[], guard := none }) (v := ?va9) rfl (by kernel_rfl) (fun _ _ _ h => h) (Or.inl ⟨by rfl, ?hya9⟩) (by assumption) ?resta9
      case hya9 => ((intro w hSw; (try dsimp only at hSw); go_simp); try with_reducible rfl)
      case' resta9 => (try simp only [Act.put, List.setIfInBounds_toArray, List.set_cons_zero, List.set_cons_succ])
      refine wpAnyZ_take (i := 10) (oi := { dst := some 27, op := Op.load 31 (Operand.tmp 26), type := 31, pos := _, after := #[{ on := 9, ground := Ground.data }], guard := none }) (v := ?va10) rfl (by kernel_rfl) (fun _ _ _ h => h) (Or.inl ⟨by rfl, ?hya10⟩) (by assumption) ?resta10
      case hya10 => ((intro w hSw; (try dsimp only at hSw); go_simp); try with_reducible rfl)
      case' resta10 => (try simp only [Act.put, List.setIfInBounds_toArray, List.set_cons_zero, List.set_cons_succ])
      refine wpAnyZ_take (i := 11) (oi := { dst := some 28, op := Op.move (Operand.tmp 4), type := 3, pos := _, after := #[], guard := none }) (v := ?va11) rfl (by kernel_rfl) (fun _ _ _ h => h) (Or.inl ⟨by rfl, ?hya11⟩) (by assumption) ?resta11
      case hya11 => ((intro w hSw; (try dsimp only at hSw); go_simp); try with_reducible rfl)
      case' resta11 => (try simp only [Act.put, List.setIfInBounds_toArray, List.set_cons_zero, List.set_cons_succ])
      refine wpAnyZ_take (i := 12) (oi := { dst := some 29, op := Op.indexAddr 31 (Operand.tmp 27) (Operand.tmp 28), type := 0, pos := _, after := #[{ on := 10, ground := Ground.data }, { on := 11, ground := Ground.data }], guard := none }) (v := ?va12) rfl (by kernel_rfl) (fun _ _ _ h => h) (Or.inl ⟨by rfl, ?hya12⟩) (by assumption) ?resta12
      case hya12 => ((intro w hSw; (try dsimp only at hSw); go_simp); try with_reducible rfl)
      case' resta12 => (try simp only [Act.put, List.setIfInBounds_toArray, List.set_cons_zero, List.set_cons_succ])
      refine wpAnyZ_take (i := 13) (oi := { dst := some 30, op := Op.fieldAddr 62 (Operand.tmp 29) 1, type := 0, pos := _, after := #[{ on := 12, ground := Ground.data }], guard := none }) (v := ?va13) rfl (by kernel_rfl) (fun _ _ _ h => h) (Or.inl ⟨by rfl, ?hya13⟩) (by assumption) ?resta13
      case hya13 => ((intro w hSw; (try dsimp only at hSw); go_simp); try with_reducible rfl)
      case' resta13 => (try simp only [Act.put, List.setIfInBounds_toArray, List.set_cons_zero, List.set_cons_succ])
      refine wpAnyZ_take (i := 14) (oi := { dst := some 31, op := Op.load 60 (Operand.tmp 30), type := 60, pos := _, after := #[{ on := 13, ground := Ground.data }], guard := none }) (v := ?va14) rfl (by kernel_rfl) (fun _ _ _ h => h) (Or.inl ⟨by rfl, ?hya14⟩) (by assumption) ?resta14
      case hya14 => ((intro w hSw; (try dsimp only at hSw); go_simp); try with_reducible rfl)
      case' resta14 => (try simp only [Act.put, List.setIfInBounds_toArray, List.set_cons_zero, List.set_cons_succ])
      refine wpAnyZ_next (i := 8) (o := { dst := some 25, op := Op.buildSlice 60 0 #[], type := 60, pos := _, after := #[], guard := none }) (by kernel_rfl) rfl (fun K hK => ?_)
      go_simp
      refine hK.out _ _ (HSS.out _ KW1.out) (fun hHeld2 => ?_)
      clear hK K hHeld; have hHeld := hHeld2; clear hHeld2
      try simp only [Act.put, List.setIfInBounds_toArray, List.set_cons_zero, List.set_cons_succ]
      refine wpAnyZ_next (i := 15) (o := { dst := some 32, op := Op.call { callee := Callee.builtin Builtin.append, args := #[Operand.tmp 25, Operand.tmp 31], argTypes := #[60, 60] }, type := 60, pos := _, after := #[{ on := 8, ground := Ground.data }, { on := 14, ground := Ground.data }], guard := none }) (by kernel_rfl) rfl (fun K hK => ?_)
      refine step_copy_rec Tst.enc_len (by omega) Try.underlying60 infoTst (by rfl) (by omega) (by rfl) _ _ (by rfl) wr.drew.heap.size (by rfl) (HNA.out wr.drew) (.slice At mt ct) l[k].ts (by rfl) (HasR.below HX2.out.2.1 (below_step HB.out HWA.out)) (fun x _ => oneX x) HX2.out.2.2.1 HX2.out.2.2.2.1 mt HX2.out.2.2.2.2 ?_
      intro A5 c5 w5 hrow5 hg5
      have hb5 : Below wr.heap.size wr w5 := HWA.out.grown hg5 HWA.out.size (fun q e => by cases e; exact Nat.le_refl _)
      have HB5 := Lib.hid hb5
      have KW5 : Hid (Below (w.heap.size + 3) wr w5) := Lib.hid (hb5.mono HG.out)
      have hb6 := below_al hb5 (.cells #[.string rn, .slice A5 mt c5] 62)
      have KW6 : Hid (Below (w.heap.size + 3) wr (w5.alloc (.cells #[.string rn, .slice A5 mt c5] 62))) := Lib.hid (hb6.mono HG.out)
      have HT6 := Lib.hid (HT.out.below hb6)
      have HNW : Hid (∀ j u, (StR.enc ⟨rn, .slice A5 mt c5⟩)[j]? = some u → (w5.alloc (.cells #[.string rn, .slice A5 mt c5] 62)).cell? ((⟨w5.heap.size, 0, none⟩ : Addr).add j) = some u) := Lib.hid (World.news_of_block (heap_alloc_new w5 _))
      obtain ⟨R, hR, hRl, hgrow⟩ := OwL.grow (OwL.below HO.out hb6)
      have hSr : ∀ q, (Value.slice A5 mt c5).ownBlock = some q → wr.heap.size ≤ q := fun q e => by have := (RowR.lt hrow5 e).1; exact this
      have HGROW := Lib.hid (fun (w' : World) (v' : Value) => hgrow (w' := w') (v' := v') (r := ⟨rn, .slice A5 mt c5⟩) (t := lf l[k]) (Sr := fun q => (Value.slice A5 mt c5).ownBlock = some q) ⟨_, fun _ => False, ⟨⟨HX2.out.1, RowR.mono (RowR.alloc hrow5 _) (by have : wr.heap.size ≤ wr.drew.heap.size := Nat.le_refl _; have := HG.out; omega)⟩, fun q => Iff.rfl⟩, owL_nil _ _ _ _, fun q _ h => h, fun q => by simp⟩ (fun q h1 h2 => by have := (OwL.lt HO.out q h1).2; have := hSr q h2; omega))
      have HRR := Lib.hid hR
      have HRL : Hid (k = R.length) := Lib.hid (by rw [hRl, List.length_map, List.length_take]; have := HN.out; omega)
      clear hrow5 hg5 hb5 hb6 hR hRl hgrow hSr
      refine hK.out _ _ (HSS.out _ KW5.out) (fun hHeld2 => ?_)
      clear hK K hHeld; have hHeld := hHeld2; clear hHeld2
      try simp only [Act.put, List.setIfInBounds_toArray, List.set_cons_zero, List.set_cons_succ]
      refine wpAnyZ_take (i := 16) (oi := { dst := some 33, op := Op.build 62 #[(0, Operand.tmp 24), (1, Operand.tmp 32)], type := 62, pos := _, after := #[{ on := 7, ground := Ground.data }, { on := 15, ground := Ground.data }], guard := none }) (v := ?va16) rfl (by kernel_rfl) (fun _ _ _ h => h) (Or.inl ⟨by rfl, ?hya16⟩) (by assumption) ?resta16
      case hya16 => ((intro w hSw; (try dsimp only at hSw); go_simp); try with_reducible rfl)
      case' resta16 => (try simp only [Act.put, List.setIfInBounds_toArray, List.set_cons_zero, List.set_cons_succ])
      refine wpAnyZ_next (i := 17) (o := { dst := some 34, op := Op.buildSlice 31 1 #[(0, Operand.tmp 33)], type := 31, pos := _, after := #[{ on := 16, ground := Ground.data }], guard := none }) (by kernel_rfl) rfl (fun K hK => ?_)
      go_simp
      refine hK.out _ _ (HSS.out _ KW6.out) (fun hHeld2 => ?_)
      clear hK K hHeld; have hHeld := hHeld2; clear hHeld2
      try simp only [Act.put, List.setIfInBounds_toArray, List.set_cons_zero, List.set_cons_succ]
      refine wpAnyZ_next (i := 18) (o := { dst := some 35, op := Op.call { callee := Callee.builtin Builtin.append, args := #[Operand.tmp 18, Operand.tmp 34], argTypes := #[31, 31] }, type := 31, pos := _, after := #[{ on := 1, ground := Ground.data }, { on := 17, ground := Ground.data }, { on := 15, ground := Ground.chain }], guard := none }) (by kernel_rfl) rfl (fun K hK => ?_)
      refine step_rec_append StR.enc_len (by omega) Try.underlying31 infoStp (by rfl) (by omega) (by rfl) _ _ (by rfl) (w.heap.size + 3) k (.slice D k c) R (by rfl) HRR.out HRL.out ⟨rn, .slice A5 mt c5⟩ ⟨w5.heap.size, 0, none⟩ 1 (by rfl) HNW.out (fun u hu => by simp [StR.enc] at hu; rcases hu with rfl | rfl <;> rfl) HM.out (by have := HG.out; have := HB5.out.size; simp; omega) (k + 1) rfl ?_
      intro g6 c6 w6 hrow6 hg6 hv6
      have HT7 := Lib.hid (HT6.out.grown hg6 (fun q e => (RowR.lt HRR.out e).1))
      have HOW := Lib.hid (HGROW.out w6 (.slice (some ⟨g6, 0, none⟩) (k + 1) c6) hrow6 hg6 (by
        rcases hv6 with h | h
        · exact .inl (by rw [← h]; rfl)
        · exact .inr ⟨g6, rfl, by rw [h]; exact Nat.le_refl _⟩))
      have hb7 : Below (w.heap.size + 3) wr w6 := KW6.out.grown hg6 (by have := KW6.out.size; have := HG.out; omega) (fun q e => (RowR.lt HRR.out e).1)
      have KW7 := Lib.hid hb7
      have KW8 : Hid (Below (w.heap.size + 1) wr (w6.setCell ⟨w.heap.size + 1 + 1, 2, none⟩ (.slice (some ⟨g6, 0, none⟩) (k + 1) c6))) := Lib.hid (Below.setCell (hb7.mono (by omega)) (p := ⟨w.heap.size + 1 + 1, 2, none⟩) (by show _ ≤ w.heap.size + 1 + 1; omega) _)
      obtain ⟨⟨p0, p1, p2⟩, h0, h1, h2⟩ := three_fro HT7.out.1
      clear hrow6 hg6 hv6 hb7
      refine hK.out _ _ (HSS.out _ KW7.out) (fun hHeld2 => ?_)
      clear hK K hHeld; have hHeld := hHeld2; clear hHeld2
      try simp only [Act.put, List.setIfInBounds_toArray, List.set_cons_zero, List.set_cons_succ]
      refine wpAnyZ_take (i := 19) (oi := { dst := some 36, op := Op.fieldAddr 33 (Operand.tmp 3) 2, type := 0, pos := _, after := #[{ on := 0, ground := Ground.phase }, { on := 1, ground := Ground.phase }, { on := 2, ground := Ground.phase }, { on := 3, ground := Ground.phase }, { on := 4, ground := Ground.phase }, { on := 5, ground := Ground.phase }, { on := 6, ground := Ground.phase }, { on := 7, ground := Ground.phase }, { on := 8, ground := Ground.phase }, { on := 9, ground := Ground.phase }, { on := 10, ground := Ground.phase }, { on := 11, ground := Ground.phase }, { on := 12, ground := Ground.phase }, { on := 13, ground := Ground.phase }, { on := 14, ground := Ground.phase }, { on := 15, ground := Ground.phase }, { on := 16, ground := Ground.phase }, { on := 17, ground := Ground.phase }, { on := 18, ground := Ground.phase }], guard := none }) (v := ?va19) rfl (by kernel_rfl) (fun _ _ _ h => h) (Or.inl ⟨by rfl, ?hya19⟩) (by assumption) ?resta19
      case hya19 => ((intro w hSw; (try dsimp only at hSw); go_simp); try with_reducible rfl)
      case' resta19 => (try simp only [Act.put, List.setIfInBounds_toArray, List.set_cons_zero, List.set_cons_succ])
      refine wpAnyZ_last (o := { dst := none, op := Op.store 31 (Operand.tmp 36) (Operand.tmp 35), type := 0, pos := _, after := #[{ on := 19, ground := Ground.data }, { on := 18, ground := Ground.data }, { on := 18, ground := Ground.chain }, { on := 0, ground := Ground.phase }, { on := 1, ground := Ground.phase }, { on := 2, ground := Ground.phase }, { on := 3, ground := Ground.phase }, { on := 4, ground := Ground.phase }, { on := 5, ground := Ground.phase }, { on := 6, ground := Ground.phase }, { on := 7, ground := Ground.phase }, { on := 8, ground := Ground.phase }, { on := 9, ground := Ground.phase }, { on := 10, ground := Ground.phase }, { on := 11, ground := Ground.phase }, { on := 12, ground := Ground.phase }, { on := 13, ground := Ground.phase }, { on := 14, ground := Ground.phase }, { on := 15, ground := Ground.phase }, { on := 16, ground := Ground.phase }, { on := 17, ground := Ground.phase }, { on := 18, ground := Ground.phase }], guard := none }) (by kernel_rfl) rfl (fun K hK => ?_)
      go_simp
      refine hK.out _ _ ?_
      clear hK K hHeld
      try simp only [Act.put, List.setIfInBounds_toArray, List.set_cons_zero, List.set_cons_succ]
      refine wpAnyZ_done (by kernel_rfl) ?_ _
      -- >>reg
      have HEND : Hid (∃ S', OwnS (w.heap.size + 3) (w6.setCell ⟨w.heap.size + 1 + 1, 2, none⟩ (.slice (some ⟨g6, 0, none⟩) (k + 1) c6)) (.slice (some ⟨g6, 0, none⟩) (k + 1) c6) (l.take (k + 1)) S') := Lib.hid ⟨_, by
        have h := OwL.frame HOW.out (w' := w6.setCell ⟨w.heap.size + 1 + 1, 2, none⟩ (.slice (some ⟨g6, 0, none⟩) (k + 1) c6)) (fun b hb => Below.heap_setCell _ _ _ _ (by have := (OwL.lt HOW.out b hb).1; show b ≠ w.heap.size + 1 + 1; omega))
        unfold OwnS
        rw [List.take_succ_eq_append_getElem HKL.out, List.map_append, List.map_singleton]
        exact h⟩
      have HX9 : Hid ((w6.setCell ⟨w.heap.size + 1 + 1, 2, none⟩ (.slice (some ⟨g6, 0, none⟩) (k + 1) c6)).heap[w.heap.size]? = some (.cells #[.bool r', .int .i64 u', .slice (some a) n cap] 33 (0, 0))) := Lib.hid ((KW8.out.block _ (by omega)).trans HX1.out)
      have HB9 : Hid (Below w.heap.size w (w6.setCell ⟨w.heap.size + 1 + 1, 2, none⟩ (.slice (some ⟨g6, 0, none⟩) (k + 1) c6))) := Lib.hid (HB.out.trans (KW8.out.mono (by omega)))
      have HS9 : Hid (w.heap.size + 3 ≤ (w6.setCell ⟨w.heap.size + 1 + 1, 2, none⟩ (.slice (some ⟨g6, 0, none⟩) (k + 1) c6)).heap.size) := Lib.hid (by have h1 := KW8.out.size; have := HG.out; omega)
      have HT9 := Lib.hid (HT7.out.put (.slice (some ⟨g6, 0, none⟩) (k + 1) c6))
      clear KW0 KW1 KW5 KW6 KW7 KW8 HSS x0 x1 x2 f0 f1 f2 p0 p1 p2 h0 h1 h2 c0 c1
      go_wp2
      go_roundw
      case rel => exact ⟨k + 1, _, _, _, by omega, by go_num, HT9, Lib.hid HEND.out.choose_spec, HS9, HX9, HB9⟩
      case measure => simp [intOf]; omega
    · have hkn : k = n := by omega
      subst hkn
      obtain ⟨⟨x0, x1, x2⟩, f0, f1, f2⟩ := three_fro HT.out.1
      obtain ⟨⟨t0, t1, t2⟩, g0, g1, g2⟩ := three_fro HT.out.2
      have HF : Hid (OwnS (w.heap.size + 3) wr (.slice D k c) l S) := Lib.hid (by have := HO.out; rwa [List.take_of_length_le (by have := HN.out; omega)] at this)
      clear HO
      go_wp2
      refine bodyPost_ret (v := .agg #[.bool r', .int .i64 u', .slice D k c]) (by simp [results, Try.results15, go_sem, x0, x1, x2, f0, f1, f2, t0, t1, t2, g0, g1, g2]) rfl ?_
      refine ⟨⟨r', u', .slice D k c⟩, S, rfl, ⟨rfl, rfl, ?_⟩, ?_⟩
      · exact OwL.mono (OwL.set (OwL.set (OwL.set HF.out (by omega)) (by omega)) (by omega)) (by omega)
      · exact below_set (below_set (below_set HB.out (by omega)) (by omega)) (by omega)
end Go.Proofs.Ythmjffijhlkgcaa
