/- CHAPTER 11, spec: UsedGroups. PRINTED by tools/gen_us.py. -/
import Derived.Test.YtdkpleghpnflhaaRgZ
set_option linter.unusedVariables false
set_option linter.unusedSimpArgs false
namespace Go.Proofs.Ytdkpleghpnflhaa
open Go.RowKit
set_option maxRecDepth 100000

theorem step_rec_join {α : Type} {P : Program} {enc : α → List Value} {z bytes E L : Nat} {zero : Value} (hz : ∀ x, (enc x).length = z) (h0 : 0 < z) (hL : P.underlying L = some (.slice E))
    (hi : (P.info? E).map (fun i => (i.zero, i.size, i.bytes)) = some (some zero, z, bytes)) (hzs : zero.cells.size = z) (hby : bytes ≤ 1024)
    {w : World} {ops : Array Oper} {o : Oper} {a : Act} {K : Act → World → Prop} {Q : Exit → Act → World → Prop} {X : Prop} (hgd : o.guard = none) (s x : Operand)
    (ho : o.op = .call { callee := .builtin .append, args := #[s, x], argTypes := #[L, L] })
    (B n : Nat) (v : Value) (l : List α) (hs : a.eval s = v) (hrow : RowR enc z E B w v l) (hn : n = l.length)
    (v2 : Value) (l2 : List α) (hx : a.eval x = v2) (hv2 : HasR enc z w v2 l2) (hone : ∀ x ∈ l2, ∀ u ∈ enc x, u.oneCell' = true) (hk : NilOk v2)
    (hlen : n + l2.length ≤ 4194304) (hbase : B ≤ w.heap.size)
    (h : ∀ v' w', RowR enc z E B w' v' (l ++ l2) → w.grownBy w' v.ownBlock → (v'.ownBlock = v.ownBlock ∨ v'.ownBlock = some w.heap.size) → K (a.put o.dst v') w') :
    if Region.wanted o (yielded ops a.tmps) = true then Oper.wp P o a w K Q else X := by
  have hw : Region.wanted o (yielded ops a.tmps) = true := by simp [Region.wanted, hgd]
  rw [if_pos hw]
  obtain ⟨i0, hi, hz0, hz1, hz2⟩ := info_of hi
  subst hn
  obtain ⟨A, c, rfl, hn', hc⟩ := id hv2
  unfold Oper.wp execOp
  cases A with
  | none =>
    obtain rfl := hasR_none hv2
    obtain rfl := hk _ _ rfl
    have hr := run_append_owned_none (P := P) (w := w) B L o.type E i0 z hL hi v l.length (l.flatMap enc) hrow
    simp only [ho, resolve, invoke, builtin, Sem.run_bind, Sem.run_pure, Result.andThen_ok, List.map_toArray, List.map_cons, List.map_nil, hs, hx, hr, List.length_nil]
    exact h _ _ (by rw [List.append_nil]; exact hrow) (grown_refl _ _) (.inl rfl)
  | some p =>
    obtain ⟨v', w', hr, h2, h3, h4, h5⟩ := run_append_own_at (P := P) w B L o.type E i0 zero z bytes hL hi hz0 hz1 hz2 hzs h0 v l.length (l.flatMap enc) hrow p l2.length c (l2.flatMap enc) (flat_len hz l2) (fun j u hj => hasR_cells hz h0 hc j u hj) (fun u hu => by obtain ⟨y, hm, hy⟩ := List.mem_flatMap.1 hu; exact hone y hm u hy) (by unfold maxLen; omega) (Nat.le_trans (Nat.mul_le_mul hlen hby) (by omega)) hbase
    simp only [ho, resolve, invoke, builtin, Sem.run_bind, Sem.run_pure, Result.andThen_ok, List.map_toArray, List.map_cons, List.map_nil, hs, hx, hr]
    refine h v' w' ?_ h3 h5
    unfold RowR
    rw [List.length_append, List.flatMap_append]
    exact h2
def SUs (d : Nat) : Prop := ∀ (mv : MoV) (v : Value) (l : List Sc) (w : World), MoForm mv → RdL scK d w v l → sizeS l ≤ 1048576 → Calls Try.prog 6 #[mv.val, v] w fun e w' => ∃ v' : Value, e = .returned v' ∧ Row w.heap.size w' v' (usL l) ∧ Below w.heap.size w w'
set_option maxHeartbeats 8000000 in
theorem sUs_of (d : Nat) (ih : ∀ e, d = e + 1 → SUs e) : SUs d := by
  intro mv v l w hmf hv hsz
  obtain ⟨A, cap, rfl, hn', hat⟩ := sc_at hv
  obtain ⟨na, g1, g2, g3⟩ := mv
  obtain ⟨⟨A1, n1, c1, f1⟩, ⟨A2, n2, c2, f2⟩, ⟨A3, n3, c3, f3⟩⟩ := id hmf
  dsimp only at f1 f2 f3
  subst f1 f2 f3
  obtain ⟨n, hn⟩ : ∃ n, n = l.length := ⟨_, rfl⟩
  have HN := Lib.hid hn
  have HAT : Hid (∀ k (hk : k < l.length), ∃ (a : Addr) (r : ScR), A = some a ∧ (a.add (k * 19)).block < w.heap.size ∧ Nl w (a.add (k * 19)) r ∧ (r.kind = l[k].x.kind ∧ r.name = l[k].x.name) ∧ (∃ A n c, r.kv = .slice A n c) ∧ ∀ W, Below w.heap.size w W → Calls Try.prog 6 #[MoV.val ⟨na, .slice A1 n1 c1, .slice A2 n2 c2, .slice A3 n3 c3⟩, r.kv] W fun e w' => ∃ v' : Value, e = .returned v' ∧ Row W.heap.size w' v' (usL l[k].kids) ∧ Below W.heap.size W w') := Lib.hid fun k hkl => by
    obtain ⟨a, r, d', e1, e2, e3, e4, e5⟩ := hat k hkl
    subst e2
    have h9 := sizeN_mem9 _ _ (List.getElem_mem hkl)
    rw [sizeN_eq] at h9
    have e6 : ScRd w r l[k].x := e5.1
    have e7 : RdL scK d' w r.kv l[k].kids := e5.2
    exact ⟨a, r, e1, e3, e4, ⟨e6.eq.kind, e6.eq.name⟩, (by obtain ⟨A, c, h⟩ := e7.form; exact ⟨A, _, c, h⟩), fun W hb => ih d' rfl ⟨na, .slice A1 n1 c1, .slice A2 n2 c2, .slice A3 n3 c3⟩ r.kv l[k].kids W hmf (e7.below hb) (by omega)⟩
  have HCN : Hid (∀ k, (usL (l.take k)).length ≤ 1048576) := Lib.hid fun k => by have := usL_len (l.take k); have := sizeS_take9 l k; omega
  have hnl : n ≤ 9223372036854775807 := by rw [hn]; exact hn'
  rw [← hn]
  obtain ⟨W0, hW0⟩ : ∃ X, X = (w.alloc (.cells #[.string na, .slice A1 n1 c1, .slice A2 n2 c2, .slice A3 n3 c3] 35)).alloc (.cells #[] 9) := ⟨_, rfl⟩
  have HX0 : Hid (W0.heap[w.heap.size]? = some (.cells #[.string na, .slice A1 n1 c1, .slice A2 n2 c2, .slice A3 n3 c3] 35 (0, 0))) := Lib.hid (by rw [hW0]; exact (Below.heap_alloc _ _ _ (by simp)).trans (heap_alloc_new _ _))
  have HB0 : Hid (Below w.heap.size w W0) := Lib.hid (by rw [hW0]; exact below_al (below_al (Below.refl _ _) _) _)
  have HS0 : Hid (w.heap.size + 1 ≤ W0.heap.size) := Lib.hid (by rw [hW0]; simp)
  have HR0 : Hid (RowT (w.heap.size + 1) W0 (.slice (some ⟨w.heap.size + 1, 0, none⟩) 0 0) (usL (l.take 0))) := Lib.hid (by
    have h : RowT (w.heap.size + 1) ((w.alloc (.cells #[.string na, .slice A1 n1 c1, .slice A2 n2 c2, .slice A3 n3 c3] 35)).alloc (.cells #[] 9)) (.slice (some ⟨(w.alloc (.cells #[.string na, .slice A1 n1 c1, .slice A2 n2 c2, .slice A3 n3 c3] 35)).heap.size, 0, none⟩) 0 0) [] := rowR_empty (heap_alloc_new _ _) (by simp)
    rw [World.size_alloc, ← hW0] at h
    rw [List.take_zero, usL]; exact h)
  clear hat hv hsz hn' hmf ih hn
  go_enter Try.func6, Try.ntmps6
  go_wp2
  rw [← hW0]
  clear hW0
  go_loopw [5, 6] (fun o i wr => ∃ (k : Nat) (ov : Value), ov = o ∧ k ≤ n ∧ i = .int .i64 k ∧ Hid (RowT (w.heap.size + 1) wr ov (usL (l.take k))) ∧ Hid (wr.heap[w.heap.size]? = some (.cells #[.string na, .slice A1 n1 c1, .slice A2 n2 c2, .slice A3 n3 c3] 35 (0, 0))) ∧ Hid (w.heap.size + 1 ≤ wr.heap.size) ∧ Hid (Below w.heap.size w wr)) (fun _ i _ => n - (intOf i).toNat)
  case atStart => exact ⟨0, _, rfl, Nat.zero_le _, rfl, HR0, HX0, HS0, HB0⟩
  case round =>
    clear HR0 HX0 HS0 HB0
    obtain ⟨k, o5, rfl, hk, rfl, HR, HX, HS, HB⟩ := hrel
    by_cases hlt : k < n
    · have hlk : k < l.length := by rw [← HN.out]; exact hlt
      obtain ⟨a, r, rfl, hab, hnl2, ⟨hkd, hnm⟩, ⟨A4, n4, c4, hkv⟩, hc⟩ := HAT.out k hlk
      rw [hkv] at hc
      have HC := Lib.hid hc
      have HNL := Lib.hid hnl2
      have HAB := Lib.hid hab
      have HST0 := usL_step hlk
      have HCN1 := Lib.hid (HCN.out (k + 1))
      have hh := hnl2.below HB.out hab
      have q0 : wr.cell? (a.add (k * 19)) = some (.int .i64 r.kind) := hh 0 _ rfl
      have q1 : wr.cell? ⟨(a.add (k * 19)).block, (a.add (k * 19)).off + 1, none⟩ = some (.string r.name) := hh 1 _ rfl
      obtain ⟨y, hy⟩ : ∃ y, y = l[k] := ⟨_, rfl⟩
      rw [← hy] at HC HST0 hkd hnm
      have HKN := Lib.hid (And.intro hkd hnm)
      have HUN := Lib.hid (usN_eq y)
      obtain ⟨kind, name, tv, vk, vu, dflt, given, needed, present, fixed, mn, mx, wv, mv', kv⟩ := r
      dsimp only at hkv q0 q1
      subst hkv
      have HST1 := Lib.hid HST0
      clear hnl2 hc hh hkd hnm hy HST0
      by_cases o7 : kind = 7
      · subst o7
        have HHD : Hid (hdU y.x = [name]) := Lib.hid (by have h1 : (7 : Int) = y.x.kind := HKN.out.1; have h2 : name = y.x.name := HKN.out.2; unfold hdU; rw [if_pos h1.symm, h2])
        have HRA := Lib.hid (RowR.alloc HR.out (.cells #[.string name] 9))
        have HLE : Hid ((usL (l.take k)).length + 1 ≤ 4194304) := Lib.hid (by have := HCN.out k; omega)
        have HSA : Hid (w.heap.size + 1 ≤ (wr.alloc (.cells #[.string name] 9)).heap.size) := Lib.hid (by have := HS.out; simp; omega)
        go_wp2_with (at_builtin; refine wpList_rec_append encS_len (by omega) Try.underlying29 infoStr (by rfl) (by omega) rfl _ _ rfl (w.heap.size + 1) (usL (l.take k)).length o5 (usL (l.take k)) (by rfl) HRA.out rfl name ⟨wr.heap.size, 0, none⟩ 1 (by rfl) (World.news_of_block (heap_alloc_new wr _)) (fun u hu => by rw [List.mem_singleton.1 hu]; rfl) HLE.out HSA.out ?_; intro o6 W5 hrow5 hg5 hv5; have HRW5 := Lib.hid hrow5; have HGW5 := Lib.hid hg5; clear hrow5 hg5 hv5)
        obtain ⟨L5, hL5⟩ : ∃ L, L = usL (l.take k) ++ [name] := ⟨_, rfl⟩
        have HR5 : Hid (RowT (w.heap.size + 1) W5 o6 L5) := Lib.hid (by rw [hL5]; exact HRW5.out)
        have HST : Hid (usL (l.take (k + 1)) = L5 ++ usL y.kids) := Lib.hid (by rw [HST1.out, HUN.out, HHD.out, hL5, List.append_assoc])
        have hj : ∀ q, o5.ownBlock = some q → w.heap.size + 1 ≤ q := fun q e => (RowR.lt HR.out e).1
        have hA1 := below_al (Below.refl wr.heap.size wr) (.cells #[.string name] 9)
        have HX5 : Hid (W5.heap[w.heap.size]? = some (.cells #[.string na, .slice A1 n1 c1, .slice A2 n2 c2, .slice A3 n3 c3] 35 (0, 0))) := Lib.hid ((HGW5.out.block _ (by have := HS.out; simp; omega) (fun e => by have := hj _ e.symm; omega)).trans ((hA1.block _ (by have := HS.out; omega)).trans HX.out))
        have HB5 : Hid (Below w.heap.size w W5) := Lib.hid ((below_step HB.out hA1).grown HGW5.out (below_step HB.out hA1).size (fun q e => by have := hj _ e; omega))
        have HS5 : Hid (w.heap.size + 1 ≤ W5.heap.size) := Lib.hid (by have := HGW5.out.size; have := HSA.out; omega)
        have HLEN : Hid (L5.length + (usL y.kids).length ≤ 4194304) := Lib.hid (by have := HCN1.out; rw [HST.out, List.length_append] at this; omega)
        obtain ⟨o5, rfl⟩ : ∃ X, X = o6 := ⟨_, rfl⟩
        clear hj hA1 hL5 HRW5 HGW5 HRA HLE HSA q0 q1
        have HSS : Hid (∀ W, Below (w.heap.size + 1) W5 W → (W.cell? ⟨w.heap.size, 0, none⟩ = some (.string na) ∧ W.cell? ⟨w.heap.size, 1, none⟩ = some (.slice A1 n1 c1) ∧ W.cell? ⟨w.heap.size, 2, none⟩ = some (.slice A2 n2 c2) ∧ W.cell? ⟨w.heap.size, 3, none⟩ = some (.slice A3 n3 c3)) ∧ W.cell? ⟨(a.add (k * 19)).block, (a.add (k * 19)).off + 18, none⟩ = some (.slice A4 n4 c4)) := Lib.hid fun W hb => by
          have hX := (hb.block _ (Nat.lt_succ_self _)).trans HX5.out
          have hN := HNL.out.below (HB5.out.trans (hb.mono (by omega))) HAB.out
          exact ⟨⟨by rw [cell_of_row _ _ 0 _ _ _ hX]; rfl, by rw [cell_of_row _ _ 1 _ _ _ hX]; rfl, by rw [cell_of_row _ _ 2 _ _ _ hX]; rfl, by rw [cell_of_row _ _ 3 _ _ _ hX]; rfl⟩, hN 18 _ rfl⟩
        have KW0 : Hid (Below (w.heap.size + 1) W5 W5.drew) := Lib.hid (Below.refl _ _).drew
        have HR0 : Hid (RowT (w.heap.size + 1) W5.drew o5 L5) := Lib.hid (RowR.below HR5.out (Below.refl _ _).drew)
        have HC5 := Lib.hid (HC.out W5.drew (HB5.out.trans ((Below.refl _ _).drew)))
        go_wp2
        refine wp_region_Z (fun w' => (w'.cell? ⟨w.heap.size, 0, none⟩ = some (.string na) ∧ w'.cell? ⟨w.heap.size, 1, none⟩ = some (.slice A1 n1 c1) ∧ w'.cell? ⟨w.heap.size, 2, none⟩ = some (.slice A2 n2 c2) ∧ w'.cell? ⟨w.heap.size, 3, none⟩ = some (.slice A3 n3 c3)) ∧ w'.cell? ⟨(a.add (k * 19)).block, (a.add (k * 19)).off + 18, none⟩ = some (.slice A4 n4 c4)) 9 (by kernel_rfl) (HSS.out _ KW0.out) (fun hHeld => ?_)
        refine wpAnyZ_take (i := 0) (oi := { dst := some 28, op := Op.move (Operand.tmp 5), type := 29, pos := _, after := #[], guard := none }) (v := ?va0) rfl (by kernel_rfl) (fun _ _ _ h => h) (Or.inl ⟨by rfl, ?hya0⟩) (by assumption) ?resta0
        case hya0 => ((intro w hSw; (try dsimp only at hSw); go_simp); try with_reducible rfl)
        case' resta0 => (try simp only [Act.put, List.setIfInBounds_toArray, List.set_cons_zero, List.set_cons_succ])
        refine wpAnyZ_take (i := 1) (oi := { dst := some 29, op := Op.load 35 (Operand.tmp 2), type := 35, pos := _, after := #[], guard := none }) (v := ?va1) rfl (by kernel_rfl) (fun _ _ _ h => h) (Or.inl ⟨by rfl, ?hya1⟩) (by assumption) ?resta1
        case hya1 => ((intro w hSw; (try dsimp only at hSw); go_simp); try with_reducible rfl)
        case' resta1 => (try simp only [Act.put, List.setIfInBounds_toArray, List.set_cons_zero, List.set_cons_succ])
        refine wpAnyZ_take (i := 2) (oi := { dst := some 30, op := Op.move (Operand.tmp 1), type := 32, pos := _, after := #[], guard := none }) (v := ?va2) rfl (by kernel_rfl) (fun _ _ _ h => h) (Or.inl ⟨by rfl, ?hya2⟩) (by assumption) ?resta2
        case hya2 => ((intro w hSw; (try dsimp only at hSw); go_simp); try with_reducible rfl)
        case' resta2 => (try simp only [Act.put, List.setIfInBounds_toArray, List.set_cons_zero, List.set_cons_succ])
        refine wpAnyZ_take (i := 3) (oi := { dst := some 31, op := Op.move (Operand.tmp 6), type := 3, pos := _, after := #[], guard := none }) (v := ?va3) rfl (by kernel_rfl) (fun _ _ _ h => h) (Or.inl ⟨by rfl, ?hya3⟩) (by assumption) ?resta3
        case hya3 => ((intro w hSw; (try dsimp only at hSw); go_simp); try with_reducible rfl)
        case' resta3 => (try simp only [Act.put, List.setIfInBounds_toArray, List.set_cons_zero, List.set_cons_succ])
        refine wpAnyZ_take (i := 4) (oi := { dst := some 32, op := Op.indexAddr 32 (Operand.tmp 30) (Operand.tmp 31), type := 0, pos := _, after := #[{ on := 2, ground := Ground.data }, { on := 3, ground := Ground.data }], guard := none }) (v := ?va4) rfl (by kernel_rfl) (fun _ _ _ h => h) (Or.inl ⟨by rfl, ?hya4⟩) (by assumption) ?resta4
        case hya4 => ((intro w hSw; (try dsimp only at hSw); go_simp); try with_reducible rfl)
        case' resta4 => (try simp only [Act.put, List.setIfInBounds_toArray, List.set_cons_zero, List.set_cons_succ])
        refine wpAnyZ_take (i := 5) (oi := { dst := some 33, op := Op.fieldAddr 59 (Operand.tmp 32) 14, type := 0, pos := _, after := #[{ on := 4, ground := Ground.data }], guard := none }) (v := ?va5) rfl (by kernel_rfl) (fun _ _ _ h => h) (Or.inl ⟨by rfl, ?hya5⟩) (by assumption) ?resta5
        case hya5 => ((intro w hSw; (try dsimp only at hSw); go_simp); try with_reducible rfl)
        case' resta5 => (try simp only [Act.put, List.setIfInBounds_toArray, List.set_cons_zero, List.set_cons_succ])
        refine wpAnyZ_take (i := 6) (oi := { dst := some 34, op := Op.load 32 (Operand.tmp 33), type := 32, pos := _, after := #[{ on := 5, ground := Ground.data }], guard := none }) (v := ?va6) rfl (by kernel_rfl) (fun _ _ _ h => h) (Or.inl ⟨by rfl, ?hya6⟩) (by assumption) ?resta6
        case hya6 => ((intro w hSw; (try dsimp only at hSw); go_simp); try with_reducible rfl)
        case' resta6 => (try simp only [Act.put, List.setIfInBounds_toArray, List.set_cons_zero, List.set_cons_succ])
        refine wpAnyZ_next (i := 7) (o := { dst := some 35, op := Op.call { callee := Callee.value (Operand.func 6), args := #[Operand.tmp 29, Operand.tmp 34], argTypes := #[35, 32] }, type := 29, pos := _, after := #[{ on := 1, ground := Ground.data }, { on := 6, ground := Ground.data }], guard := none }) (by kernel_rfl) rfl (fun K hK => ?_)
        go_simp
        go_at_call 6
        refine (HC5.out).mono ?_
        rintro e w6 ⟨v6, rfl, hr6, hb6⟩
        have HR6 := Lib.hid hr6
        have HR60 := Lib.hid (RowR.below HR0.out hb6)
        have KW6 : Hid (Below (w.heap.size + 1) W5 w6) := Lib.hid (KW0.out.trans (hb6.mono (by have := HS5.out; exact this)))
        have HS6 : Hid (W5.heap.size ≤ w6.heap.size) := Lib.hid hb6.size
        clear hr6 hb6
        refine hK.out _ _ (HSS.out _ KW6.out) (fun hHeld2 => ?_)
        clear hK K hHeld; have hHeld := hHeld2; clear hHeld2
        try simp only [Act.put, List.setIfInBounds_toArray, List.set_cons_zero, List.set_cons_succ]
        refine wpAnyZ_next (i := 8) (o := { dst := some 36, op := Op.call { callee := Callee.builtin Builtin.append, args := #[Operand.tmp 28, Operand.tmp 35], argTypes := #[29, 29] }, type := 29, pos := _, after := #[{ on := 0, ground := Ground.data }, { on := 7, ground := Ground.data }, { on := 7, ground := Ground.chain }], guard := none }) (by kernel_rfl) rfl (fun K hK => ?_)
        refine step_rec_join encS_len (by omega) Try.underlying29 infoStr (by rfl) (by omega) (by rfl) _ _ (by rfl) (w.heap.size + 1) L5.length o5 L5 (by rfl) HR60.out rfl v6 (usL y.kids) (by rfl) (RowR.has encS_len (rowT_iff.2 HR6.out)) (encS_one _) (RowR.nilOk (rowT_iff.2 HR6.out)) HLEN.out (by have := HS5.out; have := HS6.out; omega) ?_
        intro v7 w7 hr7 hg7 hv7
        have HR7 := Lib.hid hr7
        have HO7 : Hid (∀ q, o5.ownBlock = some q → w.heap.size + 1 ≤ q) := Lib.hid fun q e => (RowR.lt HR60.out e).1
        have KW7 : Hid (Below (w.heap.size + 1) W5 w7) := Lib.hid (KW6.out.grown hg7 (by have := HS5.out; have := HS6.out; omega) (fun q e => HO7.out q e))
        clear hr7 hg7 hv7
        refine hK.out _ _ (HSS.out _ KW7.out) (fun hHeld2 => ?_)
        clear hK K hHeld; have hHeld := hHeld2; clear hHeld2
        try simp only [Act.put, List.setIfInBounds_toArray, List.set_cons_zero, List.set_cons_succ]
        refine wpAnyZ_last (o := { dst := some 5, op := Op.assign (Operand.tmp 36), type := 29, pos := _, after := #[{ on := 8, ground := Ground.data }, { on := 8, ground := Ground.chain }, { on := 0, ground := Ground.phase }, { on := 1, ground := Ground.phase }, { on := 2, ground := Ground.phase }, { on := 3, ground := Ground.phase }, { on := 4, ground := Ground.phase }, { on := 5, ground := Ground.phase }, { on := 6, ground := Ground.phase }, { on := 7, ground := Ground.phase }, { on := 8, ground := Ground.phase }], guard := none }) (by kernel_rfl) rfl (fun K hK => ?_)
        go_simp
        refine hK.out _ _ ?_
        clear hK K hHeld
        try simp only [Act.put, List.setIfInBounds_toArray, List.set_cons_zero, List.set_cons_succ]
        refine wpAnyZ_done (by kernel_rfl) ?_ _
        have HX9 : Hid (w7.heap[w.heap.size]? = some (.cells #[.string na, .slice A1 n1 c1, .slice A2 n2 c2, .slice A3 n3 c3] 35 (0, 0))) := Lib.hid ((KW7.out.block _ (Nat.lt_succ_self _)).trans HX5.out)
        have HB9 : Hid (Below w.heap.size w w7) := Lib.hid (HB5.out.trans (KW7.out.mono (by omega)))
        have HR9 : Hid (RowT (w.heap.size + 1) w7 v7 (usL (l.take (k + 1)))) := Lib.hid (by rw [HST.out]; exact HR7.out)
        have HS9 : Hid (w.heap.size + 1 ≤ w7.heap.size) := Lib.hid (by have := KW7.out.size; have := HS5.out; omega)
        clear HR7 KW7 KW6 KW0 HSS
        go_wp2
        go_roundw
        case rel => exact ⟨k + 1, _, rfl, by omega, by go_num, HR9, HX9, HS9, HB9⟩
        case measure => simp [intOf]; omega
      · have HHD : Hid (hdU y.x = []) := Lib.hid (by have h1 : kind = y.x.kind := HKN.out.1; unfold hdU; rw [if_neg (by rw [← h1]; exact o7)])
        have f7 : (kind == 7) = false := by simp [o7]
        obtain ⟨L5, hL5⟩ : ∃ L, L = usL (l.take k) := ⟨_, rfl⟩
        obtain ⟨W5, rfl⟩ : ∃ X, X = wr := ⟨_, rfl⟩
        have HR5 : Hid (RowT (w.heap.size + 1) W5 o5 L5) := Lib.hid (by rw [hL5]; exact HR.out)
        have HST : Hid (usL (l.take (k + 1)) = L5 ++ usL y.kids) := Lib.hid (by rw [HST1.out, HUN.out, HHD.out, hL5, List.nil_append])
        have HX5 := HX
        have HB5 := HB
        have HS5 := HS
        have HLEN : Hid (L5.length + (usL y.kids).length ≤ 4194304) := Lib.hid (by have := HCN1.out; rw [HST.out, List.length_append] at this; omega)
        clear hL5
        have HSS : Hid (∀ W, Below (w.heap.size + 1) W5 W → (W.cell? ⟨w.heap.size, 0, none⟩ = some (.string na) ∧ W.cell? ⟨w.heap.size, 1, none⟩ = some (.slice A1 n1 c1) ∧ W.cell? ⟨w.heap.size, 2, none⟩ = some (.slice A2 n2 c2) ∧ W.cell? ⟨w.heap.size, 3, none⟩ = some (.slice A3 n3 c3)) ∧ W.cell? ⟨(a.add (k * 19)).block, (a.add (k * 19)).off + 18, none⟩ = some (.slice A4 n4 c4)) := Lib.hid fun W hb => by
          have hX := (hb.block _ (Nat.lt_succ_self _)).trans HX5.out
          have hN := HNL.out.below (HB5.out.trans (hb.mono (by omega))) HAB.out
          exact ⟨⟨by rw [cell_of_row _ _ 0 _ _ _ hX]; rfl, by rw [cell_of_row _ _ 1 _ _ _ hX]; rfl, by rw [cell_of_row _ _ 2 _ _ _ hX]; rfl, by rw [cell_of_row _ _ 3 _ _ _ hX]; rfl⟩, hN 18 _ rfl⟩
        have KW0 : Hid (Below (w.heap.size + 1) W5 W5.drew) := Lib.hid (Below.refl _ _).drew
        have HR0 : Hid (RowT (w.heap.size + 1) W5.drew o5 L5) := Lib.hid (RowR.below HR5.out (Below.refl _ _).drew)
        have HC5 := Lib.hid (HC.out W5.drew (HB5.out.trans ((Below.refl _ _).drew)))
        go_wp2
        refine wp_region_Z (fun w' => (w'.cell? ⟨w.heap.size, 0, none⟩ = some (.string na) ∧ w'.cell? ⟨w.heap.size, 1, none⟩ = some (.slice A1 n1 c1) ∧ w'.cell? ⟨w.heap.size, 2, none⟩ = some (.slice A2 n2 c2) ∧ w'.cell? ⟨w.heap.size, 3, none⟩ = some (.slice A3 n3 c3)) ∧ w'.cell? ⟨(a.add (k * 19)).block, (a.add (k * 19)).off + 18, none⟩ = some (.slice A4 n4 c4)) 9 (by kernel_rfl) (HSS.out _ KW0.out) (fun hHeld => ?_)
        refine wpAnyZ_take (i := 0) (oi := { dst := some 28, op := Op.move (Operand.tmp 5), type := 29, pos := _, after := #[], guard := none }) (v := ?vb0) rfl (by kernel_rfl) (fun _ _ _ h => h) (Or.inl ⟨by rfl, ?hyb0⟩) (by assumption) ?restb0
        case hyb0 => ((intro w hSw; (try dsimp only at hSw); go_simp); try with_reducible rfl)
        case' restb0 => (try simp only [Act.put, List.setIfInBounds_toArray, List.set_cons_zero, List.set_cons_succ])
        refine wpAnyZ_take (i := 1) (oi := { dst := some 29, op := Op.load 35 (Operand.tmp 2), type := 35, pos := _, after := #[], guard := none }) (v := ?vb1) rfl (by kernel_rfl) (fun _ _ _ h => h) (Or.inl ⟨by rfl, ?hyb1⟩) (by assumption) ?restb1
        case hyb1 => ((intro w hSw; (try dsimp only at hSw); go_simp); try with_reducible rfl)
        case' restb1 => (try simp only [Act.put, List.setIfInBounds_toArray, List.set_cons_zero, List.set_cons_succ])
        refine wpAnyZ_take (i := 2) (oi := { dst := some 30, op := Op.move (Operand.tmp 1), type := 32, pos := _, after := #[], guard := none }) (v := ?vb2) rfl (by kernel_rfl) (fun _ _ _ h => h) (Or.inl ⟨by rfl, ?hyb2⟩) (by assumption) ?restb2
        case hyb2 => ((intro w hSw; (try dsimp only at hSw); go_simp); try with_reducible rfl)
        case' restb2 => (try simp only [Act.put, List.setIfInBounds_toArray, List.set_cons_zero, List.set_cons_succ])
        refine wpAnyZ_take (i := 3) (oi := { dst := some 31, op := Op.move (Operand.tmp 6), type := 3, pos := _, after := #[], guard := none }) (v := ?vb3) rfl (by kernel_rfl) (fun _ _ _ h => h) (Or.inl ⟨by rfl, ?hyb3⟩) (by assumption) ?restb3
        case hyb3 => ((intro w hSw; (try dsimp only at hSw); go_simp); try with_reducible rfl)
        case' restb3 => (try simp only [Act.put, List.setIfInBounds_toArray, List.set_cons_zero, List.set_cons_succ])
        refine wpAnyZ_take (i := 4) (oi := { dst := some 32, op := Op.indexAddr 32 (Operand.tmp 30) (Operand.tmp 31), type := 0, pos := _, after := #[{ on := 2, ground := Ground.data }, { on := 3, ground := Ground.data }], guard := none }) (v := ?vb4) rfl (by kernel_rfl) (fun _ _ _ h => h) (Or.inl ⟨by rfl, ?hyb4⟩) (by assumption) ?restb4
        case hyb4 => ((intro w hSw; (try dsimp only at hSw); go_simp); try with_reducible rfl)
        case' restb4 => (try simp only [Act.put, List.setIfInBounds_toArray, List.set_cons_zero, List.set_cons_succ])
        refine wpAnyZ_take (i := 5) (oi := { dst := some 33, op := Op.fieldAddr 59 (Operand.tmp 32) 14, type := 0, pos := _, after := #[{ on := 4, ground := Ground.data }], guard := none }) (v := ?vb5) rfl (by kernel_rfl) (fun _ _ _ h => h) (Or.inl ⟨by rfl, ?hyb5⟩) (by assumption) ?restb5
        case hyb5 => ((intro w hSw; (try dsimp only at hSw); go_simp); try with_reducible rfl)
        case' restb5 => (try simp only [Act.put, List.setIfInBounds_toArray, List.set_cons_zero, List.set_cons_succ])
        refine wpAnyZ_take (i := 6) (oi := { dst := some 34, op := Op.load 32 (Operand.tmp 33), type := 32, pos := _, after := #[{ on := 5, ground := Ground.data }], guard := none }) (v := ?vb6) rfl (by kernel_rfl) (fun _ _ _ h => h) (Or.inl ⟨by rfl, ?hyb6⟩) (by assumption) ?restb6
        case hyb6 => ((intro w hSw; (try dsimp only at hSw); go_simp); try with_reducible rfl)
        case' restb6 => (try simp only [Act.put, List.setIfInBounds_toArray, List.set_cons_zero, List.set_cons_succ])
        refine wpAnyZ_next (i := 7) (o := { dst := some 35, op := Op.call { callee := Callee.value (Operand.func 6), args := #[Operand.tmp 29, Operand.tmp 34], argTypes := #[35, 32] }, type := 29, pos := _, after := #[{ on := 1, ground := Ground.data }, { on := 6, ground := Ground.data }], guard := none }) (by kernel_rfl) rfl (fun K hK => ?_)
        go_simp
        go_at_call 6
        refine (HC5.out).mono ?_
        rintro e w6 ⟨v6, rfl, hr6, hb6⟩
        have HR6 := Lib.hid hr6
        have HR60 := Lib.hid (RowR.below HR0.out hb6)
        have KW6 : Hid (Below (w.heap.size + 1) W5 w6) := Lib.hid (KW0.out.trans (hb6.mono (by have := HS5.out; exact this)))
        have HS6 : Hid (W5.heap.size ≤ w6.heap.size) := Lib.hid hb6.size
        clear hr6 hb6
        refine hK.out _ _ (HSS.out _ KW6.out) (fun hHeld2 => ?_)
        clear hK K hHeld; have hHeld := hHeld2; clear hHeld2
        try simp only [Act.put, List.setIfInBounds_toArray, List.set_cons_zero, List.set_cons_succ]
        refine wpAnyZ_next (i := 8) (o := { dst := some 36, op := Op.call { callee := Callee.builtin Builtin.append, args := #[Operand.tmp 28, Operand.tmp 35], argTypes := #[29, 29] }, type := 29, pos := _, after := #[{ on := 0, ground := Ground.data }, { on := 7, ground := Ground.data }, { on := 7, ground := Ground.chain }], guard := none }) (by kernel_rfl) rfl (fun K hK => ?_)
        refine step_rec_join encS_len (by omega) Try.underlying29 infoStr (by rfl) (by omega) (by rfl) _ _ (by rfl) (w.heap.size + 1) L5.length o5 L5 (by rfl) HR60.out rfl v6 (usL y.kids) (by rfl) (RowR.has encS_len (rowT_iff.2 HR6.out)) (encS_one _) (RowR.nilOk (rowT_iff.2 HR6.out)) HLEN.out (by have := HS5.out; have := HS6.out; omega) ?_
        intro v7 w7 hr7 hg7 hv7
        have HR7 := Lib.hid hr7
        have HO7 : Hid (∀ q, o5.ownBlock = some q → w.heap.size + 1 ≤ q) := Lib.hid fun q e => (RowR.lt HR60.out e).1
        have KW7 : Hid (Below (w.heap.size + 1) W5 w7) := Lib.hid (KW6.out.grown hg7 (by have := HS5.out; have := HS6.out; omega) (fun q e => HO7.out q e))
        clear hr7 hg7 hv7
        refine hK.out _ _ (HSS.out _ KW7.out) (fun hHeld2 => ?_)
        clear hK K hHeld; have hHeld := hHeld2; clear hHeld2
        try simp only [Act.put, List.setIfInBounds_toArray, List.set_cons_zero, List.set_cons_succ]
        refine wpAnyZ_last (o := { dst := some 5, op := Op.assign (Operand.tmp 36), type := 29, pos := _, after := #[{ on := 8, ground := Ground.data }, { on := 8, ground := Ground.chain }, { on := 0, ground := Ground.phase }, { on := 1, ground := Ground.phase }, { on := 2, ground := Ground.phase }, { on := 3, ground := Ground.phase }, { on := 4, ground := Ground.phase }, { on := 5, ground := Ground.phase }, { on := 6, ground := Ground.phase }, { on := 7, ground := Ground.phase }, { on := 8, ground := Ground.phase }], guard := none }) (by kernel_rfl) rfl (fun K hK => ?_)
        go_simp
        refine hK.out _ _ ?_
        clear hK K hHeld
        try simp only [Act.put, List.setIfInBounds_toArray, List.set_cons_zero, List.set_cons_succ]
        refine wpAnyZ_done (by kernel_rfl) ?_ _
        have HX9 : Hid (w7.heap[w.heap.size]? = some (.cells #[.string na, .slice A1 n1 c1, .slice A2 n2 c2, .slice A3 n3 c3] 35 (0, 0))) := Lib.hid ((KW7.out.block _ (Nat.lt_succ_self _)).trans HX5.out)
        have HB9 : Hid (Below w.heap.size w w7) := Lib.hid (HB5.out.trans (KW7.out.mono (by omega)))
        have HR9 : Hid (RowT (w.heap.size + 1) w7 v7 (usL (l.take (k + 1)))) := Lib.hid (by rw [HST.out]; exact HR7.out)
        have HS9 : Hid (w.heap.size + 1 ≤ w7.heap.size) := Lib.hid (by have := KW7.out.size; have := HS5.out; omega)
        clear HR7 KW7 KW6 KW0 HSS
        go_wp2
        go_roundw
        case rel => exact ⟨k + 1, _, rfl, by omega, by go_num, HR9, HX9, HS9, HB9⟩
        case measure => simp [intOf]; omega
    · have HRF : Hid (Row w.heap.size wr o5 (usL l)) := Lib.hid (by have h := HR.out; rw [List.take_of_length_le (by have := HN.out; omega)] at h; exact (rowT_iff.1 h).mono (by omega))
      go_wp2
      go_ret
      exact ⟨o5, rfl, HRF.out, HB.out⟩
theorem sUs_any : ∀ d, SUs d
  | 0 => sUs_of 0 (fun e h => absurd h (by omega))
  | d + 1 => sUs_of (d + 1) (fun e h => (show d = e by omega) ▸ sUs_any d)
end Go.Proofs.Ytdkpleghpnflhaa
