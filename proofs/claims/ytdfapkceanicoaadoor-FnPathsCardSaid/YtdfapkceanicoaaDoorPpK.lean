/- CHAPTER 7: PATHS READ FROM TOKENS, spec: l7Path (printed by tools/gen_ppK.py). -/
import Derived.Test.YtdfapkceanicoaaDoorPpJ
import Derived.Deep.RegionLaw
import Derived.Deep.RegionHeld3
import Derived.Maps.AppendAt
set_option linter.unusedVariables false
set_option linter.unusedSimpArgs false
namespace Go.Proofs.YtdfapkceanicoaaDoor
open Go.RowKit NumP
set_option maxRecDepth 100000

def moreN (v : Value) : Nat := match v with
  | .bool true => 1
  | _ => 0
def M7 (T : List Tok) (root : Bool) (r2 : Option (Nat × List Stp × Nat)) (u i : Nat) (bad more : Bool) (st : List Stp) : Prop :=
  ((more = true ∧ bad = false ∧ Ptr T root i u st r2 ∧ upB T root st i = false ∧ 2 * st.length ≤ i) ∨ (more = true ∧ bad = true ∧ r2 = none ∧ st = []) ∨ (more = false ∧ ((bad = false ∧ r2 = some (u, st, i)) ∨ (bad = true ∧ r2 = none)) ∧ 2 * st.length ≤ i + 2)) ∧ ∀ s ∈ st, StpSz s
theorem m7_next {T : List Tok} {root : Bool} {i u i1 i2 i3 : Nat} {st : List Stp} {r2 : Option (Nat × List Stp × Nat)} {r3 : Option (List Tst × Nat)} {x : ByteArray} {L : List Tst} {b1 bad g : Bool} (hM : M7 T root r2 u i false true st) (hw : W8 false (kB 1 (T.drop i)) i i1 b1) (h1 : (b1 = false ∧ Tsr T i1 [] r3) ∨ (b1 = true ∧ r3 = none)) (hs : Spr T i (r3.map fun q => (⟨x, q.1⟩, q.2)))
    (hex : (bad = false ∧ r3 = some (L, i2)) ∨ (bad = true ∧ r3 = none)) (h12 : i1 ≤ i2) (hg : g = (!bad && mkB (T.drop i2) slashT) ∧ i3 = if g = true then i2 + 1 else i2) (hz : StpSz ⟨x, L⟩) :
    M7 T root r2 u i3 bad g (st ++ [⟨x, L⟩]) ∧ i ≤ i3 ∧ (g = true → i < i3) := by
  obtain ⟨h, hzs⟩ := hM
  have hl := hw.le
  have hz2 : ∀ s ∈ st ++ [⟨x, L⟩], StpSz s := fun s h => by
    rcases List.mem_append.1 h with h | h
    · exact hzs s h
    · rw [List.mem_singleton.1 h]; exact hz
  rcases h with ⟨_, _, hp, hup, hlen⟩ | ⟨_, h, _⟩ | ⟨h, _⟩
  · rcases part_step hp hup hs hex hg with ⟨rfl, rfl, rfl, h⟩ | ⟨rfl, rfl, h⟩
    · have hb1 : b1 = false := by
        rcases h1 with ⟨h, _⟩ | ⟨_, h⟩
        · exact h
        · rcases hex with ⟨_, h'⟩ | ⟨h', _⟩
          · rw [h] at h'; cases h'
          · cases h'
      have hi1 : i1 = i + 1 := by
        rcases hw with ⟨_, _, h, _⟩ | ⟨_, _, h⟩
        · exact h
        · rw [hb1] at h; cases h
      exact ⟨⟨.inl ⟨rfl, rfl, h, upB_snoc, by rw [List.length_append]; simp; omega⟩, hz2⟩, by omega, fun _ => by omega⟩
    · exact ⟨⟨.inr (.inr ⟨rfl, h, by rw [List.length_append]; simp; omega⟩), hz2⟩, by omega, fun h => by cases h⟩
  · cases h
  · cases h
def Fin7 (res : Option (Pth × Nat)) (root : Bool) (u : Int) (st : List Stp) (j : Nat) (bad : Bool) : Prop := (bad = false ∧ res = some (⟨root, u, st⟩, j) ∧ PthOk ⟨root, u, st⟩) ∨ (bad = true ∧ ∀ p q, res = some (p, q) → ¬ PthOk p)
theorem fin7_ok {T : List Tok} {root : Bool} {r2 : Option (Nat × List Stp × Nat)} {u i : Nat} {bad more : Bool} {st : List Stp} {res : Option (Pth × Nat)} (h : M7 T root r2 u i bad more st) (hb : more = false ∨ bad = true) (hr : (r2 = none → res = none) ∧ ∀ u st q, r2 = some (u, st, q) → res = some (⟨root, (u : Int), st⟩, q)) :
    (dB (PthOk ⟨root, (u : Int), st⟩) = true → Fin7 res root u st i bad) ∧ (dB (PthOk ⟨root, (u : Int), st⟩) = false → Fin7 res root u st i true) := by
  have hc : (bad = false ∧ res = some (⟨root, (u : Int), st⟩, i)) ∨ (bad = true ∧ res = none) := by
    rcases h.1 with ⟨rfl, rfl, _⟩ | ⟨_, rfl, k, _⟩ | ⟨_, ⟨rfl, k⟩ | ⟨rfl, k⟩, _⟩
    · rcases hb with h | h <;> cases h
    · exact .inr ⟨rfl, hr.1 k⟩
    · exact .inl ⟨rfl, hr.2 _ _ _ k⟩
    · exact .inr ⟨rfl, hr.1 k⟩
  rcases hc with ⟨rfl, rfl⟩ | ⟨rfl, rfl⟩
  · exact ⟨fun h => .inl ⟨rfl, rfl, dB_true h⟩, fun h => .inr ⟨rfl, fun p q e => by cases e; exact dB_false h⟩⟩
  · exact ⟨fun _ => .inr ⟨rfl, fun p q e => by cases e⟩, fun _ => .inr ⟨rfl, fun p q e => by cases e⟩⟩
theorem m7_sz {T : List Tok} {root : Bool} {r2 : Option (Nat × List Stp × Nat)} {u i n : Nat} {bad more : Bool} {st : List Stp} (h : M7 T root r2 u i bad more st) (hi : i ≤ n) (hn : n ≤ 1048576) : PthSz ⟨root, (u : Int), st⟩ ∧ st.length ≤ 524289 := by
  have hl : st.length ≤ 524289 := by
    rcases h.1 with ⟨_, _, _, _, h⟩ | ⟨_, _, _, rfl⟩ | ⟨_, _, h⟩
    · omega
    · exact Nat.zero_le _
    · omega
  exact ⟨⟨Nat.le_trans hl (by omega), h.2⟩, hl⟩
theorem results_c1 {P : Program} {fn : Func} {p : Tmp} {ty : TypeId} (h : fn.results = #[.cell p ty]) (tmps : Array Value) (w : World) (a : Addr) (v : Value) (hp : tmps.getD p undef = .pointer (some a)) (hl : (loadVar ty a).run P w = .ok v w) :
    (results fn tmps).run P w = .ok v w := by
  have hp' : tmps[p]?.getD undef = .pointer (some a) := by simpa using hp
  simp only [results, h]
  simp [Sem.run_bind, Result.andThen, hp', asAddr, hl]
def PsV (W0 : World) (B b : Nat) (A : Option Addr) (n cap : Nat) (T : List Tok) (res : Option (Pth × Nat)) (e : Ending) (w' : World) : Prop :=
  ∃ root u sv st S j bad, e = .returned (.agg #[.bool root, .int .i64 u, sv]) ∧ OwnS W0.heap.size w' sv st S ∧ Par B b A n cap T j bad w' ∧ W0.grownBy w' (some b) ∧ Hid (Fin7 res root u st j bad)
theorem eq1 : (⟨#[47]⟩ : ByteArray).toList.isEmpty = false := by rw [ByteArray.toList_eq]; rfl
theorem eq2 : (⟨#[91]⟩ : ByteArray).toList.isEmpty = false := by rw [ByteArray.toList_eq]; rfl
theorem eq3 : (⟨#[93]⟩ : ByteArray).toList.isEmpty = false := by rw [ByteArray.toList_eq]; rfl
theorem eq4 : (⟨#[61]⟩ : ByteArray).toList.isEmpty = false := by rw [ByteArray.toList_eq]; rfl
theorem eq5 : (⟨#[46, 46]⟩ : ByteArray).toList.isEmpty = false := by rw [ByteArray.toList_eq]; rfl
/-- 'own = append(own, x)' of a step with its tests; own may be nil; where the new list lies -/
theorem wpList_stR_append {ops : Array Oper} {rest : List Oper} {o : Oper} {a : Act} {Q : Exit → Act → World → Prop} {w : World} (hgd : o.guard = none) (s x : Operand)
    (ho : o.op = .call { callee := .builtin .append, args := #[s, x], argTypes := #[24, 24] })
    (B n : Nat) (v : Value) (L : List StR) (hs : a.eval s = v) (hrow : RowT7 B w v L) (hn : n = L.length)
    (y : StR) (hy : y.tv.oneCell' = true) (b : Nat) (hx : a.eval x = .slice (some ⟨b, 0, none⟩) 1 1) (hb : b = w.heap.size) (hlen : n + 1 ≤ 549755813888) (hbase : B ≤ w.heap.size) (q : Nat) (hq : q = n + 1)
    (h : ∀ g' c'' w', RowT7 B w' (.slice (some ⟨g', 0, none⟩) q c'') (L ++ [y]) → (w.alloc (.cells #[.string y.n, y.tv] 50)).grownBy w' v.ownBlock → (some g' = v.ownBlock ∨ g' = (w.alloc (.cells #[.string y.n, y.tv] 50)).heap.size) → wpList Tryd.prog ops Q rest (a.put o.dst (.slice (some ⟨g', 0, none⟩) q c'')) w') :
    wpList Tryd.prog ops Q (o :: rest) a (w.alloc (.cells #[.string y.n, y.tv] 50)) := by
  obtain ⟨i0, hi, hz0, hz1, hz2⟩ := info_parts infoStp
  subst hq hn hb
  refine wpList_append_own_at _ hgd s x 24 ho B 50 i0 (.agg #[.string ⟨#[]⟩, .slice none 0 0]) 2 40 Tryd.underlying24 hi hz0 hz1 hz2 rfl (by decide) _ L.length (L.flatMap StR.enc) hs (RowR.alloc hrow _) ⟨w.heap.size, 0, none⟩ 1 1 (StR.enc y) hx rfl (World.news_of_block (heap_alloc_new w _)) (fun u hu => by
    rcases List.mem_cons.1 hu with rfl | hu
    · rfl
    · rw [List.mem_singleton.1 hu]; exact hy) (by unfold maxLen; omega) (by omega) (Nat.le_trans hbase ((Below.refl 0 w).alloc (Nat.zero_le _) _).size) ?_
  intro v' w' h2 h3 h4 h5
  rcases h2.2 with ⟨h6, _⟩ | ⟨g', cap', cur, h6, _⟩
  · exact absurd (h4.1 h6).2 (by simp)
  · subst h6
    refine h g' cap' w' ?_ h3 ?_
    · unfold RowT7 RowR
      rw [List.length_append, List.flatMap_append, List.flatMap_singleton]
      exact h2
    · rcases h5 with h6 | h6
      · exact .inl h6
      · exact .inr (Option.some.inj h6)
theorem lf_snoc (st : List Stp) (s : Stp) : st.map lf ++ [lf s] = (st ++ [s]).map lf := by rw [List.map_append]; rfl
set_option maxHeartbeats 64000000 in
theorem sPth_any (B b n cap : Nat) (A : Option Addr) (T : List Tok) (w : World) (hts : ∀ x ∈ T, x.t.size ≤ 1048576) (hnb : n ≤ 1048576) (bad0 : Bool) (h : Par B b A n cap T 0 bad0 w) (hbad : bad0 = true → T = []) (res : Option (Pth × Nat)) (hr : Pthr T res) :
    Calls Tryd.prog 30 #[.pointer (some ⟨b, 0, none⟩)] w fun e w' => PsV w B b A n cap T res e w' := by
  have HTS := Lib.hid hts
  have HR0 := Lib.hid (r7_start h)
  have hcase : (Hid ((!bad0 && mkB (T.drop 0) slashT) = false) ∧ ∃ r2, Hid ((bad0 = false ∧ Ptr T false 0 0 [] r2) ∨ (bad0 = true ∧ r2 = none)) ∧ Hid ((r2 = none → res = none) ∧ ∀ u st q, r2 = some (u, st, q) → res = some (⟨false, (u : Int), st⟩, q))) ∨ (bad0 = false ∧ Hid (mkB (T.drop 0) slashT = true) ∧ ∃ m0, Hid (kB 1 (T.drop 1) = m0) ∧ ∃ r2, Hid ((m0 = false ∧ r2 = some (0, [], 1)) ∨ (m0 = true ∧ Ptr T true 1 0 [] r2)) ∧ Hid ((r2 = none → res = none) ∧ ∀ u st q, r2 = some (u, st, q) → res = some (⟨true, (u : Int), st⟩, q))) := by
    cases bad0 with
    | true =>
      have hT := hbad rfl
      subst hT
      refine .inl ⟨Lib.hid rfl, none, Lib.hid (.inr ⟨rfl, rfl⟩), Lib.hid ⟨fun _ => ?_, (fun u st q h => by cases h)⟩⟩
      cases hr with
      | root h => cases h
      | rootMore h => cases h
      | rootBad h => cases h
      | none => rfl
      | some h h2 =>
        exfalso
        rcases h2.way with ⟨_, _, h⟩ | ⟨k, u', st', h, _⟩
        · cases h
        · have := h.bd; simp at this; omega
    | false =>
      cases hr with
      | root h1 h2 => exact .inr ⟨rfl, Lib.hid h1, false, Lib.hid h2, _, Lib.hid (.inl ⟨rfl, rfl⟩), Lib.hid ⟨(fun h => by cases h), (fun u st q h => by cases h; rfl)⟩⟩
      | rootMore h1 h2 h3 => exact .inr ⟨rfl, Lib.hid h1, true, Lib.hid h2, _, Lib.hid (.inr ⟨rfl, h3⟩), Lib.hid ⟨(fun h => by cases h), (fun u st q h => by cases h; rfl)⟩⟩
      | rootBad h1 h2 h3 => exact .inr ⟨rfl, Lib.hid h1, true, Lib.hid h2, _, Lib.hid (.inr ⟨rfl, h3⟩), Lib.hid ⟨(fun _ => rfl), (fun u st q h => by cases h)⟩⟩
      | some h1 h2 => exact .inl ⟨Lib.hid (by simpa using h1), _, Lib.hid (.inl ⟨rfl, h2⟩), Lib.hid ⟨(fun h => by cases h), (fun u st q h => by cases h; rfl)⟩⟩
      | none h1 h2 => exact .inl ⟨Lib.hid (by simpa using h1), _, Lib.hid (.inl ⟨rfl, h2⟩), Lib.hid ⟨(fun _ => rfl), (fun u st q h => by cases h)⟩⟩
  clear hts h hbad hr
  rcases hcase with ⟨HM0, r2, HP2, HRES⟩ | ⟨rfl, HM0, m0, HK0, r2, HP2, HRES⟩
  · have HE0 : Hid (Calls Tryd.prog 53 #[.pointer (some ⟨b, 0, none⟩), .string ⟨#[47]⟩] ((w.alloc (.cells #[.bool false, .int .i64 0, .slice none 0 0] 26)).alloc (.cells #[.bool false, .int .i64 0, .slice none 0 0] 26)) fun e w' => e = .returned (.bool false) ∧ Par B b A n cap T 0 bad0 w' ∧ ((w.alloc (.cells #[.bool false, .int .i64 0, .slice none 0 0] 26)).alloc (.cells #[.bool false, .int .i64 0, .slice none 0 0] 26)).grownBy w' (some b)) := Lib.hid (by
      refine (sEat8 ⟨#[47]⟩ eq1 HR0.out.P).mono ?_
      rintro e w' ⟨g, j, rfl, HG, h1, h2⟩
      have hg : g = false := HG.out.1.trans HM0.out
      subst hg
      have hj : j = 0 := HG.out.2
      subst hj
      exact ⟨rfl, h1, h2⟩)
    go_enter Tryd.func30, Tryd.ntmps30
    go_wp2_with fail
    refine HE0.out.mono ?_
    rintro e w1 ⟨rfl, hP, hG⟩
    have HR1 := Lib.hid (HR0.out.step hP hG)
    clear hP hG HR0 HE0
    go_wp2
    go_loopw [4] (fun v wr => ∃ (i u : Nat) (more : Bool), v = .bool more ∧ Hid (R7 w B b A n cap T i bad0 false u (.slice none 0 0) [] (fun _ => False) wr) ∧ Hid (u ≤ i ∧ ((more = true ∧ bad0 = false ∧ Ptr T false i u [] r2) ∨ (more = false ∧ bad0 = false ∧ r2 = some (u, [], i)) ∨ (more = true ∧ bad0 = true ∧ r2 = none)))) (fun v wr => n - (intOf ((wr.cell? ⟨b, 1, none⟩).getD undef)).toNat + moreN v)
    case atStart => exact ⟨0, 0, true, rfl, HR1, Lib.hid ⟨Nat.le_refl _, HP2.out.elim (fun h => .inl ⟨rfl, h⟩) (fun h => .inr (.inr ⟨rfl, h⟩))⟩⟩
    case round =>
      clear HR1
      obtain ⟨i, u, more, rfl, HR, HM⟩ := hrel
      have HMEAS : Hid (intOf ((wr.cell? ⟨b, 1, none⟩).getD undef) = i) := Lib.hid (by rw [HR.out.P.c1]; rfl)
      cases more
      · have HMs : Hid (M7 T false r2 u i bad0 false []) := Lib.hid ⟨.inr (.inr ⟨rfl, HM.out.2.elim (fun h => absurd h.1 (by simp)) (fun h => h.elim (fun h => .inl h.2) (fun h => absurd h.1 (by simp))), by simp⟩), fun s h => by cases h⟩
        have HRs := HR
        clear HR HM HMEAS HP2
        obtain ⟨⟨x0, x1, x2⟩, g0, g1, g2⟩ := three_f HRs.out.X
        go_wp2
        go_loopw [4] (fun v wr => ∃ (i : Nat) (bad more : Bool) (sv : Value) (st : List Stp) (S : Nat → Prop), v = .bool more ∧ Hid (R7 w B b A n cap T i bad false u sv st S wr) ∧ Hid (M7 T false r2 u i bad more st)) (fun v wr => n - (intOf ((wr.cell? ⟨b, 1, none⟩).getD undef)).toNat + moreN v)
        case atStart => exact ⟨_, _, _, _, _, _, rfl, HRs, HMs⟩
        case round =>
          clear HRs HMs
          obtain ⟨i, bad, more, sv, st, S, rfl, HR, HM⟩ := hrel
          have HMEAS : Hid (intOf ((wr.cell? ⟨b, 1, none⟩).getD undef) = i) := Lib.hid (by rw [HR.out.P.c1]; rfl)
          have c2 := HR.out.P.c2
          cases more
          · have HSZ := Lib.hid (m7_sz HM.out HR.out.P.le hnb)
            obtain ⟨As, ms, cs, hsv⟩ : ∃ A n c, sv = .slice A n c := by obtain ⟨A, c, hv, _⟩ := (OwnS.has HR.out.O).at; exact ⟨A, _, c, hv⟩
            subst hsv
            obtain ⟨⟨x0, x1, x2⟩, g0, g1, g2⟩ := three_f HR.out.X
            have HF := Lib.hid (fin7_ok HM.out (by simp) HRES.out)
            have HIP := Lib.hid (sIsPth_any ⟨false, (u : Int), .slice As ms cs⟩ ⟨false, (u : Int), st⟩ wr ⟨rfl, rfl, OwnS.has HR.out.O⟩ HSZ.out.1)
            generalize dB (PthOk ⟨false, (u : Int), st⟩) = ok at HF HIP
            go_wp2_with fail
            refine HIP.out.mono ?_
            rintro e we ⟨rfl, hb⟩
            have HRe := Lib.hid (HR.out.below hb)
            clear hb x0 x1 x2 g0 g1 g2
            obtain ⟨⟨x0, x1, x2⟩, g0, g1, g2⟩ := three_f HRe.out.X
            obtain ⟨⟨y0, y1, y2⟩, k0, k1, k2⟩ := three_f HRe.out.Z
            have hl9 := HRe.out.lt
            cases ok
            · have c2 := HRe.out.P.c2
              have f2 := HRe.out.P.f2
              have HRf := Lib.hid (HRe.out.setBad true)
              clear x0 x1 x2 g0 g1 g2 y0 y1 y2 k0 k1 k2
              obtain ⟨⟨x0, x1, x2⟩, g0, g1, g2⟩ := three_f HRf.out.X
              obtain ⟨⟨y0, y1, y2⟩, k0, k1, k2⟩ := three_f HRf.out.Z
              go_wp2
              refine bodyPost_ret (results_c1 rfl _ _ ⟨w.heap.size, 0, none⟩ _ rfl (run_loadPth (pth_full HRf.out.Z _ _ _))) rfl ?_
              exact ⟨_, _, _, _, _, _, _, rfl, (HRf.out.done _ _ _).1.1, (HRf.out.done _ _ _).1.2, (HRf.out.done _ _ _).2, Lib.hid (HF.out.2 (by first | exact rfl | trivial))⟩
            · go_wp2
              refine bodyPost_ret (results_c1 rfl _ _ ⟨w.heap.size, 0, none⟩ _ rfl (run_loadPth (pth_full HRe.out.Z _ _ _))) rfl ?_
              exact ⟨_, _, _, _, _, _, _, rfl, (HRe.out.done _ _ _).1.1, (HRe.out.done _ _ _).1.2, (HRe.out.done _ _ _).2, Lib.hid (HF.out.1 (by first | exact rfl | trivial))⟩
          · cases bad
            · go_wp2_with fail
              refine (sTk8 1 HTS.out HR.out.P).mono ?_
              rintro e w1 ⟨x, i1, b1, rfl, HW, hP, hG⟩
              have HR1 := Lib.hid (HR.out.step hP hG)
              obtain ⟨r3, HR3, HSPR⟩ : ∃ r3 : Option (List Tst × Nat), Hid ((b1 = false ∧ Tsr T i1 [] r3) ∨ (b1 = true ∧ r3 = none)) ∧ Hid (Spr T i (r3.map fun q => (⟨x, q.1⟩, q.2))) := by
                obtain ⟨r3, h1, h2⟩ := nameStep7 HW.out.1 HW.out.2.1
                exact ⟨r3, Lib.hid h1, Lib.hid h2⟩
              have HI0 := Lib.hid (i7_start x HR1.out)
              clear hP hG c2
              go_wp2
              go_loopw [] (fun wi => ∃ (j : Nat) (bd : Bool) (tv : Value) (L : List Tst), Hid (I7 w B b A n cap T j bd false u sv st S w1.heap.size x tv L wi) ∧ Hid (((bd = false ∧ Tsr T j L r3) ∨ (bd = true ∧ r3 = none)) ∧ (L.length ≤ j ∧ ∀ t ∈ L, TstSz t) ∧ i1 ≤ j)) (fun wi => n - (intOf ((wi.cell? ⟨b, 1, none⟩).getD undef)).toNat)
              case atStart => exact ⟨i1, b1, _, [], HI0, Lib.hid ⟨HR3.out, ⟨Nat.zero_le _, fun t h => by cases h⟩, Nat.le_refl _⟩⟩
              case round =>
                clear HI0
                obtain ⟨j, bd, tv, L, HI, HT⟩ := hrel
                have HMEAS2 : Hid (intOf ((wr.cell? ⟨b, 1, none⟩).getD undef) = j) := Lib.hid (by rw [HI.out.R.P.c1]; rfl)
                go_wp2_with fail
                refine (sEat8 ⟨#[91]⟩ eq2 HI.out.R.P).mono ?_
                rintro e w2 ⟨g, j1, rfl, HG1, hP, hG⟩
                have HI1 := Lib.hid (HI.out.step hP hG)
                have HTE := Lib.hid (tests_end HT.out.1 HG1.out.1)
                clear hP hG
                obtain ⟨At, m, ct, htv⟩ : ∃ A n c, tv = .slice A n c := by obtain ⟨A, c, hv, _⟩ := RowR.hasX HI1.out.ts; exact ⟨A, _, c, hv⟩
                subst htv
                have HNL : Hid (m = L.length) := Lib.hid (by obtain ⟨A9, c9, hv9, _⟩ := RowR.hasX HI1.out.ts; injection hv9)
                have HLT : Hid (m + 1 ≤ 549755813888) := Lib.hid (by rw [HNL.out]; have := HT.out.2.1.1; have := HI.out.R.P.le; omega)
                cases g
                · have HEX := Lib.hid (HTE.out.2 rfl)
                  obtain rfl : j1 = j := HG1.out.2
                  obtain ⟨As, ms, cs, hsv⟩ : ∃ A n c, sv = .slice A n c := by obtain ⟨A, c, hv, _⟩ := (OwnS.has HI1.out.R.O).at; exact ⟨A, _, c, hv⟩
                  subst hsv
                  have HMS : Hid (ms = st.length) := Lib.hid (by obtain ⟨A, c, hv, _⟩ := (OwnS.has HI1.out.R.O).at; injection hv)
                  have HSTL : Hid (ms + 1 ≤ 549755813888) := Lib.hid (by rw [HMS.out]; have := (m7_sz HM.out HR.out.P.le hnb).2; omega)
                  obtain ⟨⟨z0, z1⟩, u0, u1⟩ := two_fro HI1.out.X
                  obtain ⟨⟨x0, x1, x2⟩, g0, g1, g2⟩ := three_f HI1.out.R.X
                  have hb8 := below_al (Below.refl w2.heap.size w2) (.cells #[.string x, .slice At m ct] 50)
                  have HI8 := Lib.hid (HI1.out.below hb8)
                  have hSlt : ∀ q, S q → q < w1.heap.size := HI1.out.Slt
                  have hNlt : ∀ q, (Value.slice At m ct).ownBlock = some q → w1.heap.size + 1 ≤ q := fun q h => (RowR.lt HI8.out.ts h).1
                  obtain ⟨R, hR, hRl, hgrow⟩ := OwL.grow HI8.out.R.O
                  have HGROW := Lib.hid (fun (w' : World) (v' : Value) => hgrow (w' := w') (v' := v') (r := ⟨x, .slice At m ct⟩) (t := lf ⟨x, L⟩) (Sr := fun q => (Value.slice At m ct).ownBlock = some q) ⟨_, fun _ => False, ⟨⟨rfl, RowR.mono HI8.out.ts (B' := w.heap.size + 2) (by have := HI1.out.lo; omega)⟩, fun q => Iff.rfl⟩, owL_nil _ _ _ _, fun q _ h => h, fun q => by simp⟩ (fun q h1 h2 => by have := hSlt q h1; have := hNlt q h2; omega))
                  have HRR := Lib.hid hR
                  have hRl' : ms = R.length := by rw [hRl, List.length_map]; exact HMS.out
                  have HRL := Lib.hid hRl'
                  have hSlt2 : ∀ q, (Value.slice As ms cs).ownBlock = some q → q < w2.heap.size := fun q hq => by
                    have h1 := (RowR.lt hR hq).1
                    obtain ⟨g, cap', e, _, h⟩ := (OwL.form HI1.out.R.O).resolve_left (fun h => by rw [h.1] at hq; cases hq)
                    rw [e] at hq; cases hq; exact h
                  have HBASE : Hid (w.heap.size + 2 ≤ w2.heap.size) := Lib.hid HI1.out.R.lt
                  have hs12 : w1.heap.size < w2.heap.size := HI1.out.lt
                  have hs02 : w.heap.size + 1 < w2.heap.size := HI1.out.R.lt
                  have HR2w : Hid (RowT7 (w.heap.size + 2) w2 (.slice As ms cs) R) := Lib.hid (rowR_frame hR fun q hq => (Below.heap_alloc w2 (.cells #[.string x, .slice At m ct] 50) _ (by have := (RowR.lt hR hq).2; have := hSlt2 q hq; omega)).symm)
                  clear hb8 hgrow hR hRl hRl' hSlt hNlt hSlt2
                  go_wp2_with (at_builtin; refine wpList_stR_append rfl _ _ rfl (w.heap.size + 2) ms (.slice As ms cs) R (by rfl) HR2w.out HRL.out ⟨x, .slice At m ct⟩ rfl w2.heap.size (by rfl) rfl HSTL.out HBASE.out (ms + 1) rfl ?_; intro g' c' w8 hrow8 hg8 hp8; have HO8 : Hid (∃ S', OwnS (w.heap.size + 2) w8 (.slice (some ⟨g', 0, none⟩) (ms + 1) c') (st ++ [⟨x, L⟩]) S') := Lib.hid ⟨_, by have h := HGROW.out w8 (.slice (some ⟨g', 0, none⟩) (ms + 1) c') hrow8 hg8 (hp8.elim (fun e => .inl e) (fun e => .inr ⟨g', rfl, by rw [e]; exact Nat.le_refl _⟩)); rw [lf_snoc] at h; exact h⟩; obtain ⟨S', hO8⟩ := HO8.out; have HS8 := Lib.hid (HI8.out.R.snoc hg8 (fun j e => (RowR.lt HRR.out e).1) hO8); clear hO8 hp8 hrow8 hg8 x0 x1 x2 g0 g1 g2; obtain ⟨⟨x0, x1, x2⟩, g0, g1, g2⟩ := three_f HS8.out.1)
                  have HSZ : Hid (StpSz ⟨x, L⟩) := Lib.hid ⟨HW.out.2.2, by have := HT.out.2.1.1; have := HI1.out.R.P.le; show L.length ≤ _; omega, HT.out.2.1.2⟩
                  have HR9 := Lib.hid HS8.out.2
                  go_wp2_with fail
                  refine (sEat8 ⟨#[47]⟩ eq1 HR9.out.P).mono ?_
                  rintro e w9 ⟨g, j9, rfl, HG9, hP, hG⟩
                  have HRz := Lib.hid (HR9.out.step hP hG)
                  have HNX := Lib.hid (m7_next HM.out HW.out.1 HR3.out HSPR.out HEX.out HT.out.2.2 HG9.out HSZ.out)
                  clear hP hG
                  go_wp2
                  go_roundw
                  case rel => exact ⟨j9, bd, g, _, _, _, rfl, HRz, Lib.hid HNX.out.1⟩
                  case measure =>
                    rw [HMEAS.out, HRz.out.P.c1]
                    have h1 := HNX.out.2
                    have h2 := HRz.out.P.le
                    show n - ((j9 : Nat) : Int).toNat + moreN (.bool g) < n - ((i : Nat) : Int).toNat + moreN (.bool true)
                    cases g
                    · show _ + 0 < _ + 1; omega
                    · have := h1.2 rfl; show _ + 1 < _ + 1; omega
                · obtain ⟨rfl, hm0, hts0⟩ := HTE.out.1 rfl
                  have HM0 := Lib.hid hm0
                  have HT0 := Lib.hid hts0
                  obtain rfl : j1 = j + 1 := HG1.out.2
                  clear hm0 hts0
                  go_wp2_with fail
                  refine (sTk8 1 HTS.out HI1.out.R.P).mono ?_
                  rintro e w3 ⟨tx, a1, d1, rfl, HW1, hP, hG⟩
                  have HI2 := Lib.hid (HI1.out.step hP hG)
                  have HI3 := Lib.hid (HI2.out.below (below_al (Below.refl w3.heap.size w3) (.cells #[.string tx, .string ⟨#[]⟩] 52)))
                  have HB3 : Hid ((w3.alloc (.cells #[.string tx, .string ⟨#[]⟩] 52)).heap[w3.heap.size]? = some (.cells #[.string tx, .string ⟨#[]⟩] 52 (0, 0))) := Lib.hid (heap_alloc_new w3 _)
                  have HSB : Hid (w1.heap.size < w3.heap.size ∧ (Value.slice At m ct).ownBlock ≠ some w3.heap.size ∧ b < w3.heap.size) := Lib.hid ⟨HI2.out.lt, fun e => by have := (RowR.lt HI2.out.ts e).2; omega, by have := HI2.out.lt; have := HI2.out.lo; have := HI2.out.R.bl; omega⟩
                  clear hP hG HI1 HI
                  go_wp2_with fail
                  refine (sWt8 ⟨#[61]⟩ eq4 HI3.out.R.P).mono ?_
                  rintro e w4 ⟨rfl, a2, d2, HW2, hP, hG⟩
                  have HI4 := Lib.hid (HI3.out.step hP hG)
                  have HB4 := Lib.hid (grown_at hG HB3.out (by have := HSB.out; omega))
                  clear hP hG HI3 HB3
                  go_wp2_with fail
                  refine (sTk8 3 HTS.out HI4.out.R.P).mono ?_
                  rintro e w5 ⟨ty, a3, d3, rfl, HW3, hP, hG⟩
                  have HI5 := Lib.hid (HI4.out.step hP hG)
                  have HB5 := Lib.hid (grown_at hG HB4.out (by have := HSB.out; omega))
                  obtain ⟨⟨z0, z1⟩, u0, u1⟩ := two_fro HB5.out
                  have HI6 := Lib.hid (HI5.out.far (grownBy_set w5 w3.heap.size 1 (.string ty)) HSB.out.1 HSB.out.2.1)
                  have HB6 : Hid ((w5.setCell ⟨w3.heap.size, 1, none⟩ (.string ty)).heap[w3.heap.size]? = some (.cells #[.string tx, .string ty] 52 (0, 0))) := Lib.hid (by rw [heap_setCell_same w5 _ 1 _ _ _ HB5.out]; rfl)
                  clear hP hG HI4 HB4
                  go_wp2_with fail
                  refine (sWt8 ⟨#[93]⟩ eq3 HI6.out.R.P).mono ?_
                  rintro e w7 ⟨rfl, a4, d4, HW4, hP, hG⟩
                  have HI7 := Lib.hid (HI6.out.step hP hG)
                  have HB7 := Lib.hid (grown_at hG HB6.out (by have := HSB.out; omega))
                  have HST := Lib.hid (test_step HM0.out HW1.out.1 HW1.out.2.1 HW2.out HW3.out.1 HW3.out.2.1 HW4.out HT0.out)
                  have HTZ : Hid (TstSz ⟨tx, ty⟩) := Lib.hid ⟨HW1.out.2.2, HW3.out.2.2⟩
                  have HAI : Hid (j + 1 ≤ a4) := Lib.hid (by have := HW1.out.1.le; have := HW2.out.le; have := HW3.out.1.le; have := HW4.out.le; omega)
                  clear hP hG HI5 HB5 HI6 HB6 z0 z1 u0 u1
                  obtain ⟨⟨z0, z1⟩, u0, u1⟩ := two_fro HI7.out.X
                  obtain ⟨⟨q0, q1⟩, -⟩ := two_fro HB7.out
                  have hs17 : w1.heap.size < w7.heap.size := HI7.out.lt
                  have HBASE : Hid (w1.heap.size + 1 ≤ w7.heap.size) := Lib.hid hs17
                  have hb8 := below_al (Below.refl w7.heap.size w7) (.cells #[.string tx, .string ty] 52)
                  have HI8 := Lib.hid (HI7.out.below hb8)
                  clear hb8
                  go_wp2_with (at_builtin; refine wpList_tst_append rfl _ _ rfl (w1.heap.size + 1) m (.slice At m ct) L (by rfl) HI7.out.ts HNL.out ⟨tx, ty⟩ w7.heap.size (by rfl) rfl HLT.out HBASE.out (m + 1) rfl ?_; intro g' c' w8 hrow8 hg8; have HS8 := Lib.hid (HI8.out.snoc hg8 (fun j e => (RowR.lt HI8.out.ts e).1) hrow8); clear hrow8 hg8 z0 z1 u0 u1; obtain ⟨⟨z0, z1⟩, u0, u1⟩ := two_fro HS8.out.1)
                  go_roundw
                  case rel =>
                      refine ⟨a4, d4, _, L ++ [⟨tx, ty⟩], Lib.hid HS8.out.2, Lib.hid ⟨HST.out, ⟨by rw [List.length_append]; have := HT.out.2.1.1; have := HAI.out; simp; omega, fun t h => ?_⟩, by have := HT.out.2.2; have := HAI.out; omega⟩⟩
                      rcases List.mem_append.1 h with h | h
                      · exact HT.out.2.1.2 t h
                      · rw [List.mem_singleton.1 h]; exact HTZ.out
                  case measure => rw [HMEAS2.out, HS8.out.2.R.P.c1]; have := HAI.out; have := HS8.out.2.R.P.le; show n - (((a4 : Nat) : Int)).toNat < n - ((j : Nat) : Int).toNat; omega
            · have HSZ := Lib.hid (m7_sz HM.out HR.out.P.le hnb)
              obtain ⟨As, ms, cs, hsv⟩ : ∃ A n c, sv = .slice A n c := by obtain ⟨A, c, hv, _⟩ := (OwnS.has HR.out.O).at; exact ⟨A, _, c, hv⟩
              subst hsv
              obtain ⟨⟨x0, x1, x2⟩, g0, g1, g2⟩ := three_f HR.out.X
              have HF := Lib.hid (fin7_ok HM.out (by simp) HRES.out)
              have HIP := Lib.hid (sIsPth_any ⟨false, (u : Int), .slice As ms cs⟩ ⟨false, (u : Int), st⟩ wr ⟨rfl, rfl, OwnS.has HR.out.O⟩ HSZ.out.1)
              generalize dB (PthOk ⟨false, (u : Int), st⟩) = ok at HF HIP
              go_wp2_with fail
              refine HIP.out.mono ?_
              rintro e we ⟨rfl, hb⟩
              have HRe := Lib.hid (HR.out.below hb)
              clear hb x0 x1 x2 g0 g1 g2
              obtain ⟨⟨x0, x1, x2⟩, g0, g1, g2⟩ := three_f HRe.out.X
              obtain ⟨⟨y0, y1, y2⟩, k0, k1, k2⟩ := three_f HRe.out.Z
              have hl9 := HRe.out.lt
              cases ok
              · have c2 := HRe.out.P.c2
                have f2 := HRe.out.P.f2
                have HRf := Lib.hid (HRe.out.setBad true)
                clear x0 x1 x2 g0 g1 g2 y0 y1 y2 k0 k1 k2
                obtain ⟨⟨x0, x1, x2⟩, g0, g1, g2⟩ := three_f HRf.out.X
                obtain ⟨⟨y0, y1, y2⟩, k0, k1, k2⟩ := three_f HRf.out.Z
                go_wp2
                refine bodyPost_ret (results_c1 rfl _ _ ⟨w.heap.size, 0, none⟩ _ rfl (run_loadPth (pth_full HRf.out.Z _ _ _))) rfl ?_
                exact ⟨_, _, _, _, _, _, _, rfl, (HRf.out.done _ _ _).1.1, (HRf.out.done _ _ _).1.2, (HRf.out.done _ _ _).2, Lib.hid (HF.out.2 (by first | exact rfl | trivial))⟩
              · go_wp2
                refine bodyPost_ret (results_c1 rfl _ _ ⟨w.heap.size, 0, none⟩ _ rfl (run_loadPth (pth_full HRe.out.Z _ _ _))) rfl ?_
                exact ⟨_, _, _, _, _, _, _, rfl, (HRe.out.done _ _ _).1.1, (HRe.out.done _ _ _).1.2, (HRe.out.done _ _ _).2, Lib.hid (HF.out.1 (by first | exact rfl | trivial))⟩
      · obtain ⟨⟨x0, x1, x2⟩, g0, g1, g2⟩ := three_f HR.out.X
        have HEA := Lib.hid (sEat8 ⟨#[46, 46]⟩ eq5 HR.out.P)
        go_wp2_with fail
        refine HEA.out.mono ?_
        rintro e w2 ⟨g, i2, rfl, HG, hP, hG⟩
        have HR2 := Lib.hid (HR.out.step hP hG)
        clear hP hG x0 x1 x2 g0 g1 g2
        cases g
        · obtain rfl : i2 = i := HG.out.2
          have HMs : Hid (M7 T false r2 u i2 bad0 true []) := Lib.hid ⟨by
            have hg := HG.out.1
            rcases HM.out.2 with ⟨_, h1, h2⟩ | ⟨h, _⟩ | ⟨_, h1, h2⟩
            · rw [h1] at hg
              exact .inl ⟨rfl, h1, h2, by unfold upB; rw [show mkB (T.drop i2) dotsT = false from by have h := hg.symm; simp at h; exact h]; rfl, by simp⟩
            · cases h
            · exact .inr (.inl ⟨rfl, h1, h2, rfl⟩), fun s h => by cases h⟩
          have HRs := HR2
          clear HR HR2 HM HMEAS HG HP2 HEA
          go_wp2
          go_loopw [4] (fun v wr => ∃ (i : Nat) (bad more : Bool) (sv : Value) (st : List Stp) (S : Nat → Prop), v = .bool more ∧ Hid (R7 w B b A n cap T i bad false u sv st S wr) ∧ Hid (M7 T false r2 u i bad more st)) (fun v wr => n - (intOf ((wr.cell? ⟨b, 1, none⟩).getD undef)).toNat + moreN v)
          case atStart => exact ⟨_, _, _, _, _, _, rfl, HRs, HMs⟩
          case round =>
            clear HRs HMs
            obtain ⟨i, bad, more, sv, st, S, rfl, HR, HM⟩ := hrel
            have HMEAS : Hid (intOf ((wr.cell? ⟨b, 1, none⟩).getD undef) = i) := Lib.hid (by rw [HR.out.P.c1]; rfl)
            have c2 := HR.out.P.c2
            cases more
            · have HSZ := Lib.hid (m7_sz HM.out HR.out.P.le hnb)
              obtain ⟨As, ms, cs, hsv⟩ : ∃ A n c, sv = .slice A n c := by obtain ⟨A, c, hv, _⟩ := (OwnS.has HR.out.O).at; exact ⟨A, _, c, hv⟩
              subst hsv
              obtain ⟨⟨x0, x1, x2⟩, g0, g1, g2⟩ := three_f HR.out.X
              have HF := Lib.hid (fin7_ok HM.out (by simp) HRES.out)
              have HIP := Lib.hid (sIsPth_any ⟨false, (u : Int), .slice As ms cs⟩ ⟨false, (u : Int), st⟩ wr ⟨rfl, rfl, OwnS.has HR.out.O⟩ HSZ.out.1)
              generalize dB (PthOk ⟨false, (u : Int), st⟩) = ok at HF HIP
              go_wp2_with fail
              refine HIP.out.mono ?_
              rintro e we ⟨rfl, hb⟩
              have HRe := Lib.hid (HR.out.below hb)
              clear hb x0 x1 x2 g0 g1 g2
              obtain ⟨⟨x0, x1, x2⟩, g0, g1, g2⟩ := three_f HRe.out.X
              obtain ⟨⟨y0, y1, y2⟩, k0, k1, k2⟩ := three_f HRe.out.Z
              have hl9 := HRe.out.lt
              cases ok
              · have c2 := HRe.out.P.c2
                have f2 := HRe.out.P.f2
                have HRf := Lib.hid (HRe.out.setBad true)
                clear x0 x1 x2 g0 g1 g2 y0 y1 y2 k0 k1 k2
                obtain ⟨⟨x0, x1, x2⟩, g0, g1, g2⟩ := three_f HRf.out.X
                obtain ⟨⟨y0, y1, y2⟩, k0, k1, k2⟩ := three_f HRf.out.Z
                go_wp2
                refine bodyPost_ret (results_c1 rfl _ _ ⟨w.heap.size, 0, none⟩ _ rfl (run_loadPth (pth_full HRf.out.Z _ _ _))) rfl ?_
                exact ⟨_, _, _, _, _, _, _, rfl, (HRf.out.done _ _ _).1.1, (HRf.out.done _ _ _).1.2, (HRf.out.done _ _ _).2, Lib.hid (HF.out.2 (by first | exact rfl | trivial))⟩
              · go_wp2
                refine bodyPost_ret (results_c1 rfl _ _ ⟨w.heap.size, 0, none⟩ _ rfl (run_loadPth (pth_full HRe.out.Z _ _ _))) rfl ?_
                exact ⟨_, _, _, _, _, _, _, rfl, (HRe.out.done _ _ _).1.1, (HRe.out.done _ _ _).1.2, (HRe.out.done _ _ _).2, Lib.hid (HF.out.1 (by first | exact rfl | trivial))⟩
            · cases bad
              · go_wp2_with fail
                refine (sTk8 1 HTS.out HR.out.P).mono ?_
                rintro e w1 ⟨x, i1, b1, rfl, HW, hP, hG⟩
                have HR1 := Lib.hid (HR.out.step hP hG)
                obtain ⟨r3, HR3, HSPR⟩ : ∃ r3 : Option (List Tst × Nat), Hid ((b1 = false ∧ Tsr T i1 [] r3) ∨ (b1 = true ∧ r3 = none)) ∧ Hid (Spr T i (r3.map fun q => (⟨x, q.1⟩, q.2))) := by
                  obtain ⟨r3, h1, h2⟩ := nameStep7 HW.out.1 HW.out.2.1
                  exact ⟨r3, Lib.hid h1, Lib.hid h2⟩
                have HI0 := Lib.hid (i7_start x HR1.out)
                clear hP hG c2
                go_wp2
                go_loopw [] (fun wi => ∃ (j : Nat) (bd : Bool) (tv : Value) (L : List Tst), Hid (I7 w B b A n cap T j bd false u sv st S w1.heap.size x tv L wi) ∧ Hid (((bd = false ∧ Tsr T j L r3) ∨ (bd = true ∧ r3 = none)) ∧ (L.length ≤ j ∧ ∀ t ∈ L, TstSz t) ∧ i1 ≤ j)) (fun wi => n - (intOf ((wi.cell? ⟨b, 1, none⟩).getD undef)).toNat)
                case atStart => exact ⟨i1, b1, _, [], HI0, Lib.hid ⟨HR3.out, ⟨Nat.zero_le _, fun t h => by cases h⟩, Nat.le_refl _⟩⟩
                case round =>
                  clear HI0
                  obtain ⟨j, bd, tv, L, HI, HT⟩ := hrel
                  have HMEAS2 : Hid (intOf ((wr.cell? ⟨b, 1, none⟩).getD undef) = j) := Lib.hid (by rw [HI.out.R.P.c1]; rfl)
                  go_wp2_with fail
                  refine (sEat8 ⟨#[91]⟩ eq2 HI.out.R.P).mono ?_
                  rintro e w2 ⟨g, j1, rfl, HG1, hP, hG⟩
                  have HI1 := Lib.hid (HI.out.step hP hG)
                  have HTE := Lib.hid (tests_end HT.out.1 HG1.out.1)
                  clear hP hG
                  obtain ⟨At, m, ct, htv⟩ : ∃ A n c, tv = .slice A n c := by obtain ⟨A, c, hv, _⟩ := RowR.hasX HI1.out.ts; exact ⟨A, _, c, hv⟩
                  subst htv
                  have HNL : Hid (m = L.length) := Lib.hid (by obtain ⟨A9, c9, hv9, _⟩ := RowR.hasX HI1.out.ts; injection hv9)
                  have HLT : Hid (m + 1 ≤ 549755813888) := Lib.hid (by rw [HNL.out]; have := HT.out.2.1.1; have := HI.out.R.P.le; omega)
                  cases g
                  · have HEX := Lib.hid (HTE.out.2 rfl)
                    obtain rfl : j1 = j := HG1.out.2
                    obtain ⟨As, ms, cs, hsv⟩ : ∃ A n c, sv = .slice A n c := by obtain ⟨A, c, hv, _⟩ := (OwnS.has HI1.out.R.O).at; exact ⟨A, _, c, hv⟩
                    subst hsv
                    have HMS : Hid (ms = st.length) := Lib.hid (by obtain ⟨A, c, hv, _⟩ := (OwnS.has HI1.out.R.O).at; injection hv)
                    have HSTL : Hid (ms + 1 ≤ 549755813888) := Lib.hid (by rw [HMS.out]; have := (m7_sz HM.out HR.out.P.le hnb).2; omega)
                    obtain ⟨⟨z0, z1⟩, u0, u1⟩ := two_fro HI1.out.X
                    obtain ⟨⟨x0, x1, x2⟩, g0, g1, g2⟩ := three_f HI1.out.R.X
                    have hb8 := below_al (Below.refl w2.heap.size w2) (.cells #[.string x, .slice At m ct] 50)
                    have HI8 := Lib.hid (HI1.out.below hb8)
                    have hSlt : ∀ q, S q → q < w1.heap.size := HI1.out.Slt
                    have hNlt : ∀ q, (Value.slice At m ct).ownBlock = some q → w1.heap.size + 1 ≤ q := fun q h => (RowR.lt HI8.out.ts h).1
                    obtain ⟨R, hR, hRl, hgrow⟩ := OwL.grow HI8.out.R.O
                    have HGROW := Lib.hid (fun (w' : World) (v' : Value) => hgrow (w' := w') (v' := v') (r := ⟨x, .slice At m ct⟩) (t := lf ⟨x, L⟩) (Sr := fun q => (Value.slice At m ct).ownBlock = some q) ⟨_, fun _ => False, ⟨⟨rfl, RowR.mono HI8.out.ts (B' := w.heap.size + 2) (by have := HI1.out.lo; omega)⟩, fun q => Iff.rfl⟩, owL_nil _ _ _ _, fun q _ h => h, fun q => by simp⟩ (fun q h1 h2 => by have := hSlt q h1; have := hNlt q h2; omega))
                    have HRR := Lib.hid hR
                    have hRl' : ms = R.length := by rw [hRl, List.length_map]; exact HMS.out
                    have HRL := Lib.hid hRl'
                    have hSlt2 : ∀ q, (Value.slice As ms cs).ownBlock = some q → q < w2.heap.size := fun q hq => by
                      have h1 := (RowR.lt hR hq).1
                      obtain ⟨g, cap', e, _, h⟩ := (OwL.form HI1.out.R.O).resolve_left (fun h => by rw [h.1] at hq; cases hq)
                      rw [e] at hq; cases hq; exact h
                    have HBASE : Hid (w.heap.size + 2 ≤ w2.heap.size) := Lib.hid HI1.out.R.lt
                    have hs12 : w1.heap.size < w2.heap.size := HI1.out.lt
                    have hs02 : w.heap.size + 1 < w2.heap.size := HI1.out.R.lt
                    have HR2w : Hid (RowT7 (w.heap.size + 2) w2 (.slice As ms cs) R) := Lib.hid (rowR_frame hR fun q hq => (Below.heap_alloc w2 (.cells #[.string x, .slice At m ct] 50) _ (by have := (RowR.lt hR hq).2; have := hSlt2 q hq; omega)).symm)
                    clear hb8 hgrow hR hRl hRl' hSlt hNlt hSlt2
                    go_wp2_with (at_builtin; refine wpList_stR_append rfl _ _ rfl (w.heap.size + 2) ms (.slice As ms cs) R (by rfl) HR2w.out HRL.out ⟨x, .slice At m ct⟩ rfl w2.heap.size (by rfl) rfl HSTL.out HBASE.out (ms + 1) rfl ?_; intro g' c' w8 hrow8 hg8 hp8; have HO8 : Hid (∃ S', OwnS (w.heap.size + 2) w8 (.slice (some ⟨g', 0, none⟩) (ms + 1) c') (st ++ [⟨x, L⟩]) S') := Lib.hid ⟨_, by have h := HGROW.out w8 (.slice (some ⟨g', 0, none⟩) (ms + 1) c') hrow8 hg8 (hp8.elim (fun e => .inl e) (fun e => .inr ⟨g', rfl, by rw [e]; exact Nat.le_refl _⟩)); rw [lf_snoc] at h; exact h⟩; obtain ⟨S', hO8⟩ := HO8.out; have HS8 := Lib.hid (HI8.out.R.snoc hg8 (fun j e => (RowR.lt HRR.out e).1) hO8); clear hO8 hp8 hrow8 hg8 x0 x1 x2 g0 g1 g2; obtain ⟨⟨x0, x1, x2⟩, g0, g1, g2⟩ := three_f HS8.out.1)
                    have HSZ : Hid (StpSz ⟨x, L⟩) := Lib.hid ⟨HW.out.2.2, by have := HT.out.2.1.1; have := HI1.out.R.P.le; show L.length ≤ _; omega, HT.out.2.1.2⟩
                    have HR9 := Lib.hid HS8.out.2
                    go_wp2_with fail
                    refine (sEat8 ⟨#[47]⟩ eq1 HR9.out.P).mono ?_
                    rintro e w9 ⟨g, j9, rfl, HG9, hP, hG⟩
                    have HRz := Lib.hid (HR9.out.step hP hG)
                    have HNX := Lib.hid (m7_next HM.out HW.out.1 HR3.out HSPR.out HEX.out HT.out.2.2 HG9.out HSZ.out)
                    clear hP hG
                    go_wp2
                    go_roundw
                    case rel => exact ⟨j9, bd, g, _, _, _, rfl, HRz, Lib.hid HNX.out.1⟩
                    case measure =>
                      rw [HMEAS.out, HRz.out.P.c1]
                      have h1 := HNX.out.2
                      have h2 := HRz.out.P.le
                      show n - ((j9 : Nat) : Int).toNat + moreN (.bool g) < n - ((i : Nat) : Int).toNat + moreN (.bool true)
                      cases g
                      · show _ + 0 < _ + 1; omega
                      · have := h1.2 rfl; show _ + 1 < _ + 1; omega
                  · obtain ⟨rfl, hm0, hts0⟩ := HTE.out.1 rfl
                    have HM0 := Lib.hid hm0
                    have HT0 := Lib.hid hts0
                    obtain rfl : j1 = j + 1 := HG1.out.2
                    clear hm0 hts0
                    go_wp2_with fail
                    refine (sTk8 1 HTS.out HI1.out.R.P).mono ?_
                    rintro e w3 ⟨tx, a1, d1, rfl, HW1, hP, hG⟩
                    have HI2 := Lib.hid (HI1.out.step hP hG)
                    have HI3 := Lib.hid (HI2.out.below (below_al (Below.refl w3.heap.size w3) (.cells #[.string tx, .string ⟨#[]⟩] 52)))
                    have HB3 : Hid ((w3.alloc (.cells #[.string tx, .string ⟨#[]⟩] 52)).heap[w3.heap.size]? = some (.cells #[.string tx, .string ⟨#[]⟩] 52 (0, 0))) := Lib.hid (heap_alloc_new w3 _)
                    have HSB : Hid (w1.heap.size < w3.heap.size ∧ (Value.slice At m ct).ownBlock ≠ some w3.heap.size ∧ b < w3.heap.size) := Lib.hid ⟨HI2.out.lt, fun e => by have := (RowR.lt HI2.out.ts e).2; omega, by have := HI2.out.lt; have := HI2.out.lo; have := HI2.out.R.bl; omega⟩
                    clear hP hG HI1 HI
                    go_wp2_with fail
                    refine (sWt8 ⟨#[61]⟩ eq4 HI3.out.R.P).mono ?_
                    rintro e w4 ⟨rfl, a2, d2, HW2, hP, hG⟩
                    have HI4 := Lib.hid (HI3.out.step hP hG)
                    have HB4 := Lib.hid (grown_at hG HB3.out (by have := HSB.out; omega))
                    clear hP hG HI3 HB3
                    go_wp2_with fail
                    refine (sTk8 3 HTS.out HI4.out.R.P).mono ?_
                    rintro e w5 ⟨ty, a3, d3, rfl, HW3, hP, hG⟩
                    have HI5 := Lib.hid (HI4.out.step hP hG)
                    have HB5 := Lib.hid (grown_at hG HB4.out (by have := HSB.out; omega))
                    obtain ⟨⟨z0, z1⟩, u0, u1⟩ := two_fro HB5.out
                    have HI6 := Lib.hid (HI5.out.far (grownBy_set w5 w3.heap.size 1 (.string ty)) HSB.out.1 HSB.out.2.1)
                    have HB6 : Hid ((w5.setCell ⟨w3.heap.size, 1, none⟩ (.string ty)).heap[w3.heap.size]? = some (.cells #[.string tx, .string ty] 52 (0, 0))) := Lib.hid (by rw [heap_setCell_same w5 _ 1 _ _ _ HB5.out]; rfl)
                    clear hP hG HI4 HB4
                    go_wp2_with fail
                    refine (sWt8 ⟨#[93]⟩ eq3 HI6.out.R.P).mono ?_
                    rintro e w7 ⟨rfl, a4, d4, HW4, hP, hG⟩
                    have HI7 := Lib.hid (HI6.out.step hP hG)
                    have HB7 := Lib.hid (grown_at hG HB6.out (by have := HSB.out; omega))
                    have HST := Lib.hid (test_step HM0.out HW1.out.1 HW1.out.2.1 HW2.out HW3.out.1 HW3.out.2.1 HW4.out HT0.out)
                    have HTZ : Hid (TstSz ⟨tx, ty⟩) := Lib.hid ⟨HW1.out.2.2, HW3.out.2.2⟩
                    have HAI : Hid (j + 1 ≤ a4) := Lib.hid (by have := HW1.out.1.le; have := HW2.out.le; have := HW3.out.1.le; have := HW4.out.le; omega)
                    clear hP hG HI5 HB5 HI6 HB6 z0 z1 u0 u1
                    obtain ⟨⟨z0, z1⟩, u0, u1⟩ := two_fro HI7.out.X
                    obtain ⟨⟨q0, q1⟩, -⟩ := two_fro HB7.out
                    have hs17 : w1.heap.size < w7.heap.size := HI7.out.lt
                    have HBASE : Hid (w1.heap.size + 1 ≤ w7.heap.size) := Lib.hid hs17
                    have hb8 := below_al (Below.refl w7.heap.size w7) (.cells #[.string tx, .string ty] 52)
                    have HI8 := Lib.hid (HI7.out.below hb8)
                    clear hb8
                    go_wp2_with (at_builtin; refine wpList_tst_append rfl _ _ rfl (w1.heap.size + 1) m (.slice At m ct) L (by rfl) HI7.out.ts HNL.out ⟨tx, ty⟩ w7.heap.size (by rfl) rfl HLT.out HBASE.out (m + 1) rfl ?_; intro g' c' w8 hrow8 hg8; have HS8 := Lib.hid (HI8.out.snoc hg8 (fun j e => (RowR.lt HI8.out.ts e).1) hrow8); clear hrow8 hg8 z0 z1 u0 u1; obtain ⟨⟨z0, z1⟩, u0, u1⟩ := two_fro HS8.out.1)
                    go_roundw
                    case rel =>
                        refine ⟨a4, d4, _, L ++ [⟨tx, ty⟩], Lib.hid HS8.out.2, Lib.hid ⟨HST.out, ⟨by rw [List.length_append]; have := HT.out.2.1.1; have := HAI.out; simp; omega, fun t h => ?_⟩, by have := HT.out.2.2; have := HAI.out; omega⟩⟩
                        rcases List.mem_append.1 h with h | h
                        · exact HT.out.2.1.2 t h
                        · rw [List.mem_singleton.1 h]; exact HTZ.out
                    case measure => rw [HMEAS2.out, HS8.out.2.R.P.c1]; have := HAI.out; have := HS8.out.2.R.P.le; show n - (((a4 : Nat) : Int)).toNat < n - ((j : Nat) : Int).toNat; omega
              · have HSZ := Lib.hid (m7_sz HM.out HR.out.P.le hnb)
                obtain ⟨As, ms, cs, hsv⟩ : ∃ A n c, sv = .slice A n c := by obtain ⟨A, c, hv, _⟩ := (OwnS.has HR.out.O).at; exact ⟨A, _, c, hv⟩
                subst hsv
                obtain ⟨⟨x0, x1, x2⟩, g0, g1, g2⟩ := three_f HR.out.X
                have HF := Lib.hid (fin7_ok HM.out (by simp) HRES.out)
                have HIP := Lib.hid (sIsPth_any ⟨false, (u : Int), .slice As ms cs⟩ ⟨false, (u : Int), st⟩ wr ⟨rfl, rfl, OwnS.has HR.out.O⟩ HSZ.out.1)
                generalize dB (PthOk ⟨false, (u : Int), st⟩) = ok at HF HIP
                go_wp2_with fail
                refine HIP.out.mono ?_
                rintro e we ⟨rfl, hb⟩
                have HRe := Lib.hid (HR.out.below hb)
                clear hb x0 x1 x2 g0 g1 g2
                obtain ⟨⟨x0, x1, x2⟩, g0, g1, g2⟩ := three_f HRe.out.X
                obtain ⟨⟨y0, y1, y2⟩, k0, k1, k2⟩ := three_f HRe.out.Z
                have hl9 := HRe.out.lt
                cases ok
                · have c2 := HRe.out.P.c2
                  have f2 := HRe.out.P.f2
                  have HRf := Lib.hid (HRe.out.setBad true)
                  clear x0 x1 x2 g0 g1 g2 y0 y1 y2 k0 k1 k2
                  obtain ⟨⟨x0, x1, x2⟩, g0, g1, g2⟩ := three_f HRf.out.X
                  obtain ⟨⟨y0, y1, y2⟩, k0, k1, k2⟩ := three_f HRf.out.Z
                  go_wp2
                  refine bodyPost_ret (results_c1 rfl _ _ ⟨w.heap.size, 0, none⟩ _ rfl (run_loadPth (pth_full HRf.out.Z _ _ _))) rfl ?_
                  exact ⟨_, _, _, _, _, _, _, rfl, (HRf.out.done _ _ _).1.1, (HRf.out.done _ _ _).1.2, (HRf.out.done _ _ _).2, Lib.hid (HF.out.2 (by first | exact rfl | trivial))⟩
                · go_wp2
                  refine bodyPost_ret (results_c1 rfl _ _ ⟨w.heap.size, 0, none⟩ _ rfl (run_loadPth (pth_full HRe.out.Z _ _ _))) rfl ?_
                  exact ⟨_, _, _, _, _, _, _, rfl, (HRe.out.done _ _ _).1.1, (HRe.out.done _ _ _).1.2, (HRe.out.done _ _ _).2, Lib.hid (HF.out.1 (by first | exact rfl | trivial))⟩
        · obtain rfl : i2 = i + 1 := HG.out.2
          have HPT : Hid (bad0 = false ∧ Ptr T false i u [] r2 ∧ upB T false [] i = true) := Lib.hid (by
            have hg := HG.out.1
            rcases HM.out.2 with ⟨_, h1, h2⟩ | ⟨h, _⟩ | ⟨_, h1, h2⟩
            · rw [h1] at hg
              exact ⟨h1, h2, by unfold upB; rw [show mkB (T.drop i) dotsT = true from by have h := hg.symm; simp at h; exact h]; rfl⟩
            · cases h
            · rw [h1] at hg; cases hg)
          obtain ⟨⟨x0, x1, x2⟩, g0, g1, g2⟩ := three_f HR2.out.X
          have hu9 : (u : Int) + 1 ≤ 9223372036854775807 := by have := HM.out.1; have := HR.out.P.le; omega
          have hu0 : (0 : Int) ≤ (u : Int) := by omega
          have HR3 := Lib.hid (HR2.out.ups ((u : Int) + 1))
          go_wp2_with fail
          refine (sEat8 ⟨#[47]⟩ eq1 HR3.out.P).mono ?_
          rintro e w3 ⟨g, i3, rfl, HG3, hP, hG⟩
          have HR4 := Lib.hid (HR3.out.step hP hG)
          have HN9 : Hid ((i + 1 ≤ i3 ∧ (g = true → i + 2 ≤ i3)) ∧ ((g = true ∧ bad0 = false ∧ Ptr T false i3 (u + 1) [] r2) ∨ (g = false ∧ bad0 = false ∧ r2 = some (u + 1, [], i3)) ∨ (g = true ∧ bad0 = true ∧ r2 = none))) := Lib.hid (by
            obtain ⟨h1, h2, h3⟩ := HPT.out
            obtain ⟨h4, h5⟩ := HG3.out
            rw [h1] at h4
            rcases h2.inv with ⟨_, k, k2⟩ | ⟨_, k, k2⟩ | ⟨k, _⟩ | ⟨_, _, k, _⟩ | ⟨_, _, k, _⟩
            · rw [show mkB (T.drop (i + 1)) ⟨#[47]⟩ = false from k] at h4
              obtain rfl : g = false := by simpa using h4
              simp at h5; subst h5
              exact ⟨⟨Nat.le_refl _, (fun h => by cases h)⟩, .inr (.inl ⟨rfl, h1, k2⟩)⟩
            · rw [show mkB (T.drop (i + 1)) ⟨#[47]⟩ = true from k] at h4
              obtain rfl : g = true := by simpa using h4
              simp at h5; subst h5
              exact ⟨⟨by omega, (fun _ => Nat.le_refl _)⟩, .inl ⟨rfl, h1, k2⟩⟩
            · rw [h3] at k; cases k
            · rw [h3] at k; cases k
            · rw [h3] at k; cases k)
          have HU9 := Lib.hid HM.out.1
          clear hP hG HR HR2 HR3 HM HG x0 x1 x2 g0 g1 g2
          go_wp2
          go_roundw
          case rel => exact ⟨i3, u + 1, g, rfl, Lib.hid (by rw [Int.natCast_add]; exact HR4.out), Lib.hid ⟨by have := HN9.out.1.1; have := HU9.out; omega, HN9.out.2⟩⟩
          case measure =>
            rw [HMEAS.out, HR4.out.P.c1]
            have h1 := HN9.out.1
            have h2 := HR4.out.P.le
            show n - ((i3 : Nat) : Int).toNat + moreN (.bool g) < n - ((i : Nat) : Int).toNat + moreN (.bool true)
            cases g
            · show _ + 0 < _ + 1; omega
            · have := h1.2 rfl; show _ + 1 < _ + 1; omega
  · have HE0 : Hid (Calls Tryd.prog 53 #[.pointer (some ⟨b, 0, none⟩), .string ⟨#[47]⟩] ((w.alloc (.cells #[.bool false, .int .i64 0, .slice none 0 0] 26)).alloc (.cells #[.bool false, .int .i64 0, .slice none 0 0] 26)) fun e w' => e = .returned (.bool true) ∧ Par B b A n cap T 1 false w' ∧ ((w.alloc (.cells #[.bool false, .int .i64 0, .slice none 0 0] 26)).alloc (.cells #[.bool false, .int .i64 0, .slice none 0 0] 26)).grownBy w' (some b)) := Lib.hid (sEat_yes ⟨#[47]⟩ eq1 HR0.out.P HM0.out)
    go_enter Tryd.func30, Tryd.ntmps30
    go_wp2_with fail
    refine HE0.out.mono ?_
    rintro e w1 ⟨rfl, hP, hG⟩
    have HR1 := Lib.hid (HR0.out.step hP hG)
    obtain ⟨⟨x0, x1, x2⟩, g0, g1, g2⟩ := three_f HR1.out.X
    have HR2 := Lib.hid (HR1.out.putRoot true)
    have HAT := Lib.hid (sAtK 1 HR2.out.P)
    rw [HK0.out] at HAT
    clear hP hG HR0 HE0 HR1
    go_wp2_with fail
    refine HAT.out.mono ?_
    rintro e w2 ⟨rfl, q, hq⟩
    have HR3 : Hid (R7 w B b A n cap T 1 false true 0 (.slice none 0 0) [] (fun _ => False) w2) := Lib.hid (by rw [hq]; exact HR2.out.below (below_drewN (Below.refl _ _) q))
    have HMs : Hid (M7 T true r2 0 1 false m0 []) := Lib.hid ⟨by
      rcases HP2.out with ⟨rfl, h⟩ | ⟨rfl, h⟩
      · exact .inr (.inr ⟨rfl, .inl ⟨rfl, h⟩, by simp⟩)
      · exact .inl ⟨rfl, rfl, h, by unfold upB; simp, by simp⟩, fun s h => by cases h⟩
    clear hq HAT HR2 x0 x1 x2 g0 g1 g2 HP2 HK0 HM0
    obtain ⟨u, hu⟩ : ∃ u : Nat, u = 0 := ⟨0, rfl⟩
    have HRs : Hid (R7 w B b A n cap T 1 false true (u : Int) (.slice none 0 0) [] (fun _ => False) w2) := Lib.hid (by rw [hu]; exact HR3.out)
    have HMs : Hid (M7 T true r2 u 1 false m0 []) := Lib.hid (by rw [hu]; exact HMs.out)
    clear HR3 hu
    obtain ⟨⟨x0, x1, x2⟩, g0, g1, g2⟩ := three_f HRs.out.X
    go_wp2
    go_loopw [4] (fun v wr => v = .bool m0 ∧ wr = w2) (fun _ _ => 0)
    case atStart => exact ⟨rfl, rfl⟩
    case round =>
      obtain ⟨rfl, rfl⟩ := hrel
      cases m0
      · go_wp2
        go_loopw [4] (fun v wr => ∃ (i : Nat) (bad more : Bool) (sv : Value) (st : List Stp) (S : Nat → Prop), v = .bool more ∧ Hid (R7 w B b A n cap T i bad true u sv st S wr) ∧ Hid (M7 T true r2 u i bad more st)) (fun v wr => n - (intOf ((wr.cell? ⟨b, 1, none⟩).getD undef)).toNat + moreN v)
        case atStart => exact ⟨_, _, _, _, _, _, rfl, HRs, HMs⟩
        case round =>
          clear HRs HMs
          obtain ⟨i, bad, more, sv, st, S, rfl, HR, HM⟩ := hrel
          have HMEAS : Hid (intOf ((wr.cell? ⟨b, 1, none⟩).getD undef) = i) := Lib.hid (by rw [HR.out.P.c1]; rfl)
          have c2 := HR.out.P.c2
          cases more
          · have HSZ := Lib.hid (m7_sz HM.out HR.out.P.le hnb)
            obtain ⟨As, ms, cs, hsv⟩ : ∃ A n c, sv = .slice A n c := by obtain ⟨A, c, hv, _⟩ := (OwnS.has HR.out.O).at; exact ⟨A, _, c, hv⟩
            subst hsv
            obtain ⟨⟨x0, x1, x2⟩, g0, g1, g2⟩ := three_f HR.out.X
            have HF := Lib.hid (fin7_ok HM.out (by simp) HRES.out)
            have HIP := Lib.hid (sIsPth_any ⟨true, (u : Int), .slice As ms cs⟩ ⟨true, (u : Int), st⟩ wr ⟨rfl, rfl, OwnS.has HR.out.O⟩ HSZ.out.1)
            generalize dB (PthOk ⟨true, (u : Int), st⟩) = ok at HF HIP
            go_wp2_with fail
            refine HIP.out.mono ?_
            rintro e we ⟨rfl, hb⟩
            have HRe := Lib.hid (HR.out.below hb)
            clear hb x0 x1 x2 g0 g1 g2
            obtain ⟨⟨x0, x1, x2⟩, g0, g1, g2⟩ := three_f HRe.out.X
            obtain ⟨⟨y0, y1, y2⟩, k0, k1, k2⟩ := three_f HRe.out.Z
            have hl9 := HRe.out.lt
            cases ok
            · have c2 := HRe.out.P.c2
              have f2 := HRe.out.P.f2
              have HRf := Lib.hid (HRe.out.setBad true)
              clear x0 x1 x2 g0 g1 g2 y0 y1 y2 k0 k1 k2
              obtain ⟨⟨x0, x1, x2⟩, g0, g1, g2⟩ := three_f HRf.out.X
              obtain ⟨⟨y0, y1, y2⟩, k0, k1, k2⟩ := three_f HRf.out.Z
              go_wp2
              refine bodyPost_ret (results_c1 rfl _ _ ⟨w.heap.size, 0, none⟩ _ rfl (run_loadPth (pth_full HRf.out.Z _ _ _))) rfl ?_
              exact ⟨_, _, _, _, _, _, _, rfl, (HRf.out.done _ _ _).1.1, (HRf.out.done _ _ _).1.2, (HRf.out.done _ _ _).2, Lib.hid (HF.out.2 (by first | exact rfl | trivial))⟩
            · go_wp2
              refine bodyPost_ret (results_c1 rfl _ _ ⟨w.heap.size, 0, none⟩ _ rfl (run_loadPth (pth_full HRe.out.Z _ _ _))) rfl ?_
              exact ⟨_, _, _, _, _, _, _, rfl, (HRe.out.done _ _ _).1.1, (HRe.out.done _ _ _).1.2, (HRe.out.done _ _ _).2, Lib.hid (HF.out.1 (by first | exact rfl | trivial))⟩
          · cases bad
            · go_wp2_with fail
              refine (sTk8 1 HTS.out HR.out.P).mono ?_
              rintro e w1 ⟨x, i1, b1, rfl, HW, hP, hG⟩
              have HR1 := Lib.hid (HR.out.step hP hG)
              obtain ⟨r3, HR3, HSPR⟩ : ∃ r3 : Option (List Tst × Nat), Hid ((b1 = false ∧ Tsr T i1 [] r3) ∨ (b1 = true ∧ r3 = none)) ∧ Hid (Spr T i (r3.map fun q => (⟨x, q.1⟩, q.2))) := by
                obtain ⟨r3, h1, h2⟩ := nameStep7 HW.out.1 HW.out.2.1
                exact ⟨r3, Lib.hid h1, Lib.hid h2⟩
              have HI0 := Lib.hid (i7_start x HR1.out)
              clear hP hG c2
              go_wp2
              go_loopw [] (fun wi => ∃ (j : Nat) (bd : Bool) (tv : Value) (L : List Tst), Hid (I7 w B b A n cap T j bd true u sv st S w1.heap.size x tv L wi) ∧ Hid (((bd = false ∧ Tsr T j L r3) ∨ (bd = true ∧ r3 = none)) ∧ (L.length ≤ j ∧ ∀ t ∈ L, TstSz t) ∧ i1 ≤ j)) (fun wi => n - (intOf ((wi.cell? ⟨b, 1, none⟩).getD undef)).toNat)
              case atStart => exact ⟨i1, b1, _, [], HI0, Lib.hid ⟨HR3.out, ⟨Nat.zero_le _, fun t h => by cases h⟩, Nat.le_refl _⟩⟩
              case round =>
                clear HI0
                obtain ⟨j, bd, tv, L, HI, HT⟩ := hrel
                have HMEAS2 : Hid (intOf ((wr.cell? ⟨b, 1, none⟩).getD undef) = j) := Lib.hid (by rw [HI.out.R.P.c1]; rfl)
                go_wp2_with fail
                refine (sEat8 ⟨#[91]⟩ eq2 HI.out.R.P).mono ?_
                rintro e w2 ⟨g, j1, rfl, HG1, hP, hG⟩
                have HI1 := Lib.hid (HI.out.step hP hG)
                have HTE := Lib.hid (tests_end HT.out.1 HG1.out.1)
                clear hP hG
                obtain ⟨At, m, ct, htv⟩ : ∃ A n c, tv = .slice A n c := by obtain ⟨A, c, hv, _⟩ := RowR.hasX HI1.out.ts; exact ⟨A, _, c, hv⟩
                subst htv
                have HNL : Hid (m = L.length) := Lib.hid (by obtain ⟨A9, c9, hv9, _⟩ := RowR.hasX HI1.out.ts; injection hv9)
                have HLT : Hid (m + 1 ≤ 549755813888) := Lib.hid (by rw [HNL.out]; have := HT.out.2.1.1; have := HI.out.R.P.le; omega)
                cases g
                · have HEX := Lib.hid (HTE.out.2 rfl)
                  obtain rfl : j1 = j := HG1.out.2
                  obtain ⟨As, ms, cs, hsv⟩ : ∃ A n c, sv = .slice A n c := by obtain ⟨A, c, hv, _⟩ := (OwnS.has HI1.out.R.O).at; exact ⟨A, _, c, hv⟩
                  subst hsv
                  have HMS : Hid (ms = st.length) := Lib.hid (by obtain ⟨A, c, hv, _⟩ := (OwnS.has HI1.out.R.O).at; injection hv)
                  have HSTL : Hid (ms + 1 ≤ 549755813888) := Lib.hid (by rw [HMS.out]; have := (m7_sz HM.out HR.out.P.le hnb).2; omega)
                  obtain ⟨⟨z0, z1⟩, u0, u1⟩ := two_fro HI1.out.X
                  obtain ⟨⟨x0, x1, x2⟩, g0, g1, g2⟩ := three_f HI1.out.R.X
                  have hb8 := below_al (Below.refl w2.heap.size w2) (.cells #[.string x, .slice At m ct] 50)
                  have HI8 := Lib.hid (HI1.out.below hb8)
                  have hSlt : ∀ q, S q → q < w1.heap.size := HI1.out.Slt
                  have hNlt : ∀ q, (Value.slice At m ct).ownBlock = some q → w1.heap.size + 1 ≤ q := fun q h => (RowR.lt HI8.out.ts h).1
                  obtain ⟨R, hR, hRl, hgrow⟩ := OwL.grow HI8.out.R.O
                  have HGROW := Lib.hid (fun (w' : World) (v' : Value) => hgrow (w' := w') (v' := v') (r := ⟨x, .slice At m ct⟩) (t := lf ⟨x, L⟩) (Sr := fun q => (Value.slice At m ct).ownBlock = some q) ⟨_, fun _ => False, ⟨⟨rfl, RowR.mono HI8.out.ts (B' := w.heap.size + 2) (by have := HI1.out.lo; omega)⟩, fun q => Iff.rfl⟩, owL_nil _ _ _ _, fun q _ h => h, fun q => by simp⟩ (fun q h1 h2 => by have := hSlt q h1; have := hNlt q h2; omega))
                  have HRR := Lib.hid hR
                  have hRl' : ms = R.length := by rw [hRl, List.length_map]; exact HMS.out
                  have HRL := Lib.hid hRl'
                  have hSlt2 : ∀ q, (Value.slice As ms cs).ownBlock = some q → q < w2.heap.size := fun q hq => by
                    have h1 := (RowR.lt hR hq).1
                    obtain ⟨g, cap', e, _, h⟩ := (OwL.form HI1.out.R.O).resolve_left (fun h => by rw [h.1] at hq; cases hq)
                    rw [e] at hq; cases hq; exact h
                  have HBASE : Hid (w.heap.size + 2 ≤ w2.heap.size) := Lib.hid HI1.out.R.lt
                  have hs12 : w1.heap.size < w2.heap.size := HI1.out.lt
                  have hs02 : w.heap.size + 1 < w2.heap.size := HI1.out.R.lt
                  have HR2w : Hid (RowT7 (w.heap.size + 2) w2 (.slice As ms cs) R) := Lib.hid (rowR_frame hR fun q hq => (Below.heap_alloc w2 (.cells #[.string x, .slice At m ct] 50) _ (by have := (RowR.lt hR hq).2; have := hSlt2 q hq; omega)).symm)
                  clear hb8 hgrow hR hRl hRl' hSlt hNlt hSlt2
                  go_wp2_with (at_builtin; refine wpList_stR_append rfl _ _ rfl (w.heap.size + 2) ms (.slice As ms cs) R (by rfl) HR2w.out HRL.out ⟨x, .slice At m ct⟩ rfl w2.heap.size (by rfl) rfl HSTL.out HBASE.out (ms + 1) rfl ?_; intro g' c' w8 hrow8 hg8 hp8; have HO8 : Hid (∃ S', OwnS (w.heap.size + 2) w8 (.slice (some ⟨g', 0, none⟩) (ms + 1) c') (st ++ [⟨x, L⟩]) S') := Lib.hid ⟨_, by have h := HGROW.out w8 (.slice (some ⟨g', 0, none⟩) (ms + 1) c') hrow8 hg8 (hp8.elim (fun e => .inl e) (fun e => .inr ⟨g', rfl, by rw [e]; exact Nat.le_refl _⟩)); rw [lf_snoc] at h; exact h⟩; obtain ⟨S', hO8⟩ := HO8.out; have HS8 := Lib.hid (HI8.out.R.snoc hg8 (fun j e => (RowR.lt HRR.out e).1) hO8); clear hO8 hp8 hrow8 hg8 x0 x1 x2 g0 g1 g2; obtain ⟨⟨x0, x1, x2⟩, g0, g1, g2⟩ := three_f HS8.out.1)
                  have HSZ : Hid (StpSz ⟨x, L⟩) := Lib.hid ⟨HW.out.2.2, by have := HT.out.2.1.1; have := HI1.out.R.P.le; show L.length ≤ _; omega, HT.out.2.1.2⟩
                  have HR9 := Lib.hid HS8.out.2
                  go_wp2_with fail
                  refine (sEat8 ⟨#[47]⟩ eq1 HR9.out.P).mono ?_
                  rintro e w9 ⟨g, j9, rfl, HG9, hP, hG⟩
                  have HRz := Lib.hid (HR9.out.step hP hG)
                  have HNX := Lib.hid (m7_next HM.out HW.out.1 HR3.out HSPR.out HEX.out HT.out.2.2 HG9.out HSZ.out)
                  clear hP hG
                  go_wp2
                  go_roundw
                  case rel => exact ⟨j9, bd, g, _, _, _, rfl, HRz, Lib.hid HNX.out.1⟩
                  case measure =>
                    rw [HMEAS.out, HRz.out.P.c1]
                    have h1 := HNX.out.2
                    have h2 := HRz.out.P.le
                    show n - ((j9 : Nat) : Int).toNat + moreN (.bool g) < n - ((i : Nat) : Int).toNat + moreN (.bool true)
                    cases g
                    · show _ + 0 < _ + 1; omega
                    · have := h1.2 rfl; show _ + 1 < _ + 1; omega
                · obtain ⟨rfl, hm0, hts0⟩ := HTE.out.1 rfl
                  have HM0 := Lib.hid hm0
                  have HT0 := Lib.hid hts0
                  obtain rfl : j1 = j + 1 := HG1.out.2
                  clear hm0 hts0
                  go_wp2_with fail
                  refine (sTk8 1 HTS.out HI1.out.R.P).mono ?_
                  rintro e w3 ⟨tx, a1, d1, rfl, HW1, hP, hG⟩
                  have HI2 := Lib.hid (HI1.out.step hP hG)
                  have HI3 := Lib.hid (HI2.out.below (below_al (Below.refl w3.heap.size w3) (.cells #[.string tx, .string ⟨#[]⟩] 52)))
                  have HB3 : Hid ((w3.alloc (.cells #[.string tx, .string ⟨#[]⟩] 52)).heap[w3.heap.size]? = some (.cells #[.string tx, .string ⟨#[]⟩] 52 (0, 0))) := Lib.hid (heap_alloc_new w3 _)
                  have HSB : Hid (w1.heap.size < w3.heap.size ∧ (Value.slice At m ct).ownBlock ≠ some w3.heap.size ∧ b < w3.heap.size) := Lib.hid ⟨HI2.out.lt, fun e => by have := (RowR.lt HI2.out.ts e).2; omega, by have := HI2.out.lt; have := HI2.out.lo; have := HI2.out.R.bl; omega⟩
                  clear hP hG HI1 HI
                  go_wp2_with fail
                  refine (sWt8 ⟨#[61]⟩ eq4 HI3.out.R.P).mono ?_
                  rintro e w4 ⟨rfl, a2, d2, HW2, hP, hG⟩
                  have HI4 := Lib.hid (HI3.out.step hP hG)
                  have HB4 := Lib.hid (grown_at hG HB3.out (by have := HSB.out; omega))
                  clear hP hG HI3 HB3
                  go_wp2_with fail
                  refine (sTk8 3 HTS.out HI4.out.R.P).mono ?_
                  rintro e w5 ⟨ty, a3, d3, rfl, HW3, hP, hG⟩
                  have HI5 := Lib.hid (HI4.out.step hP hG)
                  have HB5 := Lib.hid (grown_at hG HB4.out (by have := HSB.out; omega))
                  obtain ⟨⟨z0, z1⟩, u0, u1⟩ := two_fro HB5.out
                  have HI6 := Lib.hid (HI5.out.far (grownBy_set w5 w3.heap.size 1 (.string ty)) HSB.out.1 HSB.out.2.1)
                  have HB6 : Hid ((w5.setCell ⟨w3.heap.size, 1, none⟩ (.string ty)).heap[w3.heap.size]? = some (.cells #[.string tx, .string ty] 52 (0, 0))) := Lib.hid (by rw [heap_setCell_same w5 _ 1 _ _ _ HB5.out]; rfl)
                  clear hP hG HI4 HB4
                  go_wp2_with fail
                  refine (sWt8 ⟨#[93]⟩ eq3 HI6.out.R.P).mono ?_
                  rintro e w7 ⟨rfl, a4, d4, HW4, hP, hG⟩
                  have HI7 := Lib.hid (HI6.out.step hP hG)
                  have HB7 := Lib.hid (grown_at hG HB6.out (by have := HSB.out; omega))
                  have HST := Lib.hid (test_step HM0.out HW1.out.1 HW1.out.2.1 HW2.out HW3.out.1 HW3.out.2.1 HW4.out HT0.out)
                  have HTZ : Hid (TstSz ⟨tx, ty⟩) := Lib.hid ⟨HW1.out.2.2, HW3.out.2.2⟩
                  have HAI : Hid (j + 1 ≤ a4) := Lib.hid (by have := HW1.out.1.le; have := HW2.out.le; have := HW3.out.1.le; have := HW4.out.le; omega)
                  clear hP hG HI5 HB5 HI6 HB6 z0 z1 u0 u1
                  obtain ⟨⟨z0, z1⟩, u0, u1⟩ := two_fro HI7.out.X
                  obtain ⟨⟨q0, q1⟩, -⟩ := two_fro HB7.out
                  have hs17 : w1.heap.size < w7.heap.size := HI7.out.lt
                  have HBASE : Hid (w1.heap.size + 1 ≤ w7.heap.size) := Lib.hid hs17
                  have hb8 := below_al (Below.refl w7.heap.size w7) (.cells #[.string tx, .string ty] 52)
                  have HI8 := Lib.hid (HI7.out.below hb8)
                  clear hb8
                  go_wp2_with (at_builtin; refine wpList_tst_append rfl _ _ rfl (w1.heap.size + 1) m (.slice At m ct) L (by rfl) HI7.out.ts HNL.out ⟨tx, ty⟩ w7.heap.size (by rfl) rfl HLT.out HBASE.out (m + 1) rfl ?_; intro g' c' w8 hrow8 hg8; have HS8 := Lib.hid (HI8.out.snoc hg8 (fun j e => (RowR.lt HI8.out.ts e).1) hrow8); clear hrow8 hg8 z0 z1 u0 u1; obtain ⟨⟨z0, z1⟩, u0, u1⟩ := two_fro HS8.out.1)
                  go_roundw
                  case rel =>
                      refine ⟨a4, d4, _, L ++ [⟨tx, ty⟩], Lib.hid HS8.out.2, Lib.hid ⟨HST.out, ⟨by rw [List.length_append]; have := HT.out.2.1.1; have := HAI.out; simp; omega, fun t h => ?_⟩, by have := HT.out.2.2; have := HAI.out; omega⟩⟩
                      rcases List.mem_append.1 h with h | h
                      · exact HT.out.2.1.2 t h
                      · rw [List.mem_singleton.1 h]; exact HTZ.out
                  case measure => rw [HMEAS2.out, HS8.out.2.R.P.c1]; have := HAI.out; have := HS8.out.2.R.P.le; show n - (((a4 : Nat) : Int)).toNat < n - ((j : Nat) : Int).toNat; omega
            · have HSZ := Lib.hid (m7_sz HM.out HR.out.P.le hnb)
              obtain ⟨As, ms, cs, hsv⟩ : ∃ A n c, sv = .slice A n c := by obtain ⟨A, c, hv, _⟩ := (OwnS.has HR.out.O).at; exact ⟨A, _, c, hv⟩
              subst hsv
              obtain ⟨⟨x0, x1, x2⟩, g0, g1, g2⟩ := three_f HR.out.X
              have HF := Lib.hid (fin7_ok HM.out (by simp) HRES.out)
              have HIP := Lib.hid (sIsPth_any ⟨true, (u : Int), .slice As ms cs⟩ ⟨true, (u : Int), st⟩ wr ⟨rfl, rfl, OwnS.has HR.out.O⟩ HSZ.out.1)
              generalize dB (PthOk ⟨true, (u : Int), st⟩) = ok at HF HIP
              go_wp2_with fail
              refine HIP.out.mono ?_
              rintro e we ⟨rfl, hb⟩
              have HRe := Lib.hid (HR.out.below hb)
              clear hb x0 x1 x2 g0 g1 g2
              obtain ⟨⟨x0, x1, x2⟩, g0, g1, g2⟩ := three_f HRe.out.X
              obtain ⟨⟨y0, y1, y2⟩, k0, k1, k2⟩ := three_f HRe.out.Z
              have hl9 := HRe.out.lt
              cases ok
              · have c2 := HRe.out.P.c2
                have f2 := HRe.out.P.f2
                have HRf := Lib.hid (HRe.out.setBad true)
                clear x0 x1 x2 g0 g1 g2 y0 y1 y2 k0 k1 k2
                obtain ⟨⟨x0, x1, x2⟩, g0, g1, g2⟩ := three_f HRf.out.X
                obtain ⟨⟨y0, y1, y2⟩, k0, k1, k2⟩ := three_f HRf.out.Z
                go_wp2
                refine bodyPost_ret (results_c1 rfl _ _ ⟨w.heap.size, 0, none⟩ _ rfl (run_loadPth (pth_full HRf.out.Z _ _ _))) rfl ?_
                exact ⟨_, _, _, _, _, _, _, rfl, (HRf.out.done _ _ _).1.1, (HRf.out.done _ _ _).1.2, (HRf.out.done _ _ _).2, Lib.hid (HF.out.2 (by first | exact rfl | trivial))⟩
              · go_wp2
                refine bodyPost_ret (results_c1 rfl _ _ ⟨w.heap.size, 0, none⟩ _ rfl (run_loadPth (pth_full HRe.out.Z _ _ _))) rfl ?_
                exact ⟨_, _, _, _, _, _, _, rfl, (HRe.out.done _ _ _).1.1, (HRe.out.done _ _ _).1.2, (HRe.out.done _ _ _).2, Lib.hid (HF.out.1 (by first | exact rfl | trivial))⟩
      · go_wp2
        go_loopw [4] (fun v wr => ∃ (i : Nat) (bad more : Bool) (sv : Value) (st : List Stp) (S : Nat → Prop), v = .bool more ∧ Hid (R7 w B b A n cap T i bad true u sv st S wr) ∧ Hid (M7 T true r2 u i bad more st)) (fun v wr => n - (intOf ((wr.cell? ⟨b, 1, none⟩).getD undef)).toNat + moreN v)
        case atStart => exact ⟨_, _, _, _, _, _, rfl, HRs, HMs⟩
        case round =>
          clear HRs HMs
          obtain ⟨i, bad, more, sv, st, S, rfl, HR, HM⟩ := hrel
          have HMEAS : Hid (intOf ((wr.cell? ⟨b, 1, none⟩).getD undef) = i) := Lib.hid (by rw [HR.out.P.c1]; rfl)
          have c2 := HR.out.P.c2
          cases more
          · have HSZ := Lib.hid (m7_sz HM.out HR.out.P.le hnb)
            obtain ⟨As, ms, cs, hsv⟩ : ∃ A n c, sv = .slice A n c := by obtain ⟨A, c, hv, _⟩ := (OwnS.has HR.out.O).at; exact ⟨A, _, c, hv⟩
            subst hsv
            obtain ⟨⟨x0, x1, x2⟩, g0, g1, g2⟩ := three_f HR.out.X
            have HF := Lib.hid (fin7_ok HM.out (by simp) HRES.out)
            have HIP := Lib.hid (sIsPth_any ⟨true, (u : Int), .slice As ms cs⟩ ⟨true, (u : Int), st⟩ wr ⟨rfl, rfl, OwnS.has HR.out.O⟩ HSZ.out.1)
            generalize dB (PthOk ⟨true, (u : Int), st⟩) = ok at HF HIP
            go_wp2_with fail
            refine HIP.out.mono ?_
            rintro e we ⟨rfl, hb⟩
            have HRe := Lib.hid (HR.out.below hb)
            clear hb x0 x1 x2 g0 g1 g2
            obtain ⟨⟨x0, x1, x2⟩, g0, g1, g2⟩ := three_f HRe.out.X
            obtain ⟨⟨y0, y1, y2⟩, k0, k1, k2⟩ := three_f HRe.out.Z
            have hl9 := HRe.out.lt
            cases ok
            · have c2 := HRe.out.P.c2
              have f2 := HRe.out.P.f2
              have HRf := Lib.hid (HRe.out.setBad true)
              clear x0 x1 x2 g0 g1 g2 y0 y1 y2 k0 k1 k2
              obtain ⟨⟨x0, x1, x2⟩, g0, g1, g2⟩ := three_f HRf.out.X
              obtain ⟨⟨y0, y1, y2⟩, k0, k1, k2⟩ := three_f HRf.out.Z
              go_wp2
              refine bodyPost_ret (results_c1 rfl _ _ ⟨w.heap.size, 0, none⟩ _ rfl (run_loadPth (pth_full HRf.out.Z _ _ _))) rfl ?_
              exact ⟨_, _, _, _, _, _, _, rfl, (HRf.out.done _ _ _).1.1, (HRf.out.done _ _ _).1.2, (HRf.out.done _ _ _).2, Lib.hid (HF.out.2 (by first | exact rfl | trivial))⟩
            · go_wp2
              refine bodyPost_ret (results_c1 rfl _ _ ⟨w.heap.size, 0, none⟩ _ rfl (run_loadPth (pth_full HRe.out.Z _ _ _))) rfl ?_
              exact ⟨_, _, _, _, _, _, _, rfl, (HRe.out.done _ _ _).1.1, (HRe.out.done _ _ _).1.2, (HRe.out.done _ _ _).2, Lib.hid (HF.out.1 (by first | exact rfl | trivial))⟩
          · cases bad
            · go_wp2_with fail
              refine (sTk8 1 HTS.out HR.out.P).mono ?_
              rintro e w1 ⟨x, i1, b1, rfl, HW, hP, hG⟩
              have HR1 := Lib.hid (HR.out.step hP hG)
              obtain ⟨r3, HR3, HSPR⟩ : ∃ r3 : Option (List Tst × Nat), Hid ((b1 = false ∧ Tsr T i1 [] r3) ∨ (b1 = true ∧ r3 = none)) ∧ Hid (Spr T i (r3.map fun q => (⟨x, q.1⟩, q.2))) := by
                obtain ⟨r3, h1, h2⟩ := nameStep7 HW.out.1 HW.out.2.1
                exact ⟨r3, Lib.hid h1, Lib.hid h2⟩
              have HI0 := Lib.hid (i7_start x HR1.out)
              clear hP hG c2
              go_wp2
              go_loopw [] (fun wi => ∃ (j : Nat) (bd : Bool) (tv : Value) (L : List Tst), Hid (I7 w B b A n cap T j bd true u sv st S w1.heap.size x tv L wi) ∧ Hid (((bd = false ∧ Tsr T j L r3) ∨ (bd = true ∧ r3 = none)) ∧ (L.length ≤ j ∧ ∀ t ∈ L, TstSz t) ∧ i1 ≤ j)) (fun wi => n - (intOf ((wi.cell? ⟨b, 1, none⟩).getD undef)).toNat)
              case atStart => exact ⟨i1, b1, _, [], HI0, Lib.hid ⟨HR3.out, ⟨Nat.zero_le _, fun t h => by cases h⟩, Nat.le_refl _⟩⟩
              case round =>
                clear HI0
                obtain ⟨j, bd, tv, L, HI, HT⟩ := hrel
                have HMEAS2 : Hid (intOf ((wr.cell? ⟨b, 1, none⟩).getD undef) = j) := Lib.hid (by rw [HI.out.R.P.c1]; rfl)
                go_wp2_with fail
                refine (sEat8 ⟨#[91]⟩ eq2 HI.out.R.P).mono ?_
                rintro e w2 ⟨g, j1, rfl, HG1, hP, hG⟩
                have HI1 := Lib.hid (HI.out.step hP hG)
                have HTE := Lib.hid (tests_end HT.out.1 HG1.out.1)
                clear hP hG
                obtain ⟨At, m, ct, htv⟩ : ∃ A n c, tv = .slice A n c := by obtain ⟨A, c, hv, _⟩ := RowR.hasX HI1.out.ts; exact ⟨A, _, c, hv⟩
                subst htv
                have HNL : Hid (m = L.length) := Lib.hid (by obtain ⟨A9, c9, hv9, _⟩ := RowR.hasX HI1.out.ts; injection hv9)
                have HLT : Hid (m + 1 ≤ 549755813888) := Lib.hid (by rw [HNL.out]; have := HT.out.2.1.1; have := HI.out.R.P.le; omega)
                cases g
                · have HEX := Lib.hid (HTE.out.2 rfl)
                  obtain rfl : j1 = j := HG1.out.2
                  obtain ⟨As, ms, cs, hsv⟩ : ∃ A n c, sv = .slice A n c := by obtain ⟨A, c, hv, _⟩ := (OwnS.has HI1.out.R.O).at; exact ⟨A, _, c, hv⟩
                  subst hsv
                  have HMS : Hid (ms = st.length) := Lib.hid (by obtain ⟨A, c, hv, _⟩ := (OwnS.has HI1.out.R.O).at; injection hv)
                  have HSTL : Hid (ms + 1 ≤ 549755813888) := Lib.hid (by rw [HMS.out]; have := (m7_sz HM.out HR.out.P.le hnb).2; omega)
                  obtain ⟨⟨z0, z1⟩, u0, u1⟩ := two_fro HI1.out.X
                  obtain ⟨⟨x0, x1, x2⟩, g0, g1, g2⟩ := three_f HI1.out.R.X
                  have hb8 := below_al (Below.refl w2.heap.size w2) (.cells #[.string x, .slice At m ct] 50)
                  have HI8 := Lib.hid (HI1.out.below hb8)
                  have hSlt : ∀ q, S q → q < w1.heap.size := HI1.out.Slt
                  have hNlt : ∀ q, (Value.slice At m ct).ownBlock = some q → w1.heap.size + 1 ≤ q := fun q h => (RowR.lt HI8.out.ts h).1
                  obtain ⟨R, hR, hRl, hgrow⟩ := OwL.grow HI8.out.R.O
                  have HGROW := Lib.hid (fun (w' : World) (v' : Value) => hgrow (w' := w') (v' := v') (r := ⟨x, .slice At m ct⟩) (t := lf ⟨x, L⟩) (Sr := fun q => (Value.slice At m ct).ownBlock = some q) ⟨_, fun _ => False, ⟨⟨rfl, RowR.mono HI8.out.ts (B' := w.heap.size + 2) (by have := HI1.out.lo; omega)⟩, fun q => Iff.rfl⟩, owL_nil _ _ _ _, fun q _ h => h, fun q => by simp⟩ (fun q h1 h2 => by have := hSlt q h1; have := hNlt q h2; omega))
                  have HRR := Lib.hid hR
                  have hRl' : ms = R.length := by rw [hRl, List.length_map]; exact HMS.out
                  have HRL := Lib.hid hRl'
                  have hSlt2 : ∀ q, (Value.slice As ms cs).ownBlock = some q → q < w2.heap.size := fun q hq => by
                    have h1 := (RowR.lt hR hq).1
                    obtain ⟨g, cap', e, _, h⟩ := (OwL.form HI1.out.R.O).resolve_left (fun h => by rw [h.1] at hq; cases hq)
                    rw [e] at hq; cases hq; exact h
                  have HBASE : Hid (w.heap.size + 2 ≤ w2.heap.size) := Lib.hid HI1.out.R.lt
                  have hs12 : w1.heap.size < w2.heap.size := HI1.out.lt
                  have hs02 : w.heap.size + 1 < w2.heap.size := HI1.out.R.lt
                  have HR2w : Hid (RowT7 (w.heap.size + 2) w2 (.slice As ms cs) R) := Lib.hid (rowR_frame hR fun q hq => (Below.heap_alloc w2 (.cells #[.string x, .slice At m ct] 50) _ (by have := (RowR.lt hR hq).2; have := hSlt2 q hq; omega)).symm)
                  clear hb8 hgrow hR hRl hRl' hSlt hNlt hSlt2
                  go_wp2_with (at_builtin; refine wpList_stR_append rfl _ _ rfl (w.heap.size + 2) ms (.slice As ms cs) R (by rfl) HR2w.out HRL.out ⟨x, .slice At m ct⟩ rfl w2.heap.size (by rfl) rfl HSTL.out HBASE.out (ms + 1) rfl ?_; intro g' c' w8 hrow8 hg8 hp8; have HO8 : Hid (∃ S', OwnS (w.heap.size + 2) w8 (.slice (some ⟨g', 0, none⟩) (ms + 1) c') (st ++ [⟨x, L⟩]) S') := Lib.hid ⟨_, by have h := HGROW.out w8 (.slice (some ⟨g', 0, none⟩) (ms + 1) c') hrow8 hg8 (hp8.elim (fun e => .inl e) (fun e => .inr ⟨g', rfl, by rw [e]; exact Nat.le_refl _⟩)); rw [lf_snoc] at h; exact h⟩; obtain ⟨S', hO8⟩ := HO8.out; have HS8 := Lib.hid (HI8.out.R.snoc hg8 (fun j e => (RowR.lt HRR.out e).1) hO8); clear hO8 hp8 hrow8 hg8 x0 x1 x2 g0 g1 g2; obtain ⟨⟨x0, x1, x2⟩, g0, g1, g2⟩ := three_f HS8.out.1)
                  have HSZ : Hid (StpSz ⟨x, L⟩) := Lib.hid ⟨HW.out.2.2, by have := HT.out.2.1.1; have := HI1.out.R.P.le; show L.length ≤ _; omega, HT.out.2.1.2⟩
                  have HR9 := Lib.hid HS8.out.2
                  go_wp2_with fail
                  refine (sEat8 ⟨#[47]⟩ eq1 HR9.out.P).mono ?_
                  rintro e w9 ⟨g, j9, rfl, HG9, hP, hG⟩
                  have HRz := Lib.hid (HR9.out.step hP hG)
                  have HNX := Lib.hid (m7_next HM.out HW.out.1 HR3.out HSPR.out HEX.out HT.out.2.2 HG9.out HSZ.out)
                  clear hP hG
                  go_wp2
                  go_roundw
                  case rel => exact ⟨j9, bd, g, _, _, _, rfl, HRz, Lib.hid HNX.out.1⟩
                  case measure =>
                    rw [HMEAS.out, HRz.out.P.c1]
                    have h1 := HNX.out.2
                    have h2 := HRz.out.P.le
                    show n - ((j9 : Nat) : Int).toNat + moreN (.bool g) < n - ((i : Nat) : Int).toNat + moreN (.bool true)
                    cases g
                    · show _ + 0 < _ + 1; omega
                    · have := h1.2 rfl; show _ + 1 < _ + 1; omega
                · obtain ⟨rfl, hm0, hts0⟩ := HTE.out.1 rfl
                  have HM0 := Lib.hid hm0
                  have HT0 := Lib.hid hts0
                  obtain rfl : j1 = j + 1 := HG1.out.2
                  clear hm0 hts0
                  go_wp2_with fail
                  refine (sTk8 1 HTS.out HI1.out.R.P).mono ?_
                  rintro e w3 ⟨tx, a1, d1, rfl, HW1, hP, hG⟩
                  have HI2 := Lib.hid (HI1.out.step hP hG)
                  have HI3 := Lib.hid (HI2.out.below (below_al (Below.refl w3.heap.size w3) (.cells #[.string tx, .string ⟨#[]⟩] 52)))
                  have HB3 : Hid ((w3.alloc (.cells #[.string tx, .string ⟨#[]⟩] 52)).heap[w3.heap.size]? = some (.cells #[.string tx, .string ⟨#[]⟩] 52 (0, 0))) := Lib.hid (heap_alloc_new w3 _)
                  have HSB : Hid (w1.heap.size < w3.heap.size ∧ (Value.slice At m ct).ownBlock ≠ some w3.heap.size ∧ b < w3.heap.size) := Lib.hid ⟨HI2.out.lt, fun e => by have := (RowR.lt HI2.out.ts e).2; omega, by have := HI2.out.lt; have := HI2.out.lo; have := HI2.out.R.bl; omega⟩
                  clear hP hG HI1 HI
                  go_wp2_with fail
                  refine (sWt8 ⟨#[61]⟩ eq4 HI3.out.R.P).mono ?_
                  rintro e w4 ⟨rfl, a2, d2, HW2, hP, hG⟩
                  have HI4 := Lib.hid (HI3.out.step hP hG)
                  have HB4 := Lib.hid (grown_at hG HB3.out (by have := HSB.out; omega))
                  clear hP hG HI3 HB3
                  go_wp2_with fail
                  refine (sTk8 3 HTS.out HI4.out.R.P).mono ?_
                  rintro e w5 ⟨ty, a3, d3, rfl, HW3, hP, hG⟩
                  have HI5 := Lib.hid (HI4.out.step hP hG)
                  have HB5 := Lib.hid (grown_at hG HB4.out (by have := HSB.out; omega))
                  obtain ⟨⟨z0, z1⟩, u0, u1⟩ := two_fro HB5.out
                  have HI6 := Lib.hid (HI5.out.far (grownBy_set w5 w3.heap.size 1 (.string ty)) HSB.out.1 HSB.out.2.1)
                  have HB6 : Hid ((w5.setCell ⟨w3.heap.size, 1, none⟩ (.string ty)).heap[w3.heap.size]? = some (.cells #[.string tx, .string ty] 52 (0, 0))) := Lib.hid (by rw [heap_setCell_same w5 _ 1 _ _ _ HB5.out]; rfl)
                  clear hP hG HI4 HB4
                  go_wp2_with fail
                  refine (sWt8 ⟨#[93]⟩ eq3 HI6.out.R.P).mono ?_
                  rintro e w7 ⟨rfl, a4, d4, HW4, hP, hG⟩
                  have HI7 := Lib.hid (HI6.out.step hP hG)
                  have HB7 := Lib.hid (grown_at hG HB6.out (by have := HSB.out; omega))
                  have HST := Lib.hid (test_step HM0.out HW1.out.1 HW1.out.2.1 HW2.out HW3.out.1 HW3.out.2.1 HW4.out HT0.out)
                  have HTZ : Hid (TstSz ⟨tx, ty⟩) := Lib.hid ⟨HW1.out.2.2, HW3.out.2.2⟩
                  have HAI : Hid (j + 1 ≤ a4) := Lib.hid (by have := HW1.out.1.le; have := HW2.out.le; have := HW3.out.1.le; have := HW4.out.le; omega)
                  clear hP hG HI5 HB5 HI6 HB6 z0 z1 u0 u1
                  obtain ⟨⟨z0, z1⟩, u0, u1⟩ := two_fro HI7.out.X
                  obtain ⟨⟨q0, q1⟩, -⟩ := two_fro HB7.out
                  have hs17 : w1.heap.size < w7.heap.size := HI7.out.lt
                  have HBASE : Hid (w1.heap.size + 1 ≤ w7.heap.size) := Lib.hid hs17
                  have hb8 := below_al (Below.refl w7.heap.size w7) (.cells #[.string tx, .string ty] 52)
                  have HI8 := Lib.hid (HI7.out.below hb8)
                  clear hb8
                  go_wp2_with (at_builtin; refine wpList_tst_append rfl _ _ rfl (w1.heap.size + 1) m (.slice At m ct) L (by rfl) HI7.out.ts HNL.out ⟨tx, ty⟩ w7.heap.size (by rfl) rfl HLT.out HBASE.out (m + 1) rfl ?_; intro g' c' w8 hrow8 hg8; have HS8 := Lib.hid (HI8.out.snoc hg8 (fun j e => (RowR.lt HI8.out.ts e).1) hrow8); clear hrow8 hg8 z0 z1 u0 u1; obtain ⟨⟨z0, z1⟩, u0, u1⟩ := two_fro HS8.out.1)
                  go_roundw
                  case rel =>
                      refine ⟨a4, d4, _, L ++ [⟨tx, ty⟩], Lib.hid HS8.out.2, Lib.hid ⟨HST.out, ⟨by rw [List.length_append]; have := HT.out.2.1.1; have := HAI.out; simp; omega, fun t h => ?_⟩, by have := HT.out.2.2; have := HAI.out; omega⟩⟩
                      rcases List.mem_append.1 h with h | h
                      · exact HT.out.2.1.2 t h
                      · rw [List.mem_singleton.1 h]; exact HTZ.out
                  case measure => rw [HMEAS2.out, HS8.out.2.R.P.c1]; have := HAI.out; have := HS8.out.2.R.P.le; show n - (((a4 : Nat) : Int)).toNat < n - ((j : Nat) : Int).toNat; omega
            · have HSZ := Lib.hid (m7_sz HM.out HR.out.P.le hnb)
              obtain ⟨As, ms, cs, hsv⟩ : ∃ A n c, sv = .slice A n c := by obtain ⟨A, c, hv, _⟩ := (OwnS.has HR.out.O).at; exact ⟨A, _, c, hv⟩
              subst hsv
              obtain ⟨⟨x0, x1, x2⟩, g0, g1, g2⟩ := three_f HR.out.X
              have HF := Lib.hid (fin7_ok HM.out (by simp) HRES.out)
              have HIP := Lib.hid (sIsPth_any ⟨true, (u : Int), .slice As ms cs⟩ ⟨true, (u : Int), st⟩ wr ⟨rfl, rfl, OwnS.has HR.out.O⟩ HSZ.out.1)
              generalize dB (PthOk ⟨true, (u : Int), st⟩) = ok at HF HIP
              go_wp2_with fail
              refine HIP.out.mono ?_
              rintro e we ⟨rfl, hb⟩
              have HRe := Lib.hid (HR.out.below hb)
              clear hb x0 x1 x2 g0 g1 g2
              obtain ⟨⟨x0, x1, x2⟩, g0, g1, g2⟩ := three_f HRe.out.X
              obtain ⟨⟨y0, y1, y2⟩, k0, k1, k2⟩ := three_f HRe.out.Z
              have hl9 := HRe.out.lt
              cases ok
              · have c2 := HRe.out.P.c2
                have f2 := HRe.out.P.f2
                have HRf := Lib.hid (HRe.out.setBad true)
                clear x0 x1 x2 g0 g1 g2 y0 y1 y2 k0 k1 k2
                obtain ⟨⟨x0, x1, x2⟩, g0, g1, g2⟩ := three_f HRf.out.X
                obtain ⟨⟨y0, y1, y2⟩, k0, k1, k2⟩ := three_f HRf.out.Z
                go_wp2
                refine bodyPost_ret (results_c1 rfl _ _ ⟨w.heap.size, 0, none⟩ _ rfl (run_loadPth (pth_full HRf.out.Z _ _ _))) rfl ?_
                exact ⟨_, _, _, _, _, _, _, rfl, (HRf.out.done _ _ _).1.1, (HRf.out.done _ _ _).1.2, (HRf.out.done _ _ _).2, Lib.hid (HF.out.2 (by first | exact rfl | trivial))⟩
              · go_wp2
                refine bodyPost_ret (results_c1 rfl _ _ ⟨w.heap.size, 0, none⟩ _ rfl (run_loadPth (pth_full HRe.out.Z _ _ _))) rfl ?_
                exact ⟨_, _, _, _, _, _, _, rfl, (HRe.out.done _ _ _).1.1, (HRe.out.done _ _ _).1.2, (HRe.out.done _ _ _).2, Lib.hid (HF.out.1 (by first | exact rfl | trivial))⟩
end Go.Proofs.YtdfapkceanicoaaDoor
