/- CHAPTER 9, impl: walk's add: a list's nodes are put on the stack, the first on top. -/
import Derived.Test.YtdkpleghpnflhaaWkS
import Derived.Test.YtdkpleghpnflhaaWkR
set_option linter.unusedVariables false
set_option linter.unusedSimpArgs false
namespace Go.Proofs.Ytdkpleghpnflhaa
open Go.RowKit Go.Shelf
attribute [local go_sem] Oper.semAt_some
set_option maxRecDepth 100000

/-- the cells of a pointer -/
abbrev encA (a : Addr) : List Value := [.pointer (some a)]
theorem encA_len (a : Addr) : (encA a).length = 1 := rfl
theorem TurnsAt.then {S T : Nat → Prop} {A B C : World} (h : TurnsAt S A B) (k : TurnsAt T B C) (hs : ∀ b, T b → b < A.heap.size → S b) : TurnsAt S A C :=
  ⟨k.os.trans h.os, k.tape.trans h.tape, k.output.trans h.output, Nat.le_trans h.size k.size, fun b hb hn => (k.block b (Nat.lt_of_lt_of_le hb h.size) (fun ht => hn (hs b ht hb))).trans (h.block b hb hn)⟩
set_option maxHeartbeats 1000000 in
theorem backS_in (F : Fence) (n : Nat) (hF : F.fn 45) (hro : F.round = none) (a : Option Addr) (len cap : Nat) (w : World) :
    CallsIn F n Try.prog 45 #[.slice a len cap] w fun e w' => e = .returned (.func (.func 55) #[] #[.pointer (some ⟨w.heap.size, 0, none⟩)]) ∧ w' = w.alloc (.cells #[.slice a len cap] 32) := by
  refine callsIn_of_wp Try.func45 rfl hF ?_ hro
  simp only [Try.ntmps45, List.size_toArray, List.length_cons, List.length_nil, Nat.reduceAdd, Nat.reduceSub, Array.replicate_succ, Array.replicate_zero, List.push_toArray, List.append_toArray, List.nil_append, List.cons_append]
  gi_wp2
  go_ret
  exact ⟨rfl, rfl⟩
abbrev tRow : TypeId := 67
/-- a row of pointers that the call owns -/
abbrev RowA (B : Nat) (w : World) (v : Value) (l : List Addr) : Prop := RowR encA 1 67 B w v l
/-- the variable 'ahead' -/
abbrev Ahead (w : World) (b : Nat) (v : Value) : Prop := Boxed w b 94 v
abbrev tMapP : TypeId := 95
theorem pkey9 : PKey Try.prog 95 67 59 4 := by
  refine ⟨by kernel_rfl, by kernel_rfl, ?_, fun w => by rfl⟩
  have h : (Try.prog.info? 59).map (·.size) = some 19 := by kernel_rfl
  cases hj : Try.prog.info? 59 with
  | none => rw [hj] at h; cases h
  | some j => exact ⟨j, rfl, by rw [hj] at h; simp at h; omega⟩
theorem yields_lookup {P : Program} {S : World → Prop} {a : Act} {o : Oper} {t : TypeId} {m x : Operand} {vm vx v : Value} (ho : o.op = .lookup t m x false) (hm : a.eval m = vm) (hx : a.eval x = vx)
    (h : ∀ w, S w → (Instr.lookup t vm vx false).run P w = .ok v w) : ∀ w, S w → (execOp a.eval o).run P w = .ok (.value v) w := fun w hw => by
  simp [execOp, ho, hm, hx, h w hw, Result.andThen]
theorem infoAdr : (Try.prog.info? 67).map (fun i => (i.zero, i.size, i.bytes)) = some (some (.pointer none), 1, 8) := by kernel_rfl
/-- 'append(own, p)' at a step of a region that draws its order -/
theorem step_adr_append {w : World} {ops : Array Oper} {o : Oper} {a : Act} {K : Act → World → Prop} {Q : Exit → Act → World → Prop} {E : Prop} (hgd : o.guard = none) (s x : Operand)
    (ho : o.op = .call { callee := .builtin .append, args := #[s, x], argTypes := #[94, 94] })
    (B : Nat) (L : List Addr) (v : Value) (hs : a.eval s = v) (hrow : RowA B w v L)
    (y : Addr) (ad : Addr) (c' : Nat) (hx : a.eval x = .slice (some ad) 1 c') (hnews : w.cell? ad = some (.pointer (some y)))
    (hlen : L.length + 1 ≤ 1099511627776) (hbase : B ≤ w.heap.size) (q : Nat) (hq : q = L.length + 1)
    (h : ∀ g' c'' w', RowA B w' (.slice (some ⟨g', 0, none⟩) q c'') (L ++ [y]) → w.grownBy w' v.ownBlock → (some g' = v.ownBlock ∨ g' = w.heap.size) → K (a.put o.dst (.slice (some ⟨g', 0, none⟩) q c'')) w') :
    if Region.wanted o (yielded ops a.tmps) = true then Oper.wp Try.prog o a w K Q else E := by
  have hw : Region.wanted o (yielded ops a.tmps) = true := by simp [Region.wanted, hgd]
  rw [if_pos hw]
  subst hq
  obtain ⟨i0, hi, hz0, hz1, hz2⟩ := info_parts infoAdr
  obtain ⟨v', w', hr, h2, h3, h4, h5⟩ := run_append_own_at (P := Try.prog) w B 94 o.type 67 i0 (.pointer none) 1 8 Try.underlying94 hi hz0 hz1 hz2 rfl (by decide) v L.length (L.flatMap encA) hrow ad 1 c' [.pointer (some y)] rfl (fun j u hj => by
      cases j with
      | zero => simp at hj; subst hj; exact hnews
      | succ j => simp at hj) (fun u hu => by rw [List.mem_singleton.1 hu]; rfl) (by unfold maxLen; omega) (by omega) hbase
  unfold Oper.wp execOp
  simp only [ho, resolve, invoke, builtin, Sem.run_bind, Sem.run_pure, Result.andThen_ok, List.map_toArray, List.map_cons, List.map_nil, hs, hx, hr]
  rcases h2.2 with ⟨_, h6⟩ | ⟨g', cap', cur, h6, _⟩
  · omega
  · subst h6
    refine h g' cap' w' ?_ h3 ?_
    · unfold RowA RowR
      rw [List.length_append, List.flatMap_append, List.flatMap_singleton]
      exact h2
    · rcases h5 with h5 | h5
      · exact .inl h5
      · right; simpa [Value.ownBlock] using h5
set_option maxHeartbeats 4000000 in
theorem add_in (F : Fence) (n : Nat) (h50 : F.fn 44) (h51 : F.fn 45) (h71 : F.fn 55) (hro : F.round = none) (hn : 3 ≤ n)
    (w : World) (b4 b5 bm n₀ B len cap : Nat) (A : Option Addr) (R : Nat → ScR) (v : Value) (cur opn : List Addr) (ks : List Addr)
    (h4 : Ahead w b4 v) (h5 : Boxed w b5 95 (.map (some bm))) (hs : PSet w bm opn) (hrow : RowA B w v cur) (hB : B ≤ w.heap.size) (hnB : n₀ ≤ B) (hb4 : B ≤ b4) 
    (hlen : ks.length = len) (hat : ∀ j (hj : j < ks.length), ∃ a, A = some a ∧ a.block < n₀ ∧ ks[j] = a.add (j * 19) ∧ Nl w ks[j] (R j) ∧ Blk w ks[j]) (hob : ∀ x ∈ opn, x.block < n₀ ∧ Blk w x) (hnot : ∀ x ∈ ks, x ∉ opn)
    (hsz : cur.length + len ≤ 1099511627776) :
    CallsIn F n Try.prog 44 #[.slice A len cap, .pointer (some ⟨b5, 0, none⟩), .pointer (some ⟨b4, 0, none⟩)] w fun e w' => e = .returned (.tuple #[]) ∧
      TurnsAt (fun b => b = b4 ∨ v.ownBlock = some b) w w' ∧ ∃ v', Ahead w' b4 v' ∧ RowA B w' v' (cur ++ ks.reverse) ∧ (v'.ownBlock = v.ownBlock ∨ ∃ g, v'.ownBlock = some g ∧ w.heap.size ≤ g) := by
  refine callsIn_of_wp_marks Try.func44 rfl h50 ?_ hro
  simp only [Try.ntmps44, List.size_toArray, List.length_cons, List.length_nil, Nat.reduceAdd, Nat.reduceSub, Array.replicate_succ, Array.replicate_zero, List.push_toArray, List.append_toArray, List.nil_append, List.cons_append]
  gi_wp2_with fail
  refine ⟨fun _ => by omega, (backS_in F (n - 1) h51 hro _ _ _ _).mono ?_⟩
  rintro e w' ⟨rfl, rfl⟩
  gi_wp2
  obtain ⟨W0, hW0⟩ : ∃ W0, W0 = (w.alloc (.cells #[.slice A len cap] 32)).alloc (.cells #[.slice A len cap] 32) := ⟨_, rfl⟩
  have hz0 : W0.heap.size = w.heap.size + 2 := by rw [hW0]; simp
  have hb0 : Below w.heap.size w W0 := by rw [hW0]; exact below_step (below_al (Below.refl _ w) _) (below_al (Below.refl _ _) _)
  have hbox : Boxed W0 w.heap.size 32 (.slice A len cap) := by rw [hW0]; exact (Boxed.new w _ _).alloc _
  have hbs : Boxed W0 (w.heap.size + 1) 32 (.slice A len cap) := by
    have := Boxed.new (w.alloc (.cells #[.slice A len cap] 32)) 32 (.slice A len cap)
    rw [World.size_alloc] at this
    rw [hW0]; exact this
  rw [← hW0]
  clear hW0
  refine wpIn_rangeFunc_ownM hro (by omega) (gf := 55) (lb := #[.pointer (some ⟨w.heap.size + 1, 0, none⟩)]) rfl h71 (enters_of Try.func55 (by kernel_rfl) rfl)
    (backS_seq F (n - 1) h71 hro (by omega) (w.heap.size + 1) n₀ len cap A R ?len W0 (by omega) hbs ?cells) ?lt (Below.refl _ _) ?sizes
    (fun i M W => ∃ v', Ahead W b4 v' ∧ RowA B W v' (cur ++ ks.reverse.take i) ∧ (v'.ownBlock = v.ownBlock ∨ ∃ g, v'.ownBlock = some g ∧ w.heap.size + 2 ≤ g) ∧ (∀ b, M b ↔ b = b4 ∨ v'.ownBlock = some b) ∧ TurnsAt (fun b => b = b4 ∨ v.ownBlock = some b) W0 W) (fun _ _ _ _ => False) ?stab (fun _ _ _ _ _ _ h _ _ _ => h)
    (fun b => b = b4 ∨ v.ownBlock = some b) ?low ?start
    (fun i => { tmps := #[.slice A len cap, .pointer (some ⟨b5, 0, none⟩), .pointer (some ⟨b4, 0, none⟩), .pointer (some ⟨w.heap.size, 0, none⟩), .int .i64 ((len - (i + 1) : Nat) : Int), .slice A len cap, .func (.func 55) #[] #[.pointer (some ⟨w.heap.size + 1, 0, none⟩)], .int .i64 ((len - (i + 1) : Nat) : Int), (R (len - (i + 1))).val, undef, undef, undef, undef, undef, undef, undef, undef, undef, undef, undef, undef], defers := [] }) ?assign ?body ?done ?stop
  case stop => intro D c i M W _ _ h _; exact h.elim
  case sizes =>
    intro x hx
    obtain ⟨j, _, rfl⟩ := List.mem_map.1 hx
    rfl
  case lt => rintro b (h | h) <;> omega
  case body =>
    rintro l i hi M W ⟨v', h4', hrow', hv', hM, ht⟩ hMlt hsz
    rw [downS_length] at hi
    have hjl : len - (i + 1) < ks.length := by omega
    obtain ⟨a, rfl, hab, hka, hnl, hbk⟩ := hat (len - (i + 1)) hjl
    have hl4 := h4.lt
    have hl5 := h5.lt
    have hne45 : b5 ≠ b4 := fun e => by rw [e] at h5; have := h4.symm.trans h5; simp at this
    have hown : ∀ b, v.ownBlock = some b → B ≤ b ∧ b < w.heap.size := fun b h => RowR.lt hrow h
    have same : ∀ b, b < w.heap.size → b ≠ b4 → v.ownBlock ≠ some b → W.heap[b]? = w.heap[b]? := fun b h1 h2 h3 => (ht.block b (by omega) (fun h => h.elim h2 h3)).trans (hb0.block b h1)
    have low : ∀ b, b < n₀ → W.heap[b]? = w.heap[b]? := fun b h => same b (by omega) (by omega) (fun e => by have := hown b e; omega)
    have e5 : W.cell? ⟨b5, 0, none⟩ = some (.map (some bm)) := Boxed.cell ((same b5 hl5 hne45 (Boxed.not_row h5 (by decide) hrow).symm).trans h5)
    have hb3 : Boxed W w.heap.size 32 (.slice (some a) len cap) := (ht.block _ (by omega) (fun h => by
      rcases h with h | h
      · omega
      · have := hown _ h; omega)).trans hbox
    have e3 : W.cell? ⟨w.heap.size, 0, none⟩ = some (.slice (some a) len cap) := hb3.cell
    have e4 := h4'.cell
    have f4 := h4'.frozen
    have hps : PSet W bm opn := by
      obtain ⟨es, ck, h1, h2, h3⟩ := hs
      exact ⟨es, ck, (same bm (Array.getElem?_eq_some_iff.1 h1).1 (fun e => by rw [e] at h1; have := h4.symm.trans h1; simp at this) (fun e => by
        rcases hrow.2 with ⟨rfl, _⟩ | ⟨g, cp, cur', rfl, _, hgb, _⟩
        · simp [Value.ownBlock] at e
        · obtain rfl : g = bm := by simpa [Value.ownBlock] using e
          have := hgb.symm.trans h1; simp at this)).trans h1, h2, h3⟩
    have blk : ∀ x : Addr, x.block < n₀ → Blk w x → Blk W x := fun x h1 ⟨cs, t, h2⟩ => ⟨cs, t, (low _ h1).trans h2⟩
    have hbdp : ∀ x, Blk W x → Blk W.drew x := fun x h => h
    have hlk := run_lookup_ptr (w := W.drew) pkey9 hps (blk _ (by rw [hka, addr_blk]; exact hab) hbk) (fun x hx => blk x (hob x hx).1 (hob x hx).2)
    rw [decide_eq_false (hnot _ (List.getElem_mem hjl)), hka] at hlk
    have HM := Lib.hid hM
    have HT := Lib.hid ht
    have HROW := Lib.hid hrow'
    have HV := Lib.hid hv'
    clear hM ht hrow' hv' hps blk low same hown hnl hbk hbs hbox hat
    have hbd : Below W.heap.size W W.drew := (Below.refl _ W).drew
    have hbdd : Below W.heap.size W W.drew.drew := hbd.drew
    have hlen9 : (cur ++ ks.reverse.take i).length + 1 ≤ 1099511627776 := by rw [List.length_append, List.length_take, List.length_reverse]; omega
    have HKA := Lib.hid ((List.getElem?_eq_getElem hjl).trans (congrArg some hka))
    obtain ⟨q, hq⟩ : ∃ q, q = (cur ++ ks.reverse.take i).length + 1 := ⟨_, rfl⟩
    have HNEXT : Hid (∀ g' c4 w4, RowA B w4 (.slice (some ⟨g', 0, none⟩) q c4) ((cur ++ ks.reverse.take i) ++ [a.add ((len - (i + 1)) * 19)]) → (W.drew.drew.alloc (.cells #[.pointer (some (a.add ((len - (i + 1)) * 19)))] 67)).grownBy w4 v'.ownBlock → (some g' = v'.ownBlock ∨ g' = (W.drew.drew.alloc (.cells #[.pointer (some (a.add ((len - (i + 1)) * 19)))] 67)).heap.size) →
        w4.cell? ⟨b4, 0, none⟩ = some v' ∧ w4.frozen? ⟨b4, 0, none⟩ = false ∧ w4.cell? ⟨w.heap.size, 0, none⟩ = some (.slice (some a) len cap) ∧
        ∃ M', StepM M M' W (w4.setCell ⟨b4, 0, none⟩ (.slice (some ⟨g', 0, none⟩) q c4)) ∧ ∃ v', Ahead (w4.setCell ⟨b4, 0, none⟩ (.slice (some ⟨g', 0, none⟩) q c4)) b4 v' ∧ RowA B (w4.setCell ⟨b4, 0, none⟩ (.slice (some ⟨g', 0, none⟩) q c4)) v' (cur ++ ks.reverse.take (i + 1)) ∧ (v'.ownBlock = v.ownBlock ∨ ∃ g, v'.ownBlock = some g ∧ w.heap.size + 2 ≤ g) ∧ (∀ b, M' b ↔ b = b4 ∨ v'.ownBlock = some b) ∧ TurnsAt (fun b => b = b4 ∨ v.ownBlock = some b) W0 (w4.setCell ⟨b4, 0, none⟩ (.slice (some ⟨g', 0, none⟩) q c4))) := Lib.hid (by
      intro g' c4 w4 hr4 hg4 hp4
      have hA : Ahead (W.drew.drew.alloc (.cells #[.pointer (some (a.add ((len - (i + 1)) * 19)))] 67)) b4 v' := Boxed.alloc (W := W.drew.drew) h4' _
      have hA4 : Ahead w4 b4 v' := hA.kept hg4 (Boxed.not_row h4' (by decide) HROW.out)
      have hC4 : Boxed w4 w.heap.size 32 (.slice (some a) len cap) := (Boxed.alloc (W := W.drew.drew) hb3 _).kept hg4 (Boxed.not_row hb3 (by decide) HROW.out)
      have hne : some b4 ≠ (Value.slice (some ⟨g', 0, none⟩) q c4).ownBlock := Boxed.not_row hA4 (by decide) hr4
      have hne' : ¬ b4 = g' := fun e => hne (by simp [Value.ownBlock, e])
      have hsz4 : w4.heap.size ≤ (w4.setCell ⟨b4, 0, none⟩ (.slice (some ⟨g', 0, none⟩) q c4)).heap.size := (grownBy_setCell' w4 b4 _).size
      have hst : TurnsAt M W (w4.setCell ⟨b4, 0, none⟩ (.slice (some ⟨g', 0, none⟩) q c4)) :=
        ((below_turns (hbdd.alloc hbdd.size _)).trans (grown_turns hg4 (fun b e => (HM.out b).2 (.inr e)))).trans (grown_turns (grownBy_setCell' w4 b4 _) (fun b e => by cases e; exact (HM.out b4).2 (.inl rfl)))
      have hge : g' < w4.heap.size := (RowR.lt hr4 (show (Value.slice (some ⟨g', 0, none⟩) q c4).ownBlock = some g' from rfl)).2
      refine ⟨hA4.cell, hA4.frozen, hC4.cell, fun b => b = b4 ∨ b = g', ⟨hst, fun b hb => ?_, fun b hb => ?_⟩, .slice (some ⟨g', 0, none⟩) q c4, hA4.set _, ?_, ?_, fun b => by simp [Value.ownBlock, eq_comm], HT.out.then hst fun b hb hlt => ?_⟩
      · rcases hb with rfl | rfl
        · exact .inl ((HM.out _).2 (.inl rfl))
        · rcases hp4 with h | h
          · exact .inl ((HM.out _).2 (.inr h.symm))
          · right; rw [h]; simp
      · rcases hb with rfl | rfl
        · exact Nat.lt_of_lt_of_le hA4.lt hsz4
        · exact Nat.lt_of_lt_of_le hge hsz4
      · have e : ks.reverse.take (i + 1) = ks.reverse.take i ++ [a.add ((len - (i + 1)) * 19)] := by
          rw [List.take_add_one, List.getElem?_reverse (by omega), show ks.length - 1 - i = len - (i + 1) by omega, HKA.out]
          rfl
        rw [e, ← List.append_assoc]
        exact ownsRow_setCell_other hr4 (a := ⟨b4, 0, none⟩) (fun e => hne e.symm) _
      · rcases hp4 with h | h
        · rcases HV.out with h2 | ⟨g, h2, h3⟩
          · left; show some g' = _; rw [h, h2]
          · right; exact ⟨g, show some g' = some g from h.trans h2, h3⟩
        · right; refine ⟨g', rfl, ?_⟩; rw [h]; simp; omega
      · rcases (HM.out b).1 hb with h | h
        · exact .inl h
        · rcases HV.out with h2 | ⟨g, h2, h3⟩
          · right; rw [← h2]; exact h
          · rw [h2] at h; cases h; omega)
    clear hka hjl
    obtain ⟨j, hj⟩ : ∃ j, j = len - (i + 1) := ⟨_, rfl⟩
    rw [← hj] at hlk HNEXT ⊢
    have hjlt : j < len := by omega
    have e5d : W.drew.cell? ⟨b5, 0, none⟩ = some (.map (some bm)) := e5
    have e3d : W.drew.cell? ⟨w.heap.size, 0, none⟩ = some (.slice (some a) len cap) := e3
    have e3dd : W.drew.drew.cell? ⟨w.heap.size, 0, none⟩ = some (.slice (some a) len cap) := e3
    have e4dd : W.drew.drew.cell? ⟨b4, 0, none⟩ = some v' := e4
    have e4a : (W.alloc (.cells #[.pointer (some (a.add (j * 19)))] 67)).cell? ⟨b4, 0, none⟩ = some v' := by rw [World.cell?_alloc_some _ _ _ (by rw [e4]; rfl)]; exact e4
    have hne43 : ¬ b4 = w.heap.size := by omega
    have HQ := Lib.hid hq
    have HRD := Lib.hid (RowR.below HROW.out hbdd)
    have HLEN := Lib.hid hlen9
    have HBW : Hid (B ≤ W.drew.drew.heap.size) := Lib.hid (by have := hbdd.size; omega)
    clear hj hi hMlt hlen9 hq
    -- <<body
    refine wpIn_block ?_
    refine wpIn_seq_k (fun K hK => ?_)
    refine wpIn_region_held (S := fun w' => w' = W.drew) (by rfl) (fun ⟨_, _, h⟩ => h) (by kernel_rfl) rfl (fun hHeld => ?_)
    refine wpAnyH_take (i := 0) (oi := { dst := some 9, op := Op.load 95 (Operand.tmp 1), type := 95, pos := _, after := #[], guard := none }) (v := .map (some bm)) rfl (by kernel_rfl) (by kernel_rfl) (by kernel_rfl) (fun _ _ _ h => h) (Or.inl ⟨by rfl, by (intro w hSw; obtain rfl := hSw; go_simp; try with_reducible rfl)⟩) (by assumption) ?_
    try simp only [Act.put, List.setIfInBounds_toArray, List.set_cons_zero, List.set_cons_succ]
    refine wpAnyH_take (i := 1) (oi := { dst := some 10, op := Op.load 32 (Operand.tmp 3), type := 32, pos := _, after := #[], guard := none }) (v := .slice (some a) len cap) rfl (by kernel_rfl) (by kernel_rfl) (by kernel_rfl) (fun _ _ _ h => h) (Or.inl ⟨by rfl, by (intro w hSw; obtain rfl := hSw; go_simp; try with_reducible rfl)⟩) (by assumption) ?_
    try simp only [Act.put, List.setIfInBounds_toArray, List.set_cons_zero, List.set_cons_succ]
    refine wpAnyH_take (i := 2) (oi := { dst := some 11, op := Op.move (Operand.tmp 4), type := 3, pos := _, after := #[], guard := none }) (v := .int .i64 (j : Int)) rfl (by kernel_rfl) (by kernel_rfl) (by kernel_rfl) (fun _ _ _ h => h) (Or.inl ⟨by rfl, by (intro w hSw; obtain rfl := hSw; go_simp; try with_reducible rfl)⟩) (by assumption) ?_
    try simp only [Act.put, List.setIfInBounds_toArray, List.set_cons_zero, List.set_cons_succ]
    refine wpAnyH_take (i := 3) (oi := { dst := some 12, op := Op.indexAddr 32 (Operand.tmp 10) (Operand.tmp 11), type := 0, pos := _, after := #[{ on := 1, ground := Ground.data }, { on := 2, ground := Ground.data }], guard := none }) (v := .pointer (some (a.add (j * 19)))) rfl (by kernel_rfl) (by kernel_rfl) (by kernel_rfl) (fun _ _ _ h => h) (Or.inl ⟨by rfl, by (intro w hSw; obtain rfl := hSw; go_simp; try with_reducible rfl)⟩) (by assumption) ?_
    try simp only [Act.put, List.setIfInBounds_toArray, List.set_cons_zero, List.set_cons_succ]
    refine wpAnyH_take (i := 4) (oi := { dst := some 13, op := Op.lookup 95 (Operand.tmp 9) (Operand.tmp 12) false, type := 4, pos := _, after := #[{ on := 0, ground := Ground.data }, { on := 3, ground := Ground.data }], guard := none }) (v := .bool false) rfl (by kernel_rfl) (by kernel_rfl) (by kernel_rfl) (fun _ _ _ h => h) (Or.inl ⟨by rfl, yields_lookup rfl rfl rfl (fun w hw => by obtain rfl := hw; exact hlk)⟩) (by assumption) ?_
    try simp only [Act.put, List.setIfInBounds_toArray, List.set_cons_zero, List.set_cons_succ]
    refine wpAnyH_take (i := 5) (oi := { dst := some 14, op := Op.unOp UnOp.not 4 (Operand.tmp 13), type := 4, pos := _, after := #[{ on := 4, ground := Ground.data }], guard := none }) (v := .bool true) rfl (by kernel_rfl) (by kernel_rfl) (by kernel_rfl) (fun _ _ _ h => h) (Or.inl ⟨by rfl, by (intro w hSw; obtain rfl := hSw; go_simp; try with_reducible rfl)⟩) (by assumption) ?_
    try simp only [Act.put, List.setIfInBounds_toArray, List.set_cons_zero, List.set_cons_succ]
    refine wpAnyH_done (by kernel_rfl) ?_ _
    refine hK _ _ ?_
    clear hK hHeld hlk K
    refine wpIn_cond_true rfl ?_
    refine wpIn_region_held (S := fun w' => w'.cell? ⟨w.heap.size, 0, none⟩ = some (.slice (some a) len cap)) (by rfl) (fun ⟨_, _, h⟩ => h) (by kernel_rfl) e3dd (fun hHeld => ?_)
    refine wpAnyH_take (i := 1) (oi := { dst := some 16, op := Op.load 32 (Operand.tmp 3), type := 32, pos := _, after := #[], guard := none }) (v := .slice (some a) len cap) rfl (by kernel_rfl) (by kernel_rfl) (by kernel_rfl) (fun _ _ _ h => h) (Or.inl ⟨by rfl, by (intro w hSw; (try dsimp only at hSw); go_simp; try with_reducible rfl)⟩) (by assumption) ?_
    try simp only [Act.put, List.setIfInBounds_toArray, List.set_cons_zero, List.set_cons_succ]
    refine wpAnyH_take (i := 2) (oi := { dst := some 17, op := Op.move (Operand.tmp 4), type := 3, pos := _, after := #[], guard := none }) (v := .int .i64 (j : Int)) rfl (by kernel_rfl) (by kernel_rfl) (by kernel_rfl) (fun _ _ _ h => h) (Or.inl ⟨by rfl, by (intro w hSw; (try dsimp only at hSw); go_simp; try with_reducible rfl)⟩) (by assumption) ?_
    try simp only [Act.put, List.setIfInBounds_toArray, List.set_cons_zero, List.set_cons_succ]
    refine wpAnyH_take (i := 3) (oi := { dst := some 18, op := Op.indexAddr 32 (Operand.tmp 16) (Operand.tmp 17), type := 0, pos := _, after := #[{ on := 1, ground := Ground.data }, { on := 2, ground := Ground.data }], guard := none }) (v := .pointer (some (a.add (j * 19)))) rfl (by kernel_rfl) (by kernel_rfl) (by kernel_rfl) (fun _ _ _ h => h) (Or.inl ⟨by rfl, by (intro w hSw; (try dsimp only at hSw); go_simp; try with_reducible rfl)⟩) (by assumption) ?_
    try simp only [Act.put, List.setIfInBounds_toArray, List.set_cons_zero, List.set_cons_succ]
    refine wpAnyH_ready (rs := [0, 4]) (by kernel_rfl) (by simp) ?_
    refine AllReadyH.cons (o := { dst := some 15, op := Op.load 94 (Operand.tmp 2), type := 94, pos := _, after := #[], guard := none }) rfl (fun K hK => ?_) (AllReadyH.cons (o := { dst := some 19, op := Op.buildSlice 94 1 #[(0, Operand.tmp 18)], type := 94, pos := _, after := #[{ on := 3, ground := Ground.data }], guard := none }) rfl (fun K hK => ?_) AllReadyH.nil)
    · skip
      go_simp
      refine hK.out _ _ (by first | assumption | go_keep) (fun hHeld2 => ?_)
      clear hK K hHeld; have hHeld := hHeld2; clear hHeld2
      try simp only [Act.put, List.setIfInBounds_toArray, List.set_cons_zero, List.set_cons_succ]
      refine wpAnyH_ready (rs := [4]) (by kernel_rfl) (by simp) ?_
      refine AllReadyH.cons (o := { dst := some 19, op := Op.buildSlice 94 1 #[(0, Operand.tmp 18)], type := 94, pos := _, after := #[{ on := 3, ground := Ground.data }], guard := none }) rfl (fun K hK => ?_) AllReadyH.nil
      go_simp
      refine hK.out _ _ (by first | assumption | go_keep) (fun hHeld2 => ?_)
      clear hK K hHeld; have hHeld := hHeld2; clear hHeld2
      try simp only [Act.put, List.setIfInBounds_toArray, List.set_cons_zero, List.set_cons_succ]
      refine wpAnyH_ready (rs := [5]) (by kernel_rfl) (by simp) ?_
      refine AllReadyH.cons (o := { dst := some 20, op := Op.call { callee := Callee.builtin Builtin.append, args := #[Operand.tmp 15, Operand.tmp 19], argTypes := #[94, 94] }, type := 94, pos := _, after := #[{ on := 0, ground := Ground.data }, { on := 4, ground := Ground.data }], guard := none }) rfl (fun K hK => ?_) AllReadyH.nil
      refine step_adr_append rfl _ _ (by rfl) B (cur ++ ks.reverse.take i) v' (by rfl) (RowR.alloc HRD.out _) (a.add (j * 19)) ⟨W.drew.drew.heap.size, 0, none⟩ 1 (by rfl) (cell_of_one (heap_alloc_new _ _)) HLEN.out (by have := HBW.out; simp; omega) q HQ.out ?_
      intro g' c4 w4 hrow4 hg4 hp4
      have HX := HNEXT.out g' c4 w4 hrow4 hg4 hp4
      obtain ⟨e4', f4', e3', hfin⟩ := HX
      have HFIN := Lib.hid hfin
      clear hfin
      refine hK.out _ _ e3' (fun hHeld2 => ?_)
      clear hK K hHeld; have hHeld := hHeld2; clear hHeld2
      try simp only [Act.put, List.setIfInBounds_toArray, List.set_cons_zero, List.set_cons_succ]
      refine wpAnyH_ready (rs := [6]) (by kernel_rfl) (by simp) ?_
      refine AllReadyH.cons (o := { dst := none, op := Op.store 94 (Operand.tmp 2) (Operand.tmp 20), type := 0, pos := _, after := #[{ on := 5, ground := Ground.data }, { on := 5, ground := Ground.chain }, { on := 0, ground := Ground.phase }, { on := 1, ground := Ground.phase }, { on := 2, ground := Ground.phase }, { on := 3, ground := Ground.phase }, { on := 4, ground := Ground.phase }, { on := 5, ground := Ground.phase }], guard := none }) rfl (fun K hK => ?_) AllReadyH.nil
      go_simp
      refine hK.out _ _ (by first | assumption | go_keep) (fun hHeld2 => ?_)
      clear hK K hHeld; have hHeld := hHeld2; clear hHeld2
      try simp only [Act.put, List.setIfInBounds_toArray, List.set_cons_zero, List.set_cons_succ]
      refine wpAnyH_done (by kernel_rfl) ?_ _
      exact HFIN.out
    · skip
      go_simp
      refine hK.out _ _ (by first | assumption | go_keep) (fun hHeld2 => ?_)
      clear hK K hHeld; have hHeld := hHeld2; clear hHeld2
      try simp only [Act.put, List.setIfInBounds_toArray, List.set_cons_zero, List.set_cons_succ]
      refine wpAnyH_ready (rs := [0]) (by kernel_rfl) (by simp) ?_
      refine AllReadyH.cons (o := { dst := some 15, op := Op.load 94 (Operand.tmp 2), type := 94, pos := _, after := #[], guard := none }) rfl (fun K hK => ?_) AllReadyH.nil
      go_simp
      refine hK.out _ _ (by first | assumption | go_keep) (fun hHeld2 => ?_)
      clear hK K hHeld; have hHeld := hHeld2; clear hHeld2
      try simp only [Act.put, List.setIfInBounds_toArray, List.set_cons_zero, List.set_cons_succ]
      refine wpAnyH_ready (rs := [5]) (by kernel_rfl) (by simp) ?_
      refine AllReadyH.cons (o := { dst := some 20, op := Op.call { callee := Callee.builtin Builtin.append, args := #[Operand.tmp 15, Operand.tmp 19], argTypes := #[94, 94] }, type := 94, pos := _, after := #[{ on := 0, ground := Ground.data }, { on := 4, ground := Ground.data }], guard := none }) rfl (fun K hK => ?_) AllReadyH.nil
      refine step_adr_append rfl _ _ (by rfl) B (cur ++ ks.reverse.take i) v' (by rfl) (RowR.alloc HRD.out _) (a.add (j * 19)) ⟨W.drew.drew.heap.size, 0, none⟩ 1 (by rfl) (cell_of_one (heap_alloc_new _ _)) HLEN.out (by have := HBW.out; simp; omega) q HQ.out ?_
      intro g' c4 w4 hrow4 hg4 hp4
      have HX := HNEXT.out g' c4 w4 hrow4 hg4 hp4
      obtain ⟨e4', f4', e3', hfin⟩ := HX
      have HFIN := Lib.hid hfin
      clear hfin
      refine hK.out _ _ e3' (fun hHeld2 => ?_)
      clear hK K hHeld; have hHeld := hHeld2; clear hHeld2
      try simp only [Act.put, List.setIfInBounds_toArray, List.set_cons_zero, List.set_cons_succ]
      refine wpAnyH_ready (rs := [6]) (by kernel_rfl) (by simp) ?_
      refine AllReadyH.cons (o := { dst := none, op := Op.store 94 (Operand.tmp 2) (Operand.tmp 20), type := 0, pos := _, after := #[{ on := 5, ground := Ground.data }, { on := 5, ground := Ground.chain }, { on := 0, ground := Ground.phase }, { on := 1, ground := Ground.phase }, { on := 2, ground := Ground.phase }, { on := 3, ground := Ground.phase }, { on := 4, ground := Ground.phase }, { on := 5, ground := Ground.phase }], guard := none }) rfl (fun K hK => ?_) AllReadyH.nil
      go_simp
      refine hK.out _ _ (by first | assumption | go_keep) (fun hHeld2 => ?_)
      clear hK K hHeld; have hHeld := hHeld2; clear hHeld2
      try simp only [Act.put, List.setIfInBounds_toArray, List.set_cons_zero, List.set_cons_succ]
      refine wpAnyH_done (by kernel_rfl) ?_ _
      exact HFIN.out
    -- >>body
  case assign =>
    intro l i hi W K hK
    rw [downS_get R len i hi]
    gi_wp2
    exact hK
  case len => omega
  case cells =>
    intro j hj
    obtain ⟨a, h1, h2, h3, h4, _⟩ := hat j (by omega)
    rw [h3] at h4
    exact ⟨a, h1, h2, h4.at (hb0.block _ (by rw [addr_blk]; omega))⟩
  case low =>
    rintro b (rfl | h)
    · have := h4.lt; exact ⟨by omega, fun h => by omega⟩
    · have := RowR.lt hrow h; exact ⟨by omega, fun h => by omega⟩
  case start => exact ⟨v, (hb0.block _ h4.lt).trans h4, by rw [List.take_zero, List.append_nil]; exact RowR.below hrow hb0, .inl rfl, fun b => Iff.rfl, TurnsAt.refl _ _⟩
  case stab =>
    rintro i M K A C ⟨v', h4', hrow', hv', hM, ht⟩ hlt ht' hK
    have keep : ∀ b, M b → C.heap[b]? = A.heap[b]? := fun b hb => ht'.block b (hlt b hb) (fun h => (hK b h).2 hb)
    exact ⟨v', (keep b4 ((hM b4).2 (.inl rfl))).trans h4', rowR_frame hrow' (fun b e => keep b ((hM b).2 (.inr e))), hv', hM, ht.then ht' (fun b h hb => by have := (hK b h).1; omega)⟩
  case done =>
    rintro D M W hD hnM ⟨v', h4', hrow', hv', hM, ht⟩ hK
    rw [downS_length, List.take_of_length_le (by simp; omega)] at hrow'
    have HF : Hid (TurnsAt (fun b => b = b4 ∨ v.ownBlock = some b) w (W.putObj D (.deferred none)) ∧ ∃ v', Ahead (W.putObj D (.deferred none)) b4 v' ∧ RowA B (W.putObj D (.deferred none)) v' (cur ++ ks.reverse) ∧ (v'.ownBlock = v.ownBlock ∨ ∃ g, v'.ownBlock = some g ∧ w.heap.size ≤ g)) := Lib.hid (by
      have hl4 := h4.lt
      refine ⟨(((below_turns hb0).then ht (fun b h _ => h)).then (turns_putObj W D _) (fun b e hb => by omega)), v', (World.putObj_heap_other (by omega)).trans h4', ownsRow_putObj hrow' _ hK rfl, ?_⟩
      rcases hv' with h | ⟨g, h1, h2⟩
      · exact .inl h
      · exact .inr ⟨g, h1, by omega⟩)
    clear h4' hrow' hv' hM ht
    gi_wp2
    refine ⟨by simp, .inl ⟨_, _, rfl, run_takeDeferred hK, ?_⟩⟩
    exact ⟨_, results_none rfl _ _ _, rfl, HF.out⟩
end Go.Proofs.Ytdkpleghpnflhaa
