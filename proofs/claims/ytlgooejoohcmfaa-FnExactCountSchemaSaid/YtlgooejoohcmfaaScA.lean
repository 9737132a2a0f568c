/- CHAPTER 9: laws.szSchema, szSchemaS. First printed by tools/gen_scA.py; changed by hand since (the number of nodes: sizeS). -/
import Derived.Test.YtlgooejoohcmfaaSc
import Derived.Test.YtlgooejoohcmfaaWkA
import Derived.Deep.MidRow
set_option linter.unusedVariables false
set_option linter.unusedSimpArgs false
namespace Go.Proofs.Ytlgooejoohcmfaa
open Go.RowKit
set_option maxRecDepth 100000

/-- a variable of the call's own that holds a node -/
def SBox (T : TypeId) (w : World) (b : Nat) (r : ScR) : Prop := w.heap[b]? = some (.cells r.enc.toArray T (0, 0))
theorem SBox.below {T : TypeId} {w w' : World} {b : Nat} {r : ScR} (h : SBox T w b r) (hb : Below w.heap.size w w') : SBox T w' b r := (hb.block b (Array.getElem?_eq_some_iff.1 h).1).trans h
theorem SBox.new (T : TypeId) (w : World) (r : ScR) : SBox T (w.alloc (.cells r.enc.toArray T)) w.heap.size r := heap_alloc_new w _
theorem SBox.tell {T : TypeId} {w : World} {b : Nat} {r : ScR} (h : SBox T w b r) : w.cell? ⟨b, 0, none⟩ = some (.int .i64 r.kind) ∧ w.cell? ⟨b, 1, none⟩ = some (.string r.name) ∧ w.cell? ⟨b, 2, none⟩ = some (.int .i64 r.tv.k) ∧ w.cell? ⟨b, 3, none⟩ = some (r.tv.vr) ∧ w.cell? ⟨b, 4, none⟩ = some (r.tv.vn) ∧ w.cell? ⟨b, 5, none⟩ = some (.string r.tv.pt) ∧ w.cell? ⟨b, 6, none⟩ = some (.string r.tv.ph) ∧ w.cell? ⟨b, 7, none⟩ = some (r.vk) ∧ w.cell? ⟨b, 8, none⟩ = some (r.vu) ∧ w.cell? ⟨b, 9, none⟩ = some (.string r.dflt) ∧ w.cell? ⟨b, 10, none⟩ = some (.bool r.given) ∧ w.cell? ⟨b, 11, none⟩ = some (.bool r.needed) ∧ w.cell? ⟨b, 12, none⟩ = some (.bool r.present) ∧ w.cell? ⟨b, 13, none⟩ = some (.bool r.fixed) ∧ w.cell? ⟨b, 14, none⟩ = some (.int .i64 r.min) ∧ w.cell? ⟨b, 15, none⟩ = some (.int .i64 r.max) ∧ w.cell? ⟨b, 16, none⟩ = some (r.wv) ∧ w.cell? ⟨b, 17, none⟩ = some (r.mv) ∧ w.cell? ⟨b, 18, none⟩ = some (r.kv) :=
  ⟨cellsAt h 0 _ rfl, cellsAt h 1 _ rfl, cellsAt h 2 _ rfl, cellsAt h 3 _ rfl, cellsAt h 4 _ rfl, cellsAt h 5 _ rfl, cellsAt h 6 _ rfl, cellsAt h 7 _ rfl, cellsAt h 8 _ rfl, cellsAt h 9 _ rfl, cellsAt h 10 _ rfl, cellsAt h 11 _ rfl, cellsAt h 12 _ rfl, cellsAt h 13 _ rfl, cellsAt h 14 _ rfl, cellsAt h 15 _ rfl, cellsAt h 16 _ rfl, cellsAt h 17 _ rfl, cellsAt h 18 _ rfl⟩
/-- at p lies the record r -/
def Nk (w : World) (p : Addr) (r : ScR) : Prop := w.cell? p = some (.int .i64 r.kind) ∧ w.cell? ⟨p.block, p.off + 1, none⟩ = some (.string r.name) ∧ w.cell? ⟨p.block, p.off + 2, none⟩ = some (.int .i64 r.tv.k) ∧ w.cell? ⟨p.block, p.off + 3, none⟩ = some (r.tv.vr) ∧ w.cell? ⟨p.block, p.off + 4, none⟩ = some (r.tv.vn) ∧ w.cell? ⟨p.block, p.off + 5, none⟩ = some (.string r.tv.pt) ∧ w.cell? ⟨p.block, p.off + 6, none⟩ = some (.string r.tv.ph) ∧ w.cell? ⟨p.block, p.off + 7, none⟩ = some (r.vk) ∧ w.cell? ⟨p.block, p.off + 8, none⟩ = some (r.vu) ∧ w.cell? ⟨p.block, p.off + 9, none⟩ = some (.string r.dflt) ∧ w.cell? ⟨p.block, p.off + 10, none⟩ = some (.bool r.given) ∧ w.cell? ⟨p.block, p.off + 11, none⟩ = some (.bool r.needed) ∧ w.cell? ⟨p.block, p.off + 12, none⟩ = some (.bool r.present) ∧ w.cell? ⟨p.block, p.off + 13, none⟩ = some (.bool r.fixed) ∧ w.cell? ⟨p.block, p.off + 14, none⟩ = some (.int .i64 r.min) ∧ w.cell? ⟨p.block, p.off + 15, none⟩ = some (.int .i64 r.max) ∧ w.cell? ⟨p.block, p.off + 16, none⟩ = some (r.wv) ∧ w.cell? ⟨p.block, p.off + 17, none⟩ = some (r.mv) ∧ w.cell? ⟨p.block, p.off + 18, none⟩ = some (r.kv)
theorem Nk.below {w w' : World} {p : Addr} {r : ScR} (h : Nk w p r) (hb : Below w.heap.size w w') (hp : p.block < w.heap.size) : Nk w' p r := by
  have e : ∀ j, w'.cell? ⟨p.block, p.off + j, none⟩ = w.cell? ⟨p.block, p.off + j, none⟩ := fun j => hb.cell (p := ⟨p.block, p.off + j, none⟩) hp
  unfold Nk
  rw [hb.cell hp, e 1, e 2, e 3, e 4, e 5, e 6, e 7, e 8, e 9, e 10, e 11, e 12, e 13, e 14, e 15, e 16, e 17, e 18]
  exact h
theorem HasN.nk {w : World} {A : Option Addr} {R : List ScR} (h : ∀ i (h : i < R.length), ∃ a, A = some a ∧ a.block < w.heap.size ∧ ∀ j x, (R[i].enc)[j]? = some x → w.cell? ((a.add (i * 19)).add j) = some x) (i : Nat) (hi : i < R.length) :
    ∃ a, A = some a ∧ (a.add (i * 19)).block < w.heap.size ∧ Nk w (a.add (i * 19)) R[i] := by
  obtain ⟨a, ha, hb, hc⟩ := h i hi
  exact ⟨a, ha, by rw [addr_blk]; exact hb, hc 0 _ rfl, hc 1 _ rfl, hc 2 _ rfl, hc 3 _ rfl, hc 4 _ rfl, hc 5 _ rfl, hc 6 _ rfl, hc 7 _ rfl, hc 8 _ rfl, hc 9 _ rfl, hc 10 _ rfl, hc 11 _ rfl, hc 12 _ rfl, hc 13 _ rfl, hc 14 _ rfl, hc 15 _ rfl, hc 16 _ rfl, hc 17 _ rfl, hc 18 _ rfl⟩
/-- a whole struct is loaded, whatever its number of cells: the walk's own simp would open it cell by cell -/
theorem run_loadAt_at {P : Program} (w : World) (p : Addr) (ty : TypeId) (cs : List Value) (d : TypeDesc) (hc : ∀ j v, cs[j]? = some v → w.cell? (p.add j) = some v)
    (hu : P.underlying ty = some d) (hd : d.isRow = true) (hi : (P.info? ty).map (·.size) = some cs.length) : (Instr.loadAt ty (.pointer (some p))).run P w = .ok (.agg cs.toArray) w := by
  have hl : (loadCells p cs.length).run P w = .ok cs.toArray w := run_loadCells_list (P := P) w p cs hc
  have hv : (loadVar ty p).run P w = .ok (.agg cs.toArray) w := by
    cases hq : P.info? ty with
    | none => simp [hq] at hi
    | some i =>
      have hs : i.size = cs.length := by simpa [hq] using hi
      have hagg : (isAgg ty).run P w = .ok true w := by
        unfold isAgg
        rw [Sem.run_bind, run_underlying hu w]
        cases d <;> simp_all
      simp [loadVar, Sem.run_bind, hagg, sizeOf, typeInfo, hq, hs, hl]
  simp only [Instr.loadAt, Instr.sureAddr, Sem.run_bind, Sem.run_pure, Result.andThen_ok, hv]
theorem wpList_load_at {P : Program} {ops : Array Oper} {rest : List Oper} {op : Oper} {a : Act} {w : World} {Q : Exit → Act → World → Prop} (hgd : op.guard = none) (ty : TypeId) (x : Operand) (ho : op.op = .load ty x)
    (p : Addr) (hx : a.eval x = .pointer (some p)) (v : Value) (hl : (Instr.loadAt ty (.pointer (some p))).run P w = .ok v w)
    (h : wpList P ops Q rest (a.put op.dst v) w) : wpList P ops Q (op :: rest) a w :=
  wpList_plain hgd fun K hK => by
    unfold Oper.wp execOp
    simp only [ho, hx, hl, Sem.run_bind, Result.andThen_ok, Sem.run_pure]
    exact hK _ _ h
/-- at p lie the cells of r, wherever they lie within their block -/
def Nl (w : World) (p : Addr) (r : ScR) : Prop := ∀ j v, r.enc[j]? = some v → w.cell? (p.add j) = some v
theorem Nl.below {w w' : World} {p : Addr} {r : ScR} (h : Nl w p r) (hb : Below w.heap.size w w') (hp : p.block < w.heap.size) : Nl w' p r := fun j v hv => by rw [hb.cell (by rw [addr_blk]; exact hp)]; exact h j v hv
theorem Nl.cells {w : World} {p : Addr} {r : ScR} (h : Nl w p r) : (loadCells p 19).run Try.prog w = .ok r.enc.toArray w ∧ (loadCellsFrom p 0 19 #[]).run Try.prog w = .ok r.enc.toArray w := by
  have := run_loadCells_list (P := Try.prog) w p r.enc h
  exact ⟨this, this⟩
theorem Nl.load {w : World} {p : Addr} {r : ScR} (h : Nl w p r) {ty : TypeId} {d : TypeDesc} (hu : Try.prog.underlying ty = some d) (hd : d.isRow = true) (hi : (Try.prog.info? ty).map (·.size) = some 19) : (Instr.loadAt ty (.pointer (some p))).run Try.prog w = .ok r.val w := run_loadAt_at w p ty r.enc d h hu hd hi
/-- a list of nodes that is read: its form; the i-th of them -/
theorem sc_at {d : Nat} {w : World} {v : Value} {l : List Sc} (h : RdL scK d w v l) : ∃ (A : Option Addr) (cap : Nat), v = .slice A l.length cap ∧ l.length ≤ 9223372036854775807 ∧
    ∀ i (hi : i < l.length), ∃ (a : Addr) (r : ScR) (d' : Nat), A = some a ∧ d = d' + 1 ∧ (a.add (i * 19)).block < w.heap.size ∧ Nl w (a.add (i * 19)) r ∧ RdN scK d' w r l[i] := by
  cases d with
  | zero =>
    obtain ⟨rfl, A, cap, hv, hn, _⟩ := h
    exact ⟨A, cap, hv, hn, fun i hi => absurd hi (Nat.not_lt_zero i)⟩
  | succ d =>
    obtain ⟨R, ⟨A, cap, hv, hn, hc⟩, hRl, hRk⟩ := h
    refine ⟨A, cap, by rw [← hRl]; exact hv, by rw [← hRl]; exact hn, fun i hi => ?_⟩
    have h1 : i < R.length := by rw [hRl]; exact hi
    obtain ⟨a, e1, e2, e3⟩ := hc i h1
    exact ⟨a, R[i], d, e1, rfl, by rw [addr_blk]; exact e2, e3, hRk i h1 hi⟩
/-- the six lists of a node that is read are slices -/
theorem ScRd.forms {w : World} {r : ScR} {x : ScX} (h : ScRd w r x) : (∃ A n c, r.tv.vr = .slice A n c) ∧ (∃ A n c, r.tv.vn = .slice A n c) ∧ (∃ A n c, r.vk = .slice A n c) ∧ (∃ A n c, r.vu = .slice A n c) ∧ (∃ A n c, r.wv = .slice A n c) ∧ (∃ A n c, r.mv = .slice A n c) := by
  refine ⟨?_, ?_, ?_, ?_, ?_, ?_⟩
  · obtain ⟨A, c, hv, _⟩ := h.ty.rg; exact ⟨A, _, c, hv⟩
  · obtain ⟨A, c, hv, _⟩ := h.ty.nm; exact ⟨A, _, c, hv⟩
  · obtain ⟨A, c, hv, _⟩ := h.keys; exact ⟨A, _, c, hv⟩
  · obtain ⟨A, c, hv, _⟩ := h.uniq; exact ⟨A, _, c, hv⟩
  · obtain ⟨d, h⟩ := h.when; obtain ⟨A, c, hv⟩ := h.form; exact ⟨A, _, c, hv⟩
  · obtain ⟨d, h⟩ := h.must; obtain ⟨A, c, hv⟩ := h.form; exact ⟨A, _, c, hv⟩
def TySz (t : Ty) : Prop := t.rg.length ≤ 1048576 ∧ t.nm.length ≤ 1048576 ∧ (∀ s ∈ t.nm, s.size ≤ 1048576) ∧ t.pt.size ≤ 1048576 ∧ t.ph.size ≤ 1048576
def StrsSz (l : List ByteArray) : Prop := l.length ≤ 1048576 ∧ ∀ s ∈ l, s.size ≤ 1048576
/-- not too many levels (a bound within DeepT itself would be unfolded a million times) -/
def DeepB {α : Type} (l : List (Tr α)) : Prop := ∃ n : Nat, n ≤ 1048576 ∧ DeepT n l
def ExsSz (l : List Ex) : Prop := (∀ e, SizT ExSz e l) ∧ DeepB l
/-- what a size that is not below 0 tells of a node's fields -/
structure ScSz (x : ScX) : Prop where
  name : x.name.size ≤ 1048576
  ty : TySz x.ty
  keys : StrsSz x.keys
  uniq : StrsSz x.uniq
  dflt : x.dflt.size ≤ 1048576
  when : ExsSz x.when
  must : ExsSz x.must
def SzSS (d : Nat) : Prop := ∀ (v : Value) (l : List Sc) (w : World) (left : Int), RdL scK d w v l → FitT ScWf d l → 0 ≤ left → left ≤ 1048576 → Calls Try.prog 6 #[v, .int .i64 left] w (SzOutE (SizT ScSz d l) (fun n => DeepT n l ∧ sizeS l ≤ n) left w)
def SzS9 (d : Nat) : Prop := ∀ (r : ScR) (t : Sc) (w : World) (left : Int), RdN scK d w r t → FitT ScWf d t.kids → ScWf t.x → 0 ≤ left → left ≤ 1048576 → Calls Try.prog 24 #[r.val, .int .i64 left] w (SzOutE (ScSz t.x ∧ SizT ScSz d t.kids) (fun n => DeepT n t.kids ∧ sizeS t.kids ≤ n) left w)
/-- a list of expressions: its size -/
theorem szExs_any (v : Value) (l : List Ex) (w : World) (left : Int) (hv : ∃ d, RdL exK d w v l) (hf : ∀ e, FitT ExWf e l) (h0 : 0 ≤ left) (h1 : left ≤ 1048576) :
    Calls Try.prog 46 #[v, .int .i64 left] w fun e w' => (∃ y : Int, e = .returned (.int .i64 y) ∧ (0 ≤ y → ExsSz l) ∧ -1 ≤ y ∧ y ≤ left) ∧ Below w.heap.size w w' := by
  obtain ⟨d, hd⟩ := hv
  refine (szES_any d v l w left hd (hf d) h0 h1).mono ?_
  rintro e w' ⟨y, he, hy, h2, h3, hb⟩
  exact ⟨⟨y, he, fun h => ⟨SizT.all (hy h).1 (rd_deepT hd), ⟨_, by omega, (hy h).2⟩⟩, h2, h3⟩, hb⟩
set_option maxHeartbeats 8000000 in
theorem szS9_of {d : Nat} (ih : SzSS d) : SzS9 d := by
  intro r t w left hr hf hw h0 h9
  obtain ⟨hrd, hk⟩ := hr
  obtain ⟨x, l⟩ := t
  have hrd : ScRd w r x := hrd
  have hk : RdL scK d w r.kv l := hk
  have hf : FitT ScWf d l := hf
  have hw : ScWf x := hw
  have HT := Lib.hid (fun W (hb : Below w.heap.size w W) y (a : 0 ≤ y) (b : y ≤ 1048576) => szTy_any r.tv x.ty W (hrd.ty.below hb) hw.ty y a b)
  have HKE := Lib.hid (fun W (hb : Below w.heap.size w W) y (a : 0 ≤ y) (b : y ≤ 1048576) => szStrsB r.vk x.keys y W (hrd.keys.below hb) hw.keys a b)
  have HUN := Lib.hid (fun W (hb : Below w.heap.size w W) y (a : 0 ≤ y) (b : y ≤ 1048576) => szStrsB r.vu x.uniq y W (hrd.uniq.below hb) hw.uniq a b)
  have HWH := Lib.hid (fun W (hb : Below w.heap.size w W) y (a : 0 ≤ y) (b : y ≤ 1048576) => szExs_any r.wv x.when W y (hrd.below hb).when hw.when a b)
  have HMU := Lib.hid (fun W (hb : Below w.heap.size w W) y (a : 0 ≤ y) (b : y ≤ 1048576) => szExs_any r.mv x.must W y (hrd.below hb).must hw.must a b)
  have HKI := Lib.hid (fun W (hb : Below w.heap.size w W) y (a : 0 ≤ y) (b : y ≤ 1048576) => ih r.kv l W y (hk.below hb) hf a b)
  have HEQ := Lib.hid (And.intro hrd.eq.name hrd.eq.dflt)
  have hns : r.name.size ≤ 9223372036854775807 := by rw [hrd.eq.name]; exact hw.name
  have hds : r.dflt.size ≤ 9223372036854775807 := by rw [hrd.eq.dflt]; exact hw.dflt
  obtain ⟨⟨A1, n1, c1, f1⟩, ⟨A2, n2, c2, f2⟩, ⟨A3, n3, c3, f3⟩, ⟨A4, n4, c4, f4⟩, ⟨A5, n5, c5, f5⟩, ⟨A6, n6, c6, f6⟩⟩ := hrd.forms
  obtain ⟨A7, n7, c7, f7⟩ : ∃ A n c, r.kv = .slice A n c := by obtain ⟨A, c, hv⟩ := hk.form; exact ⟨A, _, c, hv⟩
  obtain ⟨kind, name, ⟨tk, tvr, tvn, tpt, tph⟩, vk, vu, dflt, given, needed, present, fixed, mn, mx, wv, mv, kv⟩ := r
  dsimp only at f1 f2 f3 f4 f5 f6 f7 hns hds
  subst f1 f2 f3 f4 f5 f6 f7
  have HBX := Lib.hid (SBox.new 52 w ⟨kind, name, ⟨tk, .slice A1 n1 c1, .slice A2 n2 c2, tpt, tph⟩, .slice A3 n3 c3, .slice A4 n4 c4, dflt, given, needed, present, fixed, mn, mx, .slice A5 n5 c5, .slice A6 n6 c6, .slice A7 n7 c7⟩)
  have HB0 := Lib.hid (below_al (Below.refl w.heap.size w) (.cells (ScR.enc ⟨kind, name, ⟨tk, .slice A1 n1 c1, .slice A2 n2 c2, tpt, tph⟩, .slice A3 n3 c3, .slice A4 n4 c4, dflt, given, needed, present, fixed, mn, mx, .slice A5 n5 c5, .slice A6 n6 c6, .slice A7 n7 c7⟩).toArray 52))
  obtain ⟨m, hm⟩ : ∃ m : Int, m = left - name.size := ⟨_, rfl⟩
  have hwr : IntKind.i64.wrap (left - name.size) = m := by rw [IntKind.wrap_i64]; omega
  have HM := Lib.hid (And.intro hm (And.intro h9 h0))
  clear hrd hk hf hw ih hm h9 h0
  by_cases hlt : m < 0
  · go_enter Try.func24, Try.ntmps24
    go_wp2
    go_ret
    exact ⟨-1, rfl, fun h => absurd h (by omega), by omega, by have := HM.out; omega, HB0.out⟩
  have hm9 : m ≤ 1048576 := by have := HM.out; omega
  go_enter Try.func24, Try.ntmps24
  go_wp2_with fail
  refine (HT.out _ HB0.out m (by omega) (by omega)).mono ?_
  rintro e w1 ⟨⟨zt, rfl, hzt, lzt, uzt⟩, hb1⟩
  have HB1 := Lib.hid (below_step HB0.out hb1)
  have HX1 := Lib.hid (HBX.out.below hb1)
  clear hb1
  by_cases nzt : zt < 0
  · clear hzt
    go_wp2
    go_ret
    exact ⟨-1, rfl, fun h => absurd h (by omega), by omega, by have := HM.out; omega, HB1.out⟩
  have Hzt := Lib.hid (hzt (by omega))
  clear hzt
  obtain ⟨a0, a1, a2, a3, a4, a5, a6, a7, a8, a9, a10, a11, a12, a13, a14, a15, a16, a17, a18⟩ := HX1.out.tell
  go_wp2_with fail
  refine (HKE.out _ HB1.out zt (by omega) (by omega)).mono ?_
  rintro e w' ⟨⟨zk, rfl, hzk, lzk, uzk⟩, rfl⟩
  by_cases nzk : zk < 0
  · clear hzk
    go_wp2
    go_ret
    exact ⟨-1, rfl, fun h => absurd h (by omega), by omega, by have := HM.out; omega, HB1.out⟩
  have Hzk := Lib.hid (hzk (by omega))
  clear hzk
  go_wp2_with fail
  refine (HUN.out _ HB1.out zk (by omega) (by omega)).mono ?_
  rintro e w' ⟨⟨zu, rfl, hzu, lzu, uzu⟩, rfl⟩
  by_cases nzu : zu < 0
  · clear hzu
    go_wp2
    go_ret
    exact ⟨-1, rfl, fun h => absurd h (by omega), by omega, by have := HM.out; omega, HB1.out⟩
  have Hzu := Lib.hid (hzu (by omega))
  clear hzu
  obtain ⟨q, hq⟩ : ∃ q : Int, q = zu - dflt.size := ⟨_, rfl⟩
  have hwq : IntKind.i64.wrap (zu - dflt.size) = q := by rw [IntKind.wrap_i64]; omega
  have HQ := Lib.hid hq
  by_cases hlq : q < 0
  · clear hq
    go_wp2
    go_ret
    exact ⟨-1, rfl, fun h => absurd h (by omega), by omega, by have := HM.out; omega, HB1.out⟩
  have hq9 : q ≤ zu := by omega
  clear hq
  go_wp2_with fail
  refine (HWH.out _ HB1.out q (by omega) (by omega)).mono ?_
  rintro e w2 ⟨⟨zw, rfl, hzw, lzw, uzw⟩, hb2⟩
  have HB2 := Lib.hid (below_step HB1.out hb2)
  have HX2 := Lib.hid (HX1.out.below hb2)
  clear hb2
  by_cases nzw : zw < 0
  · clear hzw
    go_wp2
    go_ret
    exact ⟨-1, rfl, fun h => absurd h (by omega), by omega, by have := HM.out; omega, HB2.out⟩
  have Hzw := Lib.hid (hzw (by omega))
  clear hzw
  clear a0 a1 a2 a3 a4 a5 a6 a7 a8 a9 a10 a11 a12 a13 a14 a15 a16 a17 a18
  obtain ⟨a0, a1, a2, a3, a4, a5, a6, a7, a8, a9, a10, a11, a12, a13, a14, a15, a16, a17, a18⟩ := HX2.out.tell
  go_wp2_with fail
  refine (HMU.out _ HB2.out zw (by omega) (by omega)).mono ?_
  rintro e w3 ⟨⟨zm, rfl, hzm, lzm, uzm⟩, hb3⟩
  have HB3 := Lib.hid (below_step HB2.out hb3)
  have HX3 := Lib.hid (HX2.out.below hb3)
  clear hb3
  by_cases nzm : zm < 0
  · clear hzm
    go_wp2
    go_ret
    exact ⟨-1, rfl, fun h => absurd h (by omega), by omega, by have := HM.out; omega, HB3.out⟩
  have Hzm := Lib.hid (hzm (by omega))
  clear hzm
  clear a0 a1 a2 a3 a4 a5 a6 a7 a8 a9 a10 a11 a12 a13 a14 a15 a16 a17 a18
  obtain ⟨a0, a1, a2, a3, a4, a5, a6, a7, a8, a9, a10, a11, a12, a13, a14, a15, a16, a17, a18⟩ := HX3.out.tell
  go_wp2_with fail
  refine (HKI.out _ HB3.out zm (by omega) (by omega)).mono ?_
  rintro e w4 ⟨y, rfl, H1, ly, uy, hb4⟩
  have H := Lib.hid H1
  have HB4 := Lib.hid (below_step HB3.out hb4)
  clear H1 hb4 a0 a1 a2 a3 a4 a5 a6 a7 a8 a9 a10 a11 a12 a13 a14 a15 a16 a17 a18
  by_cases hy0 : y < 0
  · go_wp2
    go_ret
    exact ⟨-1, rfl, fun h => absurd h (by omega), by omega, by have := HM.out; omega, HB4.out⟩
  have HQ2 := Lib.hid (H.out (by omega))
  clear H
  go_wp2
  go_ret
  have hM := HM.out
  have hQ := HQ.out
  refine ⟨y, rfl, fun _ => ⟨⟨⟨by show x.name.size ≤ 1048576; rw [← HEQ.out.1]; show name.size ≤ 1048576; omega, Hzt.out, Hzk.out, Hzu.out, by show x.dflt.size ≤ 1048576; rw [← HEQ.out.2]; show dflt.size ≤ 1048576; omega, Hzw.out, Hzm.out⟩, HQ2.out.1⟩, DeepT.more HQ2.out.2.1 ?_, Nat.le_trans HQ2.out.2.2 ?_⟩, by omega, by omega, HB4.out⟩
  · omega
  · omega
end Go.Proofs.Ytlgooejoohcmfaa
