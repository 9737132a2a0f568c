/- MERGED for a claim: Sc ScA. -/
import Derived.Test.YthmjffijhlkgcaaTyO
import Derived.Test.YthmjffijhlkgcaaExB
import Derived.Test.YthmjffijhlkgcaaWkA
import Derived.Deep.MidRow
set_option linter.unusedVariables false
set_option linter.unusedSimpArgs false
/- CHAPTER 9: SCHEMAS AS TREES IN MEMORY: how they lie (19 cells a node), an argument opened. -/
namespace Go.Proofs.Ythmjffijhlkgcaa
open Go.RowKit Go.ChangeShapes Go.WideShapes Go.Deep Go.Joins
set_option maxRecDepth 100000

/-- what a node says besides its kids; how one lies -/
structure ScX where
  kind : Int
  name : ByteArray
  ty : Ty
  keys : List ByteArray
  uniq : List ByteArray
  dflt : ByteArray
  given : Bool
  needed : Bool
  present : Bool
  fixed : Bool
  min : Int
  max : Int
  when : List Ex
  must : List Ex
structure ScR where
  kind : Int
  name : ByteArray
  tv : TyV
  vk : Value
  vu : Value
  dflt : ByteArray
  given : Bool
  needed : Bool
  present : Bool
  fixed : Bool
  min : Int
  max : Int
  wv : Value
  mv : Value
  kv : Value
def ScR.enc (r : ScR) : List Value := [.int .i64 r.kind, .string r.name, .int .i64 r.tv.k, r.tv.vr, r.tv.vn, .string r.tv.pt, .string r.tv.ph, r.vk, r.vu, .string r.dflt, .bool r.given, .bool r.needed, .bool r.present, .bool r.fixed, .int .i64 r.min, .int .i64 r.max, r.wv, r.mv, r.kv]
abbrev ScR.val (r : ScR) : Value := .agg #[.int .i64 r.kind, .string r.name, .int .i64 r.tv.k, r.tv.vr, r.tv.vn, .string r.tv.pt, .string r.tv.ph, r.vk, r.vu, .string r.dflt, .bool r.given, .bool r.needed, .bool r.present, .bool r.fixed, .int .i64 r.min, .int .i64 r.max, r.wv, r.mv, r.kv]
theorem ScR.enc_len (r : ScR) : r.enc.length = 19 := rfl
/-- the fields that lie in the cells themselves -/
structure ScEq (r : ScR) (x : ScX) : Prop where
  kind : r.kind = x.kind
  name : r.name = x.name
  dflt : r.dflt = x.dflt
  given : r.given = x.given
  needed : r.needed = x.needed
  present : r.present = x.present
  fixed : r.fixed = x.fixed
  min : r.min = x.min
  max : r.max = x.max
structure ScRd (w : World) (r : ScR) (x : ScX) : Prop where
  eq : ScEq r x
  ty : HasTy w r.tv x.ty
  keys : Has w r.vk x.keys
  uniq : Has w r.vu x.uniq
  when : ∃ d, RdL exK d w r.wv x.when
  must : ∃ d, RdL exK d w r.mv x.must
theorem ScRd.below {w w' : World} {r : ScR} {x : ScX} (h : ScRd w r x) (hb : Below w.heap.size w w') : ScRd w' r x :=
  ⟨h.eq, h.ty.below hb, h.keys.below hb, h.uniq.below hb, h.when.imp fun _ h => h.below hb, h.must.imp fun _ h => h.below hb⟩
theorem row_frame {B : Nat} {w w' : World} {v : Value} {l : List ByteArray} (h : Row B w v l) (hf : ∀ b, v.ownBlock = some b → w'.heap[b]? = w.heap[b]?) : Row B w' v l := by
  refine ⟨h.1, ?_⟩
  rcases h.2 with hn | ⟨g, cap, cur, rfl, hb, hg, rest⟩
  · exact .inl hn
  · exact .inr ⟨g, cap, cur, rfl, hb, (hf g rfl).trans hg, rest⟩
abbrev Sc := Tr ScX
/-- what a frame tells of a node's fields -/
structure ScWf (x : ScX) : Prop where
  name : x.name.size ≤ 9223372036854775807
  ty : TyWf x.ty
  keys : ∀ s ∈ x.keys, s.size ≤ 9223372036854775807
  uniq : ∀ s ∈ x.uniq, s.size ≤ 9223372036854775807
  dflt : x.dflt.size ≤ 9223372036854775807
  kind : -9223372036854775808 ≤ x.kind ∧ x.kind ≤ 9223372036854775807
  min : -9223372036854775808 ≤ x.min ∧ x.min ≤ 9223372036854775807
  max : -9223372036854775808 ≤ x.max ∧ x.max ≤ 9223372036854775807
  when : ∀ d, FitT ExWf d x.when
  must : ∀ d, FitT ExWf d x.must
end Go.Proofs.Ythmjffijhlkgcaa

/- CHAPTER 9: laws.szSchema, szSchemaS. First printed by tools/gen_scA.py; changed by hand since (the number of nodes: sizeS). -/
namespace Go.Proofs.Ythmjffijhlkgcaa
open Go.RowKit
set_option maxRecDepth 100000

/-- a variable of the call's own that holds a node -/
def SBox (T : TypeId) (w : World) (b : Nat) (r : ScR) : Prop := w.heap[b]? = some (.cells r.enc.toArray T (0, 0))
theorem SBox.below {T : TypeId} {w w' : World} {b : Nat} {r : ScR} (h : SBox T w b r) (hb : Below w.heap.size w w') : SBox T w' b r := (hb.block b (Array.getElem?_eq_some_iff.1 h).1).trans h
theorem SBox.new (T : TypeId) (w : World) (r : ScR) : SBox T (w.alloc (.cells r.enc.toArray T)) w.heap.size r := heap_alloc_new w _
theorem SBox.tell {T : TypeId} {w : World} {b : Nat} {r : ScR} (h : SBox T w b r) : w.cell? ⟨b, 0, none⟩ = some (.int .i64 r.kind) ∧ w.cell? ⟨b, 1, none⟩ = some (.string r.name) ∧ w.cell? ⟨b, 2, none⟩ = some (.int .i64 r.tv.k) ∧ w.cell? ⟨b, 3, none⟩ = some (r.tv.vr) ∧ w.cell? ⟨b, 4, none⟩ = some (r.tv.vn) ∧ w.cell? ⟨b, 5, none⟩ = some (.string r.tv.pt) ∧ w.cell? ⟨b, 6, none⟩ = some (.string r.tv.ph) ∧ w.cell? ⟨b, 7, none⟩ = some (r.vk) ∧ w.cell? ⟨b, 8, none⟩ = some (r.vu) ∧ w.cell? ⟨b, 9, none⟩ = some (.string r.dflt) ∧ w.cell? ⟨b, 10, none⟩ = some (.bool r.given) ∧ w.cell? ⟨b, 11, none⟩ = some (.bool r.needed) ∧ w.cell? ⟨b, 12, none⟩ = some (.bool r.present) ∧ w.cell? ⟨b, 13, none⟩ = some (.bool r.fixed) ∧ w.cell? ⟨b, 14, none⟩ = some (.int .i64 r.min) ∧ w.cell? ⟨b, 15, none⟩ = some (.int .i64 r.max) ∧ w.cell? ⟨b, 16, none⟩ = some (r.wv) ∧ w.cell? ⟨b, 17, none⟩ = some (r.mv) ∧ w.cell? ⟨b, 18, none⟩ = some (r.kv) :=
  ⟨cellsAt h 0 _ rfl, cellsAt h 1 _ rfl, cellsAt h 2 _ rfl, cellsAt h 3 _ rfl, cellsAt h 4 _ rfl, cellsAt h 5 _ rfl, cellsAt h 6 _ rfl, cellsAt h 7 _ rfl, cellsAt h 8 _ rfl, cellsAt h 9 _ rfl, cellsAt h 10 _ rfl, cellsAt h 11 _ rfl, cellsAt h 12 _ rfl, cellsAt h 13 _ rfl, cellsAt h 14 _ rfl, cellsAt h 15 _ rfl, cellsAt h 16 _ rfl, cellsAt h 17 _ rfl, cellsAt h 18 _ rfl⟩
/-- at p lies the record r -/
def Nk (w : World) (p : Addr) (r : ScR) : Prop := w.cell? p = some (.int .i64 r.kind) ∧ w.cell? ⟨p.block, p.off + 1, none⟩ = some (.string r.name) ∧ w.cell? ⟨p.block, p.off + 2, none⟩ = some (.int .i64 r.tv.k) ∧ w.cell? ⟨p.block, p.off + 3, none⟩ = some (r.tv.vr) ∧ w.cell? ⟨p.block, p.off + 4, none⟩ = some (r.tv.vn) ∧ w.cell? ⟨p.block, p.off + 5, none⟩ = some (.string r.tv.pt) ∧ w.cell? ⟨p.block, p.off + 6, none⟩ = some (.string r.tv.ph) ∧ w.cell? ⟨p.block, p.off + 7, none⟩ = some (r.vk) ∧ w.cell? ⟨p.block, p.off + 8, none⟩ = some (r.vu) ∧ w.cell? ⟨p.block, p.off + 9, none⟩ = some (.string r.dflt) ∧ w.cell? ⟨p.block, p.off + 10, none⟩ = some (.bool r.given) ∧ w.cell? ⟨p.block, p.off + 11, none⟩ = some (.bool r.needed) ∧ w.cell? ⟨p.block, p.off + 12, none⟩ = some (.bool r.present) ∧ w.cell? ⟨p.block, p.off + 13, none⟩ = some (.bool r.fixed) ∧ w.cell? ⟨p.block, p.off + 14, none⟩ = some (.int .i64 r.min) ∧ w.cell? ⟨p.block, p.off + 15, none⟩ = some (.int .i64 r.max) ∧ w.cell? ⟨p.block, p.off + 16, none⟩ = some (r.wv) ∧ w.cell? ⟨p.block, p.off + 17, none⟩ = some (r.mv) ∧ w.cell? ⟨p.block, p.off + 18, none⟩ = some (r.kv)
theorem Nk.below {w w' : World} {p : Addr} {r : ScR} (h : Nk w p r) (hb : Below w.heap.size w w') (hp : p.block < w.heap.size) : Nk w' p r := by
  have e : ∀ j, w'.cell? ⟨p.block, p.off + j, none⟩ = w.cell? ⟨p.block, p.off + j, none⟩ := fun j => hb.cell (p := ⟨p.block, p.off + j, none⟩) hp
  unfold Nk
  rw [hb.cell hp, e 1, e 2, e 3, e 4, e 5, e 6, e 7, e 8, e 9, e 10, e 11, e 12, e 13, e 14, e 15, e 16, e 17, e 18]
  exact h
theorem HasN.nk {w : World} {A : Option Addr} {R : List ScR} (h : ∀ i (h : i < R.length), ∃ a, A = some a ∧ a.block < w.heap.size ∧ ∀ j x, (R[i].enc)[j]? = some x → w.cell? ((a.add (i * 19)).add j) = some x) (i : Nat) (hi : i < R.length) :
    ∃ a, A = some a ∧ (a.add (i * 19)).block < w.heap.size ∧ Nk w (a.add (i * 19)) R[i] := by
  obtain ⟨a, ha, hb, hc⟩ := h i hi
  exact ⟨a, ha, by rw [addr_blk]; exact hb, hc 0 _ rfl, hc 1 _ rfl, hc 2 _ rfl, hc 3 _ rfl, hc 4 _ rfl, hc 5 _ rfl, hc 6 _ rfl, hc 7 _ rfl, hc 8 _ rfl, hc 9 _ rfl, hc 10 _ rfl, hc 11 _ rfl, hc 12 _ rfl, hc 13 _ rfl, hc 14 _ rfl, hc 15 _ rfl, hc 16 _ rfl, hc 17 _ rfl, hc 18 _ rfl⟩
/-- a whole struct is loaded, whatever its number of cells: the walk's own simp would open it cell by cell -/
theorem run_loadAt_at {P : Program} (w : World) (p : Addr) (ty : TypeId) (cs : List Value) (d : TypeDesc) (hc : ∀ j v, cs[j]? = some v → w.cell? (p.add j) = some v)
    (hu : P.underlying ty = some d) (hd : d.isRow = true) (hi : (P.info? ty).map (·.size) = some cs.length) : (Instr.loadAt ty (.pointer (some p))).run P w = .ok (.agg cs.toArray) w := by
  have hl : (loadCells p cs.length).run P w = .ok cs.toArray w := run_loadCells_list (P := P) w p cs hc
  have hv : (loadVar ty p).run P w = .ok (.agg cs.toArray) w := by
    cases hq : P.info? ty with
    | none => simp [hq] at hi
    | some i =>
      have hs : i.size = cs.length := by simpa [hq] using hi
      have hagg : (isAgg ty).run P w = .ok true w := by
        unfold isAgg
        rw [Sem.run_bind, run_underlying hu w]
        cases d <;> simp_all
      simp [loadVar, Sem.run_bind, hagg, sizeOf, typeInfo, hq, hs, hl]
  simp only [Instr.loadAt, Instr.sureAddr, Sem.run_bind, Sem.run_pure, Result.andThen_ok, hv]
theorem wpList_load_at {P : Program} {ops : Array Oper} {rest : List Oper} {op : Oper} {a : Act} {w : World} {Q : Exit → Act → World → Prop} (hgd : op.guard = none) (ty : TypeId) (x : Operand) (ho : op.op = .load ty x)
    (p : Addr) (hx : a.eval x = .pointer (some p)) (v : Value) (hl : (Instr.loadAt ty (.pointer (some p))).run P w = .ok v w)
    (h : wpList P ops Q rest (a.put op.dst v) w) : wpList P ops Q (op :: rest) a w :=
  wpList_plain hgd fun K hK => by
    unfold Oper.wp execOp
    simp only [ho, hx, hl, Sem.run_bind, Result.andThen_ok, Sem.run_pure]
    exact hK _ _ h
/-- at p lie the cells of r, wherever they lie within their block -/
def Nl (w : World) (p : Addr) (r : ScR) : Prop := ∀ j v, r.enc[j]? = some v → w.cell? (p.add j) = some v
theorem Nl.below {w w' : World} {p : Addr} {r : ScR} (h : Nl w p r) (hb : Below w.heap.size w w') (hp : p.block < w.heap.size) : Nl w' p r := fun j v hv => by rw [hb.cell (by rw [addr_blk]; exact hp)]; exact h j v hv
theorem Nl.cells {w : World} {p : Addr} {r : ScR} (h : Nl w p r) : (loadCells p 19).run Try.prog w = .ok r.enc.toArray w ∧ (loadCellsFrom p 0 19 #[]).run Try.prog w = .ok r.enc.toArray w := by
  have := run_loadCells_list (P := Try.prog) w p r.enc h
  exact ⟨this, this⟩
theorem Nl.load {w : World} {p : Addr} {r : ScR} (h : Nl w p r) {ty : TypeId} {d : TypeDesc} (hu : Try.prog.underlying ty = some d) (hd : d.isRow = true) (hi : (Try.prog.info? ty).map (·.size) = some 19) : (Instr.loadAt ty (.pointer (some p))).run Try.prog w = .ok r.val w := run_loadAt_at w p ty r.enc d h hu hd hi
/-- the six lists of a node that is read are slices -/
theorem ScRd.forms {w : World} {r : ScR} {x : ScX} (h : ScRd w r x) : (∃ A n c, r.tv.vr = .slice A n c) ∧ (∃ A n c, r.tv.vn = .slice A n c) ∧ (∃ A n c, r.vk = .slice A n c) ∧ (∃ A n c, r.vu = .slice A n c) ∧ (∃ A n c, r.wv = .slice A n c) ∧ (∃ A n c, r.mv = .slice A n c) := by
  refine ⟨?_, ?_, ?_, ?_, ?_, ?_⟩
  · obtain ⟨A, c, hv, _⟩ := h.ty.rg; exact ⟨A, _, c, hv⟩
  · obtain ⟨A, c, hv, _⟩ := h.ty.nm; exact ⟨A, _, c, hv⟩
  · obtain ⟨A, c, hv, _⟩ := h.keys; exact ⟨A, _, c, hv⟩
  · obtain ⟨A, c, hv, _⟩ := h.uniq; exact ⟨A, _, c, hv⟩
  · obtain ⟨d, h⟩ := h.when; obtain ⟨A, c, hv⟩ := h.form; exact ⟨A, _, c, hv⟩
  · obtain ⟨d, h⟩ := h.must; obtain ⟨A, c, hv⟩ := h.form; exact ⟨A, _, c, hv⟩
def TySz (t : Ty) : Prop := t.rg.length ≤ 1048576 ∧ t.nm.length ≤ 1048576 ∧ (∀ s ∈ t.nm, s.size ≤ 1048576) ∧ t.pt.size ≤ 1048576 ∧ t.ph.size ≤ 1048576
def StrsSz (l : List ByteArray) : Prop := l.length ≤ 1048576 ∧ ∀ s ∈ l, s.size ≤ 1048576
/-- not too many levels (a bound within DeepT itself would be unfolded a million times) -/
def DeepB {α : Type} (l : List (Tr α)) : Prop := ∃ n : Nat, n ≤ 1048576 ∧ DeepT n l
def ExsSz (l : List Ex) : Prop := (∀ e, SizT ExSz e l) ∧ DeepB l
/-- what a size that is not below 0 tells of a node's fields -/
structure ScSz (x : ScX) : Prop where
  name : x.name.size ≤ 1048576
  ty : TySz x.ty
  keys : StrsSz x.keys
  uniq : StrsSz x.uniq
  dflt : x.dflt.size ≤ 1048576
  when : ExsSz x.when
  must : ExsSz x.must
end Go.Proofs.Ythmjffijhlkgcaa
