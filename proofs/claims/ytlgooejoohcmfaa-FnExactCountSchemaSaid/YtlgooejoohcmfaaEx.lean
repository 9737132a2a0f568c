/- CHAPTER 8: EXPRESSIONS AS TREES IN MEMORY: how they lie, an argument opened, laws.szExpr, szExprS. -/
import Derived.Test.YtlgooejoohcmfaaTreeO
import Derived.Test.YtlgooejoohcmfaaPthE
set_option linter.unusedVariables false
set_option linter.unusedSimpArgs false
namespace Go.Proofs.Ytlgooejoohcmfaa
open Go.RowKit Go.ChangeShapes Go.WideShapes Go.Deep Go.Joins

/-- what an expression says besides its kids; how one lies -/
structure ExX where
  op : Int
  num : Int
  text : ByteArray
  p : Pth
structure ExR where
  op : Int
  num : Int
  text : ByteArray
  root : Bool
  ups : Int
  sv : Value
  kv : Value
def ExR.enc (r : ExR) : List Value := [.int .i64 r.op, .int .i64 r.num, .string r.text, .bool r.root, .int .i64 r.ups, r.sv, r.kv]
abbrev ExR.val (r : ExR) : Value := .agg #[.int .i64 r.op, .int .i64 r.num, .string r.text, .bool r.root, .int .i64 r.ups, r.sv, r.kv]
abbrev ExR.pv (r : ExR) : PthV := ⟨r.root, r.ups, r.sv⟩
theorem ExR.enc_len (r : ExR) : r.enc.length = 7 := rfl
def exK : Kd ExX where
  ρ := ExR
  enc := ExR.enc
  z := 7
  E := 87
  kv := ExR.kv
  hz := fun _ => rfl
  rd := fun w r x => (r.op = x.op ∧ r.num = x.num ∧ r.text = x.text) ∧ HasP7 w r.pv x.p
  own := fun B w r x S => (r.op = x.op ∧ r.num = x.num ∧ r.text = x.text) ∧ OwnP7 B w r.pv x.p S
  rd_below := fun h hb => ⟨h.1, h.2.below hb⟩
  own_rd := fun h => ⟨h.1, h.2.has⟩
  own_frame := fun h hf => ⟨h.1, ⟨h.2.root, h.2.ups, OwL.frame h.2.st hf⟩⟩
  own_lt := fun h b hb => OwL.lt h.2.st b hb
  own_mono := fun h hb => ⟨h.1, ⟨h.2.root, h.2.ups, OwL.mono h.2.st hb⟩⟩
abbrev Ex := Tr ExX
theorem exK_z : (exK).z = 7 := rfl
/-- what a frame tells of an expression's fields; what a size that is not below 0 tells -/
def ExWf (x : ExX) : Prop := x.text.size ≤ 9223372036854775807 ∧ PthWf x.p ∧ (-9223372036854775808 ≤ x.op ∧ x.op ≤ 9223372036854775807) ∧ (-9223372036854775808 ≤ x.num ∧ x.num ≤ 9223372036854775807)
def ExSz (x : ExX) : Prop := x.text.size ≤ 1048576 ∧ PthSz x.p
/-- at p lies the record r -/
def Ek (w : World) (p : Addr) (r : ExR) : Prop := w.cell? p = some (.int .i64 r.op) ∧ w.cell? ⟨p.block, p.off + 1, none⟩ = some (.int .i64 r.num) ∧ w.cell? ⟨p.block, p.off + 2, none⟩ = some (.string r.text) ∧ w.cell? ⟨p.block, p.off + 3, none⟩ = some (.bool r.root) ∧ w.cell? ⟨p.block, p.off + 4, none⟩ = some (.int .i64 r.ups) ∧ w.cell? ⟨p.block, p.off + 5, none⟩ = some r.sv ∧ w.cell? ⟨p.block, p.off + 6, none⟩ = some r.kv
theorem Ek.below {w w' : World} {p : Addr} {r : ExR} (h : Ek w p r) (hb : Below w.heap.size w w') (hp : p.block < w.heap.size) : Ek w' p r :=
  ⟨by rw [hb.cell hp]; exact h.1, by rw [hb.cell (p := ⟨p.block, p.off + 1, none⟩) hp]; exact h.2.1, by rw [hb.cell (p := ⟨p.block, p.off + 2, none⟩) hp]; exact h.2.2.1, by rw [hb.cell (p := ⟨p.block, p.off + 3, none⟩) hp]; exact h.2.2.2.1, by rw [hb.cell (p := ⟨p.block, p.off + 4, none⟩) hp]; exact h.2.2.2.2.1, by rw [hb.cell (p := ⟨p.block, p.off + 5, none⟩) hp]; exact h.2.2.2.2.2.1, by rw [hb.cell (p := ⟨p.block, p.off + 6, none⟩) hp]; exact h.2.2.2.2.2.2⟩
theorem HasE.ek {w : World} {A : Option Addr} {R : List ExR} (h : ∀ i (h : i < R.length), ∃ a, A = some a ∧ a.block < w.heap.size ∧ ∀ j x, (R[i].enc)[j]? = some x → w.cell? ((a.add (i * 7)).add j) = some x) (i : Nat) (hi : i < R.length) :
    ∃ a, A = some a ∧ (a.add (i * 7)).block < w.heap.size ∧ Ek w (a.add (i * 7)) R[i] := by
  obtain ⟨a, ha, hb, hc⟩ := h i hi
  exact ⟨a, ha, by rw [addr_blk]; exact hb, hc 0 _ rfl, hc 1 _ rfl, hc 2 _ rfl, hc 3 _ rfl, hc 4 _ rfl, hc 5 _ rfl, hc 6 _ rfl⟩
/-- a list of expressions that is read: its form; the i-th of them -/
theorem ex_at {d : Nat} {w : World} {v : Value} {l : List Ex} (h : RdL exK d w v l) : ∃ (A : Option Addr) (cap : Nat), v = .slice A l.length cap ∧ l.length ≤ 9223372036854775807 ∧
    ∀ i (hi : i < l.length), ∃ (a : Addr) (r : ExR) (d' : Nat), A = some a ∧ d = d' + 1 ∧ (a.add (i * 7)).block < w.heap.size ∧ Ek w (a.add (i * 7)) r ∧ RdN exK d' w r l[i] := by
  cases d with
  | zero =>
    obtain ⟨rfl, A, cap, hv, hn, _⟩ := h
    exact ⟨A, cap, hv, hn, fun i hi => absurd hi (Nat.not_lt_zero i)⟩
  | succ d =>
    obtain ⟨R, ⟨A, cap, hv, hn, hc⟩, hRl, hRk⟩ := h
    refine ⟨A, cap, by rw [← hRl]; exact hv, by rw [← hRl]; exact hn, fun i hi => ?_⟩
    have h1 : i < R.length := by rw [hRl]; exact hi
    obtain ⟨a, e1, e2, e3⟩ := HasE.ek hc i h1
    exact ⟨a, R[i], d, e1, rfl, e2, e3, hRk i h1 hi⟩
section
variable {H : Type} {en : TypeId × Value → H} {w : World} {base : Nat} {spare : Nat → Bool} {held : Bool}
theorem trod_struct5f {P : Program} {t : TypeId} {f0 f1 f2 f3 f4 : Field} {fuel : Nat} {cs : List Value} {x : DataW H × List MemPlace} (ht : P.underlying t = some (.struct #[f0, f1, f2, f3, f4])) (h : DataW.trod en P w base spare held fuel t cs = some x) :
    ∃ y0 y1 y2 y3 y4 n, fuel = n + 1 ∧ cs.length = P.cellsOf t ∧ DataW.trod en P w base spare held n f0.type ((cs.drop f0.offset).take (P.cellsOf f0.type)) = some y0 ∧
      DataW.trod en P w base spare held n f1.type ((cs.drop f1.offset).take (P.cellsOf f1.type)) = some y1 ∧ DataW.trod en P w base spare held n f2.type ((cs.drop f2.offset).take (P.cellsOf f2.type)) = some y2 ∧
      DataW.trod en P w base spare held n f3.type ((cs.drop f3.offset).take (P.cellsOf f3.type)) = some y3 ∧ DataW.trod en P w base spare held n f4.type ((cs.drop f4.offset).take (P.cellsOf f4.type)) = some y4 := by
  obtain ⟨xs, n, hn, rfl, hl, hlen, hf⟩ := DataW.trod_struct ht h
  match xs, hlen with
  | [y0, y1, y2, y3, y4], _ => exact ⟨y0, y1, y2, y3, y4, n, hn, hl, by simpa using hf 0 f0 rfl, by simpa using hf 1 f1 rfl, by simpa using hf 2 f2 rfl, by simpa using hf 3 f3 rfl, by simpa using hf 4 f4 rfl⟩
set_option maxRecDepth 100000 in
theorem ex_of_cells {n : Nat} {cs : List Value} {y : DataW H × List MemPlace} (h : DataW.trod en Try.prog w base spare held n 105 cs = some y) :
    ∃ (r : ExR) (x : ExX), cs = r.enc ∧ exK.rd w r x ∧ ExWf x ∧ ∃ m y', m < n ∧ DataW.trod en Try.prog w base spare held m 50 [r.kv] = some y' := by
  obtain ⟨y0, y1, y2, y3, y4, m, hn, hl, h0, h1, h2, h3, h4⟩ := trod_struct5f Try.underlying105 h
  rw [show Try.prog.cellsOf 105 = 7 by kernel_rfl] at hl
  match cs, hl with
  | [c0, c1, c2, c3, c4, c5, c6], _ =>
    rw [show Try.prog.cellsOf 3 = 1 by kernel_rfl] at h0 h1
    rw [show Try.prog.cellsOf 9 = 1 by kernel_rfl] at h2
    rw [show Try.prog.cellsOf 103 = 3 by kernel_rfl] at h3
    rw [show Try.prog.cellsOf 50 = 1 by kernel_rfl] at h4
    obtain ⟨k, hk, _, kw⟩ := DataW.trod_int Try.underlying3 h0
    obtain ⟨k1, hk1, _, kw1⟩ := DataW.trod_int Try.underlying3 h1
    obtain ⟨t, ht, _, hs⟩ := DataW.trod_string Try.underlying9 h2
    obtain ⟨v, p, hp, g1, g2⟩ := pth_of_cells h3
    simp at hk hk1 ht hp
    obtain ⟨rfl, rfl, rfl⟩ := hp
    subst hk hk1 ht
    exact ⟨⟨k, k1, t, v.root, v.ups, v.sv, c6⟩, ⟨k, k1, t, p⟩, rfl, ⟨⟨rfl, rfl, rfl⟩, g1⟩, ⟨by unfold maxLen at hs; dsimp only; omega, g2, wf_i64 kw, wf_i64 kw1⟩, m, y4, by omega, h4⟩
set_option maxRecDepth 100000 in
theorem ex_open {r : Reach} {b0 : Nat} {v : Value} {d : DataW H} {p : List MemPlace} (hv : Value.okWide Try.prog w r b0 105 v) (h : DataW.Trod en Try.prog w base spare held 105 v d p) :
    ∃ (y : ExR) (t : Ex) (D : Nat), v = y.val ∧ RdN exK D w y t ∧ ExWf t.x ∧ FitT ExWf D t.kids := by
  obtain ⟨cs, rfl, hsz⟩ := okWide_struct Try.underlying105 hv
  obtain ⟨fuel, hf⟩ := h
  obtain ⟨y, x, hy, h1, h2, m, y', _, h3⟩ := ex_of_cells hf
  obtain ⟨v, l, hvl, hl, hfit⟩ := open_tree (k := exK) (Q := ExWf) Try.underlying50 (show Try.prog.cellsOf 105 = 7 by kernel_rfl) (by rw [exK_z]; omega) (fun _ _ _ h => ex_of_cells h) m _ _ h3
  have hv' : y.kv = v := by simpa using hvl
  refine ⟨y, .mk x l, m, ?_, ⟨h1, by rw [show exK.kv y = y.kv from rfl, hv']; exact hl⟩, h2, hfit⟩
  have : cs.toList = [.int .i64 y.op, .int .i64 y.num, .string y.text, .bool y.root, .int .i64 y.ups, y.sv, y.kv] := hy
  rw [← Array.toArray_toList (xs := cs), this]
end
/-- what a size tells: y is left of 'left' -/
def SzOutE (Q : Prop) (D : Nat → Prop) (left : Int) (w : World) (e : Ending) (w' : World) : Prop := ∃ y : Int, e = .returned (.int .i64 y) ∧ (0 ≤ y → Q ∧ D (left - y).toNat) ∧ -1 ≤ y ∧ y ≤ left ∧ Below w.heap.size w w'
def SzES (d : Nat) : Prop := ∀ (v : Value) (l : List Ex) (w : World) (left : Int), RdL exK d w v l → FitT ExWf d l → 0 ≤ left → left ≤ 1048576 → Calls Try.prog 46 #[v, .int .i64 left] w (SzOutE (SizT ExSz d l) (fun n => DeepT n l) left w)
def SzE (d : Nat) : Prop := ∀ (r : ExR) (t : Ex) (w : World) (left : Int), RdN exK d w r t → FitT ExWf d t.kids → ExWf t.x → 0 ≤ left → left ≤ 1048576 → Calls Try.prog 68 #[r.val, .int .i64 left] w (SzOutE (ExSz t.x ∧ SizT ExSz d t.kids) (fun n => DeepT n t.kids) left w)
end Go.Proofs.Ytlgooejoohcmfaa
