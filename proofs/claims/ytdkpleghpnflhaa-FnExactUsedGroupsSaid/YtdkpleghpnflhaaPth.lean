/- CHAPTER 7: PATHS IN MEMORY: tests, steps (a list of records that hold lists), paths, as they are read and as they are owned; arguments opened; laws.szPath, toPath, eqPath. -/
import Derived.Test.YtdkpleghpnflhaaTree
import Derived.Test.YtdkpleghpnflhaaOpen
import Derived.Test.YtdkpleghpnflhaaNumPlain
import Derived.Deep.RegionHeld3
import Derived.SliceStrings
import Derived.OpenShut
import Derived.ShutString
set_option linter.unusedVariables false
set_option linter.unusedSimpArgs false
namespace Go.Proofs.Ytdkpleghpnflhaa
open Go.RowKit Go.ChangeShapes Go.WideShapes Go.Deep Go.Joins

/-- a test; n of them in a step -/
structure Tst where
  n : ByteArray
  v : ByteArray
def Tst.enc (x : Tst) : List Value := [.string x.n, .string x.v]
theorem Tst.enc_len (x : Tst) : x.enc.length = 2 := rfl
abbrev HasX (w : World) (v : Value) (l : List Tst) : Prop := HasR Tst.enc 2 w v l
abbrev RowX (B : Nat) (w : World) (v : Value) (l : List Tst) : Prop := RowR Tst.enc 2 136 B w v l
theorem RowR.hasX {B : Nat} {w : World} {v : Value} {l : List Tst} (h : RowX B w v l) : HasX w v l := RowR.has Tst.enc_len h
/-- a step: what it says; how it lies -/
structure Stp where
  n : ByteArray
  ts : List Tst
structure StR where
  n : ByteArray
  tv : Value
def StR.enc (r : StR) : List Value := [.string r.n, r.tv]
def stK : Kd Stp where
  ρ := StR
  enc := StR.enc
  z := 2
  E := 127
  kv := fun _ => .slice none 0 0
  hz := fun _ => rfl
  rd := fun w r x => r.n = x.n ∧ HasX w r.tv x.ts
  own := fun B w r x S => (r.n = x.n ∧ RowX B w r.tv x.ts) ∧ ∀ b, S b ↔ r.tv.ownBlock = some b
  rd_below := fun h hb => ⟨h.1, HasR.below h.2 hb⟩
  own_rd := fun h => ⟨h.1.1, RowR.hasX h.1.2⟩
  own_frame := fun h hf => ⟨⟨h.1.1, rowR_frame h.1.2 fun b hb => hf b ((h.2 b).2 hb)⟩, h.2⟩
  own_lt := fun h b hb => RowR.lt h.1.2 ((h.2 b).1 hb)
  own_mono := fun h hb => ⟨⟨h.1.1, RowR.mono h.1.2 hb⟩, h.2⟩
/-- a step as a tree without kids -/
def lf (x : Stp) : Tr Stp := .mk x []
/-- v is a slice that holds the steps l; the same, the call's own, in the blocks S -/
def HasS (w : World) (v : Value) (l : List Stp) : Prop := RdL stK 1 w v (l.map lf)
def OwnS (B : Nat) (w : World) (v : Value) (l : List Stp) (S : Nat → Prop) : Prop := OwL stK 1 B w v (l.map lf) S
theorem HasS.below {w w' : World} {v : Value} {l : List Stp} (h : HasS w v l) (hb : Below w.heap.size w w') : HasS w' v l := RdL.below h hb
theorem hasS_iff {w : World} {v : Value} {l : List Stp} : HasS w v l ↔ ∃ R : List StR, HasR StR.enc 2 w v R ∧ R.length = l.length ∧ ∀ i (h : i < R.length) (h' : i < l.length), R[i].n = l[i].n ∧ HasX w R[i].tv l[i].ts := by
  constructor
  · rintro ⟨R, h1, h2, h3⟩
    rw [List.length_map] at h2
    exact ⟨R, h1, h2, fun i h h' => by
      have := (h3 i h (by rw [List.length_map]; exact h')).1
      rw [List.getElem_map] at this; exact this⟩
  · rintro ⟨R, h1, h2, h3⟩
    refine ⟨R, h1, by rw [List.length_map]; exact h2, fun i h h' => ⟨?_, ?_⟩⟩
    · rw [List.getElem_map]; exact h3 i h (by rw [List.length_map] at h'; exact h')
    · rw [List.getElem_map]; exact ⟨rfl, hasR_nil w⟩
/-- a path: what it says; how it lies -/
structure Pth where
  root : Bool
  ups : Int
  st : List Stp
structure PthV where
  root : Bool
  ups : Int
  sv : Value
abbrev PthV.val (v : PthV) : Value := .agg #[.bool v.root, .int .i64 v.ups, v.sv]
structure HasP7 (w : World) (v : PthV) (p : Pth) : Prop where
  root : v.root = p.root
  ups : v.ups = p.ups
  st : HasS w v.sv p.st
structure OwnP7 (B : Nat) (w : World) (v : PthV) (p : Pth) (S : Nat → Prop) : Prop where
  root : v.root = p.root
  ups : v.ups = p.ups
  st : OwnS B w v.sv p.st S
theorem HasP7.below {w w' : World} {v : PthV} {p : Pth} (h : HasP7 w v p) (hb : Below w.heap.size w w') : HasP7 w' v p := ⟨h.root, h.ups, h.st.below hb⟩
theorem OwnP7.has {B : Nat} {w : World} {v : PthV} {p : Pth} {S : Nat → Prop} (h : OwnP7 B w v p S) : HasP7 w v p := ⟨h.root, h.ups, OwL.rd h.st⟩
theorem OwnP7.below {B : Nat} {w w' : World} {v : PthV} {p : Pth} {S : Nat → Prop} (h : OwnP7 B w v p S) (hb : Below w.heap.size w w') : OwnP7 B w' v p S := ⟨h.root, h.ups, OwL.below h.st hb⟩
theorem OwnP7.apart {B : Nat} {w w' : World} {v : PthV} {p : Pth} {S S' : Nat → Prop} (h : OwnP7 B w v p S) (ht : TurnsAt S' w w') (hd : ∀ b, S b → S' b → False) : OwnP7 B w' v p S := ⟨h.root, h.ups, OwL.apart h.st ht hd⟩
/-- what a frame tells of a path's argument -/
def TstWf (x : Tst) : Prop := x.n.size ≤ 9223372036854775807 ∧ x.v.size ≤ 9223372036854775807
def StpWf (x : Stp) : Prop := x.n.size ≤ 9223372036854775807 ∧ ∀ t ∈ x.ts, TstWf t
def PthWf (p : Pth) : Prop := (-9223372036854775808 ≤ p.ups ∧ p.ups ≤ 9223372036854775807) ∧ ∀ s ∈ p.st, StpWf s
/-- at p lies the test x -/
def Xk (w : World) (p : Addr) (x : Tst) : Prop := w.cell? p = some (.string x.n) ∧ w.cell? ⟨p.block, p.off + 1, none⟩ = some (.string x.v)
theorem Xk.below {w w' : World} {p : Addr} {x : Tst} (h : Xk w p x) (hb : Below w.heap.size w w') (hp : p.block < w.heap.size) : Xk w' p x :=
  ⟨by rw [hb.cell hp]; exact h.1, by rw [hb.cell (p := ⟨p.block, p.off + 1, none⟩) hp]; exact h.2⟩
theorem HasX.xk {w : World} {A : Option Addr} {l : List Tst} (h : ∀ i (h : i < l.length), ∃ a, A = some a ∧ a.block < w.heap.size ∧ ∀ j x, (l[i].enc)[j]? = some x → w.cell? ((a.add (i * 2)).add j) = some x) (k : Nat) (hk : k < l.length) :
    ∃ a, A = some a ∧ (a.add (k * 2)).block < w.heap.size ∧ Xk w (a.add (k * 2)) l[k] := by
  obtain ⟨a, ha, hb, hc⟩ := h k hk
  exact ⟨a, ha, by rw [addr_blk]; exact hb, hc 0 _ rfl, hc 1 _ rfl⟩
/-- at p lies the step r -/
def Sk (w : World) (p : Addr) (r : StR) : Prop := w.cell? p = some (.string r.n) ∧ w.cell? ⟨p.block, p.off + 1, none⟩ = some r.tv
theorem Sk.below {w w' : World} {p : Addr} {r : StR} (h : Sk w p r) (hb : Below w.heap.size w w') (hp : p.block < w.heap.size) : Sk w' p r :=
  ⟨by rw [hb.cell hp]; exact h.1, by rw [hb.cell (p := ⟨p.block, p.off + 1, none⟩) hp]; exact h.2⟩
theorem HasSR.sk {w : World} {A : Option Addr} {R : List StR} (h : ∀ i (h : i < R.length), ∃ a, A = some a ∧ a.block < w.heap.size ∧ ∀ j x, (R[i].enc)[j]? = some x → w.cell? ((a.add (i * 2)).add j) = some x) (k : Nat) (hk : k < R.length) :
    ∃ a, A = some a ∧ (a.add (k * 2)).block < w.heap.size ∧ Sk w (a.add (k * 2)) R[k] := by
  obtain ⟨a, ha, hb, hc⟩ := h k hk
  exact ⟨a, ha, by rw [addr_blk]; exact hb, hc 0 _ rfl, hc 1 _ rfl⟩
/-- what the walk asks of a list of steps that is read: the i-th of them, its cells, its tests -/
theorem HasS.at {w : World} {v : Value} {l : List Stp} (h : HasS w v l) : ∃ (A : Option Addr) (cap : Nat), v = .slice A l.length cap ∧ l.length ≤ 9223372036854775807 ∧
    ∀ i (hi : i < l.length), ∃ (a : Addr) (r : StR), A = some a ∧ (a.add (i * 2)).block < w.heap.size ∧ Sk w (a.add (i * 2)) r ∧ r.n = l[i].n ∧ HasX w r.tv l[i].ts := by
  obtain ⟨R, ⟨A, cap, hv, hn, hc⟩, h2, h3⟩ := hasS_iff.1 h
  refine ⟨A, cap, by rw [← h2]; exact hv, by rw [← h2]; exact hn, fun i hi => ?_⟩
  have hi' : i < R.length := by rw [h2]; exact hi
  obtain ⟨a, ha, hb, hk⟩ := HasSR.sk hc i hi'
  exact ⟨a, R[i], ha, hb, hk, (h3 i hi' hi).1, (h3 i hi' hi).2⟩
section
variable {H : Type} {en : TypeId × Value → H} {w : World} {base : Nat} {spare : Nat → Bool} {held : Bool}
set_option maxRecDepth 100000 in
theorem tst_of_cells {n : Nat} {cs : List Value} {y : DataW H × List MemPlace} (h : DataW.trod en Try.prog w base spare held n 150 cs = some y) : ∃ x : Tst, cs = x.enc ∧ TstWf x := by
  obtain ⟨y0, y1, m, _, hl, h0, h1⟩ := trod_struct2 Try.underlying150 h
  rw [show Try.prog.cellsOf 150 = 2 by kernel_rfl] at hl
  match cs, hl with
  | [c0, c1], _ =>
    rw [show Try.prog.cellsOf 9 = 1 by kernel_rfl] at h0 h1
    obtain ⟨t, ht, _, hs⟩ := DataW.trod_string Try.underlying9 h0
    obtain ⟨u, hu, _, hs'⟩ := DataW.trod_string Try.underlying9 h1
    simp at ht hu
    subst ht hu
    exact ⟨⟨t, u⟩, rfl, by unfold maxLen at hs; dsimp only; omega, by unfold maxLen at hs'; dsimp only; omega⟩
set_option maxRecDepth 100000 in
theorem tsts_open {fuel : Nat} {cs : List Value} {x : DataW H × List MemPlace} (h : DataW.trod en Try.prog w base spare held fuel 141 cs = some x) :
    ∃ (a : Option Addr) (len cap : Nat) (l : List Tst), cs = [.slice a len cap] ∧ HasX w (.slice a len cap) l ∧ ∀ x ∈ l, TstWf x :=
  open_rows Try.underlying141 (by kernel_rfl) (by omega) (fun _ _ _ h => tst_of_cells h) h
set_option maxRecDepth 100000 in
theorem stp_of_cells {n : Nat} {cs : List Value} {y : DataW H × List MemPlace} (h : DataW.trod en Try.prog w base spare held n 143 cs = some y) : ∃ r : StR, cs = r.enc ∧ ∃ x : Stp, r.n = x.n ∧ HasX w r.tv x.ts ∧ StpWf x := by
  obtain ⟨y0, y1, m, _, hl, h0, h1⟩ := trod_struct2 Try.underlying143 h
  rw [show Try.prog.cellsOf 143 = 2 by kernel_rfl] at hl
  match cs, hl with
  | [c0, c1], _ =>
    rw [show Try.prog.cellsOf 9 = 1 by kernel_rfl] at h0
    rw [show Try.prog.cellsOf 141 = 1 by kernel_rfl] at h1
    obtain ⟨t, ht, _, hs⟩ := DataW.trod_string Try.underlying9 h0
    obtain ⟨a, n, c, l, e, g, b⟩ := tsts_open h1
    simp at ht e
    subst ht e
    exact ⟨⟨t, .slice a n c⟩, rfl, ⟨t, l⟩, rfl, g, by unfold maxLen at hs; dsimp only; omega, b⟩
set_option maxRecDepth 100000 in
theorem stps_open {fuel : Nat} {cs : List Value} {x : DataW H × List MemPlace} (h : DataW.trod en Try.prog w base spare held fuel 115 cs = some x) :
    ∃ (v : Value) (l : List Stp), cs = [v] ∧ HasS w v l ∧ ∀ x ∈ l, StpWf x := by
  obtain ⟨a, len, cap, R, hcs, hR, hg⟩ := open_rows (enc := StR.enc) (good := fun r => ∃ x : Stp, r.n = x.n ∧ HasX w r.tv x.ts ∧ StpWf x) Try.underlying115 (show Try.prog.cellsOf 143 = 2 by kernel_rfl) (by omega) (fun _ _ _ h => stp_of_cells h) h
  have hls : ∃ l : List Stp, l.length = R.length ∧ ∀ i (h : i < l.length) (h' : i < R.length), R[i].n = l[i].n ∧ HasX w R[i].tv l[i].ts ∧ StpWf l[i] := by
    refine ⟨R.attach.map fun r => Classical.choose (hg r.1 r.2), by simp, fun i h h' => ?_⟩
    simp only [List.getElem_map, List.getElem_attach]
    exact Classical.choose_spec (hg R[i] (List.getElem_mem h'))
  obtain ⟨l, hl, hp⟩ := hls
  refine ⟨_, l, hcs, hasS_iff.2 ⟨R, hR, hl.symm, fun i h h' => ⟨(hp i h' h).1, (hp i h' h).2.1⟩⟩, fun x hx => ?_⟩
  obtain ⟨i, hi, rfl⟩ := List.getElem_of_mem hx
  exact (hp i hi (by rw [← hl]; exact hi)).2.2
theorem trod_struct3' {P : Program} {t : TypeId} {f0 f1 f2 : Field} {fuel : Nat} {cs : List Value} {x : DataW H × List MemPlace} (ht : P.underlying t = some (.struct #[f0, f1, f2])) (h : DataW.trod en P w base spare held fuel t cs = some x) :
    ∃ y0 y1 y2 n, cs.length = P.cellsOf t ∧ DataW.trod en P w base spare held n f0.type ((cs.drop f0.offset).take (P.cellsOf f0.type)) = some y0 ∧
      DataW.trod en P w base spare held n f1.type ((cs.drop f1.offset).take (P.cellsOf f1.type)) = some y1 ∧ DataW.trod en P w base spare held n f2.type ((cs.drop f2.offset).take (P.cellsOf f2.type)) = some y2 := by
  obtain ⟨xs, n, _, rfl, hl, hlen, hf⟩ := DataW.trod_struct ht h
  match xs, hlen with
  | [y0, y1, y2], _ => exact ⟨y0, y1, y2, n, hl, by simpa using hf 0 f0 rfl, by simpa using hf 1 f1 rfl, by simpa using hf 2 f2 rfl⟩
set_option maxRecDepth 100000 in
theorem pth_of_cells {n : Nat} {cs : List Value} {y : DataW H × List MemPlace} (h : DataW.trod en Try.prog w base spare held n 117 cs = some y) :
    ∃ (v : PthV) (p : Pth), cs = [.bool v.root, .int .i64 v.ups, v.sv] ∧ HasP7 w v p ∧ PthWf p := by
  obtain ⟨y0, y1, y2, m, hl, h0, h1, h2⟩ := trod_struct3' Try.underlying117 h
  rw [show Try.prog.cellsOf 117 = 3 by kernel_rfl] at hl
  match cs, hl with
  | [c0, c1, c2], _ =>
    rw [show Try.prog.cellsOf 4 = 1 by kernel_rfl] at h0
    rw [show Try.prog.cellsOf 3 = 1 by kernel_rfl] at h1
    rw [show Try.prog.cellsOf 115 = 1 by kernel_rfl] at h2
    obtain ⟨b, hb, _⟩ := DataW.trod_bool Try.underlying4 h0
    obtain ⟨k, hk, _, kw⟩ := DataW.trod_int Try.underlying3 h1
    obtain ⟨v, l, e, g, q⟩ := stps_open h2
    simp at hb hk e
    subst hb hk e
    exact ⟨⟨b, k, c2⟩, ⟨b, k, l⟩, rfl, ⟨rfl, rfl, g⟩, wf_i64 kw, q⟩
set_option maxRecDepth 100000 in
theorem pth_open {r : Reach} {b0 : Nat} {v : Value} {d : DataW H} {p : List MemPlace} (hv : Value.okWide Try.prog w r b0 117 v) (h : DataW.Trod en Try.prog w base spare held 117 v d p) :
    ∃ (y : PthV) (t : Pth), v = y.val ∧ HasP7 w y t ∧ PthWf t := by
  obtain ⟨cs, rfl, hsz⟩ := okWide_struct Try.underlying117 hv
  obtain ⟨fuel, hf⟩ := h
  obtain ⟨y, t, hy, h1, h2⟩ := pth_of_cells hf
  refine ⟨y, t, ?_, h1, h2⟩
  have : cs.toList = [.bool y.root, .int .i64 y.ups, y.sv] := hy
  rw [← Array.toArray_toList (xs := cs), this]
end
end Go.Proofs.Ytdkpleghpnflhaa
