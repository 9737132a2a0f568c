/- CHAPTER 10: MODULES IN MEMORY: groups and augments as records with lists of schemas, an argument opened. PRINTED by tools/gen_mo.py. -/
import Derived.Test.YtdkpleghpnflhaaScAb
set_option linter.unusedVariables false
set_option linter.unusedSimpArgs false
namespace Go.Proofs.Ytdkpleghpnflhaa
open Go.RowKit Go.ChangeShapes Go.WideShapes Go.Deep Go.Joins
set_option maxRecDepth 100000

/-- a list of schemas that is read; that is owned -/
abbrev HasSs (w : World) (v : Value) (l : List Sc) : Prop := ∃ d, RdL scK d w v l
abbrev OwnSs (B : Nat) (w : World) (v : Value) (l : List Sc) (S : Nat → Prop) : Prop := ∃ d, OwL scK d B w v l S
structure Grp where
  n : ByteArray
  l : List Sc
structure GpR where
  n : ByteArray
  kv : Value
def GpR.enc (r : GpR) : List Value := [.string r.n, r.kv]
theorem GpR.enc_len (r : GpR) : r.enc.length = 2 := rfl
def gpK : Kd Grp where
  ρ := GpR
  enc := GpR.enc
  z := 2
  E := 85
  kv := fun _ => .slice none 0 0
  hz := fun _ => rfl
  rd := fun w r x => r.n = x.n ∧ HasSs w r.kv x.l
  own := fun B w r x S => r.n = x.n ∧ OwnSs B w r.kv x.l S
  rd_below := fun h hb => ⟨h.1, h.2.imp fun _ h => h.below hb⟩
  own_rd := fun h => ⟨h.1, h.2.imp fun _ h => h.rd⟩
  own_frame := fun h hf => ⟨h.1, h.2.imp fun _ h => h.frame hf⟩
  own_lt := fun h b hb => by obtain ⟨_, _, h⟩ := h; exact h.lt b hb
  own_mono := fun h hb => ⟨h.1, h.2.imp fun _ h => h.mono hb⟩
structure Aug where
  ns : List ByteArray
  l : List Sc
structure AuR where
  nv : Value
  kv : Value
def AuR.enc (r : AuR) : List Value := [r.nv, r.kv]
theorem AuR.enc_len (r : AuR) : r.enc.length = 2 := rfl
def auK : Kd Aug where
  ρ := AuR
  enc := AuR.enc
  z := 2
  E := 88
  kv := fun _ => .slice none 0 0
  hz := fun _ => rfl
  rd := fun w r x => Has w r.nv x.ns ∧ HasSs w r.kv x.l
  own := fun B w r x S => ∃ S2, Row B w r.nv x.ns ∧ OwnSs B w r.kv x.l S2 ∧ (∀ b, r.nv.ownBlock = some b → S2 b → False) ∧ ∀ b, S b ↔ r.nv.ownBlock = some b ∨ S2 b
  rd_below := fun h hb => ⟨h.1.below hb, h.2.imp fun _ h => h.below hb⟩
  own_rd := fun ⟨_, h1, h2, _⟩ => ⟨h1.has, h2.imp fun _ h => h.rd⟩
  own_frame := fun ⟨S2, h1, h2, h3, h4⟩ hf => ⟨S2, row_frame h1 fun b e => hf b ((h4 b).2 (.inl e)), h2.imp fun _ h => h.frame fun b e => hf b ((h4 b).2 (.inr e)), h3, h4⟩
  own_lt := fun ⟨S2, h1, h2, h3, h4⟩ b hb => by
    rcases (h4 b).1 hb with h | h
    · exact h1.lt h
    · obtain ⟨_, h2⟩ := h2; exact h2.lt b h
  own_mono := fun ⟨S2, h1, h2, h3, h4⟩ hb => ⟨S2, h1.mono hb, h2.imp fun _ h => h.mono hb, h3, h4⟩
/-- a record as a tree without kids -/
def lfG (x : Grp) : Tr Grp := .mk x []
abbrev HasGroup (w : World) (v : Value) (l : List Grp) : Prop := RdL gpK 1 w v (l.map lfG)
abbrev OwnGroup (B : Nat) (w : World) (v : Value) (l : List Grp) (S : Nat → Prop) : Prop := OwL gpK 1 B w v (l.map lfG) S
theorem hasGroup_iff {w : World} {v : Value} {l : List Grp} : HasGroup w v l ↔ ∃ R : List GpR, HasR GpR.enc 2 w v R ∧ R.length = l.length ∧ ∀ i (h : i < R.length) (h' : i < l.length), gpK.rd w R[i] l[i] := by
  constructor
  · rintro ⟨R, h1, h2, h3⟩
    rw [List.length_map] at h2
    exact ⟨R, h1, h2, fun i h h' => by
      have := (h3 i h (by rw [List.length_map]; exact h')).1
      rw [List.getElem_map] at this; exact this⟩
  · rintro ⟨R, h1, h2, h3⟩
    refine ⟨R, h1, by rw [List.length_map]; exact h2, fun i h h' => ⟨?_, ?_⟩⟩
    · rw [List.getElem_map]; exact h3 i h (by rw [List.length_map] at h'; exact h')
    · rw [List.getElem_map]; exact ⟨rfl, hasR_nil w⟩
/-- at p lies the record r -/
def GpRk (w : World) (p : Addr) (r : GpR) : Prop := w.cell? p = some (.string r.n) ∧ w.cell? ⟨p.block, p.off + 1, none⟩ = some r.kv
theorem GpRk.below {w w' : World} {p : Addr} {r : GpR} (h : GpRk w p r) (hb : Below w.heap.size w w') (hp : p.block < w.heap.size) : GpRk w' p r :=
  ⟨by rw [hb.cell hp]; exact h.1, by rw [hb.cell (p := ⟨p.block, p.off + 1, none⟩) hp]; exact h.2⟩
theorem HasGroup.at {w : World} {v : Value} {l : List Grp} (h : HasGroup w v l) : ∃ (A : Option Addr) (cap : Nat), v = .slice A l.length cap ∧ l.length ≤ 9223372036854775807 ∧
    ∀ i (hi : i < l.length), ∃ (a : Addr) (r : GpR), A = some a ∧ (a.add (i * 2)).block < w.heap.size ∧ GpRk w (a.add (i * 2)) r ∧ gpK.rd w r l[i] := by
  obtain ⟨R, ⟨A, cap, hv, hn, hc⟩, h2, h3⟩ := hasGroup_iff.1 h
  refine ⟨A, cap, by rw [← h2]; exact hv, by rw [← h2]; exact hn, fun i hi => ?_⟩
  have hi' : i < R.length := by rw [h2]; exact hi
  obtain ⟨a, ha, hb, hk⟩ := hc i hi'
  exact ⟨a, R[i], ha, by rw [addr_blk]; exact hb, ⟨hk 0 _ rfl, hk 1 _ rfl⟩, h3 i hi' hi⟩
/-- a record as a tree without kids -/
def lfA (x : Aug) : Tr Aug := .mk x []
abbrev HasAugment (w : World) (v : Value) (l : List Aug) : Prop := RdL auK 1 w v (l.map lfA)
abbrev OwnAugment (B : Nat) (w : World) (v : Value) (l : List Aug) (S : Nat → Prop) : Prop := OwL auK 1 B w v (l.map lfA) S
theorem hasAugment_iff {w : World} {v : Value} {l : List Aug} : HasAugment w v l ↔ ∃ R : List AuR, HasR AuR.enc 2 w v R ∧ R.length = l.length ∧ ∀ i (h : i < R.length) (h' : i < l.length), auK.rd w R[i] l[i] := by
  constructor
  · rintro ⟨R, h1, h2, h3⟩
    rw [List.length_map] at h2
    exact ⟨R, h1, h2, fun i h h' => by
      have := (h3 i h (by rw [List.length_map]; exact h')).1
      rw [List.getElem_map] at this; exact this⟩
  · rintro ⟨R, h1, h2, h3⟩
    refine ⟨R, h1, by rw [List.length_map]; exact h2, fun i h h' => ⟨?_, ?_⟩⟩
    · rw [List.getElem_map]; exact h3 i h (by rw [List.length_map] at h'; exact h')
    · rw [List.getElem_map]; exact ⟨rfl, hasR_nil w⟩
/-- at p lies the record r -/
def AuRk (w : World) (p : Addr) (r : AuR) : Prop := w.cell? p = some (r.nv) ∧ w.cell? ⟨p.block, p.off + 1, none⟩ = some r.kv
theorem AuRk.below {w w' : World} {p : Addr} {r : AuR} (h : AuRk w p r) (hb : Below w.heap.size w w') (hp : p.block < w.heap.size) : AuRk w' p r :=
  ⟨by rw [hb.cell hp]; exact h.1, by rw [hb.cell (p := ⟨p.block, p.off + 1, none⟩) hp]; exact h.2⟩
theorem HasAugment.at {w : World} {v : Value} {l : List Aug} (h : HasAugment w v l) : ∃ (A : Option Addr) (cap : Nat), v = .slice A l.length cap ∧ l.length ≤ 9223372036854775807 ∧
    ∀ i (hi : i < l.length), ∃ (a : Addr) (r : AuR), A = some a ∧ (a.add (i * 2)).block < w.heap.size ∧ AuRk w (a.add (i * 2)) r ∧ auK.rd w r l[i] := by
  obtain ⟨R, ⟨A, cap, hv, hn, hc⟩, h2, h3⟩ := hasAugment_iff.1 h
  refine ⟨A, cap, by rw [← h2]; exact hv, by rw [← h2]; exact hn, fun i hi => ?_⟩
  have hi' : i < R.length := by rw [h2]; exact hi
  obtain ⟨a, ha, hb, hk⟩ := hc i hi'
  exact ⟨a, R[i], ha, by rw [addr_blk]; exact hb, ⟨hk 0 _ rfl, hk 1 _ rfl⟩, h3 i hi' hi⟩
structure Mod where
  n : ByteArray
  gs : List Grp
  b : List Sc
  us : List Aug
structure MoV where
  n : ByteArray
  gv : Value
  bv : Value
  av : Value
abbrev MoV.val (v : MoV) : Value := .agg #[.string v.n, v.gv, v.bv, v.av]
structure HasMo (w : World) (v : MoV) (m : Mod) : Prop where
  n : v.n = m.n
  gs : HasGroup w v.gv m.gs
  b : HasSs w v.bv m.b
  us : HasAugment w v.av m.us
theorem HasMo.below {w w' : World} {v : MoV} {m : Mod} (h : HasMo w v m) (hb : Below w.heap.size w w') : HasMo w' v m := ⟨h.n, RdL.below h.gs hb, h.b.imp fun _ h => h.below hb, RdL.below h.us hb⟩
/-- the same, the call's own: K tells the blocks of the three lists -/
structure OwnMo (B : Nat) (w : World) (v : MoV) (m : Mod) (K : Nat → Nat → Prop) : Prop where
  n : v.n = m.n
  gs : OwnGroup B w v.gv m.gs (K 0)
  b : OwnSs B w v.bv m.b (K 1)
  us : OwnAugment B w v.av m.us (K 2)
  apart : ∀ i j b, i < 3 → j < 3 → K i b → K j b → i = j
theorem OwnMo.rd {B : Nat} {w : World} {v : MoV} {m : Mod} {K : Nat → Nat → Prop} (h : OwnMo B w v m K) : HasMo w v m := ⟨h.n, h.gs.rd, h.b.imp fun _ h => h.rd, h.us.rd⟩
theorem OwnMo.below {B : Nat} {w w' : World} {v : MoV} {m : Mod} {K : Nat → Nat → Prop} (h : OwnMo B w v m K) (hb : Below w.heap.size w w') : OwnMo B w' v m K := ⟨h.n, OwL.below h.gs hb, h.b.imp fun _ h => h.below hb, OwL.below h.us hb, h.apart⟩
theorem OwnMo.lt {B : Nat} {w : World} {v : MoV} {m : Mod} {K : Nat → Nat → Prop} (h : OwnMo B w v m K) {i b : Nat} (hi : i < 3) (hb : K i b) : B ≤ b ∧ b < w.heap.size := by
  match i, hi with
  | 0, _ => exact OwL.lt h.gs b hb
  | 1, _ => obtain ⟨_, h⟩ := h.b; exact h.lt b hb
  | 2, _ => exact OwL.lt h.us b hb
theorem OwnMo.turns {B : Nat} {w w' : World} {v : MoV} {m : Mod} {K : Nat → Nat → Prop} {S : Nat → Prop} (h : OwnMo B w v m K) (ht : TurnsAt S w w') (hd : ∀ i b, i < 3 → K i b → ¬ S b) : OwnMo B w' v m K :=
  ⟨h.n, OwL.apart h.gs ht (fun b h1 h2 => hd 0 b (by omega) h1 h2), h.b.imp fun _ h => OwL.apart h ht (fun b h1 h2 => hd 1 b (by omega) h1 h2), OwL.apart h.us ht (fun b h1 h2 => hd 2 b (by omega) h1 h2), h.apart⟩
/-- what a frame tells of a module -/
def GrpWf (x : Grp) : Prop := x.n.size ≤ 9223372036854775807 ∧ ∀ e, FitT ScWf e x.l
def AugWf (x : Aug) : Prop := (∀ s ∈ x.ns, s.size ≤ 9223372036854775807) ∧ ∀ e, FitT ScWf e x.l
structure ModWf (m : Mod) : Prop where
  n : m.n.size ≤ 9223372036854775807
  gs : ∀ x ∈ m.gs, GrpWf x
  b : ∀ e, FitT ScWf e m.b
  us : ∀ x ∈ m.us, AugWf x
section
variable {H : Type} {en : TypeId × Value → H} {w : World} {base : Nat} {spare : Nat → Bool} {held : Bool}
theorem gp_of_cells {n : Nat} {cs : List Value} {y : DataW H × List MemPlace} (h : DataW.trod en Try.prog w base spare held n 78 cs = some y) : ∃ r : GpR, cs = r.enc ∧ ∃ x : Grp, gpK.rd w r x ∧ GrpWf x := by
  obtain ⟨y0, y1, m, _, hl, h0, h1⟩ := trod_struct2 Try.underlying78 h
  rw [show Try.prog.cellsOf 78 = 2 by kernel_rfl] at hl
  match cs, hl with
  | [c0, c1], _ =>
    rw [show Try.prog.cellsOf 9 = 1 by kernel_rfl] at h0
    rw [show Try.prog.cellsOf 23 = 1 by kernel_rfl] at h1
    obtain ⟨t, ht, _, hs⟩ := DataW.trod_string Try.underlying9 h0
    obtain ⟨v, l, e, g, b⟩ := scs_open h1
    simp at ht e
    subst ht e
    exact ⟨⟨t, c1⟩, rfl, ⟨t, l⟩, ⟨rfl, g⟩, by unfold maxLen at hs; dsimp only; omega, b⟩
theorem au_of_cells {n : Nat} {cs : List Value} {y : DataW H × List MemPlace} (h : DataW.trod en Try.prog w base spare held n 81 cs = some y) : ∃ r : AuR, cs = r.enc ∧ ∃ x : Aug, auK.rd w r x ∧ AugWf x := by
  obtain ⟨y0, y1, m, _, hl, h0, h1⟩ := trod_struct2 Try.underlying81 h
  rw [show Try.prog.cellsOf 81 = 2 by kernel_rfl] at hl
  match cs, hl with
  | [c0, c1], _ =>
    rw [show Try.prog.cellsOf 29 = 1 by kernel_rfl] at h0
    rw [show Try.prog.cellsOf 23 = 1 by kernel_rfl] at h1
    obtain ⟨a, n, q, l0, e0, g0, b0⟩ := strs_open h0
    obtain ⟨v, l, e, g, b⟩ := scs_open h1
    simp at e0 e
    subst e0 e
    exact ⟨⟨.slice a n q, c1⟩, rfl, ⟨l0, l⟩, ⟨g0, g⟩, b0, b⟩
theorem gps_open {fuel : Nat} {cs : List Value} {x : DataW H × List MemPlace} (h : DataW.trod en Try.prog w base spare held fuel 22 cs = some x) :
    ∃ (v : Value) (l : List Grp), cs = [v] ∧ HasGroup w v l ∧ ∀ x ∈ l, GrpWf x := by
  obtain ⟨a, len, cap, R, hcs, hR, hg⟩ := open_rows (enc := GpR.enc) (good := fun r => ∃ x : Grp, gpK.rd w r x ∧ GrpWf x) Try.underlying22 (show Try.prog.cellsOf 78 = 2 by kernel_rfl) (by omega) (fun _ _ _ h => gp_of_cells h) h
  have hls : ∃ l : List Grp, l.length = R.length ∧ ∀ i (h : i < l.length) (h' : i < R.length), gpK.rd w R[i] l[i] ∧ GrpWf l[i] := by
    refine ⟨R.attach.map fun r => Classical.choose (hg r.1 r.2), by simp, fun i h h' => ?_⟩
    simp only [List.getElem_map, List.getElem_attach]
    exact Classical.choose_spec (hg R[i] (List.getElem_mem h'))
  obtain ⟨l, hl, hp⟩ := hls
  refine ⟨_, l, hcs, hasGroup_iff.2 ⟨R, hR, hl.symm, fun i h h' => (hp i h' h).1⟩, fun x hx => ?_⟩
  obtain ⟨i, hi, rfl⟩ := List.getElem_of_mem hx
  exact (hp i hi (by rw [← hl]; exact hi)).2
theorem aus_open {fuel : Nat} {cs : List Value} {x : DataW H × List MemPlace} (h : DataW.trod en Try.prog w base spare held fuel 24 cs = some x) :
    ∃ (v : Value) (l : List Aug), cs = [v] ∧ HasAugment w v l ∧ ∀ x ∈ l, AugWf x := by
  obtain ⟨a, len, cap, R, hcs, hR, hg⟩ := open_rows (enc := AuR.enc) (good := fun r => ∃ x : Aug, auK.rd w r x ∧ AugWf x) Try.underlying24 (show Try.prog.cellsOf 81 = 2 by kernel_rfl) (by omega) (fun _ _ _ h => au_of_cells h) h
  have hls : ∃ l : List Aug, l.length = R.length ∧ ∀ i (h : i < l.length) (h' : i < R.length), auK.rd w R[i] l[i] ∧ AugWf l[i] := by
    refine ⟨R.attach.map fun r => Classical.choose (hg r.1 r.2), by simp, fun i h h' => ?_⟩
    simp only [List.getElem_map, List.getElem_attach]
    exact Classical.choose_spec (hg R[i] (List.getElem_mem h'))
  obtain ⟨l, hl, hp⟩ := hls
  refine ⟨_, l, hcs, hasAugment_iff.2 ⟨R, hR, hl.symm, fun i h h' => (hp i h' h).1⟩, fun x hx => ?_⟩
  obtain ⟨i, hi, rfl⟩ := List.getElem_of_mem hx
  exact (hp i hi (by rw [← hl]; exact hi)).2
theorem mo_of_cells {n : Nat} {cs : List Value} {y : DataW H × List MemPlace} (h : DataW.trod en Try.prog w base spare held n 26 cs = some y) :
    ∃ (v : MoV) (m : Mod), cs = [.string v.n, v.gv, v.bv, v.av] ∧ HasMo w v m ∧ ModWf m := by
  obtain ⟨xs, m, hn, _, hl, hlen, hf⟩ := DataW.trod_struct Try.underlying26 h
  have get : ∀ i (hi : i < 4), ∃ y, xs[i]? = some y := fun i hi => ⟨xs[i]'(by rw [hlen]; exact hi), List.getElem?_eq_getElem _⟩
  obtain ⟨y0, g0⟩ := get 0 (by omega)
  obtain ⟨y1, g1⟩ := get 1 (by omega)
  obtain ⟨y2, g2⟩ := get 2 (by omega)
  obtain ⟨y3, g3⟩ := get 3 (by omega)
  have h0 : DataW.trod en Try.prog w base spare held m 9 ((cs.drop 0).take (Try.prog.cellsOf 9)) = some y0 := (hf 0 _ rfl).trans g0
  have h1 : DataW.trod en Try.prog w base spare held m 22 ((cs.drop 1).take (Try.prog.cellsOf 22)) = some y1 := (hf 1 _ rfl).trans g1
  have h2 : DataW.trod en Try.prog w base spare held m 23 ((cs.drop 2).take (Try.prog.cellsOf 23)) = some y2 := (hf 2 _ rfl).trans g2
  have h3 : DataW.trod en Try.prog w base spare held m 24 ((cs.drop 3).take (Try.prog.cellsOf 24)) = some y3 := (hf 3 _ rfl).trans g3
  rw [show Try.prog.cellsOf 26 = 4 by kernel_rfl] at hl
  match cs, hl with
  | [c0, c1, c2, c3], _ =>
    rw [show Try.prog.cellsOf 9 = 1 by kernel_rfl] at h0
    rw [show Try.prog.cellsOf 22 = 1 by kernel_rfl] at h1
    rw [show Try.prog.cellsOf 23 = 1 by kernel_rfl] at h2
    rw [show Try.prog.cellsOf 24 = 1 by kernel_rfl] at h3
    obtain ⟨t, e0, _, z0⟩ := DataW.trod_string Try.underlying9 h0
    obtain ⟨v1, l1, e1, r1, z1⟩ := gps_open h1
    obtain ⟨v2, l2, e2, r2, z2⟩ := scs_open h2
    obtain ⟨v3, l3, e3, r3, z3⟩ := aus_open h3
    simp at e0 e1 e2 e3
    subst e0 e1 e2 e3
    exact ⟨⟨t, c1, c2, c3⟩, ⟨t, l1, l2, l3⟩, rfl, ⟨rfl, r1, r2, r3⟩, by unfold maxLen at z0; dsimp only; omega, z1, z2, z3⟩
theorem mo_open {r : Reach} {b0 : Nat} {v : Value} {d : DataW H} {p : List MemPlace} (hv : Value.okWide Try.prog w r b0 26 v) (h : DataW.Trod en Try.prog w base spare held 26 v d p) :
    ∃ (y : MoV) (t : Mod), v = y.val ∧ HasMo w y t ∧ ModWf t := by
  obtain ⟨cs, rfl, hsz⟩ := okWide_struct Try.underlying26 hv
  obtain ⟨fuel, hf⟩ := h
  obtain ⟨y, t, hy, h1, h2⟩ := mo_of_cells hf
  refine ⟨y, t, ?_, h1, h2⟩
  have : cs.toList = [.string y.n, y.gv, y.bv, y.av] := hy
  rw [← Array.toArray_toList (xs := cs), this]
end
end Go.Proofs.Ytdkpleghpnflhaa
