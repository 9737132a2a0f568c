/- MERGED for a claim: Sc ScA. -/
import Derived.Test.YtdkpleghpnflhaaTyO
import Derived.Test.YtdkpleghpnflhaaExB
import Derived.Test.YtdkpleghpnflhaaWkA
import Derived.Deep.MidRow
set_option linter.unusedVariables false
set_option linter.unusedSimpArgs false
/- CHAPTER 9: SCHEMAS AS TREES IN MEMORY: how they lie (19 cells a node), an argument opened. -/
namespace Go.Proofs.Ytdkpleghpnflhaa
open Go.RowKit Go.ChangeShapes Go.WideShapes Go.Deep Go.Joins
set_option maxRecDepth 100000

/-- what a node says besides its kids; how one lies -/
structure ScX where
  kind : Int
  name : ByteArray
  ty : Ty
  keys : List ByteArray
  uniq : List ByteArray
  dflt : ByteArray
  given : Bool
  needed : Bool
  present : Bool
  fixed : Bool
  min : Int
  max : Int
  when : List Ex
  must : List Ex
structure ScR where
  kind : Int
  name : ByteArray
  tv : TyV
  vk : Value
  vu : Value
  dflt : ByteArray
  given : Bool
  needed : Bool
  present : Bool
  fixed : Bool
  min : Int
  max : Int
  wv : Value
  mv : Value
  kv : Value
def ScR.enc (r : ScR) : List Value := [.int .i64 r.kind, .string r.name, .int .i64 r.tv.k, r.tv.vr, r.tv.vn, .string r.tv.pt, .string r.tv.ph, r.vk, r.vu, .string r.dflt, .bool r.given, .bool r.needed, .bool r.present, .bool r.fixed, .int .i64 r.min, .int .i64 r.max, r.wv, r.mv, r.kv]
abbrev ScR.val (r : ScR) : Value := .agg #[.int .i64 r.kind, .string r.name, .int .i64 r.tv.k, r.tv.vr, r.tv.vn, .string r.tv.pt, .string r.tv.ph, r.vk, r.vu, .string r.dflt, .bool r.given, .bool r.needed, .bool r.present, .bool r.fixed, .int .i64 r.min, .int .i64 r.max, r.wv, r.mv, r.kv]
theorem ScR.enc_len (r : ScR) : r.enc.length = 19 := rfl
/-- the fields that lie in the cells themselves -/
structure ScEq (r : ScR) (x : ScX) : Prop where
  kind : r.kind = x.kind
  name : r.name = x.name
  dflt : r.dflt = x.dflt
  given : r.given = x.given
  needed : r.needed = x.needed
  present : r.present = x.present
  fixed : r.fixed = x.fixed
  min : r.min = x.min
  max : r.max = x.max
structure ScRd (w : World) (r : ScR) (x : ScX) : Prop where
  eq : ScEq r x
  ty : HasTy w r.tv x.ty
  keys : Has w r.vk x.keys
  uniq : Has w r.vu x.uniq
  when : ∃ d, RdL exK d w r.wv x.when
  must : ∃ d, RdL exK d w r.mv x.must
theorem ScRd.below {w w' : World} {r : ScR} {x : ScX} (h : ScRd w r x) (hb : Below w.heap.size w w') : ScRd w' r x :=
  ⟨h.eq, h.ty.below hb, h.keys.below hb, h.uniq.below hb, h.when.imp fun _ h => h.below hb, h.must.imp fun _ h => h.below hb⟩
/-- the same, the call's own: K tells the blocks of its six lists -/
structure ScOw (B : Nat) (w : World) (r : ScR) (x : ScX) (K : Nat → Nat → Prop) : Prop where
  eq : ScEq r x
  tk : r.tv.k = x.ty.k
  tp : r.tv.pt = x.ty.pt
  th : r.tv.ph = x.ty.ph
  rg : RowG B w r.tv.vr x.ty.rg
  nm : Row B w r.tv.vn x.ty.nm
  keys : Row B w r.vk x.keys
  uniq : Row B w r.vu x.uniq
  when : ∃ d, OwL exK d B w r.wv x.when (K 4)
  must : ∃ d, OwL exK d B w r.mv x.must (K 5)
  k0 : ∀ b, K 0 b ↔ r.tv.vr.ownBlock = some b
  k1 : ∀ b, K 1 b ↔ r.tv.vn.ownBlock = some b
  k2 : ∀ b, K 2 b ↔ r.vk.ownBlock = some b
  k3 : ∀ b, K 3 b ↔ r.vu.ownBlock = some b
  apart : ∀ i j b, i < 6 → j < 6 → K i b → K j b → i = j
theorem ScOw.rd {B : Nat} {w : World} {r : ScR} {x : ScX} {K : Nat → Nat → Prop} (h : ScOw B w r x K) : ScRd w r x :=
  ⟨h.eq, ⟨h.tk, RowR.hasG h.rg, h.nm.has, h.tp, h.th⟩, h.keys.has, h.uniq.has, h.when.imp fun _ h => h.rd, h.must.imp fun _ h => h.rd⟩
theorem row_frame {B : Nat} {w w' : World} {v : Value} {l : List ByteArray} (h : Row B w v l) (hf : ∀ b, v.ownBlock = some b → w'.heap[b]? = w.heap[b]?) : Row B w' v l := by
  refine ⟨h.1, ?_⟩
  rcases h.2 with hn | ⟨g, cap, cur, rfl, hb, hg, rest⟩
  · exact .inl hn
  · exact .inr ⟨g, cap, cur, rfl, hb, (hf g rfl).trans hg, rest⟩
theorem ScOw.frame {B : Nat} {w w' : World} {r : ScR} {x : ScX} {K : Nat → Nat → Prop} (h : ScOw B w r x K) (hf : ∀ i b, i < 6 → K i b → w'.heap[b]? = w.heap[b]?) : ScOw B w' r x K :=
  ⟨h.eq, h.tk, h.tp, h.th, rowR_frame h.rg fun b hb => hf 0 b (by omega) ((h.k0 b).2 hb), row_frame h.nm fun b hb => hf 1 b (by omega) ((h.k1 b).2 hb), row_frame h.keys fun b hb => hf 2 b (by omega) ((h.k2 b).2 hb), row_frame h.uniq fun b hb => hf 3 b (by omega) ((h.k3 b).2 hb),
   h.when.imp fun _ h => h.frame fun b hb => hf 4 b (by omega) hb, h.must.imp fun _ h => h.frame fun b hb => hf 5 b (by omega) hb, h.k0, h.k1, h.k2, h.k3, h.apart⟩
theorem ScOw.lt {B : Nat} {w : World} {r : ScR} {x : ScX} {K : Nat → Nat → Prop} (h : ScOw B w r x K) {i b : Nat} (hi : i < 6) (hk : K i b) : B ≤ b ∧ b < w.heap.size := by
  match i, hi with
  | 0, _ => exact RowR.lt h.rg ((h.k0 b).1 hk)
  | 1, _ => exact h.nm.lt ((h.k1 b).1 hk)
  | 2, _ => exact h.keys.lt ((h.k2 b).1 hk)
  | 3, _ => exact h.uniq.lt ((h.k3 b).1 hk)
  | 4, _ => obtain ⟨d, h⟩ := h.when; exact h.lt b hk
  | 5, _ => obtain ⟨d, h⟩ := h.must; exact h.lt b hk
theorem ScOw.mono {B B' : Nat} {w : World} {r : ScR} {x : ScX} {K : Nat → Nat → Prop} (h : ScOw B w r x K) (hb : B' ≤ B) : ScOw B' w r x K :=
  ⟨h.eq, h.tk, h.tp, h.th, RowR.mono h.rg hb, h.nm.mono hb, h.keys.mono hb, h.uniq.mono hb, h.when.imp fun _ h => h.mono hb, h.must.imp fun _ h => h.mono hb, h.k0, h.k1, h.k2, h.k3, h.apart⟩
def scK : Kd ScX where
  ρ := ScR
  enc := ScR.enc
  z := 19
  E := 59
  kv := ScR.kv
  hz := fun _ => rfl
  rd := ScRd
  own := fun B w r x S => ∃ K, ScOw B w r x K ∧ ∀ b, S b ↔ ∃ i, i < 6 ∧ K i b
  rd_below := fun h hb => h.below hb
  own_rd := fun ⟨_, h, _⟩ => h.rd
  own_frame := fun ⟨K, h, hs⟩ hf => ⟨K, h.frame fun i b hi hk => hf b ((hs b).2 ⟨i, hi, hk⟩), hs⟩
  own_lt := fun ⟨_, h, hs⟩ b hb => by obtain ⟨i, hi, hk⟩ := (hs b).1 hb; exact h.lt hi hk
  own_mono := fun ⟨K, h, hs⟩ hb => ⟨K, h.mono hb, hs⟩
abbrev Sc := Tr ScX
theorem scK_z : (scK).z = 19 := rfl
/-- what a frame tells of a node's fields -/
structure ScWf (x : ScX) : Prop where
  name : x.name.size ≤ 9223372036854775807
  ty : TyWf x.ty
  keys : ∀ s ∈ x.keys, s.size ≤ 9223372036854775807
  uniq : ∀ s ∈ x.uniq, s.size ≤ 9223372036854775807
  dflt : x.dflt.size ≤ 9223372036854775807
  kind : -9223372036854775808 ≤ x.kind ∧ x.kind ≤ 9223372036854775807
  min : -9223372036854775808 ≤ x.min ∧ x.min ≤ 9223372036854775807
  max : -9223372036854775808 ≤ x.max ∧ x.max ≤ 9223372036854775807
  when : ∀ d, FitT ExWf d x.when
  must : ∀ d, FitT ExWf d x.must
section
variable {H : Type} {en : TypeId × Value → H} {w : World} {base : Nat} {spare : Nat → Bool} {held : Bool}
theorem exs_open {fuel : Nat} {cs : List Value} {x : DataW H × List MemPlace} (h : DataW.trod en Try.prog w base spare held fuel 51 cs = some x) :
    ∃ (v : Value) (l : List Ex), cs = [v] ∧ (∃ d, RdL exK d w v l) ∧ ∀ e, FitT ExWf e l := by
  obtain ⟨v, l, hv, hl, hf⟩ := open_tree (k := exK) (Q := ExWf) Try.underlying51 (show Try.prog.cellsOf 119 = 7 by kernel_rfl) (by rw [exK_z]; omega) (fun _ _ _ h => ex_of_cells h) fuel _ _ h
  exact ⟨v, l, hv, ⟨_, hl⟩, FitT.all hf (rd_deepT hl)⟩
theorem sc_of_cells {n : Nat} {cs : List Value} {y : DataW H × List MemPlace} (h : DataW.trod en Try.prog w base spare held n 53 cs = some y) :
    ∃ (r : ScR) (x : ScX), cs = r.enc ∧ scK.rd w r x ∧ ScWf x ∧ ∃ m y', m < n ∧ DataW.trod en Try.prog w base spare held m 23 [r.kv] = some y' := by
  obtain ⟨xs, m, hn, _, hl, hlen, hf⟩ := DataW.trod_struct Try.underlying53 h
  have get : ∀ i (hi : i < 15), ∃ y, xs[i]? = some y := fun i hi => ⟨xs[i]'(by rw [hlen]; exact hi), List.getElem?_eq_getElem _⟩
  obtain ⟨y0, g0⟩ := get 0 (by omega)
  obtain ⟨y1, g1⟩ := get 1 (by omega)
  obtain ⟨y2, g2⟩ := get 2 (by omega)
  obtain ⟨y3, g3⟩ := get 3 (by omega)
  obtain ⟨y4, g4⟩ := get 4 (by omega)
  obtain ⟨y5, g5⟩ := get 5 (by omega)
  obtain ⟨y6, g6⟩ := get 6 (by omega)
  obtain ⟨y7, g7⟩ := get 7 (by omega)
  obtain ⟨y8, g8⟩ := get 8 (by omega)
  obtain ⟨y9, g9⟩ := get 9 (by omega)
  obtain ⟨y10, g10⟩ := get 10 (by omega)
  obtain ⟨y11, g11⟩ := get 11 (by omega)
  obtain ⟨y12, g12⟩ := get 12 (by omega)
  obtain ⟨y13, g13⟩ := get 13 (by omega)
  obtain ⟨y14, g14⟩ := get 14 (by omega)
  have h0 : DataW.trod en Try.prog w base spare held m 3 ((cs.drop 0).take (Try.prog.cellsOf 3)) = some y0 := (hf 0 _ rfl).trans g0
  have h1 : DataW.trod en Try.prog w base spare held m 9 ((cs.drop 1).take (Try.prog.cellsOf 9)) = some y1 := (hf 1 _ rfl).trans g1
  have h2 : DataW.trod en Try.prog w base spare held m 50 ((cs.drop 2).take (Try.prog.cellsOf 50)) = some y2 := (hf 2 _ rfl).trans g2
  have h3 : DataW.trod en Try.prog w base spare held m 29 ((cs.drop 7).take (Try.prog.cellsOf 29)) = some y3 := (hf 3 _ rfl).trans g3
  have h4 : DataW.trod en Try.prog w base spare held m 29 ((cs.drop 8).take (Try.prog.cellsOf 29)) = some y4 := (hf 4 _ rfl).trans g4
  have h5 : DataW.trod en Try.prog w base spare held m 9 ((cs.drop 9).take (Try.prog.cellsOf 9)) = some y5 := (hf 5 _ rfl).trans g5
  have h6 : DataW.trod en Try.prog w base spare held m 4 ((cs.drop 10).take (Try.prog.cellsOf 4)) = some y6 := (hf 6 _ rfl).trans g6
  have h7 : DataW.trod en Try.prog w base spare held m 4 ((cs.drop 11).take (Try.prog.cellsOf 4)) = some y7 := (hf 7 _ rfl).trans g7
  have h8 : DataW.trod en Try.prog w base spare held m 4 ((cs.drop 12).take (Try.prog.cellsOf 4)) = some y8 := (hf 8 _ rfl).trans g8
  have h9 : DataW.trod en Try.prog w base spare held m 4 ((cs.drop 13).take (Try.prog.cellsOf 4)) = some y9 := (hf 9 _ rfl).trans g9
  have h10 : DataW.trod en Try.prog w base spare held m 3 ((cs.drop 14).take (Try.prog.cellsOf 3)) = some y10 := (hf 10 _ rfl).trans g10
  have h11 : DataW.trod en Try.prog w base spare held m 3 ((cs.drop 15).take (Try.prog.cellsOf 3)) = some y11 := (hf 11 _ rfl).trans g11
  have h12 : DataW.trod en Try.prog w base spare held m 51 ((cs.drop 16).take (Try.prog.cellsOf 51)) = some y12 := (hf 12 _ rfl).trans g12
  have h13 : DataW.trod en Try.prog w base spare held m 51 ((cs.drop 17).take (Try.prog.cellsOf 51)) = some y13 := (hf 13 _ rfl).trans g13
  have h14 : DataW.trod en Try.prog w base spare held m 23 ((cs.drop 18).take (Try.prog.cellsOf 23)) = some y14 := (hf 14 _ rfl).trans g14
  rw [show Try.prog.cellsOf 53 = 19 by kernel_rfl] at hl
  match cs, hl with
  | [c0, c1, c2, c3, c4, c5, c6, c7, c8, c9, c10, c11, c12, c13, c14, c15, c16, c17, c18], _ =>
    rw [show Try.prog.cellsOf 3 = 1 by kernel_rfl] at h0 h10 h11
    rw [show Try.prog.cellsOf 9 = 1 by kernel_rfl] at h1 h5
    rw [show Try.prog.cellsOf 29 = 1 by kernel_rfl] at h3 h4
    rw [show Try.prog.cellsOf 4 = 1 by kernel_rfl] at h6 h7 h8 h9
    rw [show Try.prog.cellsOf 51 = 1 by kernel_rfl] at h12 h13
    rw [show Try.prog.cellsOf 23 = 1 by kernel_rfl] at h14
    rw [show Try.prog.cellsOf 50 = 5 by kernel_rfl] at h2
    obtain ⟨k0, e0, _, w0⟩ := DataW.trod_int Try.underlying3 h0
    obtain ⟨s1, e1, _, z1⟩ := DataW.trod_string Try.underlying9 h1
    obtain ⟨tv, tt, e2, r2, z2⟩ := ty_of_cells h2
    obtain ⟨a3, n3, q3, l3, e3, r3, z3⟩ := strs_open h3
    obtain ⟨a4, n4, q4, l4, e4, r4, z4⟩ := strs_open h4
    obtain ⟨s5, e5, _, z5⟩ := DataW.trod_string Try.underlying9 h5
    obtain ⟨b6, e6, _⟩ := DataW.trod_bool Try.underlying4 h6
    obtain ⟨b7, e7, _⟩ := DataW.trod_bool Try.underlying4 h7
    obtain ⟨b8, e8, _⟩ := DataW.trod_bool Try.underlying4 h8
    obtain ⟨b9, e9, _⟩ := DataW.trod_bool Try.underlying4 h9
    obtain ⟨k10, e10, _, w10⟩ := DataW.trod_int Try.underlying3 h10
    obtain ⟨k11, e11, _, w11⟩ := DataW.trod_int Try.underlying3 h11
    obtain ⟨v12, l12, e12, r12, z12⟩ := exs_open h12
    obtain ⟨v13, l13, e13, r13, z13⟩ := exs_open h13
    simp at e0 e1 e2 e3 e4 e5 e6 e7 e8 e9 e10 e11 e12 e13
    obtain ⟨rfl, rfl, rfl, rfl, rfl⟩ := e2
    subst e0 e1 e3 e4 e5 e6 e7 e8 e9 e10 e11 e12 e13
    unfold maxLen at z1 z5
    exact ⟨⟨k0, s1, tv, .slice a3 n3 q3, .slice a4 n4 q4, s5, b6, b7, b8, b9, k10, k11, c16, c17, c18⟩, ⟨k0, s1, tt, l3, l4, s5, b6, b7, b8, b9, k10, k11, l12, l13⟩, rfl,
      ⟨⟨rfl, rfl, rfl, rfl, rfl, rfl, rfl, rfl, rfl⟩, r2, r3, r4, r12, r13⟩, ⟨by dsimp only; omega, z2, z3, z4, by dsimp only; omega, wf_i64 w0, wf_i64 w10, wf_i64 w11, z12, z13⟩, m, y14, by omega, h14⟩
theorem scs_open {fuel : Nat} {cs : List Value} {x : DataW H × List MemPlace} (h : DataW.trod en Try.prog w base spare held fuel 23 cs = some x) :
    ∃ (v : Value) (l : List Sc), cs = [v] ∧ (∃ d, RdL scK d w v l) ∧ ∀ e, FitT ScWf e l := by
  obtain ⟨v, l, hv, hl, hf⟩ := open_tree (k := scK) (Q := ScWf) Try.underlying23 (show Try.prog.cellsOf 53 = 19 by kernel_rfl) (by rw [scK_z]; omega) (fun _ _ _ h => sc_of_cells h) fuel _ _ h
  exact ⟨v, l, hv, ⟨_, hl⟩, FitT.all hf (rd_deepT hl)⟩
end
end Go.Proofs.Ytdkpleghpnflhaa

/- CHAPTER 9: laws.szSchema, szSchemaS. First printed by tools/gen_scA.py; changed by hand since (the number of nodes: sizeS). -/
namespace Go.Proofs.Ytdkpleghpnflhaa
open Go.RowKit
set_option maxRecDepth 100000

/-- a variable of the call's own that holds a node -/
def SBox (T : TypeId) (w : World) (b : Nat) (r : ScR) : Prop := w.heap[b]? = some (.cells r.enc.toArray T (0, 0))
theorem SBox.below {T : TypeId} {w w' : World} {b : Nat} {r : ScR} (h : SBox T w b r) (hb : Below w.heap.size w w') : SBox T w' b r := (hb.block b (Array.getElem?_eq_some_iff.1 h).1).trans h
theorem SBox.new (T : TypeId) (w : World) (r : ScR) : SBox T (w.alloc (.cells r.enc.toArray T)) w.heap.size r := heap_alloc_new w _
theorem SBox.tell {T : TypeId} {w : World} {b : Nat} {r : ScR} (h : SBox T w b r) : w.cell? ⟨b, 0, none⟩ = some (.int .i64 r.kind) ∧ w.cell? ⟨b, 1, none⟩ = some (.string r.name) ∧ w.cell? ⟨b, 2, none⟩ = some (.int .i64 r.tv.k) ∧ w.cell? ⟨b, 3, none⟩ = some (r.tv.vr) ∧ w.cell? ⟨b, 4, none⟩ = some (r.tv.vn) ∧ w.cell? ⟨b, 5, none⟩ = some (.string r.tv.pt) ∧ w.cell? ⟨b, 6, none⟩ = some (.string r.tv.ph) ∧ w.cell? ⟨b, 7, none⟩ = some (r.vk) ∧ w.cell? ⟨b, 8, none⟩ = some (r.vu) ∧ w.cell? ⟨b, 9, none⟩ = some (.string r.dflt) ∧ w.cell? ⟨b, 10, none⟩ = some (.bool r.given) ∧ w.cell? ⟨b, 11, none⟩ = some (.bool r.needed) ∧ w.cell? ⟨b, 12, none⟩ = some (.bool r.present) ∧ w.cell? ⟨b, 13, none⟩ = some (.bool r.fixed) ∧ w.cell? ⟨b, 14, none⟩ = some (.int .i64 r.min) ∧ w.cell? ⟨b, 15, none⟩ = some (.int .i64 r.max) ∧ w.cell? ⟨b, 16, none⟩ = some (r.wv) ∧ w.cell? ⟨b, 17, none⟩ = some (r.mv) ∧ w.cell? ⟨b, 18, none⟩ = some (r.kv) :=
  ⟨cellsAt h 0 _ rfl, cellsAt h 1 _ rfl, cellsAt h 2 _ rfl, cellsAt h 3 _ rfl, cellsAt h 4 _ rfl, cellsAt h 5 _ rfl, cellsAt h 6 _ rfl, cellsAt h 7 _ rfl, cellsAt h 8 _ rfl, cellsAt h 9 _ rfl, cellsAt h 10 _ rfl, cellsAt h 11 _ rfl, cellsAt h 12 _ rfl, cellsAt h 13 _ rfl, cellsAt h 14 _ rfl, cellsAt h 15 _ rfl, cellsAt h 16 _ rfl, cellsAt h 17 _ rfl, cellsAt h 18 _ rfl⟩
/-- at p lies the record r -/
def Nk (w : World) (p : Addr) (r : ScR) : Prop := w.cell? p = some (.int .i64 r.kind) ∧ w.cell? ⟨p.block, p.off + 1, none⟩ = some (.string r.name) ∧ w.cell? ⟨p.block, p.off + 2, none⟩ = some (.int .i64 r.tv.k) ∧ w.cell? ⟨p.block, p.off + 3, none⟩ = some (r.tv.vr) ∧ w.cell? ⟨p.block, p.off + 4, none⟩ = some (r.tv.vn) ∧ w.cell? ⟨p.block, p.off + 5, none⟩ = some (.string r.tv.pt) ∧ w.cell? ⟨p.block, p.off + 6, none⟩ = some (.string r.tv.ph) ∧ w.cell? ⟨p.block, p.off + 7, none⟩ = some (r.vk) ∧ w.cell? ⟨p.block, p.off + 8, none⟩ = some (r.vu) ∧ w.cell? ⟨p.block, p.off + 9, none⟩ = some (.string r.dflt) ∧ w.cell? ⟨p.block, p.off + 10, none⟩ = some (.bool r.given) ∧ w.cell? ⟨p.block, p.off + 11, none⟩ = some (.bool r.needed) ∧ w.cell? ⟨p.block, p.off + 12, none⟩ = some (.bool r.present) ∧ w.cell? ⟨p.block, p.off + 13, none⟩ = some (.bool r.fixed) ∧ w.cell? ⟨p.block, p.off + 14, none⟩ = some (.int .i64 r.min) ∧ w.cell? ⟨p.block, p.off + 15, none⟩ = some (.int .i64 r.max) ∧ w.cell? ⟨p.block, p.off + 16, none⟩ = some (r.wv) ∧ w.cell? ⟨p.block, p.off + 17, none⟩ = some (r.mv) ∧ w.cell? ⟨p.block, p.off + 18, none⟩ = some (r.kv)
theorem Nk.below {w w' : World} {p : Addr} {r : ScR} (h : Nk w p r) (hb : Below w.heap.size w w') (hp : p.block < w.heap.size) : Nk w' p r := by
  have e : ∀ j, w'.cell? ⟨p.block, p.off + j, none⟩ = w.cell? ⟨p.block, p.off + j, none⟩ := fun j => hb.cell (p := ⟨p.block, p.off + j, none⟩) hp
  unfold Nk
  rw [hb.cell hp, e 1, e 2, e 3, e 4, e 5, e 6, e 7, e 8, e 9, e 10, e 11, e 12, e 13, e 14, e 15, e 16, e 17, e 18]
  exact h
theorem HasN.nk {w : World} {A : Option Addr} {R : List ScR} (h : ∀ i (h : i < R.length), ∃ a, A = some a ∧ a.block < w.heap.size ∧ ∀ j x, (R[i].enc)[j]? = some x → w.cell? ((a.add (i * 19)).add j) = some x) (i : Nat) (hi : i < R.length) :
    ∃ a, A = some a ∧ (a.add (i * 19)).block < w.heap.size ∧ Nk w (a.add (i * 19)) R[i] := by
  obtain ⟨a, ha, hb, hc⟩ := h i hi
  exact ⟨a, ha, by rw [addr_blk]; exact hb, hc 0 _ rfl, hc 1 _ rfl, hc 2 _ rfl, hc 3 _ rfl, hc 4 _ rfl, hc 5 _ rfl, hc 6 _ rfl, hc 7 _ rfl, hc 8 _ rfl, hc 9 _ rfl, hc 10 _ rfl, hc 11 _ rfl, hc 12 _ rfl, hc 13 _ rfl, hc 14 _ rfl, hc 15 _ rfl, hc 16 _ rfl, hc 17 _ rfl, hc 18 _ rfl⟩
/-- a whole struct is loaded, whatever its number of cells: the walk's own simp would open it cell by cell -/
theorem run_loadAt_at {P : Program} (w : World) (p : Addr) (ty : TypeId) (cs : List Value) (d : TypeDesc) (hc : ∀ j v, cs[j]? = some v → w.cell? (p.add j) = some v)
    (hu : P.underlying ty = some d) (hd : d.isRow = true) (hi : (P.info? ty).map (·.size) = some cs.length) : (Instr.loadAt ty (.pointer (some p))).run P w = .ok (.agg cs.toArray) w := by
  have hl : (loadCells p cs.length).run P w = .ok cs.toArray w := run_loadCells_list (P := P) w p cs hc
  have hv : (loadVar ty p).run P w = .ok (.agg cs.toArray) w := by
    cases hq : P.info? ty with
    | none => simp [hq] at hi
    | some i =>
      have hs : i.size = cs.length := by simpa [hq] using hi
      have hagg : (isAgg ty).run P w = .ok true w := by
        unfold isAgg
        rw [Sem.run_bind, run_underlying hu w]
        cases d <;> simp_all
      simp [loadVar, Sem.run_bind, hagg, sizeOf, typeInfo, hq, hs, hl]
  simp only [Instr.loadAt, Instr.sureAddr, Sem.run_bind, Sem.run_pure, Result.andThen_ok, hv]
theorem wpList_load_at {P : Program} {ops : Array Oper} {rest : List Oper} {op : Oper} {a : Act} {w : World} {Q : Exit → Act → World → Prop} (hgd : op.guard = none) (ty : TypeId) (x : Operand) (ho : op.op = .load ty x)
    (p : Addr) (hx : a.eval x = .pointer (some p)) (v : Value) (hl : (Instr.loadAt ty (.pointer (some p))).run P w = .ok v w)
    (h : wpList P ops Q rest (a.put op.dst v) w) : wpList P ops Q (op :: rest) a w :=
  wpList_plain hgd fun K hK => by
    unfold Oper.wp execOp
    simp only [ho, hx, hl, Sem.run_bind, Result.andThen_ok, Sem.run_pure]
    exact hK _ _ h
/-- at p lie the cells of r, wherever they lie within their block -/
def Nl (w : World) (p : Addr) (r : ScR) : Prop := ∀ j v, r.enc[j]? = some v → w.cell? (p.add j) = some v
theorem Nl.below {w w' : World} {p : Addr} {r : ScR} (h : Nl w p r) (hb : Below w.heap.size w w') (hp : p.block < w.heap.size) : Nl w' p r := fun j v hv => by rw [hb.cell (by rw [addr_blk]; exact hp)]; exact h j v hv
theorem Nl.cells {w : World} {p : Addr} {r : ScR} (h : Nl w p r) : (loadCells p 19).run Try.prog w = .ok r.enc.toArray w ∧ (loadCellsFrom p 0 19 #[]).run Try.prog w = .ok r.enc.toArray w := by
  have := run_loadCells_list (P := Try.prog) w p r.enc h
  exact ⟨this, this⟩
theorem Nl.load {w : World} {p : Addr} {r : ScR} (h : Nl w p r) {ty : TypeId} {d : TypeDesc} (hu : Try.prog.underlying ty = some d) (hd : d.isRow = true) (hi : (Try.prog.info? ty).map (·.size) = some 19) : (Instr.loadAt ty (.pointer (some p))).run Try.prog w = .ok r.val w := run_loadAt_at w p ty r.enc d h hu hd hi
/-- a list of nodes that is read: its form; the i-th of them -/
theorem sc_at {d : Nat} {w : World} {v : Value} {l : List Sc} (h : RdL scK d w v l) : ∃ (A : Option Addr) (cap : Nat), v = .slice A l.length cap ∧ l.length ≤ 9223372036854775807 ∧
    ∀ i (hi : i < l.length), ∃ (a : Addr) (r : ScR) (d' : Nat), A = some a ∧ d = d' + 1 ∧ (a.add (i * 19)).block < w.heap.size ∧ Nl w (a.add (i * 19)) r ∧ RdN scK d' w r l[i] := by
  cases d with
  | zero =>
    obtain ⟨rfl, A, cap, hv, hn, _⟩ := h
    exact ⟨A, cap, hv, hn, fun i hi => absurd hi (Nat.not_lt_zero i)⟩
  | succ d =>
    obtain ⟨R, ⟨A, cap, hv, hn, hc⟩, hRl, hRk⟩ := h
    refine ⟨A, cap, by rw [← hRl]; exact hv, by rw [← hRl]; exact hn, fun i hi => ?_⟩
    have h1 : i < R.length := by rw [hRl]; exact hi
    obtain ⟨a, e1, e2, e3⟩ := hc i h1
    exact ⟨a, R[i], d, e1, rfl, by rw [addr_blk]; exact e2, e3, hRk i h1 hi⟩
/-- the six lists of a node that is read are slices -/
theorem ScRd.forms {w : World} {r : ScR} {x : ScX} (h : ScRd w r x) : (∃ A n c, r.tv.vr = .slice A n c) ∧ (∃ A n c, r.tv.vn = .slice A n c) ∧ (∃ A n c, r.vk = .slice A n c) ∧ (∃ A n c, r.vu = .slice A n c) ∧ (∃ A n c, r.wv = .slice A n c) ∧ (∃ A n c, r.mv = .slice A n c) := by
  refine ⟨?_, ?_, ?_, ?_, ?_, ?_⟩
  · obtain ⟨A, c, hv, _⟩ := h.ty.rg; exact ⟨A, _, c, hv⟩
  · obtain ⟨A, c, hv, _⟩ := h.ty.nm; exact ⟨A, _, c, hv⟩
  · obtain ⟨A, c, hv, _⟩ := h.keys; exact ⟨A, _, c, hv⟩
  · obtain ⟨A, c, hv, _⟩ := h.uniq; exact ⟨A, _, c, hv⟩
  · obtain ⟨d, h⟩ := h.when; obtain ⟨A, c, hv⟩ := h.form; exact ⟨A, _, c, hv⟩
  · obtain ⟨d, h⟩ := h.must; obtain ⟨A, c, hv⟩ := h.form; exact ⟨A, _, c, hv⟩
def TySz (t : Ty) : Prop := t.rg.length ≤ 1048576 ∧ t.nm.length ≤ 1048576 ∧ (∀ s ∈ t.nm, s.size ≤ 1048576) ∧ t.pt.size ≤ 1048576 ∧ t.ph.size ≤ 1048576
def StrsSz (l : List ByteArray) : Prop := l.length ≤ 1048576 ∧ ∀ s ∈ l, s.size ≤ 1048576
/-- not too many levels (a bound within DeepT itself would be unfolded a million times) -/
def DeepB {α : Type} (l : List (Tr α)) : Prop := ∃ n : Nat, n ≤ 1048576 ∧ DeepT n l
def ExsSz (l : List Ex) : Prop := (∀ e, SizT ExSz e l) ∧ DeepB l
/-- what a size that is not below 0 tells of a node's fields -/
structure ScSz (x : ScX) : Prop where
  name : x.name.size ≤ 1048576
  ty : TySz x.ty
  keys : StrsSz x.keys
  uniq : StrsSz x.uniq
  dflt : x.dflt.size ≤ 1048576
  when : ExsSz x.when
  must : ExsSz x.must

mutual
def wszN : Sc → Nat
  | .mk x l => 1 + (sizeS x.when + sizeS x.must) + wszS l
def wszS : List Sc → Nat
  | [] => 0
  | t :: l => wszN t + wszS l
end
theorem wszN_eq (t : Sc) : wszN t = 1 + (sizeS t.x.when + sizeS t.x.must) + wszS t.kids := by cases t; simp [wszN, Tr.x, Tr.kids]
theorem wszS_step : ∀ (l : List Sc) (k : Nat) (h : k < l.length), wszS (l.take (k + 1)) = wszS (l.take k) + wszN l[k]
  | [], _, h => by cases h
  | x :: l, 0, _ => by simp [wszS]
  | x :: l, k + 1, h => by
    simp only [List.take_succ_cons, wszS, List.getElem_cons_succ]
    rw [wszS_step l k (by simpa using h)]
    omega
mutual
theorem sizeN_wsz : ∀ t : Sc, sizeN t ≤ wszN t
  | .mk x l => by have := sizeS_wsz l; simp only [sizeN, wszN]; omega
theorem sizeS_wsz : ∀ l : List Sc, sizeS l ≤ wszS l
  | [] => by simp [sizeS]
  | t :: l => by have := sizeN_wsz t; have := sizeS_wsz l; simp only [sizeS, wszS]; omega
end
theorem wszS_take : ∀ (l : List Sc) (k : Nat), wszS (l.take k) ≤ wszS l
  | [], k => by simp
  | t :: l, 0 => by simp [wszS]
  | t :: l, k + 1 => by have := wszS_take l k; simp only [List.take_succ_cons, wszS]; omega
def SzSS (d : Nat) : Prop := ∀ (v : Value) (l : List Sc) (w : World) (left : Int), RdL scK d w v l → FitT ScWf d l → 0 ≤ left → left ≤ 1048576 → Calls Try.prog 5 #[v, .int .i64 left] w (SzOutE (SizT ScSz d l) (fun n => DeepT n l ∧ wszS l ≤ n) left w)
def SzS9 (d : Nat) : Prop := ∀ (r : ScR) (t : Sc) (w : World) (left : Int), RdN scK d w r t → FitT ScWf d t.kids → ScWf t.x → 0 ≤ left → left ≤ 1048576 → Calls Try.prog 19 #[r.val, .int .i64 left] w (SzOutE (ScSz t.x ∧ SizT ScSz d t.kids) (fun n => DeepT n t.kids ∧ sizeS t.x.when + sizeS t.x.must + wszS t.kids ≤ n) left w)
/-- a list of expressions: its size -/
theorem szExs_any (v : Value) (l : List Ex) (w : World) (left : Int) (hv : ∃ d, RdL exK d w v l) (hf : ∀ e, FitT ExWf e l) (h0 : 0 ≤ left) (h1 : left ≤ 1048576) :
    Calls Try.prog 37 #[v, .int .i64 left] w fun e w' => (∃ y : Int, e = .returned (.int .i64 y) ∧ (0 ≤ y → ExsSz l ∧ sizeS l ≤ (left - y).toNat) ∧ -1 ≤ y ∧ y ≤ left) ∧ Below w.heap.size w w' := by
  obtain ⟨d, hd⟩ := hv
  refine (szES_any d v l w left hd (hf d) h0 h1).mono ?_
  rintro e w' ⟨y, he, hy, h2, h3, hb⟩
  exact ⟨⟨y, he, fun h => ⟨⟨SizT.all (hy h).1 (rd_deepT hd), ⟨_, by omega, (hy h).2.1⟩⟩, (hy h).2.2⟩, h2, h3⟩, hb⟩
set_option maxHeartbeats 8000000 in
theorem szS9_of {d : Nat} (ih : SzSS d) : SzS9 d := by
  intro r t w left hr hf hw h0 h9
  obtain ⟨hrd, hk⟩ := hr
  obtain ⟨x, l⟩ := t
  have hrd : ScRd w r x := hrd
  have hk : RdL scK d w r.kv l := hk
  have hf : FitT ScWf d l := hf
  have hw : ScWf x := hw
  have HT := Lib.hid (fun W (hb : Below w.heap.size w W) y (a : 0 ≤ y) (b : y ≤ 1048576) => szTy_any r.tv x.ty W (hrd.ty.below hb) hw.ty y a b)
  have HKE := Lib.hid (fun W (hb : Below w.heap.size w W) y (a : 0 ≤ y) (b : y ≤ 1048576) => szStrsB r.vk x.keys y W (hrd.keys.below hb) hw.keys a b)
  have HUN := Lib.hid (fun W (hb : Below w.heap.size w W) y (a : 0 ≤ y) (b : y ≤ 1048576) => szStrsB r.vu x.uniq y W (hrd.uniq.below hb) hw.uniq a b)
  have HWH := Lib.hid (fun W (hb : Below w.heap.size w W) y (a : 0 ≤ y) (b : y ≤ 1048576) => szExs_any r.wv x.when W y (hrd.below hb).when hw.when a b)
  have HMU := Lib.hid (fun W (hb : Below w.heap.size w W) y (a : 0 ≤ y) (b : y ≤ 1048576) => szExs_any r.mv x.must W y (hrd.below hb).must hw.must a b)
  have HKI := Lib.hid (fun W (hb : Below w.heap.size w W) y (a : 0 ≤ y) (b : y ≤ 1048576) => ih r.kv l W y (hk.below hb) hf a b)
  have HEQ := Lib.hid (And.intro hrd.eq.name hrd.eq.dflt)
  have hns : r.name.size ≤ 9223372036854775807 := by rw [hrd.eq.name]; exact hw.name
  have hds : r.dflt.size ≤ 9223372036854775807 := by rw [hrd.eq.dflt]; exact hw.dflt
  obtain ⟨⟨A1, n1, c1, f1⟩, ⟨A2, n2, c2, f2⟩, ⟨A3, n3, c3, f3⟩, ⟨A4, n4, c4, f4⟩, ⟨A5, n5, c5, f5⟩, ⟨A6, n6, c6, f6⟩⟩ := hrd.forms
  obtain ⟨A7, n7, c7, f7⟩ : ∃ A n c, r.kv = .slice A n c := by obtain ⟨A, c, hv⟩ := hk.form; exact ⟨A, _, c, hv⟩
  obtain ⟨kind, name, ⟨tk, tvr, tvn, tpt, tph⟩, vk, vu, dflt, given, needed, present, fixed, mn, mx, wv, mv, kv⟩ := r
  dsimp only at f1 f2 f3 f4 f5 f6 f7 hns hds
  subst f1 f2 f3 f4 f5 f6 f7
  have HBX := Lib.hid (SBox.new 53 w ⟨kind, name, ⟨tk, .slice A1 n1 c1, .slice A2 n2 c2, tpt, tph⟩, .slice A3 n3 c3, .slice A4 n4 c4, dflt, given, needed, present, fixed, mn, mx, .slice A5 n5 c5, .slice A6 n6 c6, .slice A7 n7 c7⟩)
  have HB0 := Lib.hid (below_al (Below.refl w.heap.size w) (.cells (ScR.enc ⟨kind, name, ⟨tk, .slice A1 n1 c1, .slice A2 n2 c2, tpt, tph⟩, .slice A3 n3 c3, .slice A4 n4 c4, dflt, given, needed, present, fixed, mn, mx, .slice A5 n5 c5, .slice A6 n6 c6, .slice A7 n7 c7⟩).toArray 53))
  obtain ⟨m, hm⟩ : ∃ m : Int, m = left - name.size := ⟨_, rfl⟩
  have hwr : IntKind.i64.wrap (left - name.size) = m := by rw [IntKind.wrap_i64]; omega
  have HM := Lib.hid (And.intro hm (And.intro h9 h0))
  clear hrd hk hf hw ih hm h9 h0
  by_cases hlt : m < 0
  · go_enter Try.func19, Try.ntmps19
    go_wp2
    go_ret
    exact ⟨-1, rfl, fun h => absurd h (by omega), by omega, by have := HM.out; omega, HB0.out⟩
  have hm9 : m ≤ 1048576 := by have := HM.out; omega
  go_enter Try.func19, Try.ntmps19
  go_wp2_with fail
  refine (HT.out _ HB0.out m (by omega) (by omega)).mono ?_
  rintro e w1 ⟨⟨zt, rfl, hzt, lzt, uzt⟩, hb1⟩
  have HB1 := Lib.hid (below_step HB0.out hb1)
  have HX1 := Lib.hid (HBX.out.below hb1)
  clear hb1
  by_cases nzt : zt < 0
  · clear hzt
    go_wp2
    go_ret
    exact ⟨-1, rfl, fun h => absurd h (by omega), by omega, by have := HM.out; omega, HB1.out⟩
  have Hzt := Lib.hid (hzt (by omega))
  clear hzt
  obtain ⟨a0, a1, a2, a3, a4, a5, a6, a7, a8, a9, a10, a11, a12, a13, a14, a15, a16, a17, a18⟩ := HX1.out.tell
  go_wp2_with fail
  refine (HKE.out _ HB1.out zt (by omega) (by omega)).mono ?_
  rintro e w' ⟨⟨zk, rfl, hzk, lzk, uzk⟩, rfl⟩
  by_cases nzk : zk < 0
  · clear hzk
    go_wp2
    go_ret
    exact ⟨-1, rfl, fun h => absurd h (by omega), by omega, by have := HM.out; omega, HB1.out⟩
  have Hzk := Lib.hid (hzk (by omega))
  clear hzk
  go_wp2_with fail
  refine (HUN.out _ HB1.out zk (by omega) (by omega)).mono ?_
  rintro e w' ⟨⟨zu, rfl, hzu, lzu, uzu⟩, rfl⟩
  by_cases nzu : zu < 0
  · clear hzu
    go_wp2
    go_ret
    exact ⟨-1, rfl, fun h => absurd h (by omega), by omega, by have := HM.out; omega, HB1.out⟩
  have Hzu := Lib.hid (hzu (by omega))
  clear hzu
  obtain ⟨q, hq⟩ : ∃ q : Int, q = zu - dflt.size := ⟨_, rfl⟩
  have hwq : IntKind.i64.wrap (zu - dflt.size) = q := by rw [IntKind.wrap_i64]; omega
  have HQ := Lib.hid hq
  by_cases hlq : q < 0
  · clear hq
    go_wp2
    go_ret
    exact ⟨-1, rfl, fun h => absurd h (by omega), by omega, by have := HM.out; omega, HB1.out⟩
  have hq9 : q ≤ zu := by omega
  clear hq
  go_wp2_with fail
  refine (HWH.out _ HB1.out q (by omega) (by omega)).mono ?_
  rintro e w2 ⟨⟨zw, rfl, hzw, lzw, uzw⟩, hb2⟩
  have HB2 := Lib.hid (below_step HB1.out hb2)
  have HX2 := Lib.hid (HX1.out.below hb2)
  clear hb2
  by_cases nzw : zw < 0
  · clear hzw
    go_wp2
    go_ret
    exact ⟨-1, rfl, fun h => absurd h (by omega), by omega, by have := HM.out; omega, HB2.out⟩
  have Hzw := Lib.hid (hzw (by omega))
  clear hzw
  clear a0 a1 a2 a3 a4 a5 a6 a7 a8 a9 a10 a11 a12 a13 a14 a15 a16 a17 a18
  obtain ⟨a0, a1, a2, a3, a4, a5, a6, a7, a8, a9, a10, a11, a12, a13, a14, a15, a16, a17, a18⟩ := HX2.out.tell
  go_wp2_with fail
  refine (HMU.out _ HB2.out zw (by omega) (by omega)).mono ?_
  rintro e w3 ⟨⟨zm, rfl, hzm, lzm, uzm⟩, hb3⟩
  have HB3 := Lib.hid (below_step HB2.out hb3)
  have HX3 := Lib.hid (HX2.out.below hb3)
  clear hb3
  by_cases nzm : zm < 0
  · clear hzm
    go_wp2
    go_ret
    exact ⟨-1, rfl, fun h => absurd h (by omega), by omega, by have := HM.out; omega, HB3.out⟩
  have Hzm := Lib.hid (hzm (by omega))
  clear hzm
  clear a0 a1 a2 a3 a4 a5 a6 a7 a8 a9 a10 a11 a12 a13 a14 a15 a16 a17 a18
  obtain ⟨a0, a1, a2, a3, a4, a5, a6, a7, a8, a9, a10, a11, a12, a13, a14, a15, a16, a17, a18⟩ := HX3.out.tell
  go_wp2_with fail
  refine (HKI.out _ HB3.out zm (by omega) (by omega)).mono ?_
  rintro e w4 ⟨y, rfl, H1, ly, uy, hb4⟩
  have H := Lib.hid H1
  have HB4 := Lib.hid (below_step HB3.out hb4)
  clear H1 hb4 a0 a1 a2 a3 a4 a5 a6 a7 a8 a9 a10 a11 a12 a13 a14 a15 a16 a17 a18
  by_cases hy0 : y < 0
  · go_wp2
    go_ret
    exact ⟨-1, rfl, fun h => absurd h (by omega), by omega, by have := HM.out; omega, HB4.out⟩
  have HQ2 := Lib.hid (H.out (by omega))
  clear H
  go_wp2
  go_ret
  have hM := HM.out
  have hQ := HQ.out
  refine ⟨y, rfl, fun _ => ⟨⟨⟨by show x.name.size ≤ 1048576; rw [← HEQ.out.1]; show name.size ≤ 1048576; omega, Hzt.out, Hzk.out, Hzu.out, by show x.dflt.size ≤ 1048576; rw [← HEQ.out.2]; show dflt.size ≤ 1048576; omega, Hzw.out.1, Hzm.out.1⟩, HQ2.out.1⟩, DeepT.more HQ2.out.2.1 ?_, ?_⟩, by omega, by omega, HB4.out⟩
  · omega
  · have g1 : sizeS x.when ≤ (q - zw).toNat := Hzw.out.2
    have g2 : sizeS x.must ≤ (zw - zm).toNat := Hzm.out.2
    have g3 : wszS l ≤ (zm - y).toNat := HQ2.out.2.2
    show sizeS x.when + sizeS x.must + wszS l ≤ _
    omega
end Go.Proofs.Ytdkpleghpnflhaa
