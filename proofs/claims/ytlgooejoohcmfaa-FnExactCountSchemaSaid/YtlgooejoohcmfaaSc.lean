/- CHAPTER 9: SCHEMAS AS TREES IN MEMORY: how they lie (19 cells a node), an argument opened. -/
import Derived.Test.YtlgooejoohcmfaaTyO
import Derived.Test.YtlgooejoohcmfaaExB
set_option linter.unusedVariables false
set_option linter.unusedSimpArgs false
namespace Go.Proofs.Ytlgooejoohcmfaa
open Go.RowKit Go.ChangeShapes Go.WideShapes Go.Deep Go.Joins
set_option maxRecDepth 100000

/-- what a node says besides its kids; how one lies -/
structure ScX where
  kind : Int
  name : ByteArray
  ty : Ty
  keys : List ByteArray
  uniq : List ByteArray
  dflt : ByteArray
  given : Bool
  needed : Bool
  present : Bool
  fixed : Bool
  min : Int
  max : Int
  when : List Ex
  must : List Ex
structure ScR where
  kind : Int
  name : ByteArray
  tv : TyV
  vk : Value
  vu : Value
  dflt : ByteArray
  given : Bool
  needed : Bool
  present : Bool
  fixed : Bool
  min : Int
  max : Int
  wv : Value
  mv : Value
  kv : Value
def ScR.enc (r : ScR) : List Value := [.int .i64 r.kind, .string r.name, .int .i64 r.tv.k, r.tv.vr, r.tv.vn, .string r.tv.pt, .string r.tv.ph, r.vk, r.vu, .string r.dflt, .bool r.given, .bool r.needed, .bool r.present, .bool r.fixed, .int .i64 r.min, .int .i64 r.max, r.wv, r.mv, r.kv]
abbrev ScR.val (r : ScR) : Value := .agg #[.int .i64 r.kind, .string r.name, .int .i64 r.tv.k, r.tv.vr, r.tv.vn, .string r.tv.pt, .string r.tv.ph, r.vk, r.vu, .string r.dflt, .bool r.given, .bool r.needed, .bool r.present, .bool r.fixed, .int .i64 r.min, .int .i64 r.max, r.wv, r.mv, r.kv]
theorem ScR.enc_len (r : ScR) : r.enc.length = 19 := rfl
/-- the fields that lie in the cells themselves -/
structure ScEq (r : ScR) (x : ScX) : Prop where
  kind : r.kind = x.kind
  name : r.name = x.name
  dflt : r.dflt = x.dflt
  given : r.given = x.given
  needed : r.needed = x.needed
  present : r.present = x.present
  fixed : r.fixed = x.fixed
  min : r.min = x.min
  max : r.max = x.max
structure ScRd (w : World) (r : ScR) (x : ScX) : Prop where
  eq : ScEq r x
  ty : HasTy w r.tv x.ty
  keys : Has w r.vk x.keys
  uniq : Has w r.vu x.uniq
  when : ∃ d, RdL exK d w r.wv x.when
  must : ∃ d, RdL exK d w r.mv x.must
theorem ScRd.below {w w' : World} {r : ScR} {x : ScX} (h : ScRd w r x) (hb : Below w.heap.size w w') : ScRd w' r x :=
  ⟨h.eq, h.ty.below hb, h.keys.below hb, h.uniq.below hb, h.when.imp fun _ h => h.below hb, h.must.imp fun _ h => h.below hb⟩
/-- the same, the call's own: K tells the blocks of its six lists -/
structure ScOw (B : Nat) (w : World) (r : ScR) (x : ScX) (K : Nat → Nat → Prop) : Prop where
  eq : ScEq r x
  tk : r.tv.k = x.ty.k
  tp : r.tv.pt = x.ty.pt
  th : r.tv.ph = x.ty.ph
  rg : RowG B w r.tv.vr x.ty.rg
  nm : Row B w r.tv.vn x.ty.nm
  keys : Row B w r.vk x.keys
  uniq : Row B w r.vu x.uniq
  when : ∃ d, OwL exK d B w r.wv x.when (K 4)
  must : ∃ d, OwL exK d B w r.mv x.must (K 5)
  k0 : ∀ b, K 0 b ↔ r.tv.vr.ownBlock = some b
  k1 : ∀ b, K 1 b ↔ r.tv.vn.ownBlock = some b
  k2 : ∀ b, K 2 b ↔ r.vk.ownBlock = some b
  k3 : ∀ b, K 3 b ↔ r.vu.ownBlock = some b
  apart : ∀ i j b, i < 6 → j < 6 → K i b → K j b → i = j
theorem ScOw.rd {B : Nat} {w : World} {r : ScR} {x : ScX} {K : Nat → Nat → Prop} (h : ScOw B w r x K) : ScRd w r x :=
  ⟨h.eq, ⟨h.tk, RowR.hasG h.rg, h.nm.has, h.tp, h.th⟩, h.keys.has, h.uniq.has, h.when.imp fun _ h => h.rd, h.must.imp fun _ h => h.rd⟩
theorem row_frame {B : Nat} {w w' : World} {v : Value} {l : List ByteArray} (h : Row B w v l) (hf : ∀ b, v.ownBlock = some b → w'.heap[b]? = w.heap[b]?) : Row B w' v l := by
  refine ⟨h.1, ?_⟩
  rcases h.2 with hn | ⟨g, cap, cur, rfl, hb, hg, rest⟩
  · exact .inl hn
  · exact .inr ⟨g, cap, cur, rfl, hb, (hf g rfl).trans hg, rest⟩
theorem ScOw.frame {B : Nat} {w w' : World} {r : ScR} {x : ScX} {K : Nat → Nat → Prop} (h : ScOw B w r x K) (hf : ∀ i b, i < 6 → K i b → w'.heap[b]? = w.heap[b]?) : ScOw B w' r x K :=
  ⟨h.eq, h.tk, h.tp, h.th, rowR_frame h.rg fun b hb => hf 0 b (by omega) ((h.k0 b).2 hb), row_frame h.nm fun b hb => hf 1 b (by omega) ((h.k1 b).2 hb), row_frame h.keys fun b hb => hf 2 b (by omega) ((h.k2 b).2 hb), row_frame h.uniq fun b hb => hf 3 b (by omega) ((h.k3 b).2 hb),
   h.when.imp fun _ h => h.frame fun b hb => hf 4 b (by omega) hb, h.must.imp fun _ h => h.frame fun b hb => hf 5 b (by omega) hb, h.k0, h.k1, h.k2, h.k3, h.apart⟩
theorem ScOw.lt {B : Nat} {w : World} {r : ScR} {x : ScX} {K : Nat → Nat → Prop} (h : ScOw B w r x K) {i b : Nat} (hi : i < 6) (hk : K i b) : B ≤ b ∧ b < w.heap.size := by
  match i, hi with
  | 0, _ => exact RowR.lt h.rg ((h.k0 b).1 hk)
  | 1, _ => exact h.nm.lt ((h.k1 b).1 hk)
  | 2, _ => exact h.keys.lt ((h.k2 b).1 hk)
  | 3, _ => exact h.uniq.lt ((h.k3 b).1 hk)
  | 4, _ => obtain ⟨d, h⟩ := h.when; exact h.lt b hk
  | 5, _ => obtain ⟨d, h⟩ := h.must; exact h.lt b hk
theorem ScOw.mono {B B' : Nat} {w : World} {r : ScR} {x : ScX} {K : Nat → Nat → Prop} (h : ScOw B w r x K) (hb : B' ≤ B) : ScOw B' w r x K :=
  ⟨h.eq, h.tk, h.tp, h.th, RowR.mono h.rg hb, h.nm.mono hb, h.keys.mono hb, h.uniq.mono hb, h.when.imp fun _ h => h.mono hb, h.must.imp fun _ h => h.mono hb, h.k0, h.k1, h.k2, h.k3, h.apart⟩
def scK : Kd ScX where
  ρ := ScR
  enc := ScR.enc
  z := 19
  E := 38
  kv := ScR.kv
  hz := fun _ => rfl
  rd := ScRd
  own := fun B w r x S => ∃ K, ScOw B w r x K ∧ ∀ b, S b ↔ ∃ i, i < 6 ∧ K i b
  rd_below := fun h hb => h.below hb
  own_rd := fun ⟨_, h, _⟩ => h.rd
  own_frame := fun ⟨K, h, hs⟩ hf => ⟨K, h.frame fun i b hi hk => hf b ((hs b).2 ⟨i, hi, hk⟩), hs⟩
  own_lt := fun ⟨_, h, hs⟩ b hb => by obtain ⟨i, hi, hk⟩ := (hs b).1 hb; exact h.lt hi hk
  own_mono := fun ⟨K, h, hs⟩ hb => ⟨K, h.mono hb, hs⟩
abbrev Sc := Tr ScX
theorem scK_z : (scK).z = 19 := rfl
/-- what a frame tells of a node's fields -/
structure ScWf (x : ScX) : Prop where
  name : x.name.size ≤ 9223372036854775807
  ty : TyWf x.ty
  keys : ∀ s ∈ x.keys, s.size ≤ 9223372036854775807
  uniq : ∀ s ∈ x.uniq, s.size ≤ 9223372036854775807
  dflt : x.dflt.size ≤ 9223372036854775807
  kind : -9223372036854775808 ≤ x.kind ∧ x.kind ≤ 9223372036854775807
  min : -9223372036854775808 ≤ x.min ∧ x.min ≤ 9223372036854775807
  max : -9223372036854775808 ≤ x.max ∧ x.max ≤ 9223372036854775807
  when : ∀ d, FitT ExWf d x.when
  must : ∀ d, FitT ExWf d x.must
section
variable {H : Type} {en : TypeId × Value → H} {w : World} {base : Nat} {spare : Nat → Bool} {held : Bool}
theorem exs_open {fuel : Nat} {cs : List Value} {x : DataW H × List MemPlace} (h : DataW.trod en Try.prog w base spare held fuel 50 cs = some x) :
    ∃ (v : Value) (l : List Ex), cs = [v] ∧ (∃ d, RdL exK d w v l) ∧ ∀ e, FitT ExWf e l := by
  obtain ⟨v, l, hv, hl, hf⟩ := open_tree (k := exK) (Q := ExWf) Try.underlying50 (show Try.prog.cellsOf 105 = 7 by kernel_rfl) (by rw [exK_z]; omega) (fun _ _ _ h => ex_of_cells h) fuel _ _ h
  exact ⟨v, l, hv, ⟨_, hl⟩, FitT.all hf (rd_deepT hl)⟩
theorem sc_of_cells {n : Nat} {cs : List Value} {y : DataW H × List MemPlace} (h : DataW.trod en Try.prog w base spare held n 52 cs = some y) :
    ∃ (r : ScR) (x : ScX), cs = r.enc ∧ scK.rd w r x ∧ ScWf x ∧ ∃ m y', m < n ∧ DataW.trod en Try.prog w base spare held m 22 [r.kv] = some y' := by
  obtain ⟨xs, m, hn, _, hl, hlen, hf⟩ := DataW.trod_struct Try.underlying52 h
  have get : ∀ i (hi : i < 15), ∃ y, xs[i]? = some y := fun i hi => ⟨xs[i]'(by rw [hlen]; exact hi), List.getElem?_eq_getElem _⟩
  obtain ⟨y0, g0⟩ := get 0 (by omega)
  obtain ⟨y1, g1⟩ := get 1 (by omega)
  obtain ⟨y2, g2⟩ := get 2 (by omega)
  obtain ⟨y3, g3⟩ := get 3 (by omega)
  obtain ⟨y4, g4⟩ := get 4 (by omega)
  obtain ⟨y5, g5⟩ := get 5 (by omega)
  obtain ⟨y6, g6⟩ := get 6 (by omega)
  obtain ⟨y7, g7⟩ := get 7 (by omega)
  obtain ⟨y8, g8⟩ := get 8 (by omega)
  obtain ⟨y9, g9⟩ := get 9 (by omega)
  obtain ⟨y10, g10⟩ := get 10 (by omega)
  obtain ⟨y11, g11⟩ := get 11 (by omega)
  obtain ⟨y12, g12⟩ := get 12 (by omega)
  obtain ⟨y13, g13⟩ := get 13 (by omega)
  obtain ⟨y14, g14⟩ := get 14 (by omega)
  have h0 : DataW.trod en Try.prog w base spare held m 3 ((cs.drop 0).take (Try.prog.cellsOf 3)) = some y0 := (hf 0 _ rfl).trans g0
  have h1 : DataW.trod en Try.prog w base spare held m 9 ((cs.drop 1).take (Try.prog.cellsOf 9)) = some y1 := (hf 1 _ rfl).trans g1
  have h2 : DataW.trod en Try.prog w base spare held m 49 ((cs.drop 2).take (Try.prog.cellsOf 49)) = some y2 := (hf 2 _ rfl).trans g2
  have h3 : DataW.trod en Try.prog w base spare held m 31 ((cs.drop 7).take (Try.prog.cellsOf 31)) = some y3 := (hf 3 _ rfl).trans g3
  have h4 : DataW.trod en Try.prog w base spare held m 31 ((cs.drop 8).take (Try.prog.cellsOf 31)) = some y4 := (hf 4 _ rfl).trans g4
  have h5 : DataW.trod en Try.prog w base spare held m 9 ((cs.drop 9).take (Try.prog.cellsOf 9)) = some y5 := (hf 5 _ rfl).trans g5
  have h6 : DataW.trod en Try.prog w base spare held m 4 ((cs.drop 10).take (Try.prog.cellsOf 4)) = some y6 := (hf 6 _ rfl).trans g6
  have h7 : DataW.trod en Try.prog w base spare held m 4 ((cs.drop 11).take (Try.prog.cellsOf 4)) = some y7 := (hf 7 _ rfl).trans g7
  have h8 : DataW.trod en Try.prog w base spare held m 4 ((cs.drop 12).take (Try.prog.cellsOf 4)) = some y8 := (hf 8 _ rfl).trans g8
  have h9 : DataW.trod en Try.prog w base spare held m 4 ((cs.drop 13).take (Try.prog.cellsOf 4)) = some y9 := (hf 9 _ rfl).trans g9
  have h10 : DataW.trod en Try.prog w base spare held m 3 ((cs.drop 14).take (Try.prog.cellsOf 3)) = some y10 := (hf 10 _ rfl).trans g10
  have h11 : DataW.trod en Try.prog w base spare held m 3 ((cs.drop 15).take (Try.prog.cellsOf 3)) = some y11 := (hf 11 _ rfl).trans g11
  have h12 : DataW.trod en Try.prog w base spare held m 50 ((cs.drop 16).take (Try.prog.cellsOf 50)) = some y12 := (hf 12 _ rfl).trans g12
  have h13 : DataW.trod en Try.prog w base spare held m 50 ((cs.drop 17).take (Try.prog.cellsOf 50)) = some y13 := (hf 13 _ rfl).trans g13
  have h14 : DataW.trod en Try.prog w base spare held m 22 ((cs.drop 18).take (Try.prog.cellsOf 22)) = some y14 := (hf 14 _ rfl).trans g14
  rw [show Try.prog.cellsOf 52 = 19 by kernel_rfl] at hl
  match cs, hl with
  | [c0, c1, c2, c3, c4, c5, c6, c7, c8, c9, c10, c11, c12, c13, c14, c15, c16, c17, c18], _ =>
    rw [show Try.prog.cellsOf 3 = 1 by kernel_rfl] at h0 h10 h11
    rw [show Try.prog.cellsOf 9 = 1 by kernel_rfl] at h1 h5
    rw [show Try.prog.cellsOf 31 = 1 by kernel_rfl] at h3 h4
    rw [show Try.prog.cellsOf 4 = 1 by kernel_rfl] at h6 h7 h8 h9
    rw [show Try.prog.cellsOf 50 = 1 by kernel_rfl] at h12 h13
    rw [show Try.prog.cellsOf 22 = 1 by kernel_rfl] at h14
    rw [show Try.prog.cellsOf 49 = 5 by kernel_rfl] at h2
    obtain ⟨k0, e0, _, w0⟩ := DataW.trod_int Try.underlying3 h0
    obtain ⟨s1, e1, _, z1⟩ := DataW.trod_string Try.underlying9 h1
    obtain ⟨tv, tt, e2, r2, z2⟩ := ty_of_cells h2
    obtain ⟨a3, n3, q3, l3, e3, r3, z3⟩ := strs_open h3
    obtain ⟨a4, n4, q4, l4, e4, r4, z4⟩ := strs_open h4
    obtain ⟨s5, e5, _, z5⟩ := DataW.trod_string Try.underlying9 h5
    obtain ⟨b6, e6, _⟩ := DataW.trod_bool Try.underlying4 h6
    obtain ⟨b7, e7, _⟩ := DataW.trod_bool Try.underlying4 h7
    obtain ⟨b8, e8, _⟩ := DataW.trod_bool Try.underlying4 h8
    obtain ⟨b9, e9, _⟩ := DataW.trod_bool Try.underlying4 h9
    obtain ⟨k10, e10, _, w10⟩ := DataW.trod_int Try.underlying3 h10
    obtain ⟨k11, e11, _, w11⟩ := DataW.trod_int Try.underlying3 h11
    obtain ⟨v12, l12, e12, r12, z12⟩ := exs_open h12
    obtain ⟨v13, l13, e13, r13, z13⟩ := exs_open h13
    simp at e0 e1 e2 e3 e4 e5 e6 e7 e8 e9 e10 e11 e12 e13
    obtain ⟨rfl, rfl, rfl, rfl, rfl⟩ := e2
    subst e0 e1 e3 e4 e5 e6 e7 e8 e9 e10 e11 e12 e13
    unfold maxLen at z1 z5
    exact ⟨⟨k0, s1, tv, .slice a3 n3 q3, .slice a4 n4 q4, s5, b6, b7, b8, b9, k10, k11, c16, c17, c18⟩, ⟨k0, s1, tt, l3, l4, s5, b6, b7, b8, b9, k10, k11, l12, l13⟩, rfl,
      ⟨⟨rfl, rfl, rfl, rfl, rfl, rfl, rfl, rfl, rfl⟩, r2, r3, r4, r12, r13⟩, ⟨by dsimp only; omega, z2, z3, z4, by dsimp only; omega, wf_i64 w0, wf_i64 w10, wf_i64 w11, z12, z13⟩, m, y14, by omega, h14⟩
theorem scs_open {fuel : Nat} {cs : List Value} {x : DataW H × List MemPlace} (h : DataW.trod en Try.prog w base spare held fuel 22 cs = some x) :
    ∃ (v : Value) (l : List Sc), cs = [v] ∧ (∃ d, RdL scK d w v l) ∧ ∀ e, FitT ScWf e l := by
  obtain ⟨v, l, hv, hl, hf⟩ := open_tree (k := scK) (Q := ScWf) Try.underlying22 (show Try.prog.cellsOf 52 = 19 by kernel_rfl) (by rw [scK_z]; omega) (fun _ _ _ h => sc_of_cells h) fuel _ _ h
  exact ⟨v, l, hv, ⟨_, hl⟩, FitT.all hf (rd_deepT hl)⟩
end
end Go.Proofs.Ytlgooejoohcmfaa
