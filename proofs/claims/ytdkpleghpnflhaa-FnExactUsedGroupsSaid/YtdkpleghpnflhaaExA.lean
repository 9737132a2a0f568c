/- MERGED for a claim: Ex ExA. -/
import Derived.Test.YtdkpleghpnflhaaTreeO
import Derived.Test.YtdkpleghpnflhaaWkA
import Derived.Test.YtdkpleghpnflhaaPthE
set_option linter.unusedVariables false
set_option linter.unusedSimpArgs false
/- CHAPTER 8: EXPRESSIONS AS TREES IN MEMORY: how they lie, an argument opened, laws.szExpr, szExprS. -/
namespace Go.Proofs.Ytdkpleghpnflhaa
open Go.RowKit Go.ChangeShapes Go.WideShapes Go.Deep Go.Joins

/-- what an expression says besides its kids; how one lies -/
structure ExX where
  op : Int
  num : Int
  text : ByteArray
  p : Pth
structure ExR where
  op : Int
  num : Int
  text : ByteArray
  root : Bool
  ups : Int
  sv : Value
  kv : Value
def ExR.enc (r : ExR) : List Value := [.int .i64 r.op, .int .i64 r.num, .string r.text, .bool r.root, .int .i64 r.ups, r.sv, r.kv]
abbrev ExR.val (r : ExR) : Value := .agg #[.int .i64 r.op, .int .i64 r.num, .string r.text, .bool r.root, .int .i64 r.ups, r.sv, r.kv]
abbrev ExR.pv (r : ExR) : PthV := ⟨r.root, r.ups, r.sv⟩
theorem ExR.enc_len (r : ExR) : r.enc.length = 7 := rfl
def exK : Kd ExX where
  ρ := ExR
  enc := ExR.enc
  z := 7
  E := 111
  kv := ExR.kv
  hz := fun _ => rfl
  rd := fun w r x => (r.op = x.op ∧ r.num = x.num ∧ r.text = x.text) ∧ HasP7 w r.pv x.p
  own := fun B w r x S => (r.op = x.op ∧ r.num = x.num ∧ r.text = x.text) ∧ OwnP7 B w r.pv x.p S
  rd_below := fun h hb => ⟨h.1, h.2.below hb⟩
  own_rd := fun h => ⟨h.1, h.2.has⟩
  own_frame := fun h hf => ⟨h.1, ⟨h.2.root, h.2.ups, OwL.frame h.2.st hf⟩⟩
  own_lt := fun h b hb => OwL.lt h.2.st b hb
  own_mono := fun h hb => ⟨h.1, ⟨h.2.root, h.2.ups, OwL.mono h.2.st hb⟩⟩
abbrev Ex := Tr ExX
theorem exK_z : (exK).z = 7 := rfl
/-- what a frame tells of an expression's fields; what a size that is not below 0 tells -/
def ExWf (x : ExX) : Prop := x.text.size ≤ 9223372036854775807 ∧ PthWf x.p ∧ (-9223372036854775808 ≤ x.op ∧ x.op ≤ 9223372036854775807) ∧ (-9223372036854775808 ≤ x.num ∧ x.num ≤ 9223372036854775807)
def ExSz (x : ExX) : Prop := x.text.size ≤ 1048576 ∧ PthSz x.p
/-- at p lies the record r -/
def Ek (w : World) (p : Addr) (r : ExR) : Prop := w.cell? p = some (.int .i64 r.op) ∧ w.cell? ⟨p.block, p.off + 1, none⟩ = some (.int .i64 r.num) ∧ w.cell? ⟨p.block, p.off + 2, none⟩ = some (.string r.text) ∧ w.cell? ⟨p.block, p.off + 3, none⟩ = some (.bool r.root) ∧ w.cell? ⟨p.block, p.off + 4, none⟩ = some (.int .i64 r.ups) ∧ w.cell? ⟨p.block, p.off + 5, none⟩ = some r.sv ∧ w.cell? ⟨p.block, p.off + 6, none⟩ = some r.kv
theorem Ek.below {w w' : World} {p : Addr} {r : ExR} (h : Ek w p r) (hb : Below w.heap.size w w') (hp : p.block < w.heap.size) : Ek w' p r :=
  ⟨by rw [hb.cell hp]; exact h.1, by rw [hb.cell (p := ⟨p.block, p.off + 1, none⟩) hp]; exact h.2.1, by rw [hb.cell (p := ⟨p.block, p.off + 2, none⟩) hp]; exact h.2.2.1, by rw [hb.cell (p := ⟨p.block, p.off + 3, none⟩) hp]; exact h.2.2.2.1, by rw [hb.cell (p := ⟨p.block, p.off + 4, none⟩) hp]; exact h.2.2.2.2.1, by rw [hb.cell (p := ⟨p.block, p.off + 5, none⟩) hp]; exact h.2.2.2.2.2.1, by rw [hb.cell (p := ⟨p.block, p.off + 6, none⟩) hp]; exact h.2.2.2.2.2.2⟩
theorem HasE.ek {w : World} {A : Option Addr} {R : List ExR} (h : ∀ i (h : i < R.length), ∃ a, A = some a ∧ a.block < w.heap.size ∧ ∀ j x, (R[i].enc)[j]? = some x → w.cell? ((a.add (i * 7)).add j) = some x) (i : Nat) (hi : i < R.length) :
    ∃ a, A = some a ∧ (a.add (i * 7)).block < w.heap.size ∧ Ek w (a.add (i * 7)) R[i] := by
  obtain ⟨a, ha, hb, hc⟩ := h i hi
  exact ⟨a, ha, by rw [addr_blk]; exact hb, hc 0 _ rfl, hc 1 _ rfl, hc 2 _ rfl, hc 3 _ rfl, hc 4 _ rfl, hc 5 _ rfl, hc 6 _ rfl⟩
/-- a list of expressions that is read: its form; the i-th of them -/
theorem ex_at {d : Nat} {w : World} {v : Value} {l : List Ex} (h : RdL exK d w v l) : ∃ (A : Option Addr) (cap : Nat), v = .slice A l.length cap ∧ l.length ≤ 9223372036854775807 ∧
    ∀ i (hi : i < l.length), ∃ (a : Addr) (r : ExR) (d' : Nat), A = some a ∧ d = d' + 1 ∧ (a.add (i * 7)).block < w.heap.size ∧ Ek w (a.add (i * 7)) r ∧ RdN exK d' w r l[i] := by
  cases d with
  | zero =>
    obtain ⟨rfl, A, cap, hv, hn, _⟩ := h
    exact ⟨A, cap, hv, hn, fun i hi => absurd hi (Nat.not_lt_zero i)⟩
  | succ d =>
    obtain ⟨R, ⟨A, cap, hv, hn, hc⟩, hRl, hRk⟩ := h
    refine ⟨A, cap, by rw [← hRl]; exact hv, by rw [← hRl]; exact hn, fun i hi => ?_⟩
    have h1 : i < R.length := by rw [hRl]; exact hi
    obtain ⟨a, e1, e2, e3⟩ := HasE.ek hc i h1
    exact ⟨a, R[i], d, e1, rfl, e2, e3, hRk i h1 hi⟩
section
variable {H : Type} {en : TypeId × Value → H} {w : World} {base : Nat} {spare : Nat → Bool} {held : Bool}
theorem trod_struct5f {P : Program} {t : TypeId} {f0 f1 f2 f3 f4 : Field} {fuel : Nat} {cs : List Value} {x : DataW H × List MemPlace} (ht : P.underlying t = some (.struct #[f0, f1, f2, f3, f4])) (h : DataW.trod en P w base spare held fuel t cs = some x) :
    ∃ y0 y1 y2 y3 y4 n, fuel = n + 1 ∧ cs.length = P.cellsOf t ∧ DataW.trod en P w base spare held n f0.type ((cs.drop f0.offset).take (P.cellsOf f0.type)) = some y0 ∧
      DataW.trod en P w base spare held n f1.type ((cs.drop f1.offset).take (P.cellsOf f1.type)) = some y1 ∧ DataW.trod en P w base spare held n f2.type ((cs.drop f2.offset).take (P.cellsOf f2.type)) = some y2 ∧
      DataW.trod en P w base spare held n f3.type ((cs.drop f3.offset).take (P.cellsOf f3.type)) = some y3 ∧ DataW.trod en P w base spare held n f4.type ((cs.drop f4.offset).take (P.cellsOf f4.type)) = some y4 := by
  obtain ⟨xs, n, hn, rfl, hl, hlen, hf⟩ := DataW.trod_struct ht h
  match xs, hlen with
  | [y0, y1, y2, y3, y4], _ => exact ⟨y0, y1, y2, y3, y4, n, hn, hl, by simpa using hf 0 f0 rfl, by simpa using hf 1 f1 rfl, by simpa using hf 2 f2 rfl, by simpa using hf 3 f3 rfl, by simpa using hf 4 f4 rfl⟩
set_option maxRecDepth 100000 in
theorem ex_of_cells {n : Nat} {cs : List Value} {y : DataW H × List MemPlace} (h : DataW.trod en Try.prog w base spare held n 119 cs = some y) :
    ∃ (r : ExR) (x : ExX), cs = r.enc ∧ exK.rd w r x ∧ ExWf x ∧ ∃ m y', m < n ∧ DataW.trod en Try.prog w base spare held m 51 [r.kv] = some y' := by
  obtain ⟨y0, y1, y2, y3, y4, m, hn, hl, h0, h1, h2, h3, h4⟩ := trod_struct5f Try.underlying119 h
  rw [show Try.prog.cellsOf 119 = 7 by kernel_rfl] at hl
  match cs, hl with
  | [c0, c1, c2, c3, c4, c5, c6], _ =>
    rw [show Try.prog.cellsOf 3 = 1 by kernel_rfl] at h0 h1
    rw [show Try.prog.cellsOf 9 = 1 by kernel_rfl] at h2
    rw [show Try.prog.cellsOf 117 = 3 by kernel_rfl] at h3
    rw [show Try.prog.cellsOf 51 = 1 by kernel_rfl] at h4
    obtain ⟨k, hk, _, kw⟩ := DataW.trod_int Try.underlying3 h0
    obtain ⟨k1, hk1, _, kw1⟩ := DataW.trod_int Try.underlying3 h1
    obtain ⟨t, ht, _, hs⟩ := DataW.trod_string Try.underlying9 h2
    obtain ⟨v, p, hp, g1, g2⟩ := pth_of_cells h3
    simp at hk hk1 ht hp
    obtain ⟨rfl, rfl, rfl⟩ := hp
    subst hk hk1 ht
    exact ⟨⟨k, k1, t, v.root, v.ups, v.sv, c6⟩, ⟨k, k1, t, p⟩, rfl, ⟨⟨rfl, rfl, rfl⟩, g1⟩, ⟨by unfold maxLen at hs; dsimp only; omega, g2, wf_i64 kw, wf_i64 kw1⟩, m, y4, by omega, h4⟩
set_option maxRecDepth 100000 in
theorem ex_open {r : Reach} {b0 : Nat} {v : Value} {d : DataW H} {p : List MemPlace} (hv : Value.okWide Try.prog w r b0 119 v) (h : DataW.Trod en Try.prog w base spare held 119 v d p) :
    ∃ (y : ExR) (t : Ex) (D : Nat), v = y.val ∧ RdN exK D w y t ∧ ExWf t.x ∧ FitT ExWf D t.kids := by
  obtain ⟨cs, rfl, hsz⟩ := okWide_struct Try.underlying119 hv
  obtain ⟨fuel, hf⟩ := h
  obtain ⟨y, x, hy, h1, h2, m, y', _, h3⟩ := ex_of_cells hf
  obtain ⟨v, l, hvl, hl, hfit⟩ := open_tree (k := exK) (Q := ExWf) Try.underlying51 (show Try.prog.cellsOf 119 = 7 by kernel_rfl) (by rw [exK_z]; omega) (fun _ _ _ h => ex_of_cells h) m _ _ h3
  have hv' : y.kv = v := by simpa using hvl
  refine ⟨y, .mk x l, m, ?_, ⟨h1, by rw [show exK.kv y = y.kv from rfl, hv']; exact hl⟩, h2, hfit⟩
  have : cs.toList = [.int .i64 y.op, .int .i64 y.num, .string y.text, .bool y.root, .int .i64 y.ups, y.sv, y.kv] := hy
  rw [← Array.toArray_toList (xs := cs), this]
end
/-- what a size tells: y is left of 'left' -/
def SzOutE (Q : Prop) (D : Nat → Prop) (left : Int) (w : World) (e : Ending) (w' : World) : Prop := ∃ y : Int, e = .returned (.int .i64 y) ∧ (0 ≤ y → Q ∧ D (left - y).toNat) ∧ -1 ≤ y ∧ y ≤ left ∧ Below w.heap.size w w'
def SzES (d : Nat) : Prop := ∀ (v : Value) (l : List Ex) (w : World) (left : Int), RdL exK d w v l → FitT ExWf d l → 0 ≤ left → left ≤ 1048576 → Calls Try.prog 37 #[v, .int .i64 left] w (SzOutE (SizT ExSz d l) (fun n => DeepT n l ∧ sizeS l ≤ n) left w)
def SzE (d : Nat) : Prop := ∀ (r : ExR) (t : Ex) (w : World) (left : Int), RdN exK d w r t → FitT ExWf d t.kids → ExWf t.x → 0 ≤ left → left ≤ 1048576 → Calls Try.prog 52 #[r.val, .int .i64 left] w (SzOutE (ExSz t.x ∧ SizT ExSz d t.kids) (fun n => DeepT n t.kids ∧ sizeS t.kids ≤ n) left w)
end Go.Proofs.Ytdkpleghpnflhaa

/- CHAPTER 8: laws.szExpr, szExprS, eqExpr, eqExprS. -/
namespace Go.Proofs.Ytdkpleghpnflhaa
open Go.RowKit

/-- a variable of the call's own that holds an expression -/
def EBox (T : TypeId) (w : World) (b : Nat) (r : ExR) : Prop := w.heap[b]? = some (.cells r.enc.toArray T (0, 0))
theorem EBox.below {T : TypeId} {w w' : World} {b : Nat} {r : ExR} (h : EBox T w b r) (hb : Below w.heap.size w w') : EBox T w' b r := (hb.block b (Array.getElem?_eq_some_iff.1 h).1).trans h
theorem EBox.lt {T : TypeId} {w : World} {b : Nat} {r : ExR} (h : EBox T w b r) : b < w.heap.size := (Array.getElem?_eq_some_iff.1 h).1
theorem EBox.tell {T : TypeId} {w : World} {b : Nat} {r : ExR} (h : EBox T w b r) : w.cell? ⟨b, 0, none⟩ = some (.int .i64 r.op) ∧ w.cell? ⟨b, 1, none⟩ = some (.int .i64 r.num) ∧ w.cell? ⟨b, 2, none⟩ = some (.string r.text) ∧ w.cell? ⟨b, 3, none⟩ = some (.bool r.root) ∧ w.cell? ⟨b, 4, none⟩ = some (.int .i64 r.ups) ∧ w.cell? ⟨b, 5, none⟩ = some r.sv ∧ w.cell? ⟨b, 6, none⟩ = some r.kv := seven_cellsT h
theorem EBox.new (T : TypeId) (w : World) (r : ExR) : EBox T (w.alloc (.cells r.enc.toArray T)) w.heap.size r := heap_alloc_new w _
set_option maxRecDepth 100000 in
set_option maxHeartbeats 2000000 in
theorem szE_of {d : Nat} (ih : SzES d) : SzE d := by
  rintro ⟨op, num, text, ro, up, sv, kv⟩ ⟨⟨xo, xn, xt, p⟩, l⟩ w left ⟨⟨⟨h1, h2, h3⟩, hp⟩, hk⟩ hf hw h0 h9
  obtain rfl : op = xo := h1
  obtain rfl : num = xn := h2
  obtain rfl : text = xt := h3
  have hp2 : HasP7 w ⟨ro, up, sv⟩ p := hp
  have hk2 : RdL exK d w kv l := hk
  have hf2 : FitT ExWf d l := hf
  have ht : text.size ≤ 9223372036854775807 := hw.1
  have hpw : PthWf p := hw.2.1
  have HP := Lib.hid (fun W (hb : Below w.heap.size w W) y a b => szPth_any ⟨ro, up, sv⟩ p hpw y a b W (hp2.below hb))
  have HK := Lib.hid (fun W (hb : Below w.heap.size w W) y a b => ih kv l W y (hk2.below hb) hf2 a b)
  obtain ⟨A, n, c, rfl⟩ : ∃ A n c, sv = .slice A n c := by obtain ⟨A, c, hv, _⟩ := hp2.st.at; exact ⟨A, _, c, hv⟩
  obtain ⟨A', n', c', rfl⟩ : ∃ A n c, kv = .slice A n c := by obtain ⟨A, c, hv⟩ := hk2.form; exact ⟨A, _, c, hv⟩
  have HBX := Lib.hid (EBox.new 119 w ⟨op, num, text, ro, up, .slice A n c, .slice A' n' c'⟩)
  have HB0 := Lib.hid (below_al (Below.refl w.heap.size w) (.cells (ExR.enc ⟨op, num, text, ro, up, .slice A n c, .slice A' n' c'⟩).toArray 119))
  obtain ⟨m, hm⟩ : ∃ m : Int, m = left - text.size := ⟨_, rfl⟩
  have hwr : IntKind.i64.wrap (left - text.size) = m := by rw [IntKind.wrap_i64]; omega
  have HM := Lib.hid (And.intro hm h9)
  have HLN : Hid (Tr.kids (Tr.mk (⟨op, num, text, p⟩ : ExX) l) = l) := Lib.hid rfl
  clear hp hk hf hw hp2 hk2 hf2 hpw ih hm h9
  by_cases hlt : m < 0
  · go_enter Try.func52, Try.ntmps52
    go_wp2
    go_ret
    exact ⟨-1, rfl, fun h => absurd h (by omega), by omega, by omega, HB0.out⟩
  · have hm9 : m ≤ 1048576 := by have := HM.out; omega
    go_enter Try.func52, Try.ntmps52
    go_wp2_with fail
    refine (HP.out _ HB0.out m (by omega) hm9).mono ?_
    rintro e w1 ⟨⟨z, rfl, hz, hz1, hz2⟩, hb1⟩
    have HB1 := Lib.hid (below_step HB0.out hb1)
    by_cases hz0 : z < 0
    · clear hz
      go_wp2
      go_ret
      exact ⟨-1, rfl, fun h => absurd h (by omega), by omega, by have := HM.out; omega, HB1.out⟩
    · have HZ := Lib.hid (hz (by omega))
      obtain ⟨a0, a1, a2, a3, a4, a5, a6⟩ := (HBX.out.below hb1).tell
      clear hz hb1
      go_wp2_with fail
      refine (HK.out _ HB1.out z (by omega) (by omega)).mono ?_
      rintro e w2 ⟨y, rfl, H1, h2, h3, hb2⟩
      have H := Lib.hid H1
      have HB2 := Lib.hid (below_step HB1.out hb2)
      clear H1 a0 a1 a2 a3 a4 a5 a6
      by_cases hy0 : y < 0
      · go_wp2
        go_ret
        exact ⟨-1, rfl, fun h => absurd h (by omega), by omega, by have := HM.out; omega, HB2.out⟩
      · have HQ := Lib.hid (H.out (by omega))
        clear H hb2
        go_wp2
        go_ret
        refine ⟨y, rfl, fun _ => ⟨⟨⟨by have := HM.out; show text.size ≤ 1048576; omega, HZ.out⟩, HQ.out.1⟩, DeepT.more HQ.out.2.1 ?_, Nat.le_trans HQ.out.2.2 ?_⟩, by omega, by have := HM.out; omega, HB2.out⟩
        · have := HM.out
          omega
        · have := HM.out
          omega
set_option maxRecDepth 100000 in
set_option maxHeartbeats 2000000 in
theorem szES_of (d : Nat) (ih : ∀ e, d = e + 1 → SzE e) : SzES d := by
  intro v l w left hv hf h0 h9
  obtain ⟨A, cap, rfl, hn', hc⟩ := ex_at hv
  obtain ⟨n, hnn⟩ : ∃ n, n = l.length := ⟨_, rfl⟩
  have HN : Hid (n = l.length) := Lib.hid hnn
  have HC : ∀ i (hi : i < l.length), ∃ (a : Addr) (r : ExR), A = some a ∧ (a.add (i * 7)).block < w.heap.size ∧ Ek w (a.add (i * 7)) r ∧ ∀ (W : World) (left : Int), Below w.heap.size w W → 0 ≤ left → left ≤ 1048576 → Calls Try.prog 52 #[r.val, .int .i64 left] W fun e w' => ∃ y : Int, e = .returned (.int .i64 y) ∧ (0 ≤ y → (ExSz l[i].x ∧ SizT ExSz (d - 1) l[i].kids) ∧ DeepT (left - y).toNat l[i].kids ∧ sizeS l[i].kids ≤ (left - y).toNat) ∧ -1 ≤ y ∧ y ≤ left ∧ Below W.heap.size W w' := fun i hi => by
    obtain ⟨a, r, d', e1, e2, e3, e4, e5⟩ := hc i hi
    subst e2
    have hm := hf _ (List.getElem_mem hi)
    exact ⟨a, r, e1, e3, e4, fun W left hb g0 g9 => ih d' rfl r l[i] W left (RdN.below e5 hb) hm.2 hm.1 g0 g9⟩
  have HD : Hid ((l.length ≤ 1048576 ∧ ∀ t, t ∈ l → ExSz t.x ∧ SizT ExSz (d - 1) t.kids) → SizT ExSz d l) := Lib.hid fun h => by
    cases d with
    | zero => exact True.intro
    | succ d => exact ⟨h.1, h.2⟩
  rw [← hnn] at hn' ⊢
  have HCC := Lib.hid HC
  clear hnn hc hv hf ih HC
  have e1 : IntKind.i64.wrap (left - n) = left - n := by rw [IntKind.wrap_i64]; omega
  by_cases hbig : left < n
  · have z1 : left - n < 0 := by omega
    go_enter Try.func37, Try.ntmps37
    go_wp2
    go_ret
    exact ⟨-1, rfl, fun h => absurd h (by omega), by omega, by omega, Below.refl _ _⟩
  · have z1 : ¬ left - n < 0 := by omega
    obtain ⟨y0, hy0⟩ : ∃ y0, y0 = left - n := ⟨_, rfl⟩
    have e2 : IntKind.i64.wrap (left - n) = y0 := by rw [e1, hy0]
    rw [← hy0] at z1
    have HY := Lib.hid (And.intro hy0 (And.intro h9 h0))
    have hnb : (n : Int) ≤ 1048576 := by omega
    have hy9 : y0 ≤ 1048576 := by omega
    clear e1 hy0 hbig h9 h0
    go_enter Try.func37, Try.ntmps37
    go_wp2
    go_loopw [1, 5] (fun x i wr => ∃ (k : Nat) (y : Int), k ≤ n ∧ i = .int .i64 k ∧ x = .int .i64 y ∧ 0 ≤ y ∧ y ≤ y0 ∧ Hid (∀ s ∈ l.take k, (ExSz s.x ∧ SizT ExSz (d - 1) s.kids) ∧ DeepT (y0 - y).toNat s.kids) ∧ Hid (sizeS (l.take k) ≤ k + (y0 - y).toNat) ∧ Below w.heap.size w wr) (fun _ i _ => n - (intOf i).toNat)
    case atStart => exact ⟨0, y0, Nat.zero_le _, rfl, rfl, by omega, by omega, Lib.hid (by simp), Lib.hid (by simp [sizeS]), Below.refl _ _⟩
    case round =>
      obtain ⟨k, y, hk, rfl, rfl, hy0, hy1, HS, HZS, hbel⟩ := hrel
      by_cases hlt : k < n
      · have hlk : k < l.length := by rw [← HN.out]; exact hlt
        obtain ⟨a, r, rfl, hab, hcell, hcall⟩ := HCC.out k hlk
        obtain ⟨c0, c1, c2, c3, c4, c5, c6⟩ := hcell.below hbel hab
        have HC := Lib.hid (hcall wr y hbel hy0 (by omega))
        have HT : Hid (∀ z : Int, -1 ≤ z → z ≤ y → (ExSz l[k].x ∧ SizT ExSz (d - 1) l[k].kids) ∧ DeepT (y - z).toNat l[k].kids ∧ sizeS l[k].kids ≤ (y - z).toNat → ∀ s ∈ l.take (k + 1), (ExSz s.x ∧ SizT ExSz (d - 1) s.kids) ∧ DeepT (y0 - z).toNat s.kids) := Lib.hid fun z hz0 hz1 h1 => all_step hlk (fun s hs => ⟨(HS.out s hs).1, DeepT.more (HS.out s hs).2 (by omega)⟩) ⟨h1.1, DeepT.more h1.2.1 (by omega)⟩
        have HTZ : Hid (∀ z : Int, -1 ≤ z → z ≤ y → sizeS l[k].kids ≤ (y - z).toNat → sizeS (l.take (k + 1)) ≤ k + 1 + (y0 - z).toNat) := Lib.hid fun z hz0 hz1 h1 => by rw [sizeS_step l k hlk, sizeN_eq]; have := HZS.out; omega
        generalize l[k] = x at HC HT HTZ
        clear hcell hcall
        go_wp2_with fail
        refine (HC.out).mono ?_
        rintro e w1 ⟨z, rfl, hz, hz1, hz2, hb1⟩
        have hbel1 := below_step hbel hb1
        by_cases hz0 : z < 0
        · clear hz
          go_wp2
          go_ret
          exact ⟨-1, rfl, fun h => absurd h (by omega), by omega, by have := HY.out; omega, hbel1⟩
        · have HT2 := Lib.hid (HT.out z hz1 hz2 (hz (by omega)))
          have HZ2 := Lib.hid (HTZ.out z hz1 hz2 (hz (by omega)).2.2)
          clear hz HT HTZ
          go_wp2
          go_roundw
          case rel => exact ⟨k + 1, z, by omega, by go_num, rfl, by omega, by omega, HT2, HZ2, hbel1⟩
          case measure => simp [intOf]; omega
      · go_wp2
        go_ret
        have hall : ∀ s ∈ l, (ExSz s.x ∧ SizT ExSz (d - 1) s.kids) ∧ DeepT (y0 - y).toNat s.kids := by have h2 := HS.out; rwa [List.take_of_length_le (by have := HN.out; omega)] at h2
        refine ⟨y, rfl, fun h => ⟨HD.out ⟨by have := HN.out; omega, fun t ht => (hall t ht).1⟩, ?_, ?_⟩, by omega, by have := HY.out; omega, hbel⟩
        rotate_left
        · have h2 := HZS.out
          rw [List.take_of_length_le (by have := HN.out; omega)] at h2
          have := HY.out; omega
        by_cases hn0 : n = 0
        · have : l = [] := List.length_eq_zero_iff.1 (by have := HN.out; omega)
          rw [this]; exact DeepT.nil _
        · have h1 := HY.out
          obtain ⟨m, hm⟩ : ∃ m, (left - y).toNat = m + 1 := ⟨(left - y).toNat - 1, by omega⟩
          rw [hm]
          exact fun t ht => DeepT.more (hall t ht).2 (by omega)
theorem szES_any : ∀ d, SzES d
  | 0 => szES_of 0 (fun e h => by cases h)
  | d + 1 => szES_of (d + 1) (fun e h => by cases h; exact szE_of (szES_any d))
theorem szE_any (d : Nat) : SzE d := szE_of (szES_any d)
/-- the contracts of eqExprS, eqExpr at depth d -/
def EqES (d : Nat) : Prop := ∀ (u v : Value) (l : List Ex) (w : World), RdL exK d w u l → RdL exK d w v l → Calls Try.prog 49 #[u, v] w fun e w' => e = .returned (.bool true) ∧ Below w.heap.size w w'
def EqE (d : Nat) : Prop := ∀ (x y : ExR) (t : Ex) (w : World), RdN exK d w x t → RdN exK d w y t → Calls Try.prog 57 #[x.val, y.val] w fun e w' => e = .returned (.bool true) ∧ Below w.heap.size w w'
set_option maxRecDepth 100000 in
set_option maxHeartbeats 2000000 in
theorem eqE_of {d : Nat} (ih : EqES d) : EqE d := by
  rintro ⟨op, num, text, ro, up, sv, kv⟩ ⟨op', num', text', ro', up', sv', kv'⟩ ⟨⟨xo, xn, xt, p⟩, l⟩ w ⟨⟨⟨h1, h2, h3⟩, hp⟩, hk⟩ ⟨⟨⟨g1, g2, g3⟩, gp⟩, gk⟩
  obtain rfl : op = xo := h1
  obtain rfl : num = xn := h2
  obtain rfl : text = xt := h3
  obtain rfl : op' = op := g1
  obtain rfl : num' = num := g2
  obtain rfl : text' = text := g3
  have hp2 : HasP7 w ⟨ro, up, sv⟩ p := hp
  have hk2 : RdL exK d w kv l := hk
  have gp2 : HasP7 w ⟨ro', up', sv'⟩ p := gp
  have gk2 : RdL exK d w kv' l := gk
  have HP := Lib.hid (fun W (hb : Below w.heap.size w W) => eqPth_any ⟨ro, up, sv⟩ ⟨ro', up', sv'⟩ p W (hp2.below hb) (gp2.below hb))
  have HK := Lib.hid (fun W (hb : Below w.heap.size w W) => ih kv kv' l W (hk2.below hb) (gk2.below hb))
  obtain ⟨A, n, c, rfl⟩ : ∃ A n c, sv = .slice A n c := by obtain ⟨A, c, hv, _⟩ := hp2.st.at; exact ⟨A, _, c, hv⟩
  obtain ⟨A', n', c', rfl⟩ : ∃ A n c, kv = .slice A n c := by obtain ⟨A, c, hv⟩ := hk2.form; exact ⟨A, _, c, hv⟩
  obtain ⟨B, m, q, rfl⟩ : ∃ A n c, sv' = .slice A n c := by obtain ⟨A, c, hv, _⟩ := gp2.st.at; exact ⟨A, _, c, hv⟩
  obtain ⟨B', m', q', rfl⟩ : ∃ A n c, kv' = .slice A n c := by obtain ⟨A, c, hv⟩ := gk2.form; exact ⟨A, _, c, hv⟩
  obtain ⟨W1, hW1⟩ : ∃ W1, W1 = w.alloc (.cells (ExR.enc ⟨op', num', text', ro, up, .slice A n c, .slice A' n' c'⟩).toArray 111) := ⟨_, rfl⟩
  have HX := Lib.hid (EBox.new 111 w ⟨op', num', text', ro, up, .slice A n c, .slice A' n' c'⟩)
  have HY := Lib.hid (EBox.new 111 W1 ⟨op', num', text', ro', up', .slice B m q, .slice B' m' q'⟩)
  rw [← hW1] at HX
  have HX2 := Lib.hid (HX.out.below (below_al (Below.refl _ W1) (.cells (ExR.enc ⟨op', num', text', ro', up', .slice B m q, .slice B' m' q'⟩).toArray 111)))
  have HB0 := Lib.hid (below_al (by rw [hW1]; exact below_al (Below.refl w.heap.size w) _ : Below w.heap.size w W1) (.cells (ExR.enc ⟨op', num', text', ro', up', .slice B m q, .slice B' m' q'⟩).toArray 111))
  have hsz : W1.heap.size = w.heap.size + 1 := by rw [hW1]; simp
  rw [hsz] at HY
  rw [hW1] at HB0 HY HX2
  clear hp hk gp gk hp2 hk2 gp2 gk2 ih hW1 hsz HX
  go_enter Try.func57, Try.ntmps57
  go_wp2_with fail
  refine (HP.out _ HB0.out).mono ?_
  rintro e w1 ⟨rfl, hb1⟩
  have HB1 := Lib.hid (below_step HB0.out hb1)
  have HX3 := Lib.hid (HX2.out.below hb1)
  have HY3 := Lib.hid (HY.out.below hb1)
  obtain ⟨a0, a1, a2, a3, a4, a5, a6⟩ := HX3.out.tell
  obtain ⟨b0, b1, b2, b3, b4, b5, b6⟩ := HY3.out.tell
  clear hb1 HX2 HY
  go_wp2_with fail
  refine (HK.out _ HB1.out).mono ?_
  rintro e w2 ⟨rfl, hb2⟩
  have HB2 := Lib.hid (below_step HB1.out hb2)
  clear a0 a1 a2 a3 a4 a5 a6 b0 b1 b2 b3 b4 b5 b6 hb2
  go_wp2
  go_ret
  exact ⟨rfl, HB2.out⟩
theorem held_seven {w w1 w2 : World} {p q : Addr} {x y : ExR} (k : Below w1.heap.size w1 w2) (h : Ek w1 p x ∧ Ek w1 q y ∧ Below w.heap.size w w1) (hp : p.block < w.heap.size) (hq : q.block < w.heap.size) : Ek w2 p x ∧ Ek w2 q y ∧ Below w.heap.size w w2 :=
  ⟨h.1.below k (Nat.lt_of_lt_of_le hp h.2.2.size), h.2.1.below k (Nat.lt_of_lt_of_le hq h.2.2.size), below_step h.2.2 k⟩
set_option maxRecDepth 100000 in
set_option maxHeartbeats 4000000 in
theorem eqES_of (d : Nat) (ih : ∀ e, d = e + 1 → EqE e) : EqES d := by
  intro u v l w hu hv
  obtain ⟨A, cap, rfl, hn', hc⟩ := ex_at hu
  obtain ⟨A', cap', rfl, _, hc'⟩ := ex_at hv
  obtain ⟨n, hnn⟩ : ∃ n, n = l.length := ⟨_, rfl⟩
  have HN : Hid (n = l.length) := Lib.hid hnn
  have HC : Hid (∀ i, i < n → ∃ (a a' : Addr) (x y : ExR), A = some a ∧ A' = some a' ∧ (a.add (i * 7)).block < w.heap.size ∧ (a'.add (i * 7)).block < w.heap.size ∧ Ek w (a.add (i * 7)) x ∧ Ek w (a'.add (i * 7)) y ∧ ∀ W, Below w.heap.size w W → Calls Try.prog 57 #[x.val, y.val] W fun e w' => e = .returned (.bool true) ∧ Below W.heap.size W w') := Lib.hid fun i hi => by
    have hl : i < l.length := by rw [← hnn]; exact hi
    obtain ⟨a, x, d', e1, e2, e3, e4, e5⟩ := hc i hl
    obtain ⟨a', y, d'', f1, f2, f3, f4, f5⟩ := hc' i hl
    subst e2
    obtain rfl : d' = d'' := by omega
    exact ⟨a, a', x, y, e1, f1, e3, f3, e4, f4, fun W hb => ih d' rfl _ _ l[i] W (RdN.below e5 hb) (RdN.below f5 hb)⟩
  rw [← hnn] at hn' ⊢
  clear hc hc' hnn hu hv ih
  go_enter Try.func49, Try.ntmps49
  go_wp2
  go_loopw [5] (fun i wr => ∃ k : Nat, k ≤ n ∧ i = .int .i64 k ∧ Below w.heap.size w wr) (fun i _ => n - (intOf i).toNat)
  case atStart => exact ⟨0, Nat.zero_le _, rfl, Below.refl _ _⟩
  case round =>
    obtain ⟨k, hk, rfl, hbel⟩ := hrel
    by_cases hlt : k < n
    · obtain ⟨a, a', x, y, rfl, rfl, hab, hab', hx, hy, hcall⟩ := HC.out k hlt
      have hxb := hx.below hbel hab
      have hyb := hy.below hbel hab'
      obtain ⟨c0, c1, c2, c3, c4, c5, c6⟩ := hxb
      obtain ⟨d0, d1, d2, d3, d4, d5, d6⟩ := hyb
      have HCALL := Lib.hid hcall
      clear hx hy hcall HC
      go_wp2
      go_region_held3 (fun w' => (w'.cell? (a.add (k * 7)) = some (.int .i64 x.op) ∧ w'.cell? ⟨(a.add (k * 7)).block, (a.add (k * 7)).off + 1, none⟩ = some (.int .i64 x.num) ∧ w'.cell? ⟨(a.add (k * 7)).block, (a.add (k * 7)).off + 2, none⟩ = some (.string x.text) ∧ w'.cell? ⟨(a.add (k * 7)).block, (a.add (k * 7)).off + 3, none⟩ = some (.bool x.root) ∧ w'.cell? ⟨(a.add (k * 7)).block, (a.add (k * 7)).off + 4, none⟩ = some (.int .i64 x.ups) ∧ w'.cell? ⟨(a.add (k * 7)).block, (a.add (k * 7)).off + 5, none⟩ = some x.sv ∧ w'.cell? ⟨(a.add (k * 7)).block, (a.add (k * 7)).off + 6, none⟩ = some x.kv) ∧ (w'.cell? (a'.add (k * 7)) = some (.int .i64 y.op) ∧ w'.cell? ⟨(a'.add (k * 7)).block, (a'.add (k * 7)).off + 1, none⟩ = some (.int .i64 y.num) ∧ w'.cell? ⟨(a'.add (k * 7)).block, (a'.add (k * 7)).off + 2, none⟩ = some (.string y.text) ∧ w'.cell? ⟨(a'.add (k * 7)).block, (a'.add (k * 7)).off + 3, none⟩ = some (.bool y.root) ∧ w'.cell? ⟨(a'.add (k * 7)).block, (a'.add (k * 7)).off + 4, none⟩ = some (.int .i64 y.ups) ∧ w'.cell? ⟨(a'.add (k * 7)).block, (a'.add (k * 7)).off + 5, none⟩ = some y.sv ∧ w'.cell? ⟨(a'.add (k * 7)).block, (a'.add (k * 7)).off + 6, none⟩ = some y.kv) ∧ Below w.heap.size w w') (first | exact ⟨⟨c0, c1, c2, c3, c4, c5, c6⟩, ⟨d0, d1, d2, d3, d4, d5, d6⟩, hbel.drew⟩ | exact held_seven hbm (by assumption) hab hab' | go_keep) (first | (go_at_call 57; refine (HCALL.out _ (by assumption : _ ∧ _ ∧ Below _ _ _).2.2).mono ?_; rintro e w1 ⟨rfl, hbm⟩))
      go_wp2
      go_roundw
      case rel => exact ⟨k + 1, by omega, by go_num, (by assumption : _ ∧ _ ∧ Below _ _ _).2.2⟩
      case measure => simp [intOf]; omega
    · go_wp2
      go_ret
      exact ⟨rfl, hbel⟩
theorem eqES_any : ∀ d, EqES d
  | 0 => eqES_of 0 (fun e h => by cases h)
  | d + 1 => eqES_of (d + 1) (fun e h => by cases h; exact eqE_of (eqES_any d))
theorem eqE_any (d : Nat) : EqE d := eqE_of (eqES_any d)
end Go.Proofs.Ytdkpleghpnflhaa
