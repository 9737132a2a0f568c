/- CHAPTER 8: laws.toExpr, toExprS. -/
import Derived.Test.YtdkpleghpnflhaaExA
import Derived.Laws.Rows
set_option linter.unusedVariables false
set_option linter.unusedSimpArgs false
namespace Go.Proofs.Ytdkpleghpnflhaa
open Go.RowKit

theorem infoExp : (Try.prog.info? 111).map (fun i => (i.zero, i.size, i.bytes)) = some (some (.agg #[.int .i64 0, .int .i64 0, .string ⟨#[]⟩, .bool false, .int .i64 0, .slice none 0 0, .slice none 0 0]), 7, 96) := by kernel_rfl
abbrev RowE (B : Nat) (w : World) (v : Value) (R : List ExR) : Prop := RowR ExR.enc 7 111 B w v R
theorem exCells {B g n cap : Nat} {w : World} {L : List ExR} (h : RowE B w (.slice (some ⟨g, 0, none⟩) n cap) L) {i : Nat} (hi : i < L.length) :
    (w.cell? ⟨g, i * 7, none⟩ = some (.int .i64 L[i].op) ∧ w.cell? ⟨g, i * 7 + 1, none⟩ = some (.int .i64 L[i].num) ∧ w.cell? ⟨g, i * 7 + 2, none⟩ = some (.string L[i].text) ∧ w.cell? ⟨g, i * 7 + 3, none⟩ = some (.bool L[i].root) ∧ w.cell? ⟨g, i * 7 + 4, none⟩ = some (.int .i64 L[i].ups) ∧ w.cell? ⟨g, i * 7 + 5, none⟩ = some L[i].sv ∧ w.cell? ⟨g, i * 7 + 6, none⟩ = some L[i].kv) ∧
    w.frozen? ⟨g, i * 7, none⟩ = false ∧ w.frozen? ⟨g, i * 7 + 1, none⟩ = false ∧ w.frozen? ⟨g, i * 7 + 2, none⟩ = false ∧ w.frozen? ⟨g, i * 7 + 3, none⟩ = false ∧ w.frozen? ⟨g, i * 7 + 4, none⟩ = false ∧ w.frozen? ⟨g, i * 7 + 5, none⟩ = false ∧ w.frozen? ⟨g, i * 7 + 6, none⟩ = false :=
  ⟨⟨RowR.cell ExR.enc_len h hi (j := 0) rfl, RowR.cell ExR.enc_len h hi (j := 1) rfl, RowR.cell ExR.enc_len h hi (j := 2) rfl, RowR.cell ExR.enc_len h hi (j := 3) rfl, RowR.cell ExR.enc_len h hi (j := 4) rfl, RowR.cell ExR.enc_len h hi (j := 5) rfl, RowR.cell ExR.enc_len h hi (j := 6) rfl⟩, RowR.frozen h _, RowR.frozen h _, RowR.frozen h _, RowR.frozen h _, RowR.frozen h _, RowR.frozen h _, RowR.frozen h _⟩
/-- the world after the seven stores of a record -/
def put7 (w : World) (g o : Nat) (x : ExR) : World := ((((((w.setCell ⟨g, o, none⟩ (.int .i64 x.op)).setCell ⟨g, o + 1, none⟩ (.int .i64 x.num)).setCell ⟨g, o + 2, none⟩ (.string x.text)).setCell ⟨g, o + 3, none⟩ (.bool x.root)).setCell ⟨g, o + 4, none⟩ (.int .i64 x.ups)).setCell ⟨g, o + 5, none⟩ x.sv).setCell ⟨g, o + 6, none⟩ x.kv
theorem RowE.put {B g n cap : Nat} {w : World} {L : List ExR} (h : RowE B w (.slice (some ⟨g, 0, none⟩) n cap) L) {i : Nat} (hi : i < L.length) (x : ExR) :
    RowE B (put7 w g (i * 7) x) (.slice (some ⟨g, 0, none⟩) n cap) (L.set i x) ∧ w.grownBy (put7 w g (i * 7) x) (some g) := by
  have h0 := RowR.set1 ExR.enc_len h hi 0 (by omega) (.int .i64 x.op) ⟨x.op, L[i].num, L[i].text, L[i].root, L[i].ups, L[i].sv, L[i].kv⟩ rfl
  have h1 := RowR.set1 ExR.enc_len h0.1 (i := i) (by simpa using hi) 1 (by omega) (.int .i64 x.num) ⟨x.op, x.num, L[i].text, L[i].root, L[i].ups, L[i].sv, L[i].kv⟩ (by simp [ExR.enc])
  have h2 := RowR.set1 ExR.enc_len h1.1 (i := i) (by simpa using hi) 2 (by omega) (.string x.text) ⟨x.op, x.num, x.text, L[i].root, L[i].ups, L[i].sv, L[i].kv⟩ (by simp [ExR.enc])
  have h3 := RowR.set1 ExR.enc_len h2.1 (i := i) (by simpa using hi) 3 (by omega) (.bool x.root) ⟨x.op, x.num, x.text, x.root, L[i].ups, L[i].sv, L[i].kv⟩ (by simp [ExR.enc])
  have h4 := RowR.set1 ExR.enc_len h3.1 (i := i) (by simpa using hi) 4 (by omega) (.int .i64 x.ups) ⟨x.op, x.num, x.text, x.root, x.ups, L[i].sv, L[i].kv⟩ (by simp [ExR.enc])
  have h5 := RowR.set1 ExR.enc_len h4.1 (i := i) (by simpa using hi) 5 (by omega) x.sv ⟨x.op, x.num, x.text, x.root, x.ups, x.sv, L[i].kv⟩ (by simp [ExR.enc])
  have h6 := RowR.set1 ExR.enc_len h5.1 (i := i) (by simpa using hi) 6 (by omega) x.kv x (by simp [ExR.enc])
  refine ⟨?_, (((((h0.2.trans h1.2).trans h2.2).trans h3.2).trans h4.2).trans h5.2).trans h6.2⟩
  have := h6.1
  unfold put7
  simpa [List.set_set] using this
theorem alloc_new_atE (w : World) (o : Obj) {b : Nat} (h : b = w.heap.size) : (w.alloc o).heap[b]? = some o := by rw [h]; exact heap_alloc_new w o
/-- the contracts of toExpr and toExprS at depth d -/
def ToES (d : Nat) : Prop := ∀ (v : Value) (l : List Ex) (w : World), RdL exK d w v l → SizT ExSz d l → Calls Try.prog 42 #[v] w fun e w' => ∃ (v' : Value) (S : Nat → Prop), e = .returned v' ∧ OwL exK d w.heap.size w' v' l S ∧ Below w.heap.size w w'
def ToE (d : Nat) : Prop := ∀ (r : ExR) (t : Ex) (w : World), RdN exK d w r t → ExSz t.x → SizT ExSz d t.kids → Calls Try.prog 54 #[r.val] w fun e w' => ∃ (r' : ExR) (S : Nat → Prop), e = .returned r'.val ∧ OwN exK d w.heap.size w' r' t S ∧ Below w.heap.size w w'
set_option maxRecDepth 100000 in
set_option maxHeartbeats 2000000 in
theorem toES_of (d : Nat) (ih : ∀ e, d = e + 1 → ToE e) : ToES d := by
  intro v l w hv hsh
  obtain ⟨i0, hi, hz0, hz1, hz2⟩ := info_parts infoExp
  obtain ⟨A, cap, rfl, hn', hc⟩ := ex_at hv
  obtain ⟨n, hnn⟩ : ∃ n, n = l.length := ⟨_, rfl⟩
  have HN : Hid (n = l.length) := Lib.hid hnn
  have hn : n ≤ 1048576 := by
    rw [hnn]
    cases d with
    | zero => rw [hv.1]; simp
    | succ d => exact hsh.1
  have HC : Hid (∀ i, (hi : i < l.length) → ∃ (a : Addr) (r : ExR), A = some a ∧ (a.add (i * 7)).block < w.heap.size ∧ Ek w (a.add (i * 7)) r ∧ ∀ W, Below w.heap.size w W → Calls Try.prog 54 #[r.val] W fun e w' => ∃ (r' : ExR) (S : Nat → Prop), e = .returned r'.val ∧ OwN exK (d - 1) W.heap.size w' r' l[i] S ∧ Below W.heap.size W w') := Lib.hid fun i hi => by
    obtain ⟨a, r, d', e1, e2, e3, e4, e5⟩ := hc i hi
    subst e2
    have hm := hsh.2 _ (List.getElem_mem hi)
    exact ⟨a, r, e1, e3, e4, fun W hb => ih d' rfl _ l[i] W (RdN.below e5 hb) hm.1 hm.2⟩
  have HFIN : Hid (∀ {W : World} {R : List ExR}, RowE w.heap.size W (.slice (some ⟨w.heap.size, 0, none⟩) n n) R → (∃ K, PartT exK (d - 1) w.heap.size W w.heap.size R l K l.length) → ∃ S, OwL exK d w.heap.size W (.slice (some ⟨w.heap.size, 0, none⟩) n n) l S) := Lib.hid (by
    rename_i W R
    intro hr hp
    obtain ⟨K, hK⟩ := hp
    cases d with
    | zero =>
      have hl : l = [] := hv.1
      have hR : R = [] := List.length_eq_zero_iff.1 (hK.len.trans (by rw [hl]; rfl))
      subst hR
      exact ⟨_, hl, hr, fun b => Iff.rfl⟩
    | succ d => exact ⟨_, hK.own hr⟩)
  rw [← hnn] at hn' ⊢
  clear hnn hsh ih hc hv
  go_enter Try.func42, Try.ntmps42
  have hb2 : i0.bytes * n ≤ 281474976710656 := by rw [hz2]; omega
  have hb3 : n ≤ maxLen := by unfold maxLen; omega
  have HZ : Hid (i0.bytes = 96) := Lib.hid hz2
  clear hz2
  go_wp2_with (at_make; refine wpList_make_full _ rfl _ _ 57 rfl w.heap.size 111 i0 (.agg #[.int .i64 0, .int .i64 0, .string ⟨#[]⟩, .bool false, .int .i64 0, .slice none 0 0, .slice none 0 0]) 7 Try.underlying57 hi hz0 hz1 _ _ _ _ n rfl rfl rfl rfl hb2 hb3 (Nat.le_refl _) ?_; intro w1 hown1 hg1)
  have hrow0 : RowE w.heap.size w1 (.slice (some ⟨w.heap.size, 0, none⟩) n n) (List.replicate n ⟨0, 0, ⟨#[]⟩, false, 0, .slice none 0 0, .slice none 0 0⟩) := by
    have := hown1
    rw [show (madeCells (Value.agg #[.int .i64 0, .int .i64 0, .string ⟨#[]⟩, .bool false, .int .i64 0, .slice none 0 0, .slice none 0 0]).cells (n * 7)).toList = (List.replicate n (⟨0, 0, ⟨#[]⟩, false, 0, .slice none 0 0, .slice none 0 0⟩ : ExR)).flatMap ExR.enc from made_flat ExR.enc_len (by omega) _ ⟨0, 0, ⟨#[]⟩, false, 0, .slice none 0 0, .slice none 0 0⟩ rfl n] at this
    unfold RowE RowR
    simpa using this
  have hbel1 : Below w.heap.size w w1 := (Below.refl _ _).grown hg1 (Nat.le_refl _) (by simp)
  have HG0 : Hid (w.heap.size < w1.heap.size) := Lib.hid (by
    rcases hown1.2 with ⟨h, _⟩ | ⟨g, cap, cur, h, _, h3, _⟩
    · cases h
    · cases h; exact (Array.getElem?_eq_some_iff.1 h3).1)
  have HP0 : Hid (∃ K, PartT exK (d - 1) w.heap.size w1 w.heap.size (List.replicate n ⟨0, 0, ⟨#[]⟩, false, 0, .slice none 0 0, .slice none 0 0⟩ : List ExR) l K 0) := Lib.hid ⟨fun _ _ => False, PartT.zero ((List.length_replicate (n := n)).trans HN.out)⟩
  clear hown1 hg1
  go_loopw [4] (fun i wr => ∃ (k : Nat) (R : List ExR), k ≤ n ∧ i = .int .i64 k ∧ RowE w.heap.size wr (.slice (some ⟨w.heap.size, 0, none⟩) n n) R ∧ Hid (∃ K, PartT exK (d - 1) w.heap.size wr w.heap.size R l K k) ∧ Hid (w.heap.size < wr.heap.size) ∧ Below w.heap.size w wr) (fun i _ => n - (intOf i).toNat)
  case atStart => exact ⟨0, _, Nat.zero_le _, rfl, hrow0, HP0, HG0, hbel1⟩
  case round =>
    clear hrow0 hbel1 HP0 HG0
    obtain ⟨k, R, hk, rfl, hrow, HP, HG, hbel⟩ := hrel
    by_cases hlt : k < n
    · have hlk : k < l.length := by rw [← HN.out]; exact hlt
      obtain ⟨a, r, rfl, hab, hcell, hcall⟩ := HC.out k hlk
      obtain ⟨c0, c1, c2, c3, c4, c5, c6⟩ := hcell.below hbel hab
      have HCC := Lib.hid (hcall _ hbel)
      have HNX : Hid (∀ {W : World} {R : List ExR} {K : Nat → Nat → Prop}, PartT exK (d - 1) w.heap.size W w.heap.size R l K k → ∀ {r : ExR} {S : Nat → Prop}, OwN exK (d - 1) w.heap.size W r l[k] S → ¬ S w.heap.size → (∀ i b, i < k → K i b → S b → False) → ∃ K', PartT exK (d - 1) w.heap.size W w.heap.size (R.set k r) l K' (k + 1)) := Lib.hid fun hp _ _ h1 h2 h3 => ⟨_, hp.next hlk h1 h2 h3⟩
      have hkR : k < R.length := by obtain ⟨K, hK⟩ := HP.out; exact Nat.lt_of_lt_of_eq hlk hK.len.symm
      have HLT : Hid (∀ {W : World} {R : List ExR} {K : Nat → Nat → Prop}, PartT exK (d - 1) w.heap.size W w.heap.size R l K k → ∀ i b, i < k → K i b → b < W.heap.size) := Lib.hid fun hp i b hi hb => (hp.lt hi (by omega) hb).2
      generalize l[k] = s at HCC HNX
      clear hcell hcall
      go_wp2_with fail
      refine (HCC.out).mono ?_
      rintro e w2 ⟨r2, S, rfl, hown2, hb2⟩
      obtain ⟨D, m2, c2', hD⟩ : ∃ A n c, r2.kv = .slice A n c := by obtain ⟨A, c, hv⟩ := hown2.rd.2.form; exact ⟨A, _, c, hv⟩
      obtain ⟨D3, m3, c3', hD3⟩ : ∃ A n c, r2.sv = .slice A n c := by obtain ⟨A, c, hv, _⟩ := hown2.rd.1.2.st.at; exact ⟨A, _, c, hv⟩
      obtain ⟨p0, p1, p2, p3, p4, p5, p6⟩ := r2
      dsimp only at hD hD3
      subst hD hD3
      have hrow2 := RowR.below hrow hb2
      have HP2 : Hid (∃ K, PartT exK (d - 1) w.heap.size w2 w.heap.size R l K k ∧ ∀ i b, i < k → K i b → b < wr.heap.size) := Lib.hid (by obtain ⟨K, hK⟩ := HP.out; exact ⟨K, hK.below hb2, HLT.out hK⟩)
      have HX2 := Lib.hid hown2
      have HB2 := Lib.hid (below_step hbel hb2)
      have HSZ2 := Lib.hid hb2.size
      obtain ⟨⟨e0, e1, e2, e3, e4, e5, e6⟩, f0, f1, f2, f3, f4, f5, f6⟩ := exCells hrow2 hkR
      have HPUT := Lib.hid (RowE.put hrow2 hkR ⟨p0, p1, p2, p3, p4, .slice D3 m3 c3', .slice D m2 c2'⟩)
      dsimp only [put7] at HPUT
      clear hrow hbel hrow2 hown2 hb2 c0 c1 c2 c3 c4 c5 c6 HC
      go_wp2
      go_roundw
      case rel =>
        refine ⟨k + 1, _, by omega, by go_num, HPUT.out.1, Lib.hid ?_, Lib.hid ?_, HB2.out.grown HPUT.out.2 HB2.out.size (fun _ h => by cases h; exact Nat.le_refl _)⟩
        · obtain ⟨K, hK, hlt2⟩ := HP2.out
          have hS : ∀ b, S b → wr.heap.size ≤ b := fun b hb => (HX2.out.lt b hb).1
          refine HNX.out (hK.grown HPUT.out.2) (OwN.mono (HX2.out.other HPUT.out.2 (fun b hb e => ?_)) (by have := HG.out; omega)) (fun h => ?_) (fun i b hi hb1 hb2 => ?_)
          · have := hS b hb; have := HG.out; have := Option.some.inj e; omega
          · have := hS _ h; have := HG.out; omega
          · have := hS b hb2; have := hlt2 i b hi hb1; omega
        · have := HPUT.out.2.size; have := HSZ2.out; have := HG.out; omega
      case measure => simp [intOf]; omega
    · have HE : Hid (∃ K, PartT exK (d - 1) w.heap.size wr w.heap.size R l K l.length) := Lib.hid (by have h := HP.out; rwa [show k = l.length by have := HN.out; omega] at h)
      clear HC
      go_wp2
      go_ret
      obtain ⟨S, hS⟩ := HFIN.out hrow HE.out
      exact ⟨_, S, rfl, hS, hbel⟩
set_option maxRecDepth 100000 in
set_option maxHeartbeats 2000000 in
theorem toE_of {d : Nat} (ih : ToES d) : ToE d := by
  rintro ⟨op, num, text, ro, up, sv, kv⟩ ⟨⟨xo, xn, xt, p⟩, l⟩ w ⟨⟨⟨h1, h2, h3⟩, hp⟩, hk⟩ hx hsh
  obtain rfl : op = xo := h1
  obtain rfl : num = xn := h2
  obtain rfl : text = xt := h3
  have hp2 : HasP7 w ⟨ro, up, sv⟩ p := hp
  have hk2 : RdL exK d w kv l := hk
  have hsh2 : SizT ExSz d l := hsh
  have hpz : PthSz p := hx.2
  have HP := Lib.hid (fun W (hb : Below w.heap.size w W) => toPth_any ⟨ro, up, sv⟩ p W (hp2.below hb) hpz)
  have HK := Lib.hid (fun W (hb : Below w.heap.size w W) => ih kv l W (hk2.below hb) hsh2)
  obtain ⟨A, n, c, rfl⟩ : ∃ A n c, sv = .slice A n c := by obtain ⟨A, c, hv, _⟩ := hp2.st.at; exact ⟨A, _, c, hv⟩
  obtain ⟨A', n', c', rfl⟩ : ∃ A n c, kv = .slice A n c := by obtain ⟨A, c, hv⟩ := hk2.form; exact ⟨A, _, c, hv⟩
  have HB0 := Lib.hid (Below.refl w.heap.size w)
  clear hp hk hp2 hk2 hsh hsh2 hx hpz ih
  go_enter Try.func54, Try.ntmps54
  go_wp2_with fail
  refine (HP.out _ (below_al (below_al (below_al HB0.out _) _) _)).mono ?_
  rintro e w1 ⟨⟨ro', up', sv'⟩, S1, rfl, hown, hb1⟩
  obtain ⟨D1, m1, c1, rfl⟩ : ∃ A n c, sv' = .slice A n c := by obtain ⟨A, c, hv, _⟩ := hown.has.st.at; exact ⟨A, _, c, hv⟩
  have HB1 := Lib.hid (below_step (below_al (below_al (below_al HB0.out _) _) _) hb1)
  have HX1 : Hid (w1.heap[w.heap.size + 1 + 1]? = some (.cells #[.int .i64 op, .int .i64 num, .string text, .bool false, .int .i64 0, .slice none 0 0, .slice none 0 0] 111 (0, 0))) := Lib.hid ((hb1.block _ (by simp)).trans (alloc_new_atE _ _ (by simp)))
  have HR1 : Hid (w1.heap[w.heap.size + 1]? = some (.cells #[.int .i64 0, .int .i64 0, .string ⟨#[]⟩, .bool false, .int .i64 0, .slice none 0 0, .slice none 0 0] 111 (0, 0))) := Lib.hid ((hb1.block _ (by simp)).trans (by rw [Below.heap_alloc _ _ _ (by simp)]; exact alloc_new_atE _ _ (by simp)))
  have HA1 : Hid (w1.heap[w.heap.size]? = some (.cells #[.int .i64 op, .int .i64 num, .string text, .bool ro, .int .i64 up, .slice A n c, .slice A' n' c'] 119 (0, 0))) := Lib.hid ((hb1.block _ (by simp; omega)).trans (by rw [Below.heap_alloc _ _ _ (by simp; omega), Below.heap_alloc _ _ _ (by simp)]; exact alloc_new_atE _ _ rfl))
  have HO := Lib.hid (OwL.mono hown.st (B' := w.heap.size + 3) (by simp))
  have HRU := Lib.hid (And.intro hown.root hown.ups)
  have hz1 : w.heap.size + 3 ≤ w1.heap.size := by have := hb1.size; simpa using this
  obtain ⟨x0, x1, x2, x3, x4, x5, x6⟩ := seven_cellsT HX1.out
  obtain ⟨a0, a1, a2, a3, a4, a5, a6⟩ := seven_cellsT HA1.out
  have f0 := frozen_of_row _ _ 0 _ _ HX1.out
  have f1 := frozen_of_row _ _ 1 _ _ HX1.out
  have f2 := frozen_of_row _ _ 2 _ _ HX1.out
  have f3 := frozen_of_row _ _ 3 _ _ HX1.out
  have f4 := frozen_of_row _ _ 4 _ _ HX1.out
  have f5 := frozen_of_row _ _ 5 _ _ HX1.out
  have f6 := frozen_of_row _ _ 6 _ _ HX1.out
  clear hown hb1
  go_wp2_with fail
  have HB1' := Lib.hid (below_set (below_set (below_set HB1.out (b := w.heap.size + 1 + 1) (j := 3) (u := .bool ro') (by omega)) (b := w.heap.size + 1 + 1) (j := 4) (u := .int .i64 up') (by omega)) (b := w.heap.size + 1 + 1) (j := 5) (u := .slice D1 m1 c1) (by omega))
  have HY1 : Hid ((((w1.setCell ⟨w.heap.size + 1 + 1, 3, none⟩ (.bool ro')).setCell ⟨w.heap.size + 1 + 1, 4, none⟩ (.int .i64 up')).setCell ⟨w.heap.size + 1 + 1, 5, none⟩ (.slice D1 m1 c1)).heap[w.heap.size + 1 + 1]? = some (.cells #[.int .i64 op, .int .i64 num, .string text, .bool ro', .int .i64 up', .slice D1 m1 c1, .slice none 0 0] 111 (0, 0))) := Lib.hid (heap_setCell_same _ _ _ _ _ _ (heap_setCell_same _ _ _ _ _ _ (heap_setCell_same _ _ _ _ _ _ HX1.out)))
  have HR1' : Hid ((((w1.setCell ⟨w.heap.size + 1 + 1, 3, none⟩ (.bool ro')).setCell ⟨w.heap.size + 1 + 1, 4, none⟩ (.int .i64 up')).setCell ⟨w.heap.size + 1 + 1, 5, none⟩ (.slice D1 m1 c1)).heap[w.heap.size + 1]? = some (.cells #[.int .i64 0, .int .i64 0, .string ⟨#[]⟩, .bool false, .int .i64 0, .slice none 0 0, .slice none 0 0] 111 (0, 0))) := Lib.hid (by rw [heap_setCell_other _ _ _ _ (by simp), heap_setCell_other _ _ _ _ (by simp), heap_setCell_other _ _ _ _ (by simp)]; exact HR1.out)
  have HO1 := Lib.hid (OwL.set (OwL.set (OwL.set HO.out (b := w.heap.size + 1 + 1) (j := 3) (u := .bool ro') (by omega)) (b := w.heap.size + 1 + 1) (j := 4) (u := .int .i64 up') (by omega)) (b := w.heap.size + 1 + 1) (j := 5) (u := .slice D1 m1 c1) (by omega))
  clear HX1 HR1 HA1 HO HB1 x0 x1 x2 x3 x4 x5 x6 a0 a1 a2 a3 a4 a5 a6 f0 f1 f2 f3 f4 f5 f6
  refine (HK.out _ HB1'.out).mono ?_
  rintro e w2 ⟨kv', S2, rfl, hown2, hb2⟩
  obtain ⟨D2, m2, c2, rfl⟩ : ∃ A n c, kv' = .slice A n c := by obtain ⟨A, c, hv⟩ := hown2.rd.form; exact ⟨A, _, c, hv⟩
  have hW2 : ((((w1.setCell ⟨w.heap.size + 1 + 1, 3, none⟩ (.bool ro')).setCell ⟨w.heap.size + 1 + 1, 4, none⟩ (.int .i64 up')).setCell ⟨w.heap.size + 1 + 1, 5, none⟩ (.slice D1 m1 c1)).heap.size) = w1.heap.size := by simp
  have HB2 := Lib.hid (below_step HB1'.out hb2)
  have HDI : Hid (∀ b, S1 b → S2 b → False) := Lib.hid fun b h1 h2 => by
    have g1 := (OwL.lt HO1.out b h1).2
    have g2 := (OwL.lt hown2 b h2).1
    omega
  have HO2 := Lib.hid (OwL.below HO1.out hb2)
  have HK2 := Lib.hid (OwL.mono hown2 (B' := w.heap.size + 3) (by rw [hW2]; exact hz1))
  have X1 : w2.heap[w.heap.size + 1 + 1]? = _ := (hb2.block _ (by rw [hW2]; omega)).trans HY1.out
  have R1 : w2.heap[w.heap.size + 1]? = _ := (hb2.block _ (by rw [hW2]; omega)).trans HR1'.out
  have HZ2 : Hid (w.heap.size + 3 ≤ w2.heap.size) := Lib.hid (by have := hb2.size; rw [hW2] at this; omega)
  obtain ⟨x0, x1, x2, x3, x4, x5, x6⟩ := seven_cellsT X1
  obtain ⟨r0, r1, r2, r3, r4, r5, r6⟩ := seven_cellsT R1
  have f0 := frozen_of_row _ _ 0 _ _ X1
  have f1 := frozen_of_row _ _ 1 _ _ X1
  have f2 := frozen_of_row _ _ 2 _ _ X1
  have f3 := frozen_of_row _ _ 3 _ _ X1
  have f4 := frozen_of_row _ _ 4 _ _ X1
  have f5 := frozen_of_row _ _ 5 _ _ X1
  have f6 := frozen_of_row _ _ 6 _ _ X1
  have g0 := frozen_of_row _ _ 0 _ _ R1
  have g1 := frozen_of_row _ _ 1 _ _ R1
  have g2 := frozen_of_row _ _ 2 _ _ R1
  have g3 := frozen_of_row _ _ 3 _ _ R1
  have g4 := frozen_of_row _ _ 4 _ _ R1
  have g5 := frozen_of_row _ _ 5 _ _ R1
  have g6 := frozen_of_row _ _ 6 _ _ R1
  clear hown2 hb2 X1 R1 HY1 HR1' HO1 HB1' hW2
  go_wp2
  refine bodyPost_ret (v := .agg #[.int .i64 op, .int .i64 num, .string text, .bool ro', .int .i64 up', .slice D1 m1 c1, .slice D2 m2 c2]) (by simp [results, Try.results54, go_sem, x0, x1, x2, x3, x4, x5, x6, f0, f1, f2, f3, f4, f5, f6, r0, r1, r2, r3, r4, r5, r6, g0, g1, g2, g3, g4, g5, g6]) rfl ?_
  have hz2 := HZ2.out
  refine ⟨⟨op, num, text, ro', up', .slice D1 m1 c1, .slice D2 m2 c2⟩, fun b => S1 b ∨ S2 b, rfl, ⟨S1, S2, ⟨⟨rfl, rfl, rfl⟩, ⟨HRU.out.1, HRU.out.2, ?_⟩⟩, ?_, HDI.out, fun b => Iff.rfl⟩, ?_⟩
  · exact OwL.mono (OwL.set (OwL.set (OwL.set (OwL.set (OwL.set (OwL.set (OwL.set (OwL.set HO2.out (by omega)) (by omega)) (by omega)) (by omega)) (by omega)) (by omega)) (by omega)) (by omega)) (by omega)
  · exact OwL.mono (OwL.set (OwL.set (OwL.set (OwL.set (OwL.set (OwL.set (OwL.set (OwL.set HK2.out (by omega)) (by omega)) (by omega)) (by omega)) (by omega)) (by omega)) (by omega)) (by omega)) (by omega)
  · exact below_set (below_set (below_set (below_set (below_set (below_set (below_set (below_set HB2.out (by omega)) (by omega)) (by omega)) (by omega)) (by omega)) (by omega)) (by omega)) (by omega)
theorem toES_any : ∀ d, ToES d
  | 0 => toES_of 0 (fun e h => by cases h)
  | d + 1 => toES_of (d + 1) (fun e h => by cases h; exact toE_of (toES_any d))
theorem toE_any (d : Nat) : ToE d := toE_of (toES_any d)
end Go.Proofs.Ytdkpleghpnflhaa
