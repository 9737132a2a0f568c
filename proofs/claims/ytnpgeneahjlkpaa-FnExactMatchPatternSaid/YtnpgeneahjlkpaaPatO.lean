/- CHAPTER 5: a pattern as an argument (pat_open); laws.toPat, toPatS. -/
import Derived.Test.YtnpgeneahjlkpaaTreeO
import Derived.Test.YtnpgeneahjlkpaaMatD
import Derived.Test.YtnpgeneahjlkpaaPatI
import Derived.Test.YtnpgeneahjlkpaaRngOpen
import Derived.SliceStrings
import Derived.OpenShut
import Derived.ShutString
set_option linter.unusedVariables false
set_option linter.unusedSimpArgs false
namespace Go.Proofs.Ytnpgeneahjlkpaa
open Go.RowKit Go.ChangeShapes Go.WideShapes Go.Deep Go.Joins

theorem PatR.enc_len (r : PatR) : r.enc.length = 3 := rfl
def PatGood (x : PatX) : Prop := x.text.size ≤ 9223372036854775807
theorem txFit_of_fit : ∀ {d : Nat} {l : List Pat}, FitT PatGood d l → TxFit d l
  | 0, _, _ => True.intro
  | _ + 1, _, h => fun t ht => ⟨(h t ht).1, txFit_of_fit (h t ht).2⟩
/-- every list of kids is short -/
def ShortP : Nat → List Pat → Prop
  | 0, _ => True
  | d + 1, l => l.length ≤ 1048576 ∧ ∀ t, t ∈ l → ShortP d t.kids
theorem short_of_cost : ∀ (d : Nat) (l : List Pat), costL d l ≤ 1048576 → ShortP d l
  | 0, _, _ => True.intro
  | d + 1, l, h => by
    have h1 := cost_sum d l
    refine ⟨by omega, fun t ht => short_of_cost d t.kids ?_⟩
    have h2 : ∀ (l : List Pat) t, t ∈ l → costL d t.kids ≤ (l.map fun t => t.x.text.size + costL d t.kids).sum := fun l => by
      induction l with
      | nil => intro t ht; cases ht
      | cons a r ih =>
        intro t ht
        rw [List.map_cons, List.sum_cons]
        rcases List.mem_cons.1 ht with rfl | h3
        · omega
        · have := ih t h3; omega
    have := h2 l t ht
    omega
theorem cnt_le_cost : ∀ (d : Nat) (l : List Pat), cntL d l ≤ costL d l
  | 0, _ => Nat.le_refl _
  | d + 1, l => by
    show (l.map fun t => 1 + cntL d t.kids).sum ≤ (l.map fun t => 1 + (t.x.text.size + costL d t.kids)).sum
    induction l with
    | nil => exact Nat.le_refl _
    | cons a r ih =>
      rw [List.map_cons, List.sum_cons, List.map_cons, List.sum_cons]
      have := cnt_le_cost d a.kids
      omega
theorem patK_z : (patK).z = 3 := rfl
section
variable {H : Type} {en : TypeId × Value → H} {w : World} {base : Nat} {spare : Nat → Bool} {held : Bool}
theorem trod_struct3f {P : Program} {t : TypeId} {f0 f1 f2 : Field} {fuel : Nat} {cs : List Value} {x : DataW H × List MemPlace} (ht : P.underlying t = some (.struct #[f0, f1, f2])) (h : DataW.trod en P w base spare held fuel t cs = some x) :
    ∃ y0 y1 y2 n, fuel = n + 1 ∧ cs.length = P.cellsOf t ∧ DataW.trod en P w base spare held n f0.type ((cs.drop f0.offset).take (P.cellsOf f0.type)) = some y0 ∧
      DataW.trod en P w base spare held n f1.type ((cs.drop f1.offset).take (P.cellsOf f1.type)) = some y1 ∧ DataW.trod en P w base spare held n f2.type ((cs.drop f2.offset).take (P.cellsOf f2.type)) = some y2 := by
  obtain ⟨xs, n, hn, rfl, hl, hlen, hf⟩ := DataW.trod_struct ht h
  match xs, hlen with
  | [y0, y1, y2], _ => exact ⟨y0, y1, y2, n, hn, hl, by simpa using hf 0 f0 rfl, by simpa using hf 1 f1 rfl, by simpa using hf 2 f2 rfl⟩
set_option maxRecDepth 100000 in
theorem pat_of_cells {n : Nat} {cs : List Value} {y : DataW H × List MemPlace} (h : DataW.trod en Try.prog w base spare held n 51 cs = some y) :
    ∃ (r : PatR) (x : PatX), cs = r.enc ∧ patK.rd w r x ∧ PatGood x ∧ ∃ m y', m < n ∧ DataW.trod en Try.prog w base spare held m 49 [r.kv] = some y' := by
  obtain ⟨y0, y1, y2, m, hn, hl, h0, h1, h2⟩ := trod_struct3f Try.underlying51 h
  rw [show Try.prog.cellsOf 51 = 3 by kernel_rfl] at hl
  match cs, hl with
  | [c0, c1, c2], _ =>
    rw [show Try.prog.cellsOf 3 = 1 by kernel_rfl] at h0
    rw [show Try.prog.cellsOf 9 = 1 by kernel_rfl] at h1
    rw [show Try.prog.cellsOf 49 = 1 by kernel_rfl] at h2
    obtain ⟨k, hk, _, _⟩ := DataW.trod_int Try.underlying3 h0
    obtain ⟨t, ht, _, hs⟩ := DataW.trod_string Try.underlying9 h1
    simp at hk ht
    subst hk ht
    exact ⟨⟨k, t, c2⟩, ⟨k, t⟩, rfl, ⟨rfl, rfl⟩, by unfold PatGood; unfold maxLen at hs; dsimp only; omega, m, y2, by omega, h2⟩
set_option maxRecDepth 100000 in
theorem pat_open {r : Reach} {b0 : Nat} {v : Value} {d : DataW H} {p : List MemPlace} (hv : Value.okWide Try.prog w r b0 51 v) (h : DataW.Trod en Try.prog w base spare held 51 v d p) :
    ∃ (y : PatR) (t : Pat) (D : Nat), v = y.val ∧ RdN patK D w y t ∧ TxFit D t.kids ∧ t.x.text.size ≤ 9223372036854775807 := by
  obtain ⟨cs, rfl, hsz⟩ := okWide_struct Try.underlying51 hv
  obtain ⟨fuel, hf⟩ := h
  obtain ⟨y, x, hy, h1, h2, m, y', _, h3⟩ := pat_of_cells hf
  obtain ⟨v, l, hvl, hl, hfit⟩ := open_tree (k := patK) (Q := PatGood) Try.underlying49 (show Try.prog.cellsOf 51 = 3 by kernel_rfl) (by rw [patK_z]; omega) (fun _ _ _ h => pat_of_cells h) m _ _ h3
  have hv' : y.kv = v := by simpa using hvl
  refine ⟨y, .mk x l, m, ?_, ⟨h1, by rw [show patK.kv y = y.kv from rfl, hv']; exact hl⟩, txFit_of_fit hfit, h2⟩
  have : cs.toList = [.int .i64 y.op, .string y.text, y.kv] := hy
  rw [← Array.toArray_toList (xs := cs), this]; rfl
end
abbrev RowP5 (B : Nat) (w : World) (v : Value) (R : List PatR) : Prop := RowR PatR.enc 3 56 B w v R
theorem patCells {B g n cap : Nat} {w : World} {L : List PatR} (h : RowP5 B w (.slice (some ⟨g, 0, none⟩) n cap) L) {i : Nat} (hi : i < L.length) :
    (w.cell? ⟨g, i * 3, none⟩ = some (.int .i64 L[i].op) ∧ w.cell? ⟨g, i * 3 + 1, none⟩ = some (.string L[i].text) ∧ w.cell? ⟨g, i * 3 + 2, none⟩ = some L[i].kv) ∧ w.frozen? ⟨g, i * 3, none⟩ = false ∧ w.frozen? ⟨g, i * 3 + 1, none⟩ = false ∧ w.frozen? ⟨g, i * 3 + 2, none⟩ = false :=
  ⟨⟨RowR.cell PatR.enc_len h hi (j := 0) rfl, RowR.cell PatR.enc_len h hi (j := 1) rfl, RowR.cell PatR.enc_len h hi (j := 2) rfl⟩, RowR.frozen h _, RowR.frozen h _, RowR.frozen h _⟩
theorem RowP5.put {B g n cap : Nat} {w : World} {L : List PatR} (h : RowP5 B w (.slice (some ⟨g, 0, none⟩) n cap) L) {i : Nat} (hi : i < L.length) (x : PatR) :
    RowP5 B (((w.setCell ⟨g, i * 3, none⟩ (.int .i64 x.op)).setCell ⟨g, i * 3 + 1, none⟩ (.string x.text)).setCell ⟨g, i * 3 + 2, none⟩ x.kv) (.slice (some ⟨g, 0, none⟩) n cap) (L.set i x) ∧
    w.grownBy (((w.setCell ⟨g, i * 3, none⟩ (.int .i64 x.op)).setCell ⟨g, i * 3 + 1, none⟩ (.string x.text)).setCell ⟨g, i * 3 + 2, none⟩ x.kv) (some g) := by
  have h0 := RowR.set1 PatR.enc_len h hi 0 (by omega) (.int .i64 x.op) ⟨x.op, L[i].text, L[i].kv⟩ rfl
  have h1 := RowR.set1 PatR.enc_len h0.1 (i := i) (by simpa using hi) 1 (by omega) (.string x.text) ⟨x.op, x.text, L[i].kv⟩ (by simp [PatR.enc])
  have h2 := RowR.set1 PatR.enc_len h1.1 (i := i) (by simpa using hi) 2 (by omega) x.kv x (by simp [PatR.enc])
  refine ⟨?_, (h0.2.trans h1.2).trans h2.2⟩
  have := h2.1
  simpa [List.set_set] using this
theorem alloc_new_atP (w : World) (o : Obj) {b : Nat} (h : b = w.heap.size) : (w.alloc o).heap[b]? = some o := by rw [h]; exact heap_alloc_new w o
/-- the contracts of toPat and toPatS at depth d -/
def ToPS (d : Nat) : Prop := ∀ (v : Value) (l : List Pat) (w : World), RdL patK d w v l → ShortP d l → Calls Try.prog 57 #[v] w fun e w' => ∃ (v' : Value) (S : Nat → Prop), e = .returned v' ∧ OwL patK d w.heap.size w' v' l S ∧ Below w.heap.size w w'
def ToP (d : Nat) : Prop := ∀ (r : PatR) (t : Pat) (w : World), RdN patK d w r t → ShortP d t.kids → Calls Try.prog 26 #[.agg #[.int .i64 r.op, .string r.text, r.kv]] w fun e w' => ∃ (r' : PatR) (S : Nat → Prop), e = .returned (.agg #[.int .i64 r'.op, .string r'.text, r'.kv]) ∧ OwN patK d w.heap.size w' r' t S ∧ Below w.heap.size w w'
set_option maxRecDepth 100000 in
set_option maxHeartbeats 2000000 in
theorem toP_of {d : Nat} (ih : ToPS d) : ToP d := by
  rintro ⟨op, text, kv⟩ ⟨⟨xo, xt⟩, l⟩ w ⟨⟨h1, h2⟩, hk⟩ hsh
  obtain rfl : op = xo := h1
  obtain rfl : text = xt := h2
  have hk2 : RdL patK d w kv l := hk
  have hsh2 : ShortP d l := hsh
  have HR := Lib.hid (fun W (hb : Below w.heap.size w W) => ih kv l W (hk2.below hb) hsh2)
  obtain ⟨A, cap, rfl⟩ := hk2.form
  generalize l.length = n at *
  have HB0 := Lib.hid (Below.refl w.heap.size w)
  have HL : Hid (Tr.kids (Tr.mk (⟨op, text⟩ : PatX) l) = l) := Lib.hid rfl
  clear hk hk2 hsh hsh2 ih
  go_enter Try.func26, Try.ntmps26
  go_wp2_with fail
  refine (HR.out _ (below_al (below_al (below_al HB0.out _) _) _)).mono ?_
  rintro e w1 ⟨kv', S, rfl, hown, hb1⟩
  obtain ⟨D1, m1, c1, rfl⟩ : ∃ A n c, kv' = .slice A n c := by obtain ⟨A, c, hv⟩ := hown.rd.form; exact ⟨A, _, c, hv⟩
  have HB1 := Lib.hid (below_step (below_al (below_al (below_al HB0.out _) _) _) hb1)
  have X1 : w1.heap[w.heap.size + 1 + 1]? = some (.cells #[.int .i64 op, .string text, .slice none 0 0] 56 (0, 0)) := (hb1.block _ (by simp)).trans (alloc_new_atP _ _ (by simp))
  have R1 : w1.heap[w.heap.size + 1]? = some (.cells #[.int .i64 0, .string ⟨#[]⟩, .slice none 0 0] 56 (0, 0)) := (hb1.block _ (by simp)).trans (by rw [Below.heap_alloc _ _ _ (by simp)]; exact alloc_new_atP _ _ (by simp))
  have HO := Lib.hid (OwL.mono hown (B' := w.heap.size + 3) (by simp))
  have hz1 : w.heap.size + 3 ≤ w1.heap.size := by have := hb1.size; simpa using this
  have x0 : w1.cell? ⟨w.heap.size + 1 + 1, 0, none⟩ = some (.int .i64 op) := by rw [cell_of_row _ _ 0 _ _ _ X1]; rfl
  have x1 : w1.cell? ⟨w.heap.size + 1 + 1, 1, none⟩ = some (.string text) := by rw [cell_of_row _ _ 1 _ _ _ X1]; rfl
  have x2 : w1.cell? ⟨w.heap.size + 1 + 1, 2, none⟩ = some (.slice none 0 0) := by rw [cell_of_row _ _ 2 _ _ _ X1]; rfl
  have f0 := frozen_of_row _ _ 0 _ _ X1
  have f1 := frozen_of_row _ _ 1 _ _ X1
  have f2 := frozen_of_row _ _ 2 _ _ X1
  have r0 : w1.cell? ⟨w.heap.size + 1, 0, none⟩ = some (.int .i64 0) := by rw [cell_of_row _ _ 0 _ _ _ R1]; rfl
  have r1 : w1.cell? ⟨w.heap.size + 1, 1, none⟩ = some (.string ⟨#[]⟩) := by rw [cell_of_row _ _ 1 _ _ _ R1]; rfl
  have r2 : w1.cell? ⟨w.heap.size + 1, 2, none⟩ = some (.slice none 0 0) := by rw [cell_of_row _ _ 2 _ _ _ R1]; rfl
  have g0 := frozen_of_row _ _ 0 _ _ R1
  have g1 := frozen_of_row _ _ 1 _ _ R1
  have g2 := frozen_of_row _ _ 2 _ _ R1
  clear hown hb1 X1 R1
  go_wp2
  refine bodyPost_ret (v := .agg #[.int .i64 op, .string text, .slice D1 m1 c1]) (by simp [results, Try.results26, go_sem, x0, x1, x2, f0, f1, f2, r0, r1, r2, g0, g1, g2]) rfl ?_
  refine ⟨⟨op, text, .slice D1 m1 c1⟩, S, rfl, ⟨fun _ => False, S, ⟨⟨rfl, rfl⟩, fun _ h => h⟩, ?_, fun _ h _ => h, fun b => by simp⟩, ?_⟩
  · exact OwL.mono (OwL.set (OwL.set (OwL.set (OwL.set HO.out (by omega)) (by omega)) (by omega)) (by omega)) (by omega)
  · exact below_set (below_set (below_set (below_set HB1.out (by omega)) (by omega)) (by omega)) (by omega)
set_option maxRecDepth 100000 in
set_option maxHeartbeats 2000000 in
theorem toPS_of {d : Nat} (ih : ToP d) : ToPS (d + 1) := by
  intro v l w hv hsh
  obtain ⟨i0, hi, hz0, hz1, hz2⟩ := info_parts infoPat
  obtain ⟨R0, ⟨A, cap, rfl, hn', hc⟩, hRl, hRk⟩ := hv
  obtain ⟨n, hnn⟩ : ∃ n, n = l.length := ⟨_, rfl⟩
  have HN : Hid (n = l.length) := Lib.hid hnn
  have hn : n ≤ 1048576 := by rw [hnn]; exact hsh.1
  rw [show patK.enc = PatR.enc from rfl, show patK.z = 3 from rfl] at hc
  have HC : ∀ i, (hi : i < l.length) → ∃ (a : Addr) (r : PatR), A = some a ∧ (a.add (i * 3)).block < w.heap.size ∧ Pk w (a.add (i * 3)) r ∧ ∀ W, Below w.heap.size w W → Calls Try.prog 26 #[.agg #[.int .i64 r.op, .string r.text, r.kv]] W fun e w' => ∃ (r' : PatR) (S : Nat → Prop), e = .returned (.agg #[.int .i64 r'.op, .string r'.text, r'.kv]) ∧ OwN patK d W.heap.size w' r' l[i] S ∧ Below W.heap.size W w' := fun i hi => by
    have h1 : i < R0.length := by rw [hRl]; exact hi
    obtain ⟨a, e1, e2, e3⟩ := HasP.pk hc i h1
    exact ⟨a, R0[i], e1, e2, e3, fun W hb => ih _ l[i] W (RdN.below (hRk i h1 hi) hb) (hsh.2 _ (List.getElem_mem hi))⟩
  rw [hRl, ← hnn] at hn' ⊢
  clear hnn hRk hRl hsh ih hc
  go_enter Try.func57, Try.ntmps57
  have hb2 : i0.bytes * n ≤ 281474976710656 := by rw [hz2]; omega
  have hb3 : n ≤ maxLen := by unfold maxLen; omega
  have HZ : Hid (i0.bytes = 48) := Lib.hid hz2
  clear hz2
  go_wp2_with (at_make; refine wpList_make_full _ rfl _ _ 54 rfl w.heap.size 56 i0 (.agg #[.int .i64 0, .string ⟨#[]⟩, .slice none 0 0]) 3 Try.underlying54 hi hz0 hz1 _ _ _ _ n rfl rfl rfl rfl hb2 hb3 (Nat.le_refl _) ?_; intro w1 hown1 hg1)
  have hrow0 : RowP5 w.heap.size w1 (.slice (some ⟨w.heap.size, 0, none⟩) n n) (List.replicate n ⟨0, ⟨#[]⟩, .slice none 0 0⟩) := by
    have := hown1
    rw [show (madeCells (Value.agg #[.int .i64 0, .string ⟨#[]⟩, .slice none 0 0]).cells (n * 3)).toList = (List.replicate n (⟨0, ⟨#[]⟩, .slice none 0 0⟩ : PatR)).flatMap PatR.enc from made_flat PatR.enc_len (by omega) _ ⟨0, ⟨#[]⟩, .slice none 0 0⟩ rfl n] at this
    unfold RowP5 RowR
    simpa using this
  have hbel1 : Below w.heap.size w w1 := (Below.refl _ _).grown hg1 (Nat.le_refl _) (by simp)
  have HG0 : Hid (w.heap.size < w1.heap.size) := Lib.hid (by
    rcases hown1.2 with ⟨h, _⟩ | ⟨g, cap, cur, h, _, h3, _⟩
    · cases h
    · cases h; exact (Array.getElem?_eq_some_iff.1 h3).1)
  have HP0 : Hid (∃ K, PartT patK d w.heap.size w1 w.heap.size (List.replicate n ⟨0, ⟨#[]⟩, .slice none 0 0⟩ : List PatR) l K 0) := Lib.hid ⟨fun _ _ => False, PartT.zero ((List.length_replicate (n := n)).trans HN.out)⟩
  clear hown1 hg1
  go_loopw [4] (fun i wr => ∃ (k : Nat) (R : List PatR), k ≤ n ∧ i = .int .i64 k ∧ RowP5 w.heap.size wr (.slice (some ⟨w.heap.size, 0, none⟩) n n) R ∧ Hid (∃ K, PartT patK d w.heap.size wr w.heap.size R l K k) ∧ Hid (w.heap.size < wr.heap.size) ∧ Below w.heap.size w wr) (fun i _ => n - (intOf i).toNat)
  case atStart => exact ⟨0, _, Nat.zero_le _, rfl, hrow0, HP0, HG0, hbel1⟩
  case round =>
    clear hrow0 hbel1 HP0 HG0
    obtain ⟨k, R, hk, rfl, hrow, HP, HG, hbel⟩ := hrel
    by_cases hlt : k < n
    · have hlk : k < l.length := by rw [← HN.out]; exact hlt
      obtain ⟨a, r, rfl, hab, hcell, hcall⟩ := HC k hlk
      obtain ⟨c0, c1, c2⟩ := hcell.below hbel hab
      have HCC := Lib.hid (hcall _ hbel)
      have HNX : Hid (∀ {W : World} {R : List PatR} {K : Nat → Nat → Prop}, PartT patK d w.heap.size W w.heap.size R l K k → ∀ {r : PatR} {S : Nat → Prop}, OwN patK d w.heap.size W r l[k] S → ¬ S w.heap.size → (∀ i b, i < k → K i b → S b → False) → ∃ K', PartT patK d w.heap.size W w.heap.size (R.set k r) l K' (k + 1)) := Lib.hid fun hp _ _ h1 h2 h3 => ⟨_, hp.next hlk h1 h2 h3⟩
      have hkR : k < R.length := by obtain ⟨K, hK⟩ := HP.out; exact Nat.lt_of_lt_of_eq hlk hK.len.symm
      have HLT : Hid (∀ {W : World} {R : List PatR} {K : Nat → Nat → Prop}, PartT patK d w.heap.size W w.heap.size R l K k → ∀ i b, i < k → K i b → b < W.heap.size) := Lib.hid fun hp i b hi hb => (hp.lt hi (by omega) hb).2
      generalize l[k] = s at HCC HNX
      obtain ⟨ro, rt, rk⟩ := r
      dsimp only at c0 c1 c2
      have HCC2 : Hid (Calls Try.prog 26 #[.agg #[.int .i64 ro, .string rt, rk]] wr fun e w' => ∃ (r' : PatR) (S : Nat → Prop), e = .returned (.agg #[.int .i64 r'.op, .string r'.text, r'.kv]) ∧ OwN patK d wr.heap.size w' r' s S ∧ Below wr.heap.size wr w') := HCC
      clear hcell hcall HCC
      go_wp2_with fail
      refine (HCC2.out).mono ?_
      rintro e w2 ⟨⟨ro2, rt2, rk2⟩, S, rfl, hown2, hb2⟩
      obtain ⟨D, m2, c2', hD⟩ : ∃ A n c, rk2 = .slice A n c := by obtain ⟨A, c, hv⟩ := hown2.rd.2.form; exact ⟨A, _, c, hv⟩
      subst hD
      have hrow2 := RowR.below hrow hb2
      have HP2 : Hid (∃ K, PartT patK d w.heap.size w2 w.heap.size R l K k ∧ ∀ i b, i < k → K i b → b < wr.heap.size) := Lib.hid (by obtain ⟨K, hK⟩ := HP.out; exact ⟨K, hK.below hb2, HLT.out hK⟩)
      have HX2 := Lib.hid hown2
      have HB2 := Lib.hid (below_step hbel hb2)
      have HSZ2 := Lib.hid hb2.size
      obtain ⟨⟨e0, e1, e2⟩, f0, f1, f2⟩ := patCells hrow2 hkR
      have HPUT := Lib.hid (RowP5.put hrow2 hkR ⟨ro2, rt2, .slice D m2 c2'⟩)
      dsimp only at HPUT
      clear hrow hbel hrow2 hown2 hb2 c0 c1 c2 HC
      go_wp2
      go_roundw
      case rel =>
        refine ⟨k + 1, _, by omega, by go_num, HPUT.out.1, Lib.hid ?_, Lib.hid ?_, HB2.out.grown HPUT.out.2 HB2.out.size (fun _ h => by cases h; exact Nat.le_refl _)⟩
        · obtain ⟨K, hK, hlt2⟩ := HP2.out
          have hS : ∀ b, S b → wr.heap.size ≤ b := fun b hb => (HX2.out.lt b hb).1
          refine HNX.out (hK.grown HPUT.out.2) (OwN.mono (HX2.out.other HPUT.out.2 (fun b hb e => ?_)) (by have := HG.out; omega)) (fun h => ?_) (fun i b hi hb1 hb2 => ?_)
          · have := hS b hb; have := HG.out; have := Option.some.inj e; omega
          · have := hS _ h; have := HG.out; omega
          · have := hS b hb2; have := hlt2 i b hi hb1; omega
        · have := HPUT.out.2.size; have := HSZ2.out; have := HG.out; omega
      case measure => simp [intOf]; omega
    · have HE : Hid (∃ K, PartT patK d w.heap.size wr w.heap.size R l K l.length) := Lib.hid (by have h := HP.out; rwa [show k = l.length by have := HN.out; omega] at h)
      clear HC
      go_wp2
      go_ret
      obtain ⟨K, hK⟩ := HE.out
      exact ⟨_, _, rfl, hK.own hrow, hbel⟩
set_option maxRecDepth 100000 in
theorem toPS_0 : ToPS 0 := by
  rintro v l w ⟨rfl, A, cap, rfl, _⟩ _
  obtain ⟨i0, hi, hz0, hz1, hz2⟩ := info_parts infoPat
  go_enter Try.func57, Try.ntmps57
  have hb2 : i0.bytes * 0 ≤ 281474976710656 := by omega
  have hb3 : 0 ≤ maxLen := Nat.zero_le _
  clear hz2
  go_wp2_with (at_make; refine wpList_make_full _ rfl _ _ 54 rfl w.heap.size 56 i0 (.agg #[.int .i64 0, .string ⟨#[]⟩, .slice none 0 0]) 3 Try.underlying54 hi hz0 hz1 _ _ _ _ 0 rfl rfl rfl rfl hb2 hb3 (Nat.le_refl _) ?_; intro w1 hown1 hg1)
  have hrow0 : RowP5 w.heap.size w1 (.slice (some ⟨w.heap.size, 0, none⟩) 0 0) [] := by
    unfold RowP5 RowR
    simpa [madeCells] using hown1
  have hbel1 : Below w.heap.size w w1 := (Below.refl _ _).grown hg1 (Nat.le_refl _) (by simp)
  clear hown1 hg1
  go_loopw [4] (fun i wr => i = .int .i64 0 ∧ wr = w1) (fun _ _ => 0)
  case atStart => exact ⟨rfl, rfl⟩
  case round =>
    obtain ⟨rfl, rfl⟩ := hrel
    go_wp2
    go_ret
    exact ⟨_, _, rfl, ⟨rfl, hrow0, fun b => Iff.rfl⟩, hbel1⟩
theorem toPS_any : ∀ d, ToPS d
  | 0 => toPS_0
  | d + 1 => toPS_of (toP_of (toPS_any d))
theorem toP_any (d : Nat) : ToP d := toP_of (toPS_any d)
end Go.Proofs.Ytnpgeneahjlkpaa
