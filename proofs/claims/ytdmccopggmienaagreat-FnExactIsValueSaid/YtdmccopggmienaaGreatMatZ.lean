/- MERGED for a claim: MatP MatS MatT MatQ MatU MatV MatW MatX MatY MatZ. -/
import Derived.Test.YtdmccopggmienaaGreatPat
import Derived.Test.YtdmccopggmienaaGreatPatAA
import Derived.Laws.CopyOwn
set_option linter.unusedVariables false
set_option linter.unusedSimpArgs false
/- CHAPTER 5, PLAIN MATHEMATICS: which texts a pattern has: 'Mt s d p i j': the bytes of s from i to j are a text of p (d: how deep p is at most). No function is spoken of. -/
namespace Go.Proofs.YtdmccopggmienaaGreat
open Go.RowKit

inductive Rtc (R : Nat → Nat → Prop) : Nat → Nat → Prop
  | refl (i : Nat) : Rtc R i i
  | step {i j k : Nat} (h : R i j) (t : Rtc R j k) : Rtc R i k
theorem Rtc.one {R : Nat → Nat → Prop} {i j : Nat} (h : R i j) : Rtc R i j := .step h (.refl _)
theorem Rtc.trans {R : Nat → Nat → Prop} {i j k : Nat} (h : Rtc R i j) (h' : Rtc R j k) : Rtc R i k := by
  induction h with
  | refl _ => exact h'
  | step h _ ih => exact .step h (ih h')
def SeqR (R : Pat → Nat → Nat → Prop) : List Pat → Nat → Nat → Prop
  | [], i, j => i = j
  | p :: l, i, j => ∃ k, R p i k ∧ SeqR R l k j
/-- a byte of p's text stands at i -/
def ChAt (s : ByteArray) (t : ByteArray) (i : Nat) : Prop := ∃ h : i < s.size, s[i] ∈ t.data.toList
/-- by what a pattern is, given what its kids have -/
def StepM (s : ByteArray) (R : Pat → Nat → Nat → Prop) (p : Pat) (i j : Nat) : Prop :=
  if p.x.op = 1 then ChAt s p.x.text i ∧ j = i + 1
  else if p.x.op = 2 then SeqR R p.kids i j
  else if p.x.op = 3 then ∃ k, k ∈ p.kids ∧ R k i j
  else if p.x.op = 4 then (match p.kids with
    | [k] => Rtc (R k) i j
    | _ => i = j)
  else if p.x.op = 5 then (match p.kids with
    | [k] => i = j ∨ R k i j
    | _ => i = j)
  else False
def Mt (s : ByteArray) : Nat → Pat → Nat → Nat → Prop
  | 0, p => StepM s (fun _ _ _ => False) p
  | d + 1, p => StepM s (Mt s d) p
def kidM (s : ByteArray) : Nat → Pat → Nat → Nat → Prop
  | 0 => fun _ _ _ => False
  | d + 1 => Mt s d
theorem mt_step (s : ByteArray) (d : Nat) (p : Pat) : Mt s d p = StepM s (kidM s d) p := by cases d <;> rfl
/-- the places of l that hold true -/
def On (l : List Bool) (i : Nat) : Prop := l[i]? = some true
theorem on_lt {l : List Bool} {i : Nat} (h : On l i) : i < l.length := (List.getElem?_eq_some_iff.1 h).1
/-- O: the places at which what R has can end that begins at a place of A -/
def EndsOf (R : Nat → Nat → Prop) (A O : List Bool) : Prop := ∀ j, j < O.length → (On O j ↔ ∃ i, On A i ∧ R i j)
theorem on_rep (n i : Nat) : ¬ On (List.replicate n false) i := by
  unfold On; rw [List.getElem?_replicate]; split <;> simp
theorem on_set {l : List Bool} {i j : Nat} (hi : i < l.length) (b : Bool) : On (l.set i b) j ↔ (j = i ∧ b = true) ∨ (j ≠ i ∧ On l j) := by
  unfold On
  rw [List.getElem?_set]
  by_cases e : i = j
  · subst e
    rw [if_pos rfl, if_pos hi]
    simp
  · rw [if_neg e]
    constructor
    · intro h; exact .inr ⟨fun h' => e h'.symm, h⟩
    · rintro (⟨h, _⟩ | ⟨_, h⟩)
      · exact absurd h.symm e
      · exact h
theorem on_get {l : List Bool} {i : Nat} (h : i < l.length) : On l i ↔ l[i] = true := by unfold On; rw [List.getElem?_eq_getElem h]; simp
theorem on_ext {l m : List Bool} (hl : l.length = m.length) (h : ∀ i, i < l.length → (On l i ↔ On m i)) : l = m := by
  apply List.ext_getElem hl
  intro i h1 h2
  have := h i h1
  rw [on_get h1, on_get h2] at this
  cases a : l[i] <;> cases b : m[i] <;> simp_all
/-- how many hold true -/
def cntB (l : List Bool) : Nat := (l.filter fun b => b).length
theorem cntB_le (l : List Bool) : cntB l ≤ l.length := List.length_filter_le _ _
theorem cnt_grows : ∀ {l m : List Bool}, l.length = m.length → (∀ i, On l i → On m i) → l ≠ m → cntB l < cntB m
  | [], [], _, _, h => absurd rfl h
  | a :: l, b :: m, hl, h, hne => by
    have hl' : l.length = m.length := by simpa using hl
    have h0 : a = true → b = true := fun e => by have := h 0 (by simp [On, e]); simpa [On] using this
    have h1 : ∀ i, On l i → On m i := fun i hi => by have := h (i + 1) (by simpa [On] using hi); simpa [On] using this
    unfold cntB
    by_cases e : l = m
    · subst e
      have hab : a ≠ b := fun e' => hne (by rw [e'])
      cases a
      · cases b
        · exact absurd rfl hab
        · simp
      · exact absurd (h0 rfl).symm hab
    · have ih := cnt_grows hl' h1 e
      unfold cntB at ih
      cases a
      · cases b <;> simp <;> omega
      · rw [h0 rfl]; simp; omega
  | [], _ :: _, hl, _, _ => by simp at hl
  | _ :: _, [], hl, _, _ => by simp at hl
end Go.Proofs.YtdmccopggmienaaGreat

/- CHAPTER 5, spec: l5Both, l5Ends. -/
namespace Go.Proofs.YtdmccopggmienaaGreat
open Go.RowKit

abbrev HasB (w : World) (v : Value) (l : List Bool) : Prop := HasR bE 1 w v l
theorem HasB.cell {w : World} {v : Value} {l : List Bool} (h : HasB w v l) {i : Nat} (hi : i < l.length) : ∃ a c, v = .slice (some a) l.length c ∧ a.block < w.heap.size ∧ w.cell? (a.add i) = some (.bool l[i]) := by
  obtain ⟨A, cap, rfl, _, hc⟩ := h
  obtain ⟨a, rfl, hb, hcc⟩ := hc i hi
  refine ⟨a, cap, rfl, hb, ?_⟩
  have := hcc 0 (.bool l[i]) rfl
  rw [Nat.mul_one] at this
  have e : (a.add i).add 0 = a.add i := by unfold Addr.add; rfl
  rwa [e] at this
theorem HasB.form {w : World} {v : Value} {l : List Bool} (h : HasB w v l) : ∃ A c, v = .slice A l.length c := by obtain ⟨A, c, hv, _⟩ := h; exact ⟨A, c, hv⟩
def orL (a b : List Bool) : List Bool := List.zipWith (· || ·) a b
theorem orL_len {a b : List Bool} (h : a.length = b.length) : (orL a b).length = a.length := by unfold orL; simp [h]
theorem on_or {a b : List Bool} (h : a.length = b.length) (i : Nat) : On (orL a b) i ↔ On a i ∨ On b i := by
  by_cases hi : i < a.length
  · have h1 : i < (orL a b).length := by rw [orL_len h]; exact hi
    have h2 : i < b.length := by omega
    rw [on_get h1, on_get hi, on_get h2]
    simp [orL]
  · constructor
    · intro hh; exact absurd (on_lt hh) (by rw [orL_len h]; exact hi)
    · rintro (hh | hh)
      · exact absurd (on_lt hh) hi
      · exact absurd (on_lt hh) (by omega)
/-- the first k places of a list, the others false -/
def upto (l : List Bool) (k : Nat) : List Bool := l.take k ++ List.replicate (l.length - k) false
theorem upto_len (l : List Bool) (k : Nat) : (upto l k).length = l.length := by unfold upto; simp; omega
theorem upto_zero (l : List Bool) : upto l 0 = List.replicate l.length false := by simp [upto]
theorem upto_all (l : List Bool) {k : Nat} (h : l.length ≤ k) : upto l k = l := by unfold upto; rw [List.take_of_length_le h, Nat.sub_eq_zero_of_le h]; simp
theorem upto_get (l : List Bool) (k i : Nat) : (upto l k)[i]? = if i < l.length then (if i < k then l[i]? else some false) else none := by
  unfold upto
  by_cases hi : i < l.length
  · rw [if_pos hi]
    by_cases hk : i < k
    · rw [if_pos hk, List.getElem?_append_left (by simp; omega), List.getElem?_take_of_lt hk]
    · rw [if_neg hk, List.getElem?_append_right (by simp; omega), List.getElem?_replicate, if_pos (by simp; omega)]
  · rw [if_neg hi, List.getElem?_eq_none (by simp; omega)]
theorem upto_set (l : List Bool) {k : Nat} (h : k < l.length) : (upto l k).set k l[k] = upto l (k + 1) := by
  apply List.ext_getElem?
  intro i
  rw [List.getElem?_set, upto_len, upto_get, upto_get]
  by_cases e : k = i
  · subst e
    rw [if_pos rfl, if_pos h, if_pos h, if_pos (by omega), List.getElem?_eq_getElem h]
  · rw [if_neg e]
    by_cases hi : i < l.length
    · rw [if_pos hi, if_pos hi]
      by_cases hk : i < k
      · rw [if_pos hk, if_pos (by omega)]
      · rw [if_neg hk, if_neg (by omega)]
    · rw [if_neg hi, if_neg hi]
set_option maxRecDepth 100000 in
set_option maxHeartbeats 1000000 in
theorem sboth_any (u v : Value) (a b : List Bool) (w : World) (ha : HasB w u a) (hb : HasB w v b) (hl : a.length = b.length) (hn : a.length ≤ 2097152) :
    Calls Tryz.prog 91 #[u, v] w fun e w' => ∃ o, e = .returned o ∧ Hid (RowB w.heap.size w' o (orL a b)) ∧ Hid (Below w.heap.size w w') := by
  obtain ⟨i0, hi0, hz0, hz1, hz2⟩ := info_parts infoBool
  obtain ⟨A1, c1, rfl⟩ := ha.form
  obtain ⟨A2, c2, rfl⟩ := hb.form
  obtain ⟨n, hnn⟩ : ∃ n, n = a.length := ⟨_, rfl⟩
  have hol : (orL a b).length = n := by rw [orL_len hl, hnn]
  have HC : ∀ i, i < n → ∃ (x y : Bool) (p q : Addr), A1 = some p ∧ A2 = some q ∧ p.block < w.heap.size ∧ q.block < w.heap.size ∧ w.cell? (p.add i) = some (.bool x) ∧ w.cell? (q.add i) = some (.bool y) ∧ Hid ((upto (orL a b) i).set i (x || y) = upto (orL a b) (i + 1)) := fun i hi => by
    obtain ⟨p, cp, hp1, hp2, hp3⟩ := ha.cell (i := i) (by omega)
    obtain ⟨q, cq, hq1, hq2, hq3⟩ := hb.cell (i := i) (by omega)
    cases hp1; cases hq1
    refine ⟨_, _, p, q, rfl, rfl, hp2, hq2, hp3, hq3, Lib.hid ?_⟩
    rw [← upto_set (orL a b) (by omega)]
    congr 1
    simp [orL]
  have HN := Lib.hid hnn
  have HOL := Lib.hid hol
  have HL2 : Hid (b.length = n) := Lib.hid (by omega)
  rw [← hnn] at hn ⊢
  rw [HL2.out]
  have hb2 : i0.bytes * n ≤ 281474976710656 := by rw [hz2]; omega
  have hb3 : n ≤ maxLen := by unfold maxLen; omega
  have HZ : Hid (i0.bytes = 1) := Lib.hid hz2
  clear hz2 hol hnn hl ha hb
  go_enter Tryz.func91, Tryz.ntmps91
  go_wp2_with (at_make; refine wpList_make_full _ rfl _ _ 97 rfl w.heap.size 4 i0 (.bool false) 1 Tryz.underlying97 hi0 hz0 hz1 _ _ _ _ n rfl rfl rfl rfl hb2 hb3 (Nat.le_refl _) ?_; intro w1 hown1 hg1)
  have hrow1 : RowB w.heap.size w1 (.slice (some ⟨w.heap.size, 0, none⟩) n n) (upto (orL a b) 0) := by
    have := hown1
    rw [show (madeCells (Value.bool false).cells (n * 1)).toList = (List.replicate n false).flatMap bE from made_flat bE_len (by omega) _ false rfl n] at this
    unfold RowB RowR
    rw [upto_zero, HOL.out, List.length_replicate]
    simpa using this
  have hbel1 : Below w.heap.size w w1 := (Below.refl _ _).grown hg1 (Nat.le_refl _) (by simp)
  clear hown1 hg1
  go_loopw [6] (fun i wr => ∃ k : Nat, k ≤ n ∧ i = .int .i64 k ∧ Hid (RowB w.heap.size wr (.slice (some ⟨w.heap.size, 0, none⟩) n n) (upto (orL a b) k)) ∧ Below w.heap.size w wr) (fun i _ => n - (intOf i).toNat)
  case atStart => exact ⟨0, Nat.zero_le _, rfl, Lib.hid hrow1, hbel1⟩
  case round =>
    clear hrow1 hbel1
    obtain ⟨k, hk, rfl, HR, hbel⟩ := hrel
    by_cases hlt : k < n
    · obtain ⟨x, y, p, q, rfl, rfl, hp, hq, cx, cy, HSET⟩ := HC k hlt
      have cx' : wr.cell? (p.add k) = some (.bool x) := by rw [hbel.cell (by rw [addr_blk]; exact hp)]; exact cx
      have cy' : wr.cell? (q.add k) = some (.bool y) := by rw [hbel.cell (by rw [addr_blk]; exact hq)]; exact cy
      have hkl : k < (upto (orL a b) k).length := by rw [upto_len, HOL.out]; exact hlt
      obtain ⟨vb, hcell⟩ : ∃ vb, wr.cell? ⟨w.heap.size, k, none⟩ = some (.bool vb) := ⟨_, RowB.at HR.out hkl⟩
      have hfz := RowR.frozen HR.out k
      have HPUT := Lib.hid (fun u => RowB.put HR.out hkl u)
      have HBS : Hid (∀ u, Below w.heap.size w (wr.setCell ⟨w.heap.size, k, none⟩ (.bool u))) := Lib.hid fun u => below_set hbel (Nat.le_refl _)
      have hkz : (k : Int) < (n : Int) := by omega
      clear cx cy HR hkl HC hbel
      cases x
      all_goals
        go_wp2
        go_roundw
        case rel => exact ⟨k + 1, by omega, by go_num, Lib.hid (by rw [← HSET.out]; first | exact (HPUT.out _).1 | simpa using (HPUT.out _).1), HBS.out _⟩
        case measure => simp [intOf]; omega
    · have hkz : ¬ (k : Int) < (n : Int) := by omega
      have hR := HR.out
      rw [upto_all _ (by rw [HOL.out]; omega)] at hR
      go_wp2
      go_ret
      exact ⟨_, rfl, Lib.hid hR, Lib.hid hbel⟩
end Go.Proofs.YtdmccopggmienaaGreat

/- CHAPTER 5, spec: l5Ends by what the pattern is. -/
namespace Go.Proofs.YtdmccopggmienaaGreat
open Go.RowKit

theorem bE_map (l : List Bool) : l.flatMap bE = l.map Value.bool := by induction l with | nil => rfl | cons b r ih => rw [List.flatMap_cons, ih]; rfl
/-- 'copy(own, v)' of as many -/
theorem wpList_copy_bools {ops : Array Oper} {rest : List Oper} {o : Oper} {a : Act} {Q : Exit → Act → World → Prop} {w : World} (hgd : o.guard = none) (x y : Operand)
    (ho : o.op = .call { callee := .builtin .copy, args := #[x, y], argTypes := #[97, 97] })
    (B g n c : Nat) (L A : List Bool) (hx : a.eval x = .slice (some ⟨g, 0, none⟩) n c) (hrow : RowB B w (.slice (some ⟨g, 0, none⟩) n c) L) (v : Value) (hy : a.eval y = v) (hA : HasB w v A) (hl : A.length = n) (h0 : 0 < n)
    (h : ∀ w', RowB B w' (.slice (some ⟨g, 0, none⟩) n c) A → w.grownBy w' (some g) → ∀ z, wpList Tryz.prog ops Q rest (a.put o.dst z) w') : wpList Tryz.prog ops Q (o :: rest) a w := by
  obtain ⟨a1, cap, rfl, hab, _⟩ := hA.cell (i := 0) (by omega)
  rcases hrow.2 with ⟨h', _⟩ | ⟨g', c', cur, h', h1, h2, h3, h4, h5, h6⟩
  · cases h'
  · cases h'
    refine wpList_copy_own hgd x y 97 97 ho 4 Tryz.underlying97 (by kernel_rfl) g 0 _ c a1 A.length cap hx hy cur 4 h2 (A.map Value.bool) (by rw [List.length_map, hl]; exact (Nat.min_self _).symm) (fun j u hu => ?_) (by rw [List.length_map, hl, h5]; omega) (fun u hu => by obtain ⟨b, _, rfl⟩ := List.mem_map.1 hu; rfl) ?_
    · rw [List.getElem?_map] at hu
      cases hj : A[j]? with
      | none => rw [hj] at hu; cases hu
      | some b =>
        rw [hj] at hu
        obtain ⟨hj', hb'⟩ := List.getElem?_eq_some_iff.1 hj
        obtain ⟨a2, cap2, e, _, hc⟩ := hA.cell hj'
        cases e
        rw [hc, hb']; exact hu
    · refine h _ ?_ ?_ _
      · unfold RowB RowR
        refine ⟨by rw [flat_len bE_len], .inr ⟨g, c, _, by rw [hl], h1, setRow_heap w g _ _ 4 _ h2, by rw [hl]; exact h3, h4, ?_, ?_⟩⟩
        · simp [hl, h5]; omega
        · rw [bE_map, Nat.mul_one, hl]
          simp [← hl]
      · refine ⟨rfl, rfl, rfl, by simp [World.setRow], fun k hk hne => setRow_other w g k _ (fun e => hne (by rw [e]))⟩
/-- what l5Ends leaves -/
def EndsPost (s : ByteArray) (R : Nat → Nat → Prop) (A : List Bool) (w : World) (e : Ending) (w' : World) : Prop := ∃ (o : Value) (O : List Bool), e = .returned o ∧ Hid (RowB w.heap.size w' o O) ∧ O.length = s.size + 1 ∧ Hid (EndsOf R A O) ∧ Hid (Below w.heap.size w w')
/-- the kids, as they are read and matched -/
def KidsC (s : ByteArray) (d : Nat) (w : World) (Ak : Option Addr) (kids : List Pat) : Prop := ∀ i (h : i < kids.length), ∃ (a : Addr) (x : PatR), Ak = some a ∧ (a.add (i * 3)).block < w.heap.size ∧ Pk w (a.add (i * 3)) x ∧ ∀ (v : Value) (A : List Bool) (W : World), Below w.heap.size w W → HasB W v A → A.length = s.size + 1 →
    Calls Tryz.prog 75 #[.agg #[.int .i64 x.op, .string x.text, x.kv], .string s, v] W (EndsPost s (kidM s d kids[i]) A W)
def EndsC (s : ByteArray) (d : Nat) (t : Pat) : Prop := ∀ (Ak : Option Addr) (m ck : Nat) (v : Value) (A : List Bool) (w : World), KidsC s d w Ak t.kids → m = t.kids.length → HasB w v A → A.length = s.size + 1 → s.size ≤ 1048576 → t.x.text.size ≤ 9223372036854775807 → m ≤ 9223372036854775807 →
    Calls Tryz.prog 75 #[.agg #[.int .i64 t.x.op, .string t.x.text, .slice Ak m ck], .string s, v] w (EndsPost s (StepM s (kidM s d) t) A w)
theorem ends_none {s : ByteArray} {R : Nat → Nat → Prop} {A : List Bool} (h : ∀ i j, ¬ R i j) (n : Nat) : EndsOf R A (List.replicate n false) := fun j _ => ⟨fun hh => absurd hh (on_rep _ _), fun ⟨i, _, hr⟩ => absurd hr (h i j)⟩
set_option maxRecDepth 100000 in
set_option maxHeartbeats 2000000 in
theorem ends_other (s : ByteArray) (d : Nat) (t : Pat) (h1 : t.x.op ≠ 1) (h2 : t.x.op ≠ 2) (h3 : t.x.op ≠ 3) (h4 : t.x.op ≠ 4) (h5 : t.x.op ≠ 5) : EndsC s d t := by
  intro Ak m ck v A w hK hm hA hl hs ht hmm
  obtain ⟨i0, hi0, hz0, hz1, hz2⟩ := info_parts infoBool
  have HE : Hid (EndsOf (StepM s (kidM s d) t) A (List.replicate (s.size + 1) false)) := Lib.hid (ends_none (s := s) (fun i j => by unfold StepM; simp [h1, h2, h3, h4, h5]) _)
  obtain ⟨op, hop⟩ : ∃ op, op = t.x.op := ⟨_, rfl⟩
  rw [← hop] at h1 h2 h3 h4 h5 ⊢
  have q1 : ((op : Int) == 1) = false := by rw [beq_eq_false_iff_ne]; exact h1
  have q2 : ((op : Int) == 2) = false := by rw [beq_eq_false_iff_ne]; exact h2
  have q3 : ((op : Int) == 3) = false := by rw [beq_eq_false_iff_ne]; exact h3
  have q4 : ((op : Int) == 4) = false := by rw [beq_eq_false_iff_ne]; exact h4
  have q5 : ((op : Int) == 5) = false := by rw [beq_eq_false_iff_ne]; exact h5
  obtain ⟨n1, hn1⟩ : ∃ n1, n1 = s.size + 1 := ⟨_, rfl⟩
  have hnz : (s.size : Int) + 1 = (n1 : Int) := by omega
  have hn9 : n1 ≤ 1048577 := by omega
  have hs9 : s.size ≤ 9223372036854775807 := by omega
  rw [← hn1] at HE
  have HN1 := Lib.hid hn1
  have hb2 : i0.bytes * n1 ≤ 281474976710656 := by rw [hz2]; omega
  have hb3 : n1 ≤ maxLen := by unfold maxLen; omega
  clear hz2 hK hm hA hl hop h1 h2 h3 h4 h5 hn1
  go_enter Tryz.func75, Tryz.ntmps75
  go_wp2_with (at_make; refine wpList_make_full _ rfl _ _ 97 rfl w.heap.size 4 i0 (.bool false) 1 Tryz.underlying97 hi0 hz0 hz1 _ _ _ _ n1 rfl rfl (by first | rfl | exact hnz) (by first | rfl | exact hnz) hb2 hb3 (by simp) ?_; intro w1 hown1 hg1; have hbel1 : Below w.heap.size w w1 := (below_al (Below.refl _ _) _).grown hg1 (by simp) (by simp); have hq1 : w1.heap[w.heap.size]? = some (.cells #[.int .i64 op, .string t.x.text, .slice Ak m ck] 82 (0, 0)) := (hg1.block _ (by simp) (by simp)).trans (heap_alloc_new w _); have c0 : w1.cell? ⟨w.heap.size, 0, none⟩ = some (.int .i64 op) := (by rw [cell_of_row _ w.heap.size 0 _ _ _ hq1]; rfl))
  have hrow1 : RowB w.heap.size w1 (.slice (some ⟨w.heap.size + 1, 0, none⟩) n1 n1) (List.replicate n1 false) := by
    have := hown1
    rw [show (madeCells (Value.bool false).cells (n1 * 1)).toList = (List.replicate n1 false).flatMap bE from made_flat bE_len (by omega) _ false rfl n1] at this
    unfold RowB RowR
    rw [List.length_replicate]
    simpa using this
  go_ret
  exact ⟨_, _, rfl, Lib.hid hrow1, by rw [List.length_replicate]; exact HN1.out, HE, Lib.hid hbel1⟩
end Go.Proofs.YtdmccopggmienaaGreat

/- CHAPTER 5, PLAIN MATHEMATICS: places at which texts end, put together. No function is spoken of. -/
namespace Go.Proofs.YtdmccopggmienaaGreat
open Go.RowKit

/-- what begins below n ends below n -/
def Bd (R : Nat → Nat → Prop) (n : Nat) : Prop := ∀ i j, i < n → R i j → j < n
theorem rtc_bd {R : Nat → Nat → Prop} {n : Nat} (h : Bd R n) : Bd (Rtc R) n := fun i j hi hr => by
  induction hr with
  | refl _ => exact hi
  | step h1 _ ih => exact ih (h _ _ hi h1)
theorem seq_bd {R : Pat → Nat → Nat → Prop} {n : Nat} (h : ∀ p, Bd (R p) n) : ∀ l, Bd (SeqR R l) n
  | [] => fun i j hi hr => by have e : i = j := hr; omega
  | p :: l => fun i j hi ⟨k, h1, h2⟩ => seq_bd h l k j (h p i k hi h1) h2
theorem step_bd {s : ByteArray} {R : Pat → Nat → Nat → Prop} (h : ∀ p, Bd (R p) (s.size + 1)) (p : Pat) : Bd (StepM s R p) (s.size + 1) := fun i j hi hr => by
  unfold StepM at hr
  split at hr
  · obtain ⟨⟨h1, _⟩, rfl⟩ := hr; omega
  · split at hr
    · exact seq_bd h _ i j hi hr
    · split at hr
      · obtain ⟨k, _, h2⟩ := hr; exact h k i j hi h2
      · split at hr
        · split at hr
          · exact rtc_bd (h _) i j hi hr
          · omega
        · split at hr
          · split at hr
            · rcases hr with e | hr
              · omega
              · exact h _ i j hi hr
            · omega
          · exact hr.elim
theorem mt_bd (s : ByteArray) : ∀ d p, Bd (Mt s d p) (s.size + 1)
  | 0, p => step_bd (fun _ _ _ _ h => h.elim) p
  | d + 1, p => step_bd (mt_bd s d) p
theorem kid_bd (s : ByteArray) : ∀ d p, Bd (kidM s d p) (s.size + 1)
  | 0, _ => fun _ _ _ h => h.elim
  | d + 1, p => mt_bd s d p
theorem ends_self (A : List Bool) : EndsOf (fun i j => i = j) A A := fun j _ => ⟨fun h => ⟨j, h, rfl⟩, fun ⟨_, h, e⟩ => e ▸ h⟩
theorem EndsOf.congr {R R' : Nat → Nat → Prop} {A O : List Bool} (h : EndsOf R A O) (e : ∀ i j, R i j ↔ R' i j) : EndsOf R' A O := fun j hj => (h j hj).trans ⟨fun ⟨i, h1, h2⟩ => ⟨i, h1, (e i j).1 h2⟩, fun ⟨i, h1, h2⟩ => ⟨i, h1, (e i j).2 h2⟩⟩
theorem ends_comp {R1 R2 : Nat → Nat → Prop} {A O O2 : List Bool} {n : Nat} (h1 : EndsOf R1 A O) (h2 : EndsOf R2 O O2) (hA : A.length = n) (hO : O.length = n) (hb : Bd R1 n) : EndsOf (fun i j => ∃ k, R1 i k ∧ R2 k j) A O2 := fun j hj => by
  rw [h2 j hj]
  constructor
  · rintro ⟨k, hk, hr⟩
    obtain ⟨i, hi, hr1⟩ := (h1 k (on_lt hk)).1 hk
    exact ⟨i, hi, k, hr1, hr⟩
  · rintro ⟨i, hi, k, hr1, hr2⟩
    exact ⟨k, (h1 k (by have := hb i k (by have := on_lt hi; omega) hr1; omega)).2 ⟨i, hi, hr1⟩, hr2⟩
theorem seq_snoc {R : Pat → Nat → Nat → Prop} {p : Pat} : ∀ {l : List Pat} {i j : Nat}, SeqR R (l ++ [p]) i j ↔ ∃ k, SeqR R l i k ∧ R p k j
  | [], i, j => ⟨fun ⟨k, h1, h2⟩ => ⟨i, rfl, by have e : k = j := h2; exact e ▸ h1⟩, fun ⟨k, h1, h2⟩ => ⟨j, by have e : i = k := h1; rw [e]; exact h2, rfl⟩⟩
  | q :: l, i, j => by
    constructor
    · rintro ⟨k, h1, h2⟩
      obtain ⟨k2, h3, h4⟩ := seq_snoc.1 h2
      exact ⟨k2, ⟨k, h1, h3⟩, h4⟩
    · rintro ⟨k2, ⟨k, h1, h3⟩, h4⟩
      exact ⟨k, h1, seq_snoc.2 ⟨k2, h3, h4⟩⟩
theorem ends_alt {R : Pat → Nat → Nat → Prop} {A O E : List Bool} {l : List Pat} {p : Pat} (h1 : EndsOf (fun i j => ∃ k, k ∈ l ∧ R k i j) A O) (h2 : EndsOf (R p) A E) (hl : O.length = E.length) (U : List Bool) (hU : U.length = O.length) (hu : ∀ i, On U i ↔ On O i ∨ On E i) : EndsOf (fun i j => ∃ k, k ∈ l ++ [p] ∧ R k i j) A U := fun j hj => by
  rw [hu j]
  constructor
  · rintro (h | h)
    · obtain ⟨i, hi, k, hk, hr⟩ := (h1 j (by omega)).1 h
      exact ⟨i, hi, k, List.mem_append_left _ hk, hr⟩
    · obtain ⟨i, hi, hr⟩ := (h2 j (by omega)).1 h
      exact ⟨i, hi, p, by simp, hr⟩
  · rintro ⟨i, hi, k, hk, hr⟩
    rcases List.mem_append.1 hk with hk | hk
    · exact .inl ((h1 j (by omega)).2 ⟨i, hi, k, hk, hr⟩)
    · rw [List.mem_singleton.1 hk] at hr
      exact .inr ((h2 j (by omega)).2 ⟨i, hi, hr⟩)
/-- the places that a star's rounds have found so far -/
def Sofar (R : Nat → Nat → Prop) (A O : List Bool) : Prop := (∀ i, On A i → On O i) ∧ ∀ j, On O j → ∃ i, On A i ∧ Rtc R i j
theorem rtc_snoc {R : Nat → Nat → Prop} {i j k : Nat} (h : Rtc R i j) (t : R j k) : Rtc R i k := h.trans (.one t)
theorem sofar_start (R : Nat → Nat → Prop) (A : List Bool) : Sofar R A A := ⟨fun _ h => h, fun j h => ⟨j, h, .refl _⟩⟩
theorem Sofar.more {R : Nat → Nat → Prop} {A O E U : List Bool} (h : Sofar R A O) (hE : EndsOf R O E) (hu : ∀ i, On U i ↔ On O i ∨ On E i) : Sofar R A U :=
  ⟨fun i hi => (hu i).2 (.inl (h.1 i hi)), fun j hj => by
    rcases (hu j).1 hj with hj | hj
    · exact h.2 j hj
    · obtain ⟨k, hk, hr⟩ := (hE j (on_lt hj)).1 hj
      obtain ⟨i, hi, ht⟩ := h.2 k hk
      exact ⟨i, hi, rtc_snoc ht hr⟩⟩
/-- nothing more has come: all is found -/
theorem Sofar.done {R : Nat → Nat → Prop} {A O E U : List Bool} {n : Nat} (h : Sofar R A O) (hE : EndsOf R O E) (hu : ∀ i, On U i ↔ On O i ∨ On E i) (he : U = O) (hO : O.length = n) (hEl : E.length = n) (hA : A.length = n) (hb : Bd R n) : EndsOf (Rtc R) A O := fun j hj => by
  refine ⟨h.2 j, ?_⟩
  rintro ⟨i, hi, ht⟩
  have h0 := h.1 i hi
  clear hi hj
  induction ht with
  | refl _ => exact h0
  | step h1 _ ih =>
    refine ih ?_
    rw [← he]
    have hlt := hb _ _ (by have := on_lt h0; omega) h1
    exact (hu _).2 (.inr ((hE _ (by omega)).2 ⟨_, h0, h1⟩))
theorem ends_maybe {R : Nat → Nat → Prop} {A E U : List Bool} (hE : EndsOf R A E) (hl : E.length = U.length) (hu : ∀ i, On U i ↔ On A i ∨ On E i) : EndsOf (fun i j => i = j ∨ R i j) A U := fun j hj => by
  rw [hu j, hE j (by omega)]
  constructor
  · rintro (h | ⟨i, hi, hr⟩)
    · exact ⟨j, h, .inl rfl⟩
    · exact ⟨i, hi, .inr hr⟩
  · rintro ⟨i, hi, e | hr⟩
    · exact .inl (e ▸ hi)
    · exact .inr ⟨i, hi, hr⟩
theorem ch_fin {A : List Bool} {s tx : ByteArray} {k k1 q j : Nat} {ax : Bool} (hA : On A k ↔ ax = true) (hk1 : k1 = k + 1) (hk : k < s.size) (hfin : q = tx.size ∨ ax = false) :
    ((∃ i, i < k ∧ j = i + 1 ∧ On A i ∧ ChAt s tx i) ∨ (j = k1 ∧ ax = true ∧ ∃ r, ∃ h : r < tx.size, r < q ∧ tx[r] = s[k])) ↔ ∃ i, i < k + 1 ∧ j = i + 1 ∧ On A i ∧ ChAt s tx i := by
  constructor
  · rintro (⟨i, h1, h2⟩ | ⟨h1, h2, r, h3, h4, h5⟩)
    · exact ⟨i, by omega, h2⟩
    · exact ⟨k, by omega, by omega, hA.2 h2, hk, by rw [← h5]; exact List.mem_iff_getElem.2 ⟨r, by simpa using h3, rfl⟩⟩
  · rintro ⟨i, h1, h2, h3, h4⟩
    by_cases e : i = k
    · subst e
      obtain ⟨_, h5⟩ := h4
      have hax := hA.1 h3
      rcases hfin with hf | hf
      · obtain ⟨r, hr, hr2⟩ := List.getElem_of_mem h5
        have hr' : r < tx.size := by simpa using hr
        exact .inr ⟨by omega, hax, r, hr', by omega, hr2⟩
      · rw [hf] at hax; cases hax
    · exact .inl ⟨i, by omega, h2, h3, h4⟩
theorem ch_on {O U : List Bool} {s tx : ByteArray} {k k1 q j : Nat} {h0 : k < s.size} (hon : On U k1) (hU : On U k1 ↔ On O k1 ∨ (k1 = k1 ∧ true = true ∧ ∃ r, ∃ h : r < tx.size, r < q ∧ tx[r] = s[k])) :
    ((j = k1 ∧ true = true) ∨ (j ≠ k1 ∧ (On O j ∨ (j = k1 ∧ true = true ∧ ∃ r, ∃ h : r < tx.size, r < q ∧ tx[r] = s[k])))) ↔ (On O j ∨ (j = k1 ∧ true = true ∧ ∃ r, ∃ h : r < tx.size, r < q + 1 ∧ tx[r] = s[k])) := by
  by_cases e : j = k1
  · subst e
    refine ⟨fun _ => ?_, fun _ => .inl ⟨rfl, rfl⟩⟩
    rcases hU.1 hon with h | ⟨_, _, r, h1, h2, h3⟩
    · exact .inl h
    · exact .inr ⟨rfl, rfl, r, h1, by omega, h3⟩
  · constructor
    · rintro (⟨h, _⟩ | ⟨_, h | ⟨h, _⟩⟩)
      · exact absurd h e
      · exact .inl h
      · exact absurd h e
    · rintro (h | ⟨h, _⟩)
      · exact .inr ⟨e, .inl h⟩
      · exact absurd h e
theorem ch_hit {O : List Bool} {s tx : ByteArray} {k k1 q j : Nat} {h0 : k < s.size} (hq : q < tx.size) (heq : tx[q] = s[k]) :
    ((j = k1 ∧ true = true) ∨ (j ≠ k1 ∧ (On O j ∨ (j = k1 ∧ true = true ∧ ∃ r, ∃ h : r < tx.size, r < q ∧ tx[r] = s[k])))) ↔ (On O j ∨ (j = k1 ∧ true = true ∧ ∃ r, ∃ h : r < tx.size, r < q + 1 ∧ tx[r] = s[k])) := by
  by_cases e : j = k1
  · subst e
    exact ⟨fun _ => .inr ⟨rfl, rfl, q, hq, by omega, heq⟩, fun _ => .inl ⟨rfl, rfl⟩⟩
  · constructor
    · rintro (⟨h, _⟩ | ⟨_, h | ⟨h, _⟩⟩)
      · exact absurd h e
      · exact .inl h
      · exact absurd h e
    · rintro (h | ⟨h, _⟩)
      · exact .inr ⟨e, .inl h⟩
      · exact absurd h e
theorem ch_miss {O U : List Bool} {s tx : ByteArray} {k k1 q j : Nat} {h0 : k < s.size} (hq : q < tx.size) (hne : tx[q] ≠ s[k]) (hoff : ¬ On U k1) (hU : On U k1 ↔ On O k1 ∨ (k1 = k1 ∧ true = true ∧ ∃ r, ∃ h : r < tx.size, r < q ∧ tx[r] = s[k])) :
    ((j = k1 ∧ false = true) ∨ (j ≠ k1 ∧ (On O j ∨ (j = k1 ∧ true = true ∧ ∃ r, ∃ h : r < tx.size, r < q ∧ tx[r] = s[k])))) ↔ (On O j ∨ (j = k1 ∧ true = true ∧ ∃ r, ∃ h : r < tx.size, r < q + 1 ∧ tx[r] = s[k])) := by
  by_cases e : j = k1
  · subst e
    constructor
    · rintro (⟨_, h⟩ | ⟨h, _⟩)
      · cases h
      · exact absurd rfl h
    · intro h
      refine absurd (hU.2 ?_) hoff
      rcases h with h | ⟨_, _, r, h1, h2, h3⟩
      · exact .inl h
      · by_cases er : r = q
        · subst er; exact absurd h3 hne
        · exact .inr ⟨rfl, rfl, r, h1, by omega, h3⟩
  · constructor
    · rintro (⟨h, _⟩ | ⟨_, h | ⟨h, _⟩⟩)
      · exact absurd h e
      · exact .inl h
      · exact absurd h e
    · rintro (h | ⟨h, _⟩)
      · exact .inr ⟨e, .inl h⟩
      · exact absurd h e
end Go.Proofs.YtdmccopggmienaaGreat

/- CHAPTER 5, spec: l5Ends of a sequence, an alternative (made by tools/genmat.py). -/
namespace Go.Proofs.YtdmccopggmienaaGreat
open Go.RowKit

/-- 'b = true', which the walk's simp leaves standing -/
def Tru (b : Bool) : Prop := b = true
theorem rowB_made {w1 : World} {g n1 B : Nat} (hown1 : w1.ownsRow B 4 1 (.slice (some ⟨g, 0, none⟩) n1 n1) n1 (madeCells (Value.bool false).cells (n1 * 1)).toList) : RowB B w1 (.slice (some ⟨g, 0, none⟩) n1 n1) (List.replicate n1 false) := by
  have := hown1
  rw [show (madeCells (Value.bool false).cells (n1 * 1)).toList = (List.replicate n1 false).flatMap bE from made_flat bE_len (by omega) _ false rfl n1] at this
  unfold RowB RowR
  rw [List.length_replicate]
  exact this
theorem iff_step {U O : List Bool} {k : Nat} {q ux ox : Bool} (h1 : Tru q ↔ ∃ i, i < k ∧ U[i]? ≠ O[i]?) (h3 : U[k]? = some ux) (h4 : O[k]? = some ox) : Tru (q || (ux != ox)) ↔ ∃ i, i < k + 1 ∧ U[i]? ≠ O[i]? := by
  unfold Tru at *
  constructor
  · intro h
    rw [Bool.or_eq_true] at h
    rcases h with h | h
    · obtain ⟨i, hi, hne⟩ := h1.1 h
      exact ⟨i, by omega, hne⟩
    · refine ⟨k, by omega, ?_⟩
      rw [h3, h4]
      intro e
      rw [Option.some.inj e] at h
      simp at h
  · rintro ⟨i, hi, hne⟩
    rw [Bool.or_eq_true]
    by_cases e : i = k
    · subst e
      rw [h3, h4] at hne
      right
      rw [bne_iff_ne]
      exact fun e => hne (by rw [e])
    · exact .inl (h1.2 ⟨i, by omega, hne⟩)
theorem step_idle {s : ByteArray} {R : Pat → Nat → Nat → Prop} {t : Pat} (h : t.x.op = 4 ∨ t.x.op = 5) (hl : t.kids.length ≠ 1) (i j : Nat) : StepM s R t i j ↔ i = j := by
  unfold StepM
  rcases h with h | h <;> rw [h] <;> simp
  all_goals
    split
    · rename_i k e; rw [e] at hl; simp at hl
    · rfl
set_option maxRecDepth 100000 in
set_option maxHeartbeats 4000000 in
theorem ends_seq (s : ByteArray) (d : Nat) (t : Pat) (h2 : t.x.op = 2) : EndsC s d t := by
  intro Ak m ck v A w hK hm hA hl hs ht hmm
  obtain ⟨i0, hi0, hz0, hz1, hz2⟩ := info_parts infoBool
  rw [h2]
  obtain ⟨n1, hn1⟩ : ∃ n1, n1 = s.size + 1 := ⟨_, rfl⟩
  have hnz : (s.size : Int) + 1 = (n1 : Int) := by omega
  have hn9 : n1 ≤ 1048577 := by omega
  have hs9 : s.size ≤ 9223372036854775807 := by omega
  have HN1 := Lib.hid hn1
  rw [← hn1] at hl
  obtain ⟨Av, cv, rfl⟩ := hA.form
  rw [hl] at hA ⊢
  have HAl := Lib.hid hl
  have HA := Lib.hid hA
  have HK := Lib.hid hK
  have HM := Lib.hid hm
  have hn0 : 0 < n1 := by omega
  have hb2 : i0.bytes * n1 ≤ 281474976710656 := by rw [hz2]; omega
  have hb3 : n1 ≤ maxLen := by unfold maxLen; omega
  clear hz2 hK hm hA hl hn1
  have HSZ : Hid (∀ o : Obj, (w.alloc o).heap.size = w.heap.size + 1) := Lib.hid (fun o => by simp)
  go_enter Tryz.func75, Tryz.ntmps75
  go_wp2_with (first
    | (at_make; refine wpList_make_full _ rfl _ _ 97 rfl (w.heap.size + 1) 4 i0 (.bool false) 1 Tryz.underlying97 hi0 hz0 hz1 _ _ _ _ n1 rfl rfl (by first | rfl | exact hnz) (by first | rfl | exact hnz) hb2 hb3 (by simp) ?_; intro w1 hown1 hg1; have hbel1 : Below w.heap.size w w1 := (below_al (Below.refl _ _) _).grown hg1 (by simp) (by simp); have hq1 : w1.heap[w.heap.size]? = some (.cells #[.int .i64 2, .string t.x.text, .slice Ak m ck] 82 (0, 0)) := (hg1.block _ (by simp) (by simp)).trans (heap_alloc_new w _); have HQ1 := Lib.hid hq1; have HZ1 : Hid (w.heap.size + 1 ≤ w1.heap.size) := Lib.hid (by have := hg1.size; simpa using this); have c0 : w1.cell? ⟨w.heap.size, 0, none⟩ = some (.int .i64 2) := (by rw [cell_of_row _ w.heap.size 0 _ _ _ hq1]; rfl); have c1 : w1.cell? ⟨w.heap.size, 1, none⟩ = some (.string t.x.text) := (by rw [cell_of_row _ w.heap.size 1 _ _ _ hq1]; rfl); have c2 : w1.cell? ⟨w.heap.size, 2, none⟩ = some (.slice Ak m ck) := (by rw [cell_of_row _ w.heap.size 2 _ _ _ hq1]; rfl); have hrow1 : RowB (w.heap.size + 1) w1 (.slice (some ⟨w.heap.size + 1, 0, none⟩) n1 n1) (List.replicate n1 false) := (by have h := rowB_made hown1; rw [HSZ.out] at h; exact h); clear hq1 hown1 hg1)
    | ((with_reducible show wpList _ _ _ ((⟨_, .call { callee := .builtin .copy, args := _, argTypes := _ }, _, _, _, _⟩ : Oper) :: _) _ _); go_loud (refine wpList_copy_bools rfl _ _ rfl (w.heap.size + 1) (w.heap.size + 1) n1 n1 (List.replicate n1 false) A rfl hrow1 _ rfl (HasR.below HA.out hbel1) HAl.out hn0 ?_); intro w2 hrow2 hg2 z2; have hbel2 : Below w.heap.size w w2 := hbel1.grown hg2 hbel1.size (fun q hq => by cases hq; omega); have hq2 : w2.heap[w.heap.size]? = some (.cells #[.int .i64 2, .string t.x.text, .slice Ak m ck] 82 (0, 0)) := (hg2.block _ (by have := HZ1.out; omega) (by simp)).trans HQ1.out; have HQ2 := Lib.hid hq2; have c0 : w2.cell? ⟨w.heap.size, 0, none⟩ = some (.int .i64 2) := (by rw [cell_of_row _ w.heap.size 0 _ _ _ hq2]; rfl); have c2 : w2.cell? ⟨w.heap.size, 2, none⟩ = some (.slice Ak m ck) := (by rw [cell_of_row _ w.heap.size 2 _ _ _ hq2]; rfl); have HROW := Lib.hid hrow2; clear hq2 hrow2 hg2 hrow1 hbel1))
  go_loopw [7, 10] (fun o i wr => ∃ (k : Nat) (O : List Bool), k ≤ m ∧ i = .int .i64 k ∧ O.length = n1 ∧ Hid (RowB (w.heap.size + 1) wr o O) ∧ Hid (EndsOf (SeqR (kidM s d) (t.kids.take k)) A O) ∧ Hid (wr.heap[w.heap.size]? = some (.cells #[.int .i64 2, .string t.x.text, .slice Ak m ck] 82 (0, 0))) ∧ Below w.heap.size w wr) (fun _ i _ => m - (intOf i).toNat)
  case atStart => exact ⟨0, A, Nat.zero_le _, rfl, HAl.out, HROW, Lib.hid (by rw [List.take_zero]; exact ends_self A), HQ2, hbel2⟩
  case round =>
    clear HROW hbel2 HQ2 c0 c2
    obtain ⟨k, O, hk, rfl, hO, HR, HE, HQ, hbel⟩ := hrel
    have c2 : wr.cell? ⟨w.heap.size, 2, none⟩ = some (.slice Ak m ck) := by rw [cell_of_row _ w.heap.size 2 _ _ _ HQ.out]; rfl
    by_cases hlt : k < m
    · have hkz : (k : Int) < (m : Int) := by omega
      have hkl : k < t.kids.length := by rw [← HM.out]; exact hlt
      obtain ⟨a, x, rfl, hab, hx, hcall⟩ := HK.out k hkl
      obtain ⟨d0, d1, d2⟩ := hx.below hbel hab
      have HTK := Lib.hid (List.take_succ_eq_append_getElem (l := t.kids) hkl)
      have HCALL := Lib.hid (hcall u7 O wr hbel (RowR.has bE_len HR.out) (by rw [hO]; exact HN1.out))
      clear hx hcall
      go_wp2_with (go_at_call 75; (refine (HCALL.out).mono ?_); rintro e w2 ⟨o2, O2, rfl, HR2, hl2, HE2, HB2⟩)
      go_roundw
      case rel =>
        refine ⟨k + 1, O2, by omega, by go_num, by rw [hl2]; exact HN1.out.symm, Lib.hid (RowR.mono HR2.out (by have := hbel.size; have := (Array.getElem?_eq_some_iff.1 HQ.out).1; omega)), Lib.hid ?_, Lib.hid ((HB2.out.block _ (Array.getElem?_eq_some_iff.1 HQ.out).1).trans HQ.out), below_step hbel HB2.out⟩
        rw [HTK.out]
        refine EndsOf.congr (ends_comp HE.out HE2.out HAl.out hO (by rw [HN1.out]; exact seq_bd (fun p => kid_bd s d p) _)) (fun i j => (seq_snoc).symm)
      case measure => simp [intOf]; omega
    · have hkz : ¬ (k : Int) < (m : Int) := by omega
      have hall : t.kids.take k = t.kids := List.take_of_length_le (by rw [← HM.out]; omega)
      rw [hall] at HE
      go_wp2
      go_ret
      exact ⟨u7, O, rfl, Lib.hid (RowR.mono HR.out (by omega)), by rw [hO]; exact HN1.out, Lib.hid (EndsOf.congr HE.out (fun i j => by unfold StepM; simp [h2])), Lib.hid hbel⟩
set_option maxRecDepth 100000 in
set_option maxHeartbeats 4000000 in
theorem ends_alts (s : ByteArray) (d : Nat) (t : Pat) (h2 : t.x.op = 3) : EndsC s d t := by
  intro Ak m ck v A w hK hm hA hl hs ht hmm
  obtain ⟨i0, hi0, hz0, hz1, hz2⟩ := info_parts infoBool
  rw [h2]
  obtain ⟨n1, hn1⟩ : ∃ n1, n1 = s.size + 1 := ⟨_, rfl⟩
  have hnz : (s.size : Int) + 1 = (n1 : Int) := by omega
  have hn9 : n1 ≤ 1048577 := by omega
  have hs9 : s.size ≤ 9223372036854775807 := by omega
  have HN1 := Lib.hid hn1
  rw [← hn1] at hl
  obtain ⟨Av, cv, rfl⟩ := hA.form
  rw [hl] at hA ⊢
  have HAl := Lib.hid hl
  have HA := Lib.hid hA
  have HK := Lib.hid hK
  have HM := Lib.hid hm
  have hn0 : 0 < n1 := by omega
  have hb2 : i0.bytes * n1 ≤ 281474976710656 := by rw [hz2]; omega
  have hb3 : n1 ≤ maxLen := by unfold maxLen; omega
  clear hz2 hK hm hA hl hn1
  have HSZ : Hid (∀ o : Obj, (w.alloc o).heap.size = w.heap.size + 1) := Lib.hid (fun o => by simp)
  go_enter Tryz.func75, Tryz.ntmps75
  go_wp2_with (first
    | (at_make; refine wpList_make_full _ rfl _ _ 97 rfl (w.heap.size + 1) 4 i0 (.bool false) 1 Tryz.underlying97 hi0 hz0 hz1 _ _ _ _ n1 rfl rfl (by first | rfl | exact hnz) (by first | rfl | exact hnz) hb2 hb3 (by simp) ?_; intro w1 hown1 hg1; have hbel1 : Below w.heap.size w w1 := (below_al (Below.refl _ _) _).grown hg1 (by simp) (by simp); have hq1 : w1.heap[w.heap.size]? = some (.cells #[.int .i64 3, .string t.x.text, .slice Ak m ck] 82 (0, 0)) := (hg1.block _ (by simp) (by simp)).trans (heap_alloc_new w _); have HQ1 := Lib.hid hq1; have HZ1 : Hid (w.heap.size + 1 ≤ w1.heap.size) := Lib.hid (by have := hg1.size; simpa using this); have c0 : w1.cell? ⟨w.heap.size, 0, none⟩ = some (.int .i64 3) := (by rw [cell_of_row _ w.heap.size 0 _ _ _ hq1]; rfl); have c1 : w1.cell? ⟨w.heap.size, 1, none⟩ = some (.string t.x.text) := (by rw [cell_of_row _ w.heap.size 1 _ _ _ hq1]; rfl); have c2 : w1.cell? ⟨w.heap.size, 2, none⟩ = some (.slice Ak m ck) := (by rw [cell_of_row _ w.heap.size 2 _ _ _ hq1]; rfl); have hrow1 : RowB (w.heap.size + 1) w1 (.slice (some ⟨w.heap.size + 1, 0, none⟩) n1 n1) (List.replicate n1 false) := (by have h := rowB_made hown1; rw [HSZ.out] at h; exact h); clear hq1 hown1 hg1))
  go_loopw [7, 11] (fun o i wr => ∃ (k : Nat) (O : List Bool), k ≤ m ∧ i = .int .i64 k ∧ O.length = n1 ∧ Hid (RowB (w.heap.size + 1) wr o O) ∧ Hid (EndsOf (fun i j => ∃ q, q ∈ t.kids.take k ∧ kidM s d q i j) A O) ∧ Hid (wr.heap[w.heap.size]? = some (.cells #[.int .i64 3, .string t.x.text, .slice Ak m ck] 82 (0, 0))) ∧ Below w.heap.size w wr) (fun _ i _ => m - (intOf i).toNat)
  case atStart => exact ⟨0, _, Nat.zero_le _, rfl, List.length_replicate, Lib.hid hrow1, Lib.hid (ends_none (s := s) (by rintro i j ⟨q, hq, _⟩; simp at hq) n1), HQ1, hbel1⟩
  case round =>
    clear hrow1 hbel1 HQ1 c0 c1 c2
    obtain ⟨k, O, hk, rfl, hO, HR, HE, HQ, hbel⟩ := hrel
    have c2 : wr.cell? ⟨w.heap.size, 2, none⟩ = some (.slice Ak m ck) := by rw [cell_of_row _ w.heap.size 2 _ _ _ HQ.out]; rfl
    by_cases hlt : k < m
    · have hkz : (k : Int) < (m : Int) := by omega
      have hkl : k < t.kids.length := by rw [← HM.out]; exact hlt
      obtain ⟨a, x, rfl, hab, hx, hcall⟩ := HK.out k hkl
      obtain ⟨d0, d1, d2⟩ := hx.below hbel hab
      have HTK := Lib.hid (List.take_succ_eq_append_getElem (l := t.kids) hkl)
      have HCALL := Lib.hid (hcall (.slice Av n1 cv) A wr hbel (HasR.below HA.out hbel) (by rw [HAl.out]; exact HN1.out))
      have HO := Lib.hid hO
      clear hx hcall
      go_wp2_with (first
        | (go_at_call 75; (refine (HCALL.out).mono ?_); rintro e w2 ⟨o2, O2, rfl, HR2, hl2, HE2, HB2⟩; have HL2 := Lib.hid (hl2.trans HN1.out.symm); clear hl2)
        | (go_at_call 91; (refine (sboth_any u7 o2 O O2 w2 (HasR.below (RowR.has bE_len HR.out) HB2.out) (RowR.has bE_len HR2.out) (by rw [HO.out, HL2.out]) (by rw [HO.out]; omega)).mono ?_); rintro e w3 ⟨o3, rfl, HR3, HB3⟩))
      go_roundw
      case rel =>
        have hB := below_step HB2.out HB3.out
        refine ⟨k + 1, orL O O2, by omega, by go_num, by rw [orL_len (by rw [HO.out, HL2.out])]; exact HO.out, Lib.hid (RowR.mono HR3.out (by have := HB2.out.size; have := (Array.getElem?_eq_some_iff.1 HQ.out).1; omega)), Lib.hid ?_, Lib.hid ((hB.block _ (Array.getElem?_eq_some_iff.1 HQ.out).1).trans HQ.out), below_step hbel hB⟩
        rw [HTK.out]
        exact ends_alt HE.out HE2.out (by rw [HO.out, HL2.out]) _ (orL_len (by rw [HO.out, HL2.out])) (fun i => on_or (by rw [HO.out, HL2.out]) i)
      case measure => simp [intOf]; omega
    · have hkz : ¬ (k : Int) < (m : Int) := by omega
      have hall : t.kids.take k = t.kids := List.take_of_length_le (by rw [← HM.out]; omega)
      rw [hall] at HE
      go_wp2
      go_ret
      exact ⟨u7, O, rfl, Lib.hid (RowR.mono HR.out (by omega)), by rw [hO]; exact HN1.out, Lib.hid (EndsOf.congr HE.out (fun i j => by unfold StepM; simp [h2])), Lib.hid hbel⟩
end Go.Proofs.YtdmccopggmienaaGreat

/- CHAPTER 5, spec: l5Ends of star (made by tools/genmat.py). -/
namespace Go.Proofs.YtdmccopggmienaaGreat
open Go.RowKit

set_option maxRecDepth 100000 in
set_option maxHeartbeats 4000000 in
theorem ends_of_star (s : ByteArray) (d : Nat) (t : Pat) (h2 : t.x.op = 4) : EndsC s d t := by
  intro Ak m ck v A w hK hm hA hl hs ht hmm
  obtain ⟨i0, hi0, hz0, hz1, hz2⟩ := info_parts infoBool
  rw [h2]
  obtain ⟨n1, hn1⟩ : ∃ n1, n1 = s.size + 1 := ⟨_, rfl⟩
  have hnz : (s.size : Int) + 1 = (n1 : Int) := by omega
  have hn9 : n1 ≤ 1048577 := by omega
  have hs9 : s.size ≤ 9223372036854775807 := by omega
  have HN1 := Lib.hid hn1
  rw [← hn1] at hl
  obtain ⟨Av, cv, rfl⟩ := hA.form
  rw [hl] at hA ⊢
  have HAl := Lib.hid hl
  have HA := Lib.hid hA
  have HK := Lib.hid hK
  have HM := Lib.hid hm
  have hn0 : 0 < n1 := by omega
  have hb2 : i0.bytes * n1 ≤ 281474976710656 := by rw [hz2]; omega
  have hb3 : n1 ≤ maxLen := by unfold maxLen; omega
  clear hz2 hK hm hA hl hn1
  have HSZ : Hid (∀ o : Obj, (w.alloc o).heap.size = w.heap.size + 1) := Lib.hid (fun o => by simp)
  go_enter Tryz.func75, Tryz.ntmps75
  go_wp2_with (first
    | (at_make; refine wpList_make_full _ rfl _ _ 97 rfl (w.heap.size + 1) 4 i0 (.bool false) 1 Tryz.underlying97 hi0 hz0 hz1 _ _ _ _ n1 rfl rfl (by first | rfl | exact hnz) (by first | rfl | exact hnz) hb2 hb3 (by simp) ?_; intro w1 hown1 hg1; have hbel1 : Below w.heap.size w w1 := (below_al (Below.refl _ _) _).grown hg1 (by simp) (by simp); have hq1 : w1.heap[w.heap.size]? = some (.cells #[.int .i64 4, .string t.x.text, .slice Ak m ck] 82 (0, 0)) := (hg1.block _ (by simp) (by simp)).trans (heap_alloc_new w _); have HQ1 := Lib.hid hq1; have HZ1 : Hid (w.heap.size + 1 ≤ w1.heap.size) := Lib.hid (by have := hg1.size; simpa using this); have c0 : w1.cell? ⟨w.heap.size, 0, none⟩ = some (.int .i64 4) := (by rw [cell_of_row _ w.heap.size 0 _ _ _ hq1]; rfl); have c1 : w1.cell? ⟨w.heap.size, 1, none⟩ = some (.string t.x.text) := (by rw [cell_of_row _ w.heap.size 1 _ _ _ hq1]; rfl); have c2 : w1.cell? ⟨w.heap.size, 2, none⟩ = some (.slice Ak m ck) := (by rw [cell_of_row _ w.heap.size 2 _ _ _ hq1]; rfl); have hrow1 : RowB (w.heap.size + 1) w1 (.slice (some ⟨w.heap.size + 1, 0, none⟩) n1 n1) (List.replicate n1 false) := (by have h := rowB_made hown1; rw [HSZ.out] at h; exact h); clear hq1 hown1 hg1)
    | ((with_reducible show wpList _ _ _ ((⟨_, .call { callee := .builtin .copy, args := _, argTypes := _ }, _, _, _, _⟩ : Oper) :: _) _ _); go_loud (refine wpList_copy_bools rfl _ _ rfl (w.heap.size + 1) (w.heap.size + 1) n1 n1 (List.replicate n1 false) A rfl hrow1 _ rfl (HasR.below HA.out hbel1) HAl.out hn0 ?_); intro w2 hrow2 hg2 z2; have hbel2 : Below w.heap.size w w2 := hbel1.grown hg2 hbel1.size (fun q hq => by cases hq; omega); have hq2 : w2.heap[w.heap.size]? = some (.cells #[.int .i64 4, .string t.x.text, .slice Ak m ck] 82 (0, 0)) := (hg2.block _ (by have := HZ1.out; omega) (by simp)).trans HQ1.out; have HQ2 := Lib.hid hq2; have c0 : w2.cell? ⟨w.heap.size, 0, none⟩ = some (.int .i64 4) := (by rw [cell_of_row _ w.heap.size 0 _ _ _ hq2]; rfl); have c2 : w2.cell? ⟨w.heap.size, 2, none⟩ = some (.slice Ak m ck) := (by rw [cell_of_row _ w.heap.size 2 _ _ _ hq2]; rfl); have HROW := Lib.hid hrow2; clear hq2 hrow2 hg2 hrow1 hbel1))
  by_cases hm1 : m = 1
  · obtain ⟨k0, hk0⟩ : ∃ k0, t.kids = [k0] := List.length_eq_one_iff.1 (by rw [← HM.out]; exact hm1)
    have hK0 := HK.out 0 (by rw [hk0]; simp)
    obtain ⟨a, x, rfl, hab, hx, hcall⟩ := hK0
    have hkk : t.kids[0]'(by rw [hk0]; simp) = k0 := by simp [hk0]
    rw [hkk] at hcall
    have HX := Lib.hid hx
    have HCALL := Lib.hid hcall
    have HK0 := Lib.hid hk0
    have hmz : ((m : Int) == 1) = true := by rw [hm1]; rfl
    have hmp : (0 : Int) < (m : Int) := by omega
    clear hx hcall hkk hk0 hm1
    go_simp
    go_loopg [7] (n1 + 1) (fun G o wr => ∃ (O : List Bool), n1 + 1 - cntB O ≤ G ∧ O.length = n1 ∧ Hid (RowB (w.heap.size + 1) wr o O) ∧ Hid (Sofar (kidM s d k0) A O) ∧ Hid (4 = 5 → O = A) ∧ Hid (wr.heap[w.heap.size]? = some (.cells #[.int .i64 4, .string t.x.text, .slice (some a) m ck] 82 (0, 0))) ∧ Below w.heap.size w wr)
    case atStart => exact ⟨A, by omega, HAl.out, HROW, Lib.hid (sofar_start _ A), Lib.hid (fun _ => rfl), HQ2, hbel2⟩
    case round =>
      clear HROW hbel2 HQ2 c0 c2
      obtain ⟨O, hG, hO, HR, HS, H5, HQ, hbel⟩ := hrel
      have c0 : wr.cell? ⟨w.heap.size, 0, none⟩ = some (.int .i64 4) := by rw [cell_of_row _ w.heap.size 0 _ _ _ HQ.out]; rfl
      have c2 : wr.cell? ⟨w.heap.size, 2, none⟩ = some (.slice (some a) m ck) := by rw [cell_of_row _ w.heap.size 2 _ _ _ HQ.out]; rfl
      obtain ⟨Ao, co, rfl⟩ := HasB.form (RowR.has bE_len HR.out)
      have HO := Lib.hid hO
      rw [hO] at HR ⊢
      have hz : a.add (0 * 3) = a := by unfold Addr.add; rfl
      have hx' := HX.out
      rw [hz] at hab hx'
      obtain ⟨d0, d1, d2⟩ := hx'.below hbel hab
      have HC := Lib.hid (HCALL.out (.slice Ao n1 co) O wr hbel (RowR.has bE_len HR.out) (by rw [hO]; exact HN1.out))
      have HB := Lib.hid hbel
      clear hx' hO hbel
      go_wp2_with (first
        | (go_at_call 75; (refine (HC.out).mono ?_); rintro e w4 ⟨o2, O2, rfl, HR2, hl2, HE2, HB2⟩; have HL2 := Lib.hid (hl2.trans HN1.out.symm); have HRo := Lib.hid (RowR.below HR.out HB2.out); clear hl2)
        | (go_at_call 91; (refine (sboth_any (.slice Ao n1 co) o2 O O2 w4 (RowR.has bE_len HRo.out) (RowR.has bE_len HR2.out) (by rw [HO.out, HL2.out]) (by rw [HO.out]; omega)).mono ?_); rintro e w5 ⟨o3, rfl, HR3, HB3⟩; have HRp := Lib.hid (RowR.below HRo.out HB3.out)))
      obtain ⟨Au, cu, rfl⟩ := HasB.form (RowR.has bE_len HR3.out)
      have HU : Hid ((orL O O2).length = n1) := Lib.hid (by rw [orL_len (by rw [HO.out, HL2.out])]; exact HO.out)
      rw [HU.out] at HR3 ⊢
      have hBw := Lib.hid (below_step HB.out (below_step HB2.out HB3.out))
      have HQ5 : Hid (w5.heap[w.heap.size]? = some (.cells #[.int .i64 4, .string t.x.text, .slice (some a) m ck] 82 (0, 0))) := Lib.hid (((below_step HB2.out HB3.out).block _ (Array.getElem?_eq_some_iff.1 HQ.out).1).trans HQ.out)
      have HUO : Hid (∀ i, On (orL O O2) i ↔ On O i ∨ On O2 i) := Lib.hid fun i => on_or (by rw [HO.out, HL2.out]) i
      have hz4 : Hid (w.heap.size + 1 ≤ w4.heap.size) := Lib.hid (by have := HB2.out.size; have := (Array.getElem?_eq_some_iff.1 HQ.out).1; omega)
      obtain ⟨U, hU⟩ : ∃ U, U = orL O O2 := ⟨_, rfl⟩
      rw [← hU] at HR3 HU HUO
      clear hU c0 c2 d0 d1 d2 HRo HR HC
      go_loopw [13, 14] (fun v13 v14 wq => ∃ (k : Nat) (q : Bool), v13 = .bool q ∧ v14 = .int .i64 k ∧ k ≤ n1 ∧ Hid (Tru q ↔ ∃ i, i < k ∧ U[i]? ≠ O[i]?) ∧ Below w5.heap.size w5 wq) (fun _ v14 _ => n1 - (intOf v14).toNat)
      case atStart => exact ⟨0, false, rfl, rfl, Nat.zero_le _, Lib.hid ⟨fun h => absurd (show false = true from h) (by simp), fun ⟨i, h, _⟩ => absurd h (by omega)⟩, Below.refl _ _⟩
      case round =>
        obtain ⟨k, q, rfl, rfl, hk, HIFF, hbq⟩ := hrel
        by_cases hlt : k < n1
        · have hkz : (k : Int) < (n1 : Int) := by omega
          have hkU : k < U.length := by rw [HU.out]; exact hlt
          have hkO : k < O.length := by rw [HO.out]; exact hlt
          obtain ⟨au, cu2, eu, hub, huc⟩ := HasB.cell (HasR.below (RowR.has bE_len HR3.out) hbq) hkU
          obtain ⟨ao, co2, eo, hob, hoc⟩ := HasB.cell (HasR.below (RowR.has bE_len HRp.out) hbq) hkO
          rw [HU.out] at eu
          rw [HO.out] at eo
          cases eu
          cases eo
          have HGU : Hid (U[k]? = some U[k]) := Lib.hid (List.getElem?_eq_getElem hkU)
          have HGO : Hid (O[k]? = some O[k]) := Lib.hid (List.getElem?_eq_getElem hkO)
          generalize U[k] = ux at huc HGU
          generalize O[k] = ox at hoc HGO
          clear hkU hkO
          cases q
          · cases ux
            all_goals
              cases ox
              all_goals
                go_wp2_with fail
                go_quiet (fail)
                have hbq2 : Below w5.heap.size w5 (wr.drewN nq) := below_drewN hbq _
                go_wp2
                go_roundw
                case rel =>
                  exact ⟨k + 1, _, rfl, by go_num, by omega, Lib.hid (iff_step HIFF.out HGU.out HGO.out), hbq2⟩
                case measure => simp [intOf]; omega
          · go_wp2_with fail
            go_quiet (fail)
            have hbq2 : Below w5.heap.size w5 (wr.drewN nq) := below_drewN hbq _
            go_wp2
            go_roundw
            case rel =>
              refine ⟨k + 1, true, rfl, by go_num, by omega, Lib.hid ?_, hbq2⟩
              obtain ⟨i, hi, hne⟩ := HIFF.out.1 rfl
              exact ⟨fun _ => ⟨i, by omega, hne⟩, fun _ => rfl⟩
            case measure => simp [intOf]; omega
        · have hkz : ¬ (k : Int) < (n1 : Int) := by omega
          have hkn : k = n1 := by omega
          have HEND : Hid (q = false → U = O) := Lib.hid (by
            intro hq
            apply List.ext_getElem?
            intro i
            by_cases hi : i < n1
            · by_cases e : U[i]? = O[i]?
              · exact e
              · exact absurd (show q = true from HIFF.out.2 ⟨i, by omega, e⟩) (by rw [hq]; simp)
            · rw [List.getElem?_eq_none (by rw [HU.out]; omega), List.getElem?_eq_none (by rw [HO.out]; omega)])
          have HMORE : Hid (q = true → U ≠ O) := Lib.hid (by
            intro hq e
            obtain ⟨i, _, hne⟩ := HIFF.out.1 hq
            exact hne (by rw [e]))
          have cq : wr.cell? ⟨w.heap.size, 0, none⟩ = some (.int .i64 4) := by rw [cell_of_row _ w.heap.size 0 _ _ _ ((hbq.block _ (Array.getElem?_eq_some_iff.1 HQ5.out).1).trans HQ5.out)]; rfl
          have HQq : Hid (wr.heap[w.heap.size]? = some (.cells #[.int .i64 4, .string t.x.text, .slice (some a) m ck] 82 (0, 0))) := Lib.hid ((hbq.block _ (Array.getElem?_eq_some_iff.1 HQ5.out).1).trans HQ5.out)
          have HRq := Lib.hid (RowR.mono (RowR.below HR3.out hbq) hz4.out)
          have HBq := Lib.hid (below_step hBw.out hbq)
          clear hkn hbq HIFF
          cases q
          · have HUE := Lib.hid (HEND.out rfl)
            go_wp2
            go_ret
            exact ⟨_, U, rfl, Lib.hid (RowR.mono HRq.out (by omega)), by rw [HU.out]; exact HN1.out, Lib.hid (by
              have h := Sofar.done HS.out HE2.out HUO.out HUE.out HO.out HL2.out HAl.out (by rw [HN1.out]; exact kid_bd s d k0)
              rw [HUE.out]
              exact EndsOf.congr h (fun i j => by unfold StepM; rw [HK0.out]; simp [h2])), HBq⟩
          · have hne := HMORE.out rfl
            have HGR : Hid (cntB O < cntB U) := Lib.hid (cnt_grows (by rw [HO.out, HU.out]) (fun i h => (HUO.out i).2 (.inl h)) (fun e => hne e.symm))
            have HCN : Hid (cntB U ≤ n1) := Lib.hid (by have := cntB_le U; rw [HU.out] at this; exact this)
            clear hne
            go_wp2
            go_roundg (n1 + 1 - cntB U)
            case measure => have h1 := HGR.out; have h2 := HCN.out; omega
            case rel => exact ⟨U, Nat.le_refl _, HU.out, HRq, Lib.hid (Sofar.more HS.out HE2.out HUO.out), Lib.hid (fun h => absurd h (by decide)), HQq, HBq.out⟩
  · have hmz : ((m : Int) == 1) = false := by rw [beq_eq_false_iff_ne]; omega
    have HST : Hid (∀ i j, StepM s (kidM s d) t i j ↔ i = j) := Lib.hid fun i j => step_idle (.inl h2) (by rw [← HM.out]; exact hm1) i j
    go_simp
    go_loopg [7] 0 (fun G o wr => o = .slice (some ⟨w.heap.size + 1, 0, none⟩) n1 n1 ∧ wr = w2)
    case atStart => exact ⟨rfl, rfl⟩
    case round =>
      obtain ⟨rfl, rfl⟩ := hrel
      go_wp2
      go_ret
      exact ⟨_, A, rfl, Lib.hid (RowR.mono HROW.out (by omega)), by rw [HAl.out]; exact HN1.out, Lib.hid (EndsOf.congr (ends_self A) (fun i j => (HST.out i j).symm)), Lib.hid hbel2⟩
end Go.Proofs.YtdmccopggmienaaGreat

/- CHAPTER 5, spec: l5Ends of chars (made by tools/genmat.py). -/
namespace Go.Proofs.YtdmccopggmienaaGreat
open Go.RowKit

set_option maxRecDepth 100000 in
set_option maxHeartbeats 4000000 in
theorem ends_chars (s : ByteArray) (d : Nat) (t : Pat) (h2 : t.x.op = 1) : EndsC s d t := by
  intro Ak m ck v A w hK hm hA hl hs ht hmm
  obtain ⟨i0, hi0, hz0, hz1, hz2⟩ := info_parts infoBool
  rw [h2]
  obtain ⟨n1, hn1⟩ : ∃ n1, n1 = s.size + 1 := ⟨_, rfl⟩
  have hnz : (s.size : Int) + 1 = (n1 : Int) := by omega
  have hn9 : n1 ≤ 1048577 := by omega
  have hs9 : s.size ≤ 9223372036854775807 := by omega
  have HN1 := Lib.hid hn1
  rw [← hn1] at hl
  obtain ⟨Av, cv, rfl⟩ := hA.form
  rw [hl] at hA ⊢
  have HAl := Lib.hid hl
  have HA := Lib.hid hA
  have HK := Lib.hid hK
  have HM := Lib.hid hm
  have hn0 : 0 < n1 := by omega
  have hb2 : i0.bytes * n1 ≤ 281474976710656 := by rw [hz2]; omega
  have hb3 : n1 ≤ maxLen := by unfold maxLen; omega
  clear hz2 hK hm hA hl hn1
  have HSZ : Hid (∀ o : Obj, (w.alloc o).heap.size = w.heap.size + 1) := Lib.hid (fun o => by simp)
  go_enter Tryz.func75, Tryz.ntmps75
  go_wp2_with (first
    | (at_make; refine wpList_make_full _ rfl _ _ 97 rfl (w.heap.size + 1) 4 i0 (.bool false) 1 Tryz.underlying97 hi0 hz0 hz1 _ _ _ _ n1 rfl rfl (by first | rfl | exact hnz) (by first | rfl | exact hnz) hb2 hb3 (by simp) ?_; intro w1 hown1 hg1; have hbel1 : Below w.heap.size w w1 := (below_al (Below.refl _ _) _).grown hg1 (by simp) (by simp); have hq1 : w1.heap[w.heap.size]? = some (.cells #[.int .i64 1, .string t.x.text, .slice Ak m ck] 82 (0, 0)) := (hg1.block _ (by simp) (by simp)).trans (heap_alloc_new w _); have HQ1 := Lib.hid hq1; have HZ1 : Hid (w.heap.size + 1 ≤ w1.heap.size) := Lib.hid (by have := hg1.size; simpa using this); have c0 : w1.cell? ⟨w.heap.size, 0, none⟩ = some (.int .i64 1) := (by rw [cell_of_row _ w.heap.size 0 _ _ _ hq1]; rfl); have c1 : w1.cell? ⟨w.heap.size, 1, none⟩ = some (.string t.x.text) := (by rw [cell_of_row _ w.heap.size 1 _ _ _ hq1]; rfl); have c2 : w1.cell? ⟨w.heap.size, 2, none⟩ = some (.slice Ak m ck) := (by rw [cell_of_row _ w.heap.size 2 _ _ _ hq1]; rfl); have hrow1 : RowB (w.heap.size + 1) w1 (.slice (some ⟨w.heap.size + 1, 0, none⟩) n1 n1) (List.replicate n1 false) := (by have h := rowB_made hown1; rw [HSZ.out] at h; exact h); clear hq1 hown1 hg1))
  go_loopw [8] (fun i wr => ∃ (k : Nat) (O : List Bool), k ≤ s.size ∧ i = .int .i64 k ∧ O.length = n1 ∧ Hid (RowB (w.heap.size + 1) wr (.slice (some ⟨w.heap.size + 1, 0, none⟩) n1 n1) O) ∧ Hid (∀ j, On O j ↔ ∃ i, i < k ∧ j = i + 1 ∧ On A i ∧ ChAt s t.x.text i) ∧ Hid (wr.heap[w.heap.size]? = some (.cells #[.int .i64 1, .string t.x.text, .slice Ak m ck] 82 (0, 0))) ∧ Below w.heap.size w wr) (fun i _ => s.size - (intOf i).toNat)
  case atStart => exact ⟨0, _, Nat.zero_le _, rfl, List.length_replicate, Lib.hid hrow1, Lib.hid (fun j => ⟨fun h => absurd h (on_rep _ _), fun ⟨i, h, _⟩ => absurd h (by omega)⟩), HQ1, hbel1⟩
  case round =>
    clear hrow1 hbel1 HQ1 c0 c1 c2
    obtain ⟨k, O, hk, rfl, hO, HR, HE, HQ, hbel⟩ := hrel
    by_cases hlt : k < s.size
    · have hkz : (k : Int) < (s.size : Int) := by omega
      have hkA : k < A.length := by rw [HAl.out]; omega
      obtain ⟨aA, cA, eA, hAb, hAc⟩ := HasB.cell HA.out hkA
      rw [HAl.out] at eA
      cases eA
      have HGA : Hid (On A k ↔ A[k] = true) := Lib.hid (on_get hkA)
      generalize A[k] = ax at hAc HGA
      have HC0 : Hid (∀ h : k < s.size, True) := Lib.hid fun _ => trivial
      obtain ⟨k1, hk1⟩ : ∃ k1, k1 = k + 1 := ⟨_, rfl⟩
      have e1 : ((k : Int) + 1).toNat = k1 := by omega
      have e2 : (0 : Int) ≤ (k : Int) + 1 := by omega
      have e3 : (k : Int) + 1 < (n1 : Int) := by omega
      have e4 : IntKind.i64.wrap ((k : Int) + 1) = (k : Int) + 1 := by rw [IntKind.wrap_i64]; omega
      have hk1n : k1 < n1 := by omega
      have HK1 := Lib.hid hk1
      clear hkA hk1
      go_wp2
      go_loopw [9] (fun v9 wq => ∃ (q : Nat) (U : List Bool), v9 = .int .i64 q ∧ q ≤ t.x.text.size ∧ U.length = n1 ∧ Hid (RowB (w.heap.size + 1) wq (.slice (some ⟨w.heap.size + 1, 0, none⟩) n1 n1) U) ∧ Hid (∀ j, On U j ↔ On O j ∨ (j = k1 ∧ Tru ax ∧ ∃ r, ∃ h : r < t.x.text.size, r < q ∧ t.x.text[r] = s[k])) ∧ Hid (ax = false → q = 0) ∧ Hid (wq.heap[w.heap.size]? = some (.cells #[.int .i64 1, .string t.x.text, .slice Ak m ck] 82 (0, 0))) ∧ Below w.heap.size w wq) (fun v9 _ => t.x.text.size - (intOf v9).toNat)
      case atStart => exact ⟨0, O, rfl, Nat.zero_le _, hO, HR, Lib.hid (fun j => ⟨fun h => .inl h, fun h => h.elim id (fun ⟨_, _, r, _, h, _⟩ => absurd h (by omega))⟩), Lib.hid (fun _ => rfl), HQ, hbel⟩
      case round =>
        clear HR HQ hbel
        obtain ⟨q, U, rfl, hq, hU, HR, HEU, H0, HQ, hbel⟩ := hrel
        have c1 : wr.cell? ⟨w.heap.size, 1, none⟩ = some (.string t.x.text) := by rw [cell_of_row _ w.heap.size 1 _ _ _ HQ.out]; rfl
        have cA : wr.cell? (aA.add k) = some (.bool ax) := by rw [hbel.cell (by rw [addr_blk]; exact hAb)]; exact hAc
        have HNXT : Hid (q = t.x.text.size ∨ ax = false → ∀ j, On U j ↔ ∃ i, i < k + 1 ∧ j = i + 1 ∧ On A i ∧ ChAt s t.x.text i) := Lib.hid (fun hfin j => by
          rw [HEU.out j, HE.out j]
          exact ch_fin HGA.out HK1.out hlt hfin)
        by_cases hqt : q < t.x.text.size
        · have hqz : (q : Int) < (t.x.text.size : Int) := by omega
          have hqd : decide (q < t.x.text.size) = true := by simp; omega
          cases ax with
          | true =>
            have hkU : k1 < U.length := by rw [hU]; exact hk1n
            have hfz := RowR.frozen HR.out k1
            have HPUT := Lib.hid (fun u => RowB.put HR.out hkU u)
            have HSE : Hid (∀ b j, On (U.set k1 b) j ↔ (j = k1 ∧ b = true) ∨ (j ≠ k1 ∧ On U j)) := Lib.hid fun b j => on_set hkU b
            have hcell := RowB.at HR.out hkU
            have HUG : Hid (On U k1 ↔ U[k1] = true) := Lib.hid (on_get hkU)
            generalize U[k1] = vb at hcell HUG
            clear hkU
            cases vb with
            | true =>
              go_wp2_with fail
              go_region
              have hbel2 := below_set (j := k1) (u := .bool true) hbel (show w.heap.size ≤ w.heap.size + 1 by omega)
              have HQ2 : Hid ((wr.setCell ⟨w.heap.size + 1, k1, none⟩ (.bool true)).heap[w.heap.size]? = some (.cells #[.int .i64 1, .string t.x.text, .slice Ak m ck] 82 (0, 0))) := Lib.hid ((Below.heap_setCell wr ⟨w.heap.size + 1, k1, none⟩ _ w.heap.size (by simp)).trans HQ.out)
              have HR2 := Lib.hid (HPUT.out true).1
              go_wp2
              go_roundw
              case rel =>
                refine ⟨q + 1, U.set k1 true, by go_num, by omega, by rw [List.length_set]; exact hU, Lib.hid HR2.out, Lib.hid ?_, Lib.hid (fun h => by cases h), Lib.hid HQ2.out, by first | exact hbel2 | exact below_drewN hbel2 1⟩
                intro j
                rw [HSE.out true j, HEU.out j]
                exact ch_on (HUG.out.2 (by simp)) (HEU.out k1)
              case measure => simp [intOf]; omega
            | false =>
              by_cases heq : t.x.text[q] = s[k]
              · have hbq : ((t.x.text[q].toNat : Int) == (s[k].toNat : Int)) = true := by rw [heq]; simp
                have HEQ := Lib.hid heq
                clear heq
                go_wp2_with fail
                go_region
                have hbel2 := below_set (j := k1) (u := .bool true) hbel (show w.heap.size ≤ w.heap.size + 1 by omega)
                have HQ2 : Hid ((wr.setCell ⟨w.heap.size + 1, k1, none⟩ (.bool true)).heap[w.heap.size]? = some (.cells #[.int .i64 1, .string t.x.text, .slice Ak m ck] 82 (0, 0))) := Lib.hid ((Below.heap_setCell wr ⟨w.heap.size + 1, k1, none⟩ _ w.heap.size (by simp)).trans HQ.out)
                have HR2 := Lib.hid (HPUT.out true).1
                go_wp2
                go_roundw
                case rel =>
                  refine ⟨q + 1, U.set k1 true, by go_num, by omega, by rw [List.length_set]; exact hU, Lib.hid HR2.out, Lib.hid ?_, Lib.hid (fun h => by cases h), Lib.hid HQ2.out, by first | exact hbel2 | exact below_drewN hbel2 1⟩
                  intro j
                  rw [HSE.out true j, HEU.out j]
                  exact ch_hit hqt HEQ.out
                case measure => simp [intOf]; omega
              · have hbq : ((t.x.text[q].toNat : Int) == (s[k].toNat : Int)) = false := byte_ne heq
                have HEQ := Lib.hid heq
                clear heq
                go_wp2_with fail
                go_region
                have hbel2 := below_set (j := k1) (u := .bool false) hbel (show w.heap.size ≤ w.heap.size + 1 by omega)
                have HQ2 : Hid ((wr.setCell ⟨w.heap.size + 1, k1, none⟩ (.bool false)).heap[w.heap.size]? = some (.cells #[.int .i64 1, .string t.x.text, .slice Ak m ck] 82 (0, 0))) := Lib.hid ((Below.heap_setCell wr ⟨w.heap.size + 1, k1, none⟩ _ w.heap.size (by simp)).trans HQ.out)
                have HR2 := Lib.hid (HPUT.out false).1
                go_wp2
                go_roundw
                case rel =>
                  refine ⟨q + 1, U.set k1 false, by go_num, by omega, by rw [List.length_set]; exact hU, Lib.hid HR2.out, Lib.hid ?_, Lib.hid (fun h => by cases h), Lib.hid HQ2.out, by first | exact hbel2 | exact below_drewN hbel2 1⟩
                  intro j
                  rw [HSE.out false j, HEU.out j]
                  exact ch_miss hqt HEQ.out (fun h => absurd (HUG.out.1 h) (by simp)) (HEU.out k1)
                case measure => simp [intOf]; omega
          | false =>
            have HNX := Lib.hid (HNXT.out (.inr rfl))
            go_wp2
            go_roundw
            case rel => exact ⟨k + 1, U, by omega, by go_num, hU, HR, Lib.hid (HNX.out), HQ, hbel⟩
            case measure => simp [intOf]; omega
        · have hqz : ¬ (q : Int) < (t.x.text.size : Int) := by omega
          have hqd : decide (q < t.x.text.size) = false := by simp; omega
          have HNX := Lib.hid (HNXT.out (.inl (by omega)))
          go_wp2
          go_roundw
          case rel => exact ⟨k + 1, U, by omega, by go_num, hU, HR, Lib.hid (HNX.out), HQ, hbel⟩
          case measure => simp [intOf]; omega
    · have hkz : ¬ (k : Int) < (s.size : Int) := by omega
      go_wp2
      go_ret
      exact ⟨_, O, rfl, Lib.hid (RowR.mono HR.out (by omega)), by rw [hO]; exact HN1.out, Lib.hid (by
        intro j hj
        rw [HE.out j]
        constructor
        · rintro ⟨i, h1, h3, h4, h5⟩; exact ⟨i, h4, by unfold StepM; rw [h2, if_pos rfl]; exact ⟨h5, h3⟩⟩
        · rintro ⟨i, h4, h5⟩
          unfold StepM at h5
          rw [h2, if_pos rfl] at h5
          exact ⟨i, by obtain ⟨h6, _⟩ := h5.1; omega, h5.2, h4, h5.1⟩), Lib.hid hbel⟩
end Go.Proofs.YtdmccopggmienaaGreat

/- CHAPTER 5, spec: l5Ends of maybe (made by tools/genmat.py). -/
namespace Go.Proofs.YtdmccopggmienaaGreat
open Go.RowKit

set_option maxRecDepth 100000 in
set_option maxHeartbeats 4000000 in
theorem ends_of_maybe (s : ByteArray) (d : Nat) (t : Pat) (h2 : t.x.op = 5) : EndsC s d t := by
  intro Ak m ck v A w hK hm hA hl hs ht hmm
  obtain ⟨i0, hi0, hz0, hz1, hz2⟩ := info_parts infoBool
  rw [h2]
  obtain ⟨n1, hn1⟩ : ∃ n1, n1 = s.size + 1 := ⟨_, rfl⟩
  have hnz : (s.size : Int) + 1 = (n1 : Int) := by omega
  have hn9 : n1 ≤ 1048577 := by omega
  have hs9 : s.size ≤ 9223372036854775807 := by omega
  have HN1 := Lib.hid hn1
  rw [← hn1] at hl
  obtain ⟨Av, cv, rfl⟩ := hA.form
  rw [hl] at hA ⊢
  have HAl := Lib.hid hl
  have HA := Lib.hid hA
  have HK := Lib.hid hK
  have HM := Lib.hid hm
  have hn0 : 0 < n1 := by omega
  have hb2 : i0.bytes * n1 ≤ 281474976710656 := by rw [hz2]; omega
  have hb3 : n1 ≤ maxLen := by unfold maxLen; omega
  clear hz2 hK hm hA hl hn1
  have HSZ : Hid (∀ o : Obj, (w.alloc o).heap.size = w.heap.size + 1) := Lib.hid (fun o => by simp)
  go_enter Tryz.func75, Tryz.ntmps75
  go_wp2_with (first
    | (at_make; refine wpList_make_full _ rfl _ _ 97 rfl (w.heap.size + 1) 4 i0 (.bool false) 1 Tryz.underlying97 hi0 hz0 hz1 _ _ _ _ n1 rfl rfl (by first | rfl | exact hnz) (by first | rfl | exact hnz) hb2 hb3 (by simp) ?_; intro w1 hown1 hg1; have hbel1 : Below w.heap.size w w1 := (below_al (Below.refl _ _) _).grown hg1 (by simp) (by simp); have hq1 : w1.heap[w.heap.size]? = some (.cells #[.int .i64 5, .string t.x.text, .slice Ak m ck] 82 (0, 0)) := (hg1.block _ (by simp) (by simp)).trans (heap_alloc_new w _); have HQ1 := Lib.hid hq1; have HZ1 : Hid (w.heap.size + 1 ≤ w1.heap.size) := Lib.hid (by have := hg1.size; simpa using this); have c0 : w1.cell? ⟨w.heap.size, 0, none⟩ = some (.int .i64 5) := (by rw [cell_of_row _ w.heap.size 0 _ _ _ hq1]; rfl); have c1 : w1.cell? ⟨w.heap.size, 1, none⟩ = some (.string t.x.text) := (by rw [cell_of_row _ w.heap.size 1 _ _ _ hq1]; rfl); have c2 : w1.cell? ⟨w.heap.size, 2, none⟩ = some (.slice Ak m ck) := (by rw [cell_of_row _ w.heap.size 2 _ _ _ hq1]; rfl); have hrow1 : RowB (w.heap.size + 1) w1 (.slice (some ⟨w.heap.size + 1, 0, none⟩) n1 n1) (List.replicate n1 false) := (by have h := rowB_made hown1; rw [HSZ.out] at h; exact h); clear hq1 hown1 hg1)
    | ((with_reducible show wpList _ _ _ ((⟨_, .call { callee := .builtin .copy, args := _, argTypes := _ }, _, _, _, _⟩ : Oper) :: _) _ _); go_loud (refine wpList_copy_bools rfl _ _ rfl (w.heap.size + 1) (w.heap.size + 1) n1 n1 (List.replicate n1 false) A rfl hrow1 _ rfl (HasR.below HA.out hbel1) HAl.out hn0 ?_); intro w2 hrow2 hg2 z2; have hbel2 : Below w.heap.size w w2 := hbel1.grown hg2 hbel1.size (fun q hq => by cases hq; omega); have hq2 : w2.heap[w.heap.size]? = some (.cells #[.int .i64 5, .string t.x.text, .slice Ak m ck] 82 (0, 0)) := (hg2.block _ (by have := HZ1.out; omega) (by simp)).trans HQ1.out; have HQ2 := Lib.hid hq2; have c0 : w2.cell? ⟨w.heap.size, 0, none⟩ = some (.int .i64 5) := (by rw [cell_of_row _ w.heap.size 0 _ _ _ hq2]; rfl); have c2 : w2.cell? ⟨w.heap.size, 2, none⟩ = some (.slice Ak m ck) := (by rw [cell_of_row _ w.heap.size 2 _ _ _ hq2]; rfl); have HROW := Lib.hid hrow2; clear hq2 hrow2 hg2 hrow1 hbel1))
  by_cases hm1 : m = 1
  · obtain ⟨k0, hk0⟩ : ∃ k0, t.kids = [k0] := List.length_eq_one_iff.1 (by rw [← HM.out]; exact hm1)
    have hK0 := HK.out 0 (by rw [hk0]; simp)
    obtain ⟨a, x, rfl, hab, hx, hcall⟩ := hK0
    have hkk : t.kids[0]'(by rw [hk0]; simp) = k0 := by simp [hk0]
    rw [hkk] at hcall
    have HX := Lib.hid hx
    have HCALL := Lib.hid hcall
    have HK0 := Lib.hid hk0
    have hmz : ((m : Int) == 1) = true := by rw [hm1]; rfl
    have hmp : (0 : Int) < (m : Int) := by omega
    clear hx hcall hkk hk0 hm1
    go_simp
    go_loopg [7] (n1 + 1) (fun G o wr => ∃ (O : List Bool), n1 + 1 - cntB O ≤ G ∧ O.length = n1 ∧ Hid (RowB (w.heap.size + 1) wr o O) ∧ Hid (Sofar (kidM s d k0) A O) ∧ Hid (5 = 5 → O = A) ∧ Hid (wr.heap[w.heap.size]? = some (.cells #[.int .i64 5, .string t.x.text, .slice (some a) m ck] 82 (0, 0))) ∧ Below w.heap.size w wr)
    case atStart => exact ⟨A, by omega, HAl.out, HROW, Lib.hid (sofar_start _ A), Lib.hid (fun _ => rfl), HQ2, hbel2⟩
    case round =>
      clear HROW hbel2 HQ2 c0 c2
      obtain ⟨O, hG, hO, HR, HS, H5, HQ, hbel⟩ := hrel
      have c0 : wr.cell? ⟨w.heap.size, 0, none⟩ = some (.int .i64 5) := by rw [cell_of_row _ w.heap.size 0 _ _ _ HQ.out]; rfl
      have c2 : wr.cell? ⟨w.heap.size, 2, none⟩ = some (.slice (some a) m ck) := by rw [cell_of_row _ w.heap.size 2 _ _ _ HQ.out]; rfl
      obtain ⟨Ao, co, rfl⟩ := HasB.form (RowR.has bE_len HR.out)
      have HO := Lib.hid hO
      rw [hO] at HR ⊢
      have hz : a.add (0 * 3) = a := by unfold Addr.add; rfl
      have hx' := HX.out
      rw [hz] at hab hx'
      obtain ⟨d0, d1, d2⟩ := hx'.below hbel hab
      have HC := Lib.hid (HCALL.out (.slice Ao n1 co) O wr hbel (RowR.has bE_len HR.out) (by rw [hO]; exact HN1.out))
      have HB := Lib.hid hbel
      clear hx' hO hbel
      go_wp2_with (first
        | (go_at_call 75; (refine (HC.out).mono ?_); rintro e w4 ⟨o2, O2, rfl, HR2, hl2, HE2, HB2⟩; have HL2 := Lib.hid (hl2.trans HN1.out.symm); have HRo := Lib.hid (RowR.below HR.out HB2.out); clear hl2)
        | (go_at_call 91; (refine (sboth_any (.slice Ao n1 co) o2 O O2 w4 (RowR.has bE_len HRo.out) (RowR.has bE_len HR2.out) (by rw [HO.out, HL2.out]) (by rw [HO.out]; omega)).mono ?_); rintro e w5 ⟨o3, rfl, HR3, HB3⟩; have HRp := Lib.hid (RowR.below HRo.out HB3.out)))
      obtain ⟨Au, cu, rfl⟩ := HasB.form (RowR.has bE_len HR3.out)
      have HU : Hid ((orL O O2).length = n1) := Lib.hid (by rw [orL_len (by rw [HO.out, HL2.out])]; exact HO.out)
      rw [HU.out] at HR3 ⊢
      have hBw := Lib.hid (below_step HB.out (below_step HB2.out HB3.out))
      have HQ5 : Hid (w5.heap[w.heap.size]? = some (.cells #[.int .i64 5, .string t.x.text, .slice (some a) m ck] 82 (0, 0))) := Lib.hid (((below_step HB2.out HB3.out).block _ (Array.getElem?_eq_some_iff.1 HQ.out).1).trans HQ.out)
      have HUO : Hid (∀ i, On (orL O O2) i ↔ On O i ∨ On O2 i) := Lib.hid fun i => on_or (by rw [HO.out, HL2.out]) i
      have hz4 : Hid (w.heap.size + 1 ≤ w4.heap.size) := Lib.hid (by have := HB2.out.size; have := (Array.getElem?_eq_some_iff.1 HQ.out).1; omega)
      obtain ⟨U, hU⟩ : ∃ U, U = orL O O2 := ⟨_, rfl⟩
      rw [← hU] at HR3 HU HUO
      clear hU c0 c2 d0 d1 d2 HRo HR HC
      go_loopw [13, 14] (fun v13 v14 wq => ∃ (k : Nat) (q : Bool), v13 = .bool q ∧ v14 = .int .i64 k ∧ k ≤ n1 ∧ Hid (Tru q ↔ ∃ i, i < k ∧ U[i]? ≠ O[i]?) ∧ Below w5.heap.size w5 wq) (fun _ v14 _ => n1 - (intOf v14).toNat)
      case atStart => exact ⟨0, false, rfl, rfl, Nat.zero_le _, Lib.hid ⟨fun h => absurd (show false = true from h) (by simp), fun ⟨i, h, _⟩ => absurd h (by omega)⟩, Below.refl _ _⟩
      case round =>
        obtain ⟨k, q, rfl, rfl, hk, HIFF, hbq⟩ := hrel
        by_cases hlt : k < n1
        · have hkz : (k : Int) < (n1 : Int) := by omega
          have hkU : k < U.length := by rw [HU.out]; exact hlt
          have hkO : k < O.length := by rw [HO.out]; exact hlt
          obtain ⟨au, cu2, eu, hub, huc⟩ := HasB.cell (HasR.below (RowR.has bE_len HR3.out) hbq) hkU
          obtain ⟨ao, co2, eo, hob, hoc⟩ := HasB.cell (HasR.below (RowR.has bE_len HRp.out) hbq) hkO
          rw [HU.out] at eu
          rw [HO.out] at eo
          cases eu
          cases eo
          have HGU : Hid (U[k]? = some U[k]) := Lib.hid (List.getElem?_eq_getElem hkU)
          have HGO : Hid (O[k]? = some O[k]) := Lib.hid (List.getElem?_eq_getElem hkO)
          generalize U[k] = ux at huc HGU
          generalize O[k] = ox at hoc HGO
          clear hkU hkO
          cases q
          · cases ux
            all_goals
              cases ox
              all_goals
                go_wp2_with fail
                go_quiet (fail)
                have hbq2 : Below w5.heap.size w5 (wr.drewN nq) := below_drewN hbq _
                go_wp2
                go_roundw
                case rel =>
                  exact ⟨k + 1, _, rfl, by go_num, by omega, Lib.hid (iff_step HIFF.out HGU.out HGO.out), hbq2⟩
                case measure => simp [intOf]; omega
          · go_wp2_with fail
            go_quiet (fail)
            have hbq2 : Below w5.heap.size w5 (wr.drewN nq) := below_drewN hbq _
            go_wp2
            go_roundw
            case rel =>
              refine ⟨k + 1, true, rfl, by go_num, by omega, Lib.hid ?_, hbq2⟩
              obtain ⟨i, hi, hne⟩ := HIFF.out.1 rfl
              exact ⟨fun _ => ⟨i, by omega, hne⟩, fun _ => rfl⟩
            case measure => simp [intOf]; omega
        · have hkz : ¬ (k : Int) < (n1 : Int) := by omega
          have hkn : k = n1 := by omega
          have HEND : Hid (q = false → U = O) := Lib.hid (by
            intro hq
            apply List.ext_getElem?
            intro i
            by_cases hi : i < n1
            · by_cases e : U[i]? = O[i]?
              · exact e
              · exact absurd (show q = true from HIFF.out.2 ⟨i, by omega, e⟩) (by rw [hq]; simp)
            · rw [List.getElem?_eq_none (by rw [HU.out]; omega), List.getElem?_eq_none (by rw [HO.out]; omega)])
          have HMORE : Hid (q = true → U ≠ O) := Lib.hid (by
            intro hq e
            obtain ⟨i, _, hne⟩ := HIFF.out.1 hq
            exact hne (by rw [e]))
          have cq : wr.cell? ⟨w.heap.size, 0, none⟩ = some (.int .i64 5) := by rw [cell_of_row _ w.heap.size 0 _ _ _ ((hbq.block _ (Array.getElem?_eq_some_iff.1 HQ5.out).1).trans HQ5.out)]; rfl
          have HQq : Hid (wr.heap[w.heap.size]? = some (.cells #[.int .i64 5, .string t.x.text, .slice (some a) m ck] 82 (0, 0))) := Lib.hid ((hbq.block _ (Array.getElem?_eq_some_iff.1 HQ5.out).1).trans HQ5.out)
          have HRq := Lib.hid (RowR.mono (RowR.below HR3.out hbq) hz4.out)
          have HBq := Lib.hid (below_step hBw.out hbq)
          clear hkn hbq HIFF
          have HOA := Lib.hid (H5.out (by simp))
          cases q
          all_goals
            go_wp2
            go_ret
            exact ⟨_, U, rfl, Lib.hid (RowR.mono HRq.out (by omega)), by rw [HU.out]; exact HN1.out, Lib.hid (by
              have h := ends_maybe (A := O) HE2.out (by rw [HL2.out, HU.out]) HUO.out
              rw [HOA.out] at h
              exact EndsOf.congr h (fun i j => by unfold StepM; rw [HK0.out]; simp [h2])), HBq⟩
  · have hmz : ((m : Int) == 1) = false := by rw [beq_eq_false_iff_ne]; omega
    have HST : Hid (∀ i j, StepM s (kidM s d) t i j ↔ i = j) := Lib.hid fun i j => step_idle (.inr h2) (by rw [← HM.out]; exact hm1) i j
    go_simp
    go_loopg [7] 0 (fun G o wr => o = .slice (some ⟨w.heap.size + 1, 0, none⟩) n1 n1 ∧ wr = w2)
    case atStart => exact ⟨rfl, rfl⟩
    case round =>
      obtain ⟨rfl, rfl⟩ := hrel
      go_wp2
      go_ret
      exact ⟨_, A, rfl, Lib.hid (RowR.mono HROW.out (by omega)), by rw [HAl.out]; exact HN1.out, Lib.hid (EndsOf.congr (ends_self A) (fun i j => (HST.out i j).symm)), Lib.hid hbel2⟩
end Go.Proofs.YtdmccopggmienaaGreat

/- CHAPTER 5, spec: l5Ends of every pattern, by how deep it is. -/
namespace Go.Proofs.YtdmccopggmienaaGreat
open Go.RowKit

/-- every text in the trees l is short enough to be a text -/
def TxFit : Nat → List Pat → Prop
  | 0, _ => True
  | d + 1, l => ∀ p, p ∈ l → p.x.text.size ≤ 9223372036854775807 ∧ TxFit d p.kids
theorem ends_c (s : ByteArray) (d : Nat) (t : Pat) : EndsC s d t := by
  by_cases h1 : t.x.op = 1
  · exact ends_chars s d t h1
  · by_cases h2 : t.x.op = 2
    · exact ends_seq s d t h2
    · by_cases h3 : t.x.op = 3
      · exact ends_alts s d t h3
      · by_cases h4 : t.x.op = 4
        · exact ends_of_star s d t h4
        · by_cases h5 : t.x.op = 5
          · exact ends_of_maybe s d t h5
          · exact ends_other s d t h1 h2 h3 h4 h5
/-- the contract of l5Ends at patterns of depth d -/
def EndsD (s : ByteArray) (d : Nat) : Prop := ∀ (r : PatR) (t : Pat) (w : World) (v : Value) (A : List Bool), RdN patK d w r t → TxFit d t.kids → t.x.text.size ≤ 9223372036854775807 → HasB w v A → A.length = s.size + 1 →
  Calls Tryz.prog 75 #[.agg #[.int .i64 r.op, .string r.text, r.kv], .string s, v] w (EndsPost s (Mt s d t) A w)
theorem ends_tree (s : ByteArray) (hs : s.size ≤ 1048576) : ∀ d, EndsD s d
  | 0 => by
    rintro ⟨op, text, kv⟩ ⟨⟨xo, xt⟩, l⟩ w v A ⟨⟨h1, h2⟩, hk⟩ _ ht hA hl
    obtain rfl : op = xo := h1
    obtain rfl : text = xt := h2
    obtain ⟨hl0, C, cap, hkv, _, _⟩ := hk
    obtain rfl : l = [] := hl0
    obtain rfl : kv = .slice C 0 cap := hkv
    rw [mt_step]
    exact ends_c s 0 ⟨⟨op, text⟩, []⟩ C 0 cap v A w (fun i h => absurd h (Nat.not_lt_zero i)) rfl hA hl hs ht (by omega)
  | d + 1 => by
    rintro ⟨op, text, kv⟩ ⟨⟨xo, xt⟩, l⟩ w v A ⟨⟨h1, h2⟩, hk⟩ hf ht hA hl
    obtain rfl : op = xo := h1
    obtain rfl : text = xt := h2
    obtain ⟨R, ⟨C, cap, hkv, hn, hc⟩, hRl, hRk⟩ := hk
    obtain rfl : kv = .slice C R.length cap := hkv
    rw [mt_step]
    refine ends_c s (d + 1) ⟨⟨op, text⟩, l⟩ C R.length cap v A w (fun i h => ?_) hRl hA hl hs ht hn
    have h1 : i < R.length := Nat.lt_of_lt_of_eq h hRl.symm
    obtain ⟨a, e1, e2, e3⟩ := HasP.pk hc i h1
    exact ⟨a, R[i], e1, e2, e3, fun v A W hb hA hl => ends_tree s hs d _ _ W v A (RdN.below (hRk i h1 h) hb) (hf _ (List.getElem_mem h)).2 (hf _ (List.getElem_mem h)).1 hA hl⟩
end Go.Proofs.YtdmccopggmienaaGreat

/- CHAPTER 5, spec: MatchPattern. -/
namespace Go.Proofs.YtdmccopggmienaaGreat
open Go.RowKit

set_option maxRecDepth 100000 in
set_option maxHeartbeats 4000000 in
theorem smatch (s : ByteArray) (hs : s.size ≤ 1048576) (d : Nat) (r : PatR) (t : Pat) (w : World) (hr : RdN patK d w r t) (hf : TxFit d t.kids) (ht : t.x.text.size ≤ 9223372036854775807) :
    Calls Tryz.prog 52 #[.agg #[.int .i64 r.op, .string r.text, r.kv], .string s] w fun e w' => ∃ b : Bool, e = .returned (.bool b) ∧ Hid (b = true ↔ Mt s d t 0 s.size) ∧ Below w.heap.size w w' := by
  obtain ⟨i0, hi0, hz0, hz1, hz2⟩ := info_parts infoBool
  obtain ⟨n1, hn1⟩ : ∃ n1, n1 = s.size + 1 := ⟨_, rfl⟩
  have hnz : (s.size : Int) + 1 = (n1 : Int) := by omega
  have hn9 : n1 ≤ 1048577 := by omega
  have hs9 : s.size ≤ 9223372036854775807 := by omega
  have HN1 := Lib.hid hn1
  have hn0 : 0 < n1 := by omega
  have hsn : (s.size : Int) < (n1 : Int) := by omega
  have hnp : (0 : Int) < (n1 : Int) := by omega
  have hb2 : i0.bytes * n1 ≤ 281474976710656 := by rw [hz2]; omega
  have hb3 : n1 ≤ maxLen := by unfold maxLen; omega
  have HE := Lib.hid (ends_tree s hs d)
  have HR0 := Lib.hid hr
  have HF := Lib.hid hf
  have HT := Lib.hid ht
  clear hz2 hn1 hr hf ht
  have HSZ : Hid (∀ o : Obj, (w.alloc o).heap.size = w.heap.size + 1) := Lib.hid (fun o => by simp)
  go_enter Tryz.func52, Tryz.ntmps52
  go_wp2_with (first
    | (at_make; go_loud (refine wpList_make_full _ rfl _ _ 97 rfl (w.heap.size + 1) 4 i0 (.bool false) 1 Tryz.underlying97 hi0 hz0 hz1 _ _ _ _ n1 rfl rfl (by first | rfl | exact hnz) (by first | rfl | exact hnz) hb2 hb3 (by simp) ?_); intro w1 hown1 hg1; have hbel1 : Below w.heap.size w w1 := (below_al (Below.refl _ _) _).grown hg1 (by simp) (by simp); have hq1 : w1.heap[w.heap.size]? = some (.cells #[.int .i64 r.op, .string r.text, r.kv] 82 (0, 0)) := (hg1.block _ (by simp) (by simp)).trans (heap_alloc_new w _); have HQ1 := Lib.hid hq1; have c0 : w1.cell? ⟨w.heap.size, 0, none⟩ = some (.int .i64 r.op) := (by rw [cell_of_row _ w.heap.size 0 _ _ _ hq1]; rfl); have c1 : w1.cell? ⟨w.heap.size, 1, none⟩ = some (.string r.text) := (by rw [cell_of_row _ w.heap.size 1 _ _ _ hq1]; rfl); have c2 : w1.cell? ⟨w.heap.size, 2, none⟩ = some r.kv := (by rw [cell_of_row _ w.heap.size 2 _ _ _ hq1]; rfl); have hrow1 : RowB (w.heap.size + 1) w1 (.slice (some ⟨w.heap.size + 1, 0, none⟩) n1 n1) (List.replicate n1 false) := (by have h := rowB_made hown1; rw [HSZ.out] at h; exact h); have hlt : 0 < (List.replicate n1 false).length := (by rw [List.length_replicate]; exact hn0); have hfz := RowR.frozen hrow1 0; have hcell : w1.cell? ⟨w.heap.size + 1, 0, none⟩ = some (.bool false) := (by have h := RowB.at hrow1 hlt; rw [List.getElem_replicate] at h; exact h); have HPUT := Lib.hid (RowB.put hrow1 hlt true); clear hown1 hrow1 hlt hq1 hg1)
    | (go_at_call 75; go_loud (refine (HE.out r t _ _ ((List.replicate n1 false).set 0 true) (RdN.below HR0.out (below_set hbel1 (show w.heap.size ≤ w.heap.size + 1 by omega))) HF.out HT.out (RowR.has bE_len HPUT.out.1) (by rw [List.length_set, List.length_replicate]; exact HN1.out)).mono ?_); rintro e w2 ⟨o, O, rfl, HR, hO, HEO, HB⟩; obtain ⟨ao, co, eo, hob, hoc⟩ := HasB.cell (i := s.size) (RowR.has bE_len HR.out) (by omega); rw [show O.length = n1 by rw [hO]; exact HN1.out.symm] at eo; cases eo; have hG : Hid (On O s.size ↔ O[s.size] = true) := Lib.hid (on_get (by omega)); generalize O[s.size] = b at hoc hG; have HO := Lib.hid hO; clear hO))
  go_ret
  refine ⟨b, rfl, Lib.hid ?_, below_step (below_set hbel1 (show w.heap.size ≤ w.heap.size + 1 by omega)) HB.out⟩
  have hA : ∀ i, On ((List.replicate n1 false).set 0 true) i ↔ i = 0 := fun i => by
    rw [on_set (by rw [List.length_replicate]; exact hn0)]
    constructor
    · rintro (⟨h, _⟩ | ⟨_, h⟩)
      · exact h
      · exact absurd h (on_rep _ _)
    · intro h; exact .inl ⟨h, rfl⟩
  rw [← hG.out, HEO.out s.size (by rw [HO.out]; omega)]
  constructor
  · rintro ⟨i, h1, h2⟩; rw [(hA i).1 h1] at h2; exact h2
  · intro h; exact ⟨0, (hA 0).2 rfl, h⟩
end Go.Proofs.YtdmccopggmienaaGreat
