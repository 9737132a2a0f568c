/- For every list of bytes laws.FnQuoted returns true: what QuoteText writes of a drawn text UnquoteText reads again as that text, and a drawn list of texts sorted by SortTexts holds each text as often as before, none behind a smaller one; no condition (codes of more than 4096 bytes the law itself lets pass). -/
import Derived.Test.YtkefbfljgoglhaaSortB
import Derived.Test.YtkefbfljgoglhaaDrawT
import Derived.Test.YtkefbfljgoglhaaUnq
import Derived.Test.YtkefbfljgoglhaaRows
import Derived.WalkKit
import Derived.ProofKit
import Derived.OpenShut
import Derived.ShutString
import Derived.ChangeOld
import Derived.Below
namespace Go.Proofs.Ytkefbfljgoglhaa.fnQuoted
open Go.ChangeShapes Go.WideShapes Go.ChangeAt Go.RowKit
open Go.ChangeMaps (open_string shut_string)
set_option linter.unusedVariables false

theorem own : ownKnob Try.prog.godebug = none := by kernel_rfl
theorem laidOut : laidOutB Try.prog = true := by kernel_rfl

/-- WHAT THE WALK IS TOLD OF A SLICE OF INTEGERS THAT CAME IN: it is nil; or it leads to a row of 'cap' cells, the numbers 'zs' (the first 'len' are its elements, the rest its spare room), each fitting its kind. -/
def IsRow (k : IntKind) (w : World) (a : Option Addr) (len cap : Nat) (zs : List Int) : Prop :=
  (a = none ∧ len = 0 ∧ cap = 0 ∧ zs = []) ∨
  ∃ x, a = some x ∧ len ≤ cap ∧ cap ≤ maxLen ∧ zs.length = cap ∧ (∀ i, i < zs.length → w.cell? (x.add i) = some (.int k (zs.getD i 0))) ∧ ∀ n ∈ zs, (Lit.int k n).wf = true

theorem rdq_back (l r : List UInt8) : rdq (escL l ++ 34 :: r) = some (l, r) := by
  induction l with
  | nil => rw [escL, List.nil_append, rdq_end rfl]
  | cons c l ih =>
    cases hc : escB c
    · rw [escL_plain hc, List.cons_append, rdq_on (escB_not hc).1 (escB_not hc).2, ih]; rfl
    · rw [escL_esc hc, List.cons_append, List.cons_append, rdq_esc rfl hc, ih]; rfl
theorem quote_back (s : ByteArray) : unqL (quoteS s) = some s.data.toList := by
  have hq : quotedAt (quoteS s) 0 = some (s.data.toList, (quoteS s).size) := by
    unfold quotedAt
    rw [if_pos (by unfold quoteS quoteL; rfl)]
    rw [show (quoteS s).data.toList.drop (0 + 1) = escL s.data.toList ++ [34] by unfold quoteS quoteL; rfl, rdq_back]
    rfl
  unfold unqL; rw [hq]; simp
theorem escL_length (l : List UInt8) : (escL l).length ≤ 2 * l.length := by
  induction l with
  | nil => simp [escL]
  | cons c l ih => rw [escL]; split <;> simp only [List.length_cons] <;> omega
theorem quote_size (s : ByteArray) : (quoteS s).size ≤ 2 * s.size + 2 := by
  have h := escL_length s.data.toList
  have e : (quoteS s).size = (quoteL s.data.toList).length := by unfold quoteS; rfl
  have e2 : s.data.toList.length = s.size := by simp
  rw [e]; unfold quoteL; simp only [List.length_cons, List.length_append, List.length_nil]; omega
theorem unq_quote_any (s : ByteArray) (hs : s.size ≤ 200) (w : World) :
    Calls Try.prog 11 #[.string (quoteS s)] w fun e w' => e = .returned (.tuple #[.string s, .bool true]) ∧ Below w.heap.size w w' :=
  (iUnq_any (quoteS s) (by have := quote_size s; omega) w).mono fun _ _ ⟨he, hb⟩ => ⟨by rw [he, quote_back]; rfl, hb⟩
/-- how often a text stands among the first k -/
def cnt (y : ByteArray) (L : List ByteArray) (k : Nat) : Nat := ((keyL L).take k).count y.data.toList
theorem cnt_zero (y : ByteArray) (L : List ByteArray) : cnt y L 0 = 0 := by simp [cnt]
theorem cnt_step {y : ByteArray} {L : List ByteArray} {k : Nat} (hk : k < L.length) : cnt y L (k + 1) = cnt y L k + if L[k].data.toList = y.data.toList then 1 else 0 := by
  unfold cnt
  rw [List.take_succ_eq_append_getElem (by rw [keyL_length]; exact hk), List.count_append, List.count_singleton]
  congr 1
  have e : (keyL L)[k]'(by rw [keyL_length]; exact hk) = L[k].data.toList := by unfold keyL; rw [List.getElem_map]
  rw [e]
  by_cases h : L[k].data.toList = y.data.toList
  · rw [if_pos h, if_pos (by simpa using h)]
  · rw [if_neg h, if_neg (by simpa using h)]
theorem cnt_all {y : ByteArray} {L X : List ByteArray} {n : Nat} (hp : X.Perm L) (hn : n = L.length) : cnt y X n = cnt y L n := by
  have hx : X.length = n := by rw [hn]; exact hp.length_eq
  unfold cnt
  rw [List.take_of_length_le (by rw [keyL_length]; omega), List.take_of_length_le (by rw [keyL_length]; omega)]
  exact (hp.map _).count_eq _
theorem cnt_le (y : ByteArray) (L : List ByteArray) (k : Nat) : cnt y L k ≤ k := by
  unfold cnt
  exact Nat.le_trans List.count_le_length (by rw [List.length_take]; omega)
theorem str_beq (x y : ByteArray) : (x.toList == y.toList) = decide (x.data.toList = y.data.toList) := by
  rw [Lib.toList_data, Lib.toList_data]
  by_cases h : x.data.toList = y.data.toList
  · rw [h]; simp
  · rw [decide_eq_false h]; simpa using h
theorem sortS_perm (l : List ByteArray) : (sortS l).Perm l := by
  have h := (List.mergeSort_perm (keyL l) fun x y => decide (x ≤ y)).map (fun b : List UInt8 => (⟨b.toArray⟩ : ByteArray))
  have e : (keyL l).map (fun b : List UInt8 => (⟨b.toArray⟩ : ByteArray)) = l := unkey_key l
  rw [e] at h; exact h
theorem sortS_sorted (l : List ByteArray) : SortedL (sortS l) := by
  have tr : ∀ a b c : List UInt8, decide (a ≤ b) = true → decide (b ≤ c) = true → decide (a ≤ c) = true := fun a b c h1 h2 => by simp only [decide_eq_true_eq] at *; exact List.le_trans h1 h2
  have to : ∀ a b : List UInt8, (decide (a ≤ b) || decide (b ≤ a)) = true := fun a b => by simp only [Bool.or_eq_true, decide_eq_true_eq]; exact List.le_total a b
  unfold SortedL sortS unkey
  rw [List.pairwise_map]
  exact (List.pairwise_mergeSort tr to (keyL l)).imp fun h => of_decide_eq_true h
theorem le_test {X : List ByteArray} (hs : SortedL X) {i : Nat} (h0 : 0 < i) (hi : i < X.length) (hi1 : i - 1 < X.length) : (Op.bytesLess (X[i - 1]).toList (X[i]).toList || (X[i - 1]).toList == (X[i]).toList) = true := by
  rw [less_eq, str_beq]
  have h : X[i - 1].data.toList ≤ X[i].data.toList := (List.pairwise_iff_getElem.1 hs) (i - 1) i hi1 hi (by omega)
  by_cases e : X[i - 1].data.toList < X[i].data.toList
  · simp [e]
  · have : X[i - 1].data.toList = X[i].data.toList := List.le_antisymm h (List.not_lt.1 e)
    simp [this]

/-! ### THE WALK -/
theorem walk (a0 : Option Addr) (len0 cap0 : Nat) (z0 : List Int) (w : World) (w0 : IsRow .u8 w a0 len0 cap0 z0) :
    Calls Try.prog 3 #[.slice a0 len0 cap0] w fun e w' => e = .returned (.bool true) ∧ Below w.heap.size w w' := by
  have hsrc := src_of w0
  have hB := Below.refl w.heap.size w
  clear w0
  by_cases hbig : 4096 < len0
  · have hd : decide (4096 < len0) = true := by simpa using hbig
    go_enter Try.func3, Try.ntmps3
    go_wp2_with (go_at_call 9; refine (big_any _ _ _ _).mono ?_; rw [hd]; rintro e w' ⟨rfl, rfl⟩)
    go_ret
    exact ⟨rfl, hB⟩
  · have hd : decide (4096 < len0) = false := by simpa using hbig
    go_enter Try.func3, Try.ntmps3
    go_wp2_with (first
      | (go_at_call 9; refine (big_any _ _ _ _).mono ?_; rw [hd]; rintro e w' ⟨rfl, rfl⟩)
      | (go_at_call 10; ((with_reducible refine (drawQ_any _ _ _ _ hsrc).mono ?_); rintro e w1 ⟨s, hs, rfl, hb⟩; have hs200 : s.size ≤ 200 := of_decide_eq_true hs; have hB1 := below_step hB hb; clear hb hs))
      | (go_at_call 12; ((with_reducible refine (iQuote_any s (by omega) _).mono ?_); rintro e w2 ⟨rfl, hb⟩; have hB2 := below_step hB1 hb; clear hb))
      | (go_at_call 11; ((with_reducible refine (unq_quote_any s hs200 _).mono ?_); rintro e w3 ⟨rfl, hb⟩; have hB3 := below_step hB2 hb; clear hb))
      | (go_at_call 13; ((with_reducible refine (drawL_any _ _ _ _ (src_below hsrc hB3)).mono ?_); rintro e w4 ⟨v, L, hL, rfl, hr4, hb⟩; have hB4 := below_step hB3 hb; clear hb; have hh4 := hr4.has; obtain ⟨A4, c4, rfl, hn4, hc4⟩ := hh4))
      | (go_at_call 14; ((with_reducible refine (iSort_any _ L _ hr4.has (by omega)).mono ?_); rintro e w5 ⟨x, rfl, hr5, hb⟩; have hh4 := hr4.has.below hb; have hB5 := below_step hB4 hb; clear hb; clear hc4; have hp := sortS_perm L; have hsd := sortS_sorted L; generalize sortS L = X at hr5 hp hsd; have hh5 := hr5.has; obtain ⟨A4', c4', e4, hn4', hc4⟩ := hh4; cases e4; obtain ⟨A5, c5, rfl, hn5, hc5⟩ := hh5; have hXL := hp.length_eq; obtain ⟨n, hnn⟩ : ∃ n, n = L.length := ⟨_, rfl⟩; rw [hXL] at hn5 ⊢; rw [← hnn] at hL hn4 hn5 hn4' ⊢; have HN : Hid (n = L.length) := Lib.hid hnn; have HX : Hid (n = X.length) := Lib.hid (hnn.trans hXL.symm); have HP := Lib.hid hp; have HS := Lib.hid hsd; clear hnn hXL hp hsd hr4 hr5)))
    go_loopw [8] (fun iv wr => ∃ i : Nat, i ≤ n ∧ iv = .int .i64 i ∧ Below w5.heap.size w5 wr) (fun iv _ => n - (intOf iv).toNat)
    case atStart => exact ⟨0, Nat.zero_le _, rfl, Below.refl _ _⟩
    case round =>
      obtain ⟨i, hi, rfl, hbel⟩ := hrel
      by_cases hlt : i < n
      · obtain ⟨a4, rfl, hab4, hcell4⟩ := hc4 i (by rw [← HN.out]; exact hlt)
        obtain ⟨a5, rfl, hab5, _⟩ := hc5 i (by rw [← HX.out]; exact hlt)
        obtain ⟨y, hy⟩ : ∃ y, y = L[i]'(by rw [← HN.out]; exact hlt) := ⟨_, rfl⟩
        rw [← hy] at hcell4
        clear hy
        go_wp2
        go_loopw [9, 10, 11] (fun p q kv w2 => ∃ k : Nat, k ≤ n ∧ p = .int .i64 (cnt y L k : Nat) ∧ q = .int .i64 (cnt y X k : Nat) ∧ kv = .int .i64 k ∧ Below w5.heap.size w5 w2) (fun _ _ kv _ => n - (intOf kv).toNat)
        case atStart => exact ⟨0, Nat.zero_le _, by rw [cnt_zero]; rfl, by rw [cnt_zero]; rfl, rfl, hbel⟩
        case round =>
          clear hbel
          obtain ⟨k, hk, rfl, rfl, rfl, hbel⟩ := hrel
          have hci : wr.cell? (a4.add i) = some (.string y) := by rw [hbel.cell (by rw [add_blk]; exact hab4)]; exact hcell4
          by_cases hlk : k < n
          · obtain ⟨u, hu⟩ : ∃ u, u = L[k]'(by rw [← HN.out]; exact hlk) := ⟨_, rfl⟩
            obtain ⟨v, hv⟩ : ∃ v, v = X[k]'(by rw [← HX.out]; exact hlk) := ⟨_, rfl⟩
            have hck : wr.cell? (a4.add k) = some (.string u) := by
              obtain ⟨b4, e4, _, h⟩ := hc4 k (by rw [← HN.out]; exact hlk)
              cases e4
              rw [hbel.cell (by rw [add_blk]; exact hab4), h, hu]
            have hcx : wr.cell? (a5.add k) = some (.string v) := by
              obtain ⟨b5, e5, _, h⟩ := hc5 k (by rw [← HX.out]; exact hlk)
              cases e5
              rw [hbel.cell (by rw [add_blk]; exact hab5), h, hv]
            have hs1 := cnt_step (y := y) (L := L) (k := k) (by rw [← HN.out]; exact hlk)
            have hs2 := cnt_step (y := y) (L := X) (k := k) (by rw [← HX.out]; exact hlk)
            rw [← hu] at hs1
            rw [← hv] at hs2
            have hl1 := cnt_le y L k
            have hl2 := cnt_le y X k
            clear hu hv
            generalize cnt y L k = c1 at hs1 hl1 ⊢
            generalize cnt y X k = c2 at hs2 hl2 ⊢
            by_cases h1 : u.data.toList = y.data.toList <;> by_cases h2 : v.data.toList = y.data.toList
            all_goals
              first | rw [if_pos h1] at hs1 | rw [if_neg h1] at hs1
              first | rw [if_pos h2] at hs2 | rw [if_neg h2] at hs2
              have H1 := Lib.hid hs1
              have H2 := Lib.hid hs2
              have t1 := str_beq u y
              have t2 := str_beq v y
              first | rw [decide_eq_true h1] at t1 | rw [decide_eq_false h1] at t1
              first | rw [decide_eq_true h2] at t2 | rw [decide_eq_false h2] at t2
              clear h1 h2 hs1 hs2
              go_wp2
              go_quiet (fail)
              go_wp2
              go_quiet (fail)
              go_wp2
              go_roundw
              case rel => exact ⟨k + 1, by omega, by rw [H1.out]; go_num, by rw [H2.out]; go_num, by go_num, below_drewN hbel _⟩
              case measure => simp [intOf]; omega
          · obtain rfl : k = n := by omega
            have hcc := cnt_all (y := y) HP.out HN.out
            rw [hcc]
            clear hcc
            generalize cnt y L k = c1
            by_cases hi0 : 0 < i
            · have hw1 : IntKind.i64.wrap ((i : Int) - 1) = (i : Int) - 1 := IntWalk.i64_in _ (by omega)
              have h01 : 0 ≤ (i : Int) - 1 := by omega
              have hlt1 : (i : Int) - 1 < (k : Int) := by omega
              have htn : ((i : Int) - 1).toNat = i - 1 := by omega
              have hi0' : decide (0 < (i : Int)) = true := by simp; omega
              have HT := le_test HS.out hi0 (by rw [← HX.out]; exact hlt) (by rw [← HX.out]; omega)
              have hx1 : wr.cell? (a5.add i) = some (.string (X[i]'(by rw [← HX.out]; exact hlt))) := by
                obtain ⟨b5, e5, _, h⟩ := hc5 i (by rw [← HX.out]; exact hlt)
                cases e5
                rw [hbel.cell (by rw [add_blk]; exact hab5), h]
              have hx0 : wr.cell? (a5.add (i - 1)) = some (.string (X[i - 1]'(by rw [← HX.out]; omega))) := by
                obtain ⟨b5, e5, _, h⟩ := hc5 (i - 1) (by rw [← HX.out]; omega)
                cases e5
                rw [hbel.cell (by rw [add_blk]; exact hab5), h]
              go_wp2
              go_quiet (fail)
              go_wp2
              go_roundw
              case rel => exact ⟨i + 1, by omega, by go_num, below_drewN hbel _⟩
              case measure => simp [intOf]; omega
            · have hi0' : decide (0 < (i : Int)) = false := by simp; omega
              go_wp2
              go_quiet (fail)
              go_wp2
              go_roundw
              case rel => exact ⟨i + 1, by omega, by go_num, below_drewN hbel _⟩
              case measure => simp [intOf]; omega
      · go_wp2
        go_ret
        exact ⟨rfl, below_step hB5 hbel⟩

/-! ### THE ROW's STEP: WRITTEN OUT: LEAVE IT -/
set_option maxRecDepth 100000 in
theorem lifted (os : Os) (started : os.Started) (H : Type) (enc : TypeId × Value → H) :
    ReturnsInHanded {} Try.checked os 3 .any (Rows.fnQuotedSpec.pre6 enc Try.prog Try.f3 Rows.fnQuotedRow.domain false) (Rows.fnQuotedSpec.post enc Try.prog Try.f3 false true false false) := by
  refine returnsInHanded_of_change (C := Try.checked) own started (by kernel_rfl) Try.func3
    (ChangeSpec.witness6 (enc := enc) (C := Try.checked) false ⟨#[], #[.slice none 0 0], []⟩ 8 (by kernel_rfl) (by kernel_rfl) (by kernel_rfl) (by kernel_rfl)) ?_
  intro W base args ds gs before hval0 hW hcnd _
  have hval : ∀ (j : Nat) t v, Try.f3.params[j]? = some t → args[j]? = some v → Value.okWide Try.prog W .any base t v := hval0
  have hW' := hW
  obtain ⟨p, q, hA0, hV, rfl, hfz, hnd⟩ := hW
  have hA : DataW.TrodAll enc Try.prog W 0 (fun _ => true) true Try.f3.params.toList args.toList ds p := hA0
  rw [Try.params3] at hA hval
  obtain ⟨v0, vs0, d0, ds0, p0, q0, hargs, rfl, rfl, h0, r0⟩ := trodAll_cons hA
  obtain ⟨rfl, rfl, rfl⟩ := trodAll_nil r0
  obtain rfl : args = #[v0] := by cases args; simp_all
  obtain ⟨rfl, rfl⟩ := trodVars_none hV
  obtain ⟨a0, len0, cap0, rfl⟩ := okWide_slice Try.underlying22 (hval 0 22 v0 rfl rfl)
  have k0 := h0
  have lt0 : ∀ x ∈ p0, x.block < W.heap.size := by obtain ⟨m, hm⟩ := k0; exact DataW.trod_lt m _ _ _ hm
  obtain ⟨z0, w0⟩ : ∃ zs, IsRow .u8 W a0 len0 cap0 zs := by
    obtain ⟨fuel, hf⟩ := h0
    rcases open_ints Try.underlying22 Try.underlying5 (by kernel_rfl) hf with ⟨hcs, _⟩ | ⟨x, l, c, zs, hcs, _, hl, hm, hz, _, hcell, hwz⟩
    · simp [Value.cells] at hcs
      obtain ⟨rfl, rfl, rfl⟩ := hcs
      exact ⟨[], .inl ⟨rfl, rfl, rfl, rfl⟩⟩
    · simp [Value.cells] at hcs
      obtain ⟨rfl, rfl, rfl⟩ := hcs
      exact ⟨zs, .inr ⟨_, rfl, hl, hm, by simpa using hz, hcell, hwz⟩⟩
  clear hA0 hval0
  refine (walk a0 len0 cap0 z0 W w0).mono fun e W' ⟨he, bel⟩ => ?_
  subst he
  exact ⟨_, rfl, _, _, _, [], _, [], hW', trodAll_mk1 (shut_bool Try.underlying4 _), (trodAll_cons_mk (Below.trod laidOut (by kernel_rfl) (of_decide_eq_true (by kernel_rfl)) k0 bel lt0) trodAll_mk0), rfl, bel.frame _, fun h => by cases h⟩

theorem over : Rows.fnQuotedRow.holds Try.pinned (OpenSpec.ofChange Rows.fnQuotedSpec) :=
  OpenClaim.holds_of_wide 3 Try.f3 rfl rfl rfl rfl rfl rfl rfl ⟨rfl, rfl, rfl, rfl, rfl⟩ rfl rfl rfl rfl rfl (by kernel_rfl) Try.func3 (by kernel_rfl)
    (of_decide_eq_true (by kernel_rfl)) (by unfold Func.isWrapper; first | (rw [if_pos (by decide +kernel)]; kernel_rfl) | (rw [if_neg (by decide +kernel)]; exact ⟨rfl, rfl⟩))
    (fun os started H enc _ => lifted os started H enc)

/-- ████ THE STATEMENT ████ -/
theorem proved : Rows.FnQuotedSaid := over
#print axioms proved
end Go.Proofs.Ytkefbfljgoglhaa.fnQuoted
