/- CHAPTER 7, WHAT laws.FnPaths ASKS OF WRITTEN PATHS: the tokens of the written form, and that they are read as the path: plain mathematics. No function is spoken of. -/
import Derived.Test.YtdfapkceanicoaaDoorPpI
import Derived.Test.YtdfapkceanicoaaDoorPthU
set_option linter.unusedVariables false
set_option linter.unusedSimpArgs false
namespace Go.Proofs.YtdfapkceanicoaaDoor
open Go.RowKit NumP

theorem rdq_back7 (l r : List UInt8) : rdq (escL l ++ 34 :: r) = some (l, r) := by
  induction l with
  | nil => rw [escL, List.nil_append, rdq_end rfl]
  | cons c l ih =>
    cases hc : escB c
    · rw [escL_plain hc, List.cons_append, rdq_on (escB_not hc).1 (escB_not hc).2, ih]; rfl
    · rw [escL_esc hc, List.cons_append, List.cons_append, rdq_esc rfl hc, ih]; rfl
/-- a mark ahead: one token -/
theorem lx_mark7 {N : Nat} {c : UInt8} {m R : List UInt8} (h1 : letB c = false) (h2 : digB c = false) (h3 : c ≠ 34) (h4 : c ≠ 32 ∧ c ≠ 10 ∧ c ≠ 35) (hm : mkLen (c :: m ++ R) = (c :: m).length) {T : List Tok} (h : Lx N R T none) :
    ∃ p : Int, Lx N (c :: m ++ R) (⟨4, ⟨(c :: m).toArray⟩, p⟩ :: T) none := by
  have ht : tokL (c :: m ++ R) = some (4, c :: m, (c :: m).length) := by
    have : mkLen (c :: (m ++ R)) ≠ 0 := by rw [← List.cons_append, hm]; simp
    rw [List.cons_append, tokL_mrk h1 h2 h3 this, ← List.cons_append, hm, List.take_left]
  refine ⟨_, .tok (c := c) (r := m ++ R) (by rw [List.cons_append]; exact skip_stop h4.1 h4.2.1 h4.2.2) ht ?_⟩
  rw [← List.cons_append, List.drop_left]; exact h
theorem mk_one {c : UInt8} {R : List UInt8} (h : marks1.contains c = true) (h2 : ∀ d : UInt8, ((c == 33 && d == 61) || (c == 60 && d == 61) || (c == 62 && d == 61) || (c == 46 && d == 46)) = false) : mkLen ([c] ++ R) = 1 := by
  cases R with
  | nil =>
    show (if mk2 [c] = true then 2 else if marks1.contains c = true then 1 else 0) = 1
    rw [if_neg (by simp [mk2]), if_pos h]
  | cons d r =>
    show (if mk2 (c :: d :: r) = true then 2 else if marks1.contains c = true then 1 else 0) = 1
    rw [if_neg (by rw [show mk2 (c :: d :: r) = ((c == 33 && d == 61) || (c == 60 && d == 61) || (c == 62 && d == 61) || (c == 46 && d == 46)) from rfl, h2 d]; decide), if_pos h]
theorem lx_one {N : Nat} (c : UInt8) (hc : c = 91 ∨ c = 93 ∨ c = 61 ∨ c = 47) {R : List UInt8} {T : List Tok} (h : Lx N R T none) : ∃ p : Int, Lx N (c :: R) (⟨4, ⟨#[c]⟩, p⟩ :: T) none := by
  rcases hc with rfl | rfl | rfl | rfl
  · exact lx_mark7 (c := 91) (m := []) (by decide) (by decide) (by decide) (by decide) (mk_one (by decide) (fun d => by simp)) h
  · exact lx_mark7 (c := 93) (m := []) (by decide) (by decide) (by decide) (by decide) (mk_one (by decide) (fun d => by simp)) h
  · exact lx_mark7 (c := 61) (m := []) (by decide) (by decide) (by decide) (by decide) (mk_one (by decide) (fun d => by simp)) h
  · exact lx_mark7 (c := 47) (m := []) (by decide) (by decide) (by decide) (by decide) (mk_one (by decide) (fun d => by simp)) h
theorem lx_dots {N : Nat} {R : List UInt8} {T : List Tok} (h : Lx N R T none) : ∃ p : Int, Lx N ([46, 46] ++ R) (⟨4, dotsT, p⟩ :: T) none :=
  lx_mark7 (c := 46) (m := [46]) (by decide) (by decide) (by decide) (by decide) (by simp [mkLen, mk2]) h
theorem get_list7 {s : ByteArray} {k : Nat} (h : k < s.data.toList.length) (h' : k < s.size) : s.data.toList[k] = s[k] := by rw [Array.getElem_toList]; rfl
theorem name_list {s : ByteArray} (h : NameP s) : (∃ c r, s.data.toList = c :: r ∧ letB c = true) ∧ (∀ c ∈ s.data.toList, nbB c = true) ∧ Lib.trimRightB s.data.toList 45 = s.data.toList := by
  obtain ⟨h1, h2, h3, h4, h5⟩ := h
  have hl : s.data.toList.length = s.size := by simp
  refine ⟨?_, fun c hc => ?_, ?_⟩
  · cases e : s.data.toList with
    | nil => rw [e] at hl; simp at hl; omega
    | cons c r =>
      refine ⟨c, r, rfl, ?_⟩
      have := get_list7 (s := s) (k := 0) (by omega) h1
      simp only [e, List.getElem_cons_zero] at this
      rw [this]; exact h3 h1
  · obtain ⟨k, hk, rfl⟩ := List.getElem_of_mem hc
    rw [get_list7 hk (by omega)]; exact h5 k _
  · have hne : s.data.toList ≠ [] := fun e => by rw [e] at hl; simp at hl; omega
    have hd : s.data.toList.getLast hne ≠ 45 := by
      rw [List.getLast_eq_getElem, get_list7 (s := s) (k := s.data.toList.length - 1) (by omega) (by omega)]
      have := h4 (by omega)
      simpa [hl] using this
    rw [← List.dropLast_concat_getLast hne]
    generalize s.data.toList.getLast hne = d at hd
    generalize s.data.toList.dropLast = B
    unfold Lib.trimRightB
    rw [List.reverse_append]
    simp only [List.reverse_cons, List.reverse_nil, List.nil_append, List.singleton_append, List.dropWhile_cons]
    rw [if_neg (by simpa using hd)]
    simp
/-- what may follow a name -/
def NoNb (R : List UInt8) : Prop := ∀ c r, R = c :: r → nbB c = false
theorem tw_name {A R : List UInt8} (hA : ∀ c ∈ A, nbB c = true) (hR : NoNb R) : (A ++ R).takeWhile nbB = A := by
  rw [List.takeWhile_append_of_pos hA]
  cases R with
  | nil => simp
  | cons c r => rw [List.takeWhile_cons, if_neg (by rw [hR c r rfl]; decide), List.append_nil]
theorem let_plain {c : UInt8} (h : letB c = true) : c ≠ 32 ∧ c ≠ 10 ∧ c ≠ 35 := by
  refine ⟨?_, ?_, ?_⟩ <;> (rintro rfl; revert h; decide)
theorem lx_name {N : Nat} {s : ByteArray} (hs : NameP s) {R : List UInt8} (hR : NoNb R) {T : List Tok} (h : Lx N R T none) : ∃ p : Int, Lx N (s.data.toList ++ R) (⟨1, s, p⟩ :: T) none := by
  obtain ⟨⟨c, r, e, hc⟩, h2, h3⟩ := name_list hs
  have hn : nmLen (s.data.toList ++ R) = s.data.toList.length := by unfold nmLen; rw [tw_name h2 hR, h3]
  have hst : (⟨s.data.toList.toArray⟩ : ByteArray) = s := by simp
  obtain ⟨k1, k2, k3⟩ := let_plain hc
  rw [e] at hn hst ⊢
  have ht : tokL ((c :: r) ++ R) = some (1, c :: r, (c :: r).length) := by
    rw [List.cons_append, tokL_let hc, ← List.cons_append, hn, List.take_left]
  rw [← hst]
  refine ⟨_, .tok (c := c) (r := r ++ R) (by rw [List.cons_append]; exact skip_stop k1 k2 k3) ht ?_⟩
  rw [← List.cons_append, List.drop_left]; exact h
theorem lx_text {N : Nat} (s : ByteArray) {R : List UInt8} {T : List Tok} (h : Lx N R T none) : ∃ p : Int, Lx N (quoteL s.data.toList ++ R) (⟨3, s, p⟩ :: T) none := by
  have hst : (⟨s.data.toList.toArray⟩ : ByteArray) = s := by simp
  generalize s.data.toList = l at hst ⊢
  have hq : rdq (escL l ++ [34] ++ R) = some (l, R) := by rw [List.append_assoc]; exact rdq_back7 l R
  have e : quoteL l ++ R = 34 :: (escL l ++ [34] ++ R) := rfl
  have ht : tokL (34 :: (escL l ++ [34] ++ R)) = some (3, l, (quoteL l).length) := by
    rw [tokL_quo rfl, hq]
    simp [quoteL]; omega
  rw [← hst, e]
  refine ⟨_, .tok (c := 34) (r := escL l ++ [34] ++ R) (skip_stop (by decide) (by decide) (by decide)) ht ?_⟩
  rw [← e, List.drop_left]; exact h
/- the written bytes -/
def tstL (x : Tst) : List UInt8 := 91 :: (x.n.data.toList ++ 61 :: (quoteL x.v.data.toList ++ [93]))
def tsL : List Tst → List UInt8
  | [] => []
  | x :: r => tstL x ++ tsL r
def stpL (s : Stp) : List UInt8 := s.n.data.toList ++ tsL s.ts
theorem tstT_bytes (x : Tst) : (tstT x).data.toList = tstL x := by
  unfold tstT tstL quoteS
  simp
theorem tsT_bytes : ∀ (l : List Tst) (s : ByteArray), (tsT s l).data.toList = s.data.toList ++ tsL l
  | [], s => by simp [tsT, tsL]
  | x :: r, s => by
    have e : tsT s (x :: r) = tsT (s ++ tstT x) r := rfl
    rw [e, tsT_bytes r, tsL]
    simp [tstT_bytes]
theorem stpT_bytes (s : Stp) : (stpT s).data.toList = stpL s := tsT_bytes s.ts s.n
/- reading -/
def TstVd (x : Tst) : Prop := NameP x.n ∧ TextP x.v
theorem no_eq (R : List UInt8) : NoNb (61 :: R) := fun c r e => by cases e; decide
theorem no_lbr (R : List UInt8) : NoNb (91 :: R) := fun c r e => by cases e; decide
theorem no_slash (R : List UInt8) : NoNb (47 :: R) := fun c r e => by cases e; decide
theorem no_nil : NoNb [] := fun c r e => by cases e
theorem lx_tst {N : Nat} {x : Tst} (hx : TstVd x) {R : List UInt8} {T : List Tok} (h : Lx N R T none) : ∃ T1, Lx N (tstL x ++ R) (T1 ++ T) none ∧ T1.length = 5 ∧ testT (T1 ++ T) = some x := by
  obtain ⟨p5, h5⟩ := lx_one 93 (by simp) h
  obtain ⟨p4, h4⟩ := lx_text x.v h5
  obtain ⟨p3, h3⟩ := lx_one 61 (by simp) h4
  obtain ⟨p2, h2⟩ := lx_name hx.1 (no_eq _) h3
  obtain ⟨p1, h1⟩ := lx_one 91 (by simp) h2
  refine ⟨[⟨4, ⟨#[91]⟩, p1⟩, ⟨1, x.n, p2⟩, ⟨4, ⟨#[61]⟩, p3⟩, ⟨3, x.v, p4⟩, ⟨4, ⟨#[93]⟩, p5⟩], ?_, rfl, ?_⟩
  · have e : tstL x ++ R = 91 :: (x.n.data.toList ++ 61 :: (quoteL x.v.data.toList ++ 93 :: R)) := by unfold tstL; simp
    rw [e]; exact h1
  · unfold testT
    rw [if_pos (by simp [mkB, kB])]
    rfl
theorem tsr_append {T0 T1 T : List Tok} {t : Tst} {L : List Tst} {res : Option (List Tst × Nat)} (h1 : T1.length = 5) (h2 : testT (T1 ++ T) = some t) (h : Tsr (T0 ++ T1 ++ T) (T0 ++ T1).length (L ++ [t]) res) : Tsr (T0 ++ (T1 ++ T)) T0.length L res := by
  refine .more (by rw [List.drop_left]; exact h2) ?_
  rw [← List.append_assoc, ← h1, ← List.length_append]; exact h
theorem lx_tests {N : Nat} {R : List UInt8} {T : List Tok} (hm : mkB T lbrT = false) (h : Lx N R T none) : ∀ {l : List Tst}, (∀ x ∈ l, TstVd x) → ∃ T1, Lx N (tsL l ++ R) (T1 ++ T) none ∧ ∀ (T0 : List Tok) (L : List Tst), Tsr (T0 ++ (T1 ++ T)) T0.length L (some (L ++ l, T0.length + T1.length))
  | [], _ => ⟨[], h, fun T0 L => by
      have := Tsr.stop (T := T0 ++ ([] ++ T)) (p := T0.length) (L := L) (by rw [List.drop_left]; exact hm)
      simpa using this⟩
  | x :: r, hx => by
    obtain ⟨T2, h1, h2⟩ := lx_tests hm h (l := r) (fun y hy => hx y (List.mem_cons_of_mem _ hy))
    obtain ⟨T1, h3, h4, h5⟩ := lx_tst (hx x List.mem_cons_self) h1
    refine ⟨T1 ++ T2, by rw [tsL, List.append_assoc, List.append_assoc]; exact h3, fun T0 L => ?_⟩
    rw [List.append_assoc]
    refine tsr_append h4 h5 ?_
    have := h2 (T0 ++ T1) (L ++ [x])
    rw [show L ++ [x] ++ r = L ++ x :: r by simp] at this
    have e : T0.length + (T1 ++ T2).length = (T0 ++ T1).length + T2.length := by rw [List.length_append, List.length_append]; omega
    rw [e]
    exact this
theorem lx_step {N : Nat} {s : Stp} (hs : NameP s.n ∧ ∀ x ∈ s.ts, TstVd x) {R : List UInt8} {T : List Tok} (hR : NoNb R) (hm : mkB T lbrT = false) (h : Lx N R T none) :
    ∃ p T1, Lx N (stpL s ++ R) (⟨1, s.n, p⟩ :: (T1 ++ T)) none ∧ ∀ T0 : List Tok, Spr (T0 ++ (⟨1, s.n, p⟩ :: (T1 ++ T))) T0.length (some (s, T0.length + (1 + T1.length))) := by
  obtain ⟨T1, h1, h2⟩ := lx_tests hm h hs.2
  have hno : NoNb (tsL s.ts ++ R) := by
    cases s.ts with
    | nil => exact hR
    | cons x r => exact no_lbr _
  obtain ⟨p, h3⟩ := lx_name hs.1 hno h1
  refine ⟨p, T1, by unfold stpL; rw [List.append_assoc]; exact h3, fun T0 => ?_⟩
  have h4 := h2 (T0 ++ [⟨1, s.n, p⟩]) []
  have e : T0 ++ [⟨1, s.n, p⟩] ++ (T1 ++ T) = T0 ++ (⟨1, s.n, p⟩ :: (T1 ++ T)) := by simp
  rw [e, List.length_append] at h4
  have h5 := Spr.yes (T := T0 ++ (⟨1, s.n, p⟩ :: (T1 ++ T))) (p := T0.length) (L := s.ts) (q := T0.length + (1 + T1.length)) (by rw [List.drop_left]; simp [kB]) (by
    have : T0.length + ([⟨1, s.n, p⟩] : List Tok).length + T1.length = T0.length + (1 + T1.length) := by simp; omega
    rw [this] at h4
    simpa using h4)
  rw [List.drop_left] at h5
  exact h5
def StpVd (s : Stp) : Prop := NameP s.n ∧ ∀ x ∈ s.ts, TstVd x
theorem mkB_slash_name {x : ByteArray} {p : Int} {r : List Tok} {m : ByteArray} : mkB ((⟨1, x, p⟩ : Tok) :: r) m = false := mkB_kind (by show ¬ ((1 : Int) = 4); omega)
theorem lx_steps {N : Nat} : ∀ {l : List Stp}, l ≠ [] → (∀ s ∈ l, StpVd s) → ∃ x p T, Lx N (Lib.join (l.map stpL) [47]) (⟨1, x, p⟩ :: T) none ∧ ∀ (T0 : List Tok) (root : Bool) (u : Nat) (st : List Stp), Ptr (T0 ++ (⟨1, x, p⟩ :: T)) root T0.length u st (some (u, st ++ l, (T0 ++ (⟨1, x, p⟩ :: T)).length))
  | [], h, _ => absurd rfl h
  | [s], _, hv => by
    obtain ⟨p, T1, h1, h2⟩ := lx_step (N := N) (hv s (by simp)) (R := []) (T := []) no_nil rfl (.fin (skip_nil _))
    rw [List.append_nil, List.append_nil] at h1
    refine ⟨s.n, p, T1, by simpa [Lib.join_one] using h1, fun T0 root u st => ?_⟩
    have h3 := h2 T0
    rw [List.append_nil] at h3
    have e : (T0 ++ (⟨1, s.n, p⟩ :: T1)).length = T0.length + (1 + T1.length) := by simp; omega
    rw [e]
    refine .stStop (by unfold upB; rw [List.drop_left, mkB_slash_name]; rfl) h3 ?_
    rw [← e, List.drop_length]; rfl
  | s :: y :: r, _, hv => by
    obtain ⟨x', p', T', h1, h2⟩ := lx_steps (N := N) (l := y :: r) (by simp) (fun z hz => hv z (List.mem_cons_of_mem _ hz))
    obtain ⟨ps, h3⟩ := lx_one 47 (by simp) h1
    obtain ⟨p, T1, h4, h5⟩ := lx_step (N := N) (hv s (by simp)) (no_slash _) (by simp [mkB, lbrT]) h3
    refine ⟨s.n, p, T1 ++ (⟨4, ⟨#[47]⟩, ps⟩ :: (⟨1, x', p'⟩ :: T')), ?_, fun T0 root u st => ?_⟩
    · have e : Lib.join ((s :: y :: r).map stpL) [47] = stpL s ++ 47 :: Lib.join ((y :: r).map stpL) [47] := by
        rw [List.map_cons, List.map_cons, Lib.join_cons, ← List.map_cons, List.map_cons, Lib.join_cons]
        simp [Lib.joinTail]
      rw [e]; exact h4
    · have h6 := h5 T0
      have h7 := h2 (T0 ++ (⟨1, s.n, p⟩ :: (T1 ++ [⟨4, ⟨#[47]⟩, ps⟩]))) root u (st ++ [s])
      have e1 : T0 ++ ((⟨1, s.n, p⟩ : Tok) :: (T1 ++ [(⟨4, ⟨#[47]⟩, ps⟩ : Tok)])) ++ (⟨1, x', p'⟩ :: T') = T0 ++ (⟨1, s.n, p⟩ :: (T1 ++ (⟨4, ⟨#[47]⟩, ps⟩ :: (⟨1, x', p'⟩ :: T')))) := by simp
      have e2 : (T0 ++ ((⟨1, s.n, p⟩ : Tok) :: (T1 ++ [⟨4, ⟨#[47]⟩, ps⟩]))).length = T0.length + (1 + T1.length) + 1 := by simp; omega
      rw [e1, e2, List.append_assoc, List.singleton_append] at h7
      refine .stMore (by unfold upB; rw [List.drop_left, mkB_slash_name]; rfl) h6 ?_ h7
      have e3 : T0 ++ ((⟨1, s.n, p⟩ : Tok) :: (T1 ++ ((⟨4, ⟨#[47]⟩, ps⟩ : Tok) :: (⟨1, x', p'⟩ :: T')))) = (T0 ++ (⟨1, s.n, p⟩ :: T1)) ++ (⟨4, ⟨#[47]⟩, ps⟩ :: (⟨1, x', p'⟩ :: T')) := by simp
      have e4 : T0.length + (1 + T1.length) = (T0 ++ ((⟨1, s.n, p⟩ : Tok) :: T1)).length := by simp; omega
      rw [e3, e4, List.drop_left]
      simp [mkB, slashT]
/-- '..' and then the steps, with '/' between them -/
def wayL (c : Nat) (l : List Stp) : List UInt8 := Lib.join (List.replicate c [46, 46] ++ l.map stpL) [47]
theorem lx_ways {N : Nat} {l : List Stp} (hv : ∀ s ∈ l, StpVd s) : ∀ {c : Nat}, ¬ (c = 0 ∧ l = []) → ∃ T, Lx N (wayL c l) T none ∧ mkB T slashT = false ∧ ∀ (T0 : List Tok) (u : Nat), Ptr (T0 ++ T) false T0.length u [] (some (u + c, l, (T0 ++ T).length))
  | 0, h => by
    obtain ⟨x, p, T, h1, h2⟩ := lx_steps (N := N) (l := l) (fun e => h ⟨rfl, e⟩) hv
    exact ⟨_, by simpa [wayL] using h1, mkB_slash_name, fun T0 u => h2 T0 false u []⟩
  | c + 1, h => by
    by_cases h0 : c = 0 ∧ l = []
    · obtain ⟨rfl, rfl⟩ := h0
      obtain ⟨p, h1⟩ := lx_dots (N := N) (R := []) (T := []) (.fin (skip_nil _))
      refine ⟨_, by simpa [wayL, Lib.join_one] using h1, by simp [mkB, slashT, dotsT], fun T0 u => ?_⟩
      have e : (T0 ++ [(⟨4, dotsT, p⟩ : Tok)]).length = T0.length + 1 := by simp
      rw [e]
      refine .upStop (by unfold upB; rw [List.drop_left]; simp [mkB, dotsT]) ?_
      rw [← e, List.drop_length]; rfl
    · obtain ⟨T, h1, h2, h3⟩ := lx_ways (N := N) hv h0
      obtain ⟨ps, h4⟩ := lx_one 47 (by simp) h1
      obtain ⟨p, h5⟩ := lx_dots h4
      refine ⟨⟨4, dotsT, p⟩ :: ⟨4, ⟨#[47]⟩, ps⟩ :: T, ?_, by simp [mkB, slashT, dotsT], fun T0 u => ?_⟩
      · have e : wayL (c + 1) l = [46, 46] ++ 47 :: wayL c l := by
          unfold wayL
          rw [List.replicate_succ, List.cons_append, Lib.join_cons]
          cases hx : List.replicate c [46, 46] ++ l.map stpL with
          | nil =>
            exfalso; apply h0
            rw [List.append_eq_nil_iff] at hx
            exact ⟨by simpa using hx.1, by simpa using hx.2⟩
          | cons y r => rw [Lib.join_cons]; simp [Lib.joinTail]
        rw [e]; exact h5
      · have h6 := h3 (T0 ++ [⟨4, dotsT, p⟩, ⟨4, ⟨#[47]⟩, ps⟩]) (u + 1)
        have e1 : T0 ++ [⟨4, dotsT, p⟩, ⟨4, ⟨#[47]⟩, ps⟩] ++ T = T0 ++ (⟨4, dotsT, p⟩ :: ⟨4, ⟨#[47]⟩, ps⟩ :: T) := by simp
        rw [e1, List.length_append, show u + 1 + c = u + (c + 1) by omega] at h6
        refine .upMore (by unfold upB; rw [List.drop_left]; simp [mkB, dotsT]) ?_ h6
        have e2 : T0 ++ (⟨4, dotsT, p⟩ :: ⟨4, ⟨#[47]⟩, ps⟩ :: T) = (T0 ++ [⟨4, dotsT, p⟩]) ++ (⟨4, ⟨#[47]⟩, ps⟩ :: T) := by simp
        rw [e2, show T0.length + 1 = (T0 ++ [(⟨4, dotsT, p⟩ : Tok)]).length by simp, List.drop_left]
        simp [mkB, slashT]
theorem nameB_true {s : ByteArray} (h : nameB s = true) : NameP s := @of_decide_eq_true _ (Classical.propDecidable _) h
theorem textB_true {s : ByteArray} (h : textB s = true) : TextP s := @of_decide_eq_true _ (Classical.propDecidable _) h
theorem pthOk_vd {p : Pth} (h : PthOk p) : ∀ s ∈ p.st, StpVd s := fun s hs => by
  obtain ⟨i, hi, rfl⟩ := List.getElem_of_mem hs
  obtain ⟨h1, h2, h3⟩ := h.2.2.2.2 i hi
  refine ⟨nameB_true h1, fun x hx => ?_⟩
  obtain ⟨k, hk, rfl⟩ := List.getElem_of_mem hx
  have := (h3 k hk hk).1
  unfold tstV at this
  rw [Bool.and_eq_true] at this
  exact ⟨nameB_true this.1, textB_true this.2⟩
theorem fmtP_bytes (p : Pth) : (fmtP p).data.toList = (if p.root = true then [47] else []) ++ wayL p.ups.toNat p.st := by
  have e : (joinW (partsL p.ups.toNat p.st)).data.toList = wayL p.ups.toNat p.st := by
    unfold joinW wayL partsL dots
    rw [List.map_append, List.map_replicate, List.map_map]
    have : (ByteArray.data · |>.toList) ∘ stpT = stpL := by funext s; exact stpT_bytes s
    simp only [Function.comp_def] at this
    simp [Function.comp_def, stpT_bytes]
  unfold fmtP
  split <;> simp [e]
/-- a valid path that is written is read -/
theorem back_path {p : Pth} (h : PthOk p) (N : Nat) : ∃ T, Lx N (fmtP p).data.toList T none ∧ Pthr T (some (p, T.length)) := by
  have hv := pthOk_vd h
  obtain ⟨root, u, st⟩ := p
  obtain ⟨⟨hu0, hu8⟩, hl, hru, hne, -⟩ := h
  dsimp only at hu0 hu8 hl hru hne hv
  rw [fmtP_bytes]
  dsimp only
  cases root with
  | true =>
    obtain rfl : u = 0 := by
      have : ¬ 0 < u := fun e => hru ⟨rfl, e⟩
      omega
    by_cases hs : st = []
    · subst hs
      obtain ⟨p, h1⟩ := lx_one (N := N) 47 (by simp) (R := []) (T := []) (.fin (skip_nil _))
      exact ⟨[(⟨4, ⟨#[47]⟩, p⟩ : Tok)], by simpa [wayL, Lib.join_nil] using h1, .root (by simp [mkB, slashT]) rfl⟩
    · obtain ⟨x, q, T, h1, h2⟩ := lx_steps (N := N) hs hv
      obtain ⟨p, h3⟩ := lx_one 47 (by simp) h1
      refine ⟨_, by simpa [wayL] using h3, .rootMore (by simp [mkB, slashT]) (by simp [kB]) ?_⟩
      have := h2 [⟨4, ⟨#[47]⟩, p⟩] true 0 []
      simpa using this
  | false =>
    obtain ⟨c, rfl⟩ : ∃ c : Nat, u = c := ⟨u.toNat, by omega⟩
    obtain ⟨T, h1, h2, h3⟩ := lx_ways (N := N) hv (c := c) (fun e => hne ⟨rfl, by rw [e.1]; rfl, by rw [e.2]; rfl⟩)
    refine ⟨T, by simpa using h1, .some h2 ?_⟩
    have := h3 [] 0
    simpa using this
/- how long it is -/
theorem tstV_size {x : Tst} (h : TstVd x) : (tstT x).size ≤ 101 := by
  have h1 := h.1.2.1
  have h2 := h.2.1
  have h3 := quote_size7 x.v
  unfold tstT
  simp only [ByteArray.size_append]
  show 1 + x.n.size + 1 + (quoteS x.v).size + 1 ≤ 101
  omega
theorem fmtP_size {p : Pth} (h : PthOk p) : (fmtP p).size ≤ 9000 := by
  have hv := pthOk_vd h
  have hx : ∀ x ∈ (partsL p.ups.toNat p.st).map (·.data.toList), x.length ≤ 400 := by
    intro x hx
    obtain ⟨y, hy, rfl⟩ := List.mem_map.1 hx
    unfold partsL at hy
    rcases List.mem_append.1 hy with hy | hy
    · rw [(List.mem_replicate.1 hy).2]; decide
    · obtain ⟨s, hs, rfl⟩ := List.mem_map.1 hy
      obtain ⟨i, hi, rfl⟩ := List.getElem_of_mem hs
      have h3 := (h.2.2.2.2 i hi).2.1
      have h4 := tsT_size (s := p.st[i].n) (l := p.st[i].ts) (M := 101) (fun x hx => tstV_size ((hv _ hs).2 x hx))
      have h5 := (hv _ hs).1.2.1
      show (stpT p.st[i]).data.toList.length ≤ 400
      have : (stpT p.st[i]).data.toList.length = (stpT p.st[i]).size := by simp
      rw [this]
      show (tsT p.st[i].n p.st[i].ts).size ≤ 400
      have : p.st[i].ts.length * 101 ≤ 3 * 101 := Nat.mul_le_mul_right _ h3
      omega
  have hj := join_lenW hx
  rw [List.length_map, partsL_len] at hj
  have h8 := h.1
  have h10 := h.2.1
  have : (p.ups.toNat + p.st.length) * (400 + 1) ≤ 18 * 401 := Nat.mul_le_mul_right _ (by omega)
  unfold fmtP
  rw [ByteArray.size_append]
  have e : (joinW (partsL p.ups.toNat p.st)).size = (Lib.join ((partsL p.ups.toNat p.st).map (·.data.toList)) [47]).length := by unfold joinW; simp [ByteArray.size]
  rw [e]
  have : (if p.root = true then (⟨#[47]⟩ : ByteArray) else ⟨#[]⟩).size ≤ 1 := by split <;> decide
  omega
end Go.Proofs.YtdfapkceanicoaaDoor
