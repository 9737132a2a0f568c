/- MERGED for a claim: TabS TyR TyS TyU TyW. -/
import Derived.Test.YtkifdbeklagelaaGreatDoorBase
import Derived.Lib.LaidU8
import Derived.Test.YtkifdbeklagelaaGreatDoorTyQ
import Derived.Test.YtkifdbeklagelaaGreatDoorParJ
import Derived.Test.YtkifdbeklagelaaGreatDoorLexC
import Derived.Test.YtkifdbeklagelaaGreatDoorParW
import Derived.Test.YtkifdbeklagelaaGreatDoorTyF
import Derived.Test.YtkifdbeklagelaaGreatDoorTyN
import Derived.Deep.RegionHeld3
import Derived.Deep.RegionLaw
set_option linter.unusedVariables false
set_option linter.unusedSimpArgs false
/- A TABLE OF TEXTS THAT IS A VARIABLE OF THE PACKAGE: what the row's condition tells of its cells. No function is spoken of. -/
namespace Go.Proofs.YtkifdbeklagelaaGreatDoor
open Go.RowKit

/-- the datum of a table of texts -/
def textsD {H : Type} (ss : List (List UInt8)) : DataW H := .agg (ss.map fun s => .lit (.string s))
theorem strTab {P : Program} {w : World} {n : String} {ss : List (List UInt8)} {g : Nat} {t e : TypeId} {m : Nat} (h : Go.Lib.VarReads P w n (textsD ss)) (hg : P.globalNamed n = some g) (ht : (P.globals[g]?).map (·.type) = some t)
    (hu : P.underlying t = some (.array m e)) (he : P.underlying e = some .string) (hc : P.cellsOf e = 1) (i : Nat) (s : List UInt8) (hi : i < m) (hs : ss[i]? = some s) : w.cell? ⟨g, i, none⟩ = some (.string ⟨s.toArray⟩) := by
  obtain ⟨g', t', cs, fuel, p, h1, h2, h3, h4⟩ := h
  obtain rfl := Option.some.inj (hg.symm.trans h1)
  obtain rfl := Option.some.inj (ht.symm.trans h2)
  obtain ⟨fuel', d, q, hd, hf⟩ := Go.Lib.array_elem hu h4 i hi
  rw [hc, Nat.mul_one] at hf
  obtain ⟨s', hcs, hx, _⟩ := DataW.trod_string he hf
  rw [List.getElem?_map, hs] at hd
  simp only [Option.map_some, Option.some.injEq] at hd
  have hx1 := congrArg Prod.fst hx
  rw [← hd] at hx1
  simp only [DataW.lit.injEq, Lit.string.injEq] at hx1
  have h5 : cs.toList[i]? = some (.string s') := by
    have := congrArg (·[0]?) hcs
    simpa [List.getElem?_take, List.getElem?_drop] using this
  have h6 := World.var?_cell hg h3 i
  rw [h6]
  rw [Array.getElem?_toList] at h5
  rw [h5, hx1]
end Go.Proofs.YtkifdbeklagelaaGreatDoor

/- CHAPTER 6: TYPES READ FROM TOKENS: plain mathematics; impl's readTypeWord, readFilledText, readNames. -/
namespace Go.Proofs.YtkifdbeklagelaaGreatDoor
open Go.RowKit NumP
set_option maxRecDepth 100000

def wordK (s : ByteArray) : Int := if s = ⟨#[105, 110, 116]⟩ then 1 else if s = ⟨#[116, 101, 120, 116]⟩ then 2 else if s = ⟨#[98, 111, 111, 108]⟩ then 3 else if s = ⟨#[101, 110, 117, 109]⟩ then 4 else if s = ⟨#[114, 101, 102]⟩ then 5 else if s = ⟨#[102, 108, 97, 103]⟩ then 6 else 0
/-- the kind whose word stands at the head; 0 for none -/
def headK : List Tok → Int
  | [] => 0
  | x :: _ => if x.k = 1 then wordK x.t else 0
/-- the names at the head -/
def namesT : List Tok → List ByteArray
  | [] => []
  | x :: r => if x.k = 1 then x.t :: namesT r else []
/-- what the quoted text at the head means, if it is not empty -/
def textT : List Tok → Option ByteArray
  | [] => none
  | x :: _ => if x.k = 3 ∧ x.t.size ≠ 0 then some x.t else none
def txS (o : Option ByteArray) : ByteArray := o.getD ⟨#[]⟩
def txN (o : Option ByteArray) : Nat := if o.isSome = true then 1 else 0
def rsL (res : Option (List Rg × Nat)) : List Rg := match res with | some (R, _) => R | none => []
def rsN (res : Option (List Rg × Nat)) : Nat := match res with | some (_, n) => n | none => 0
/-- the type at the head (its kind k, what stands behind the word: T; res: the ranges there), and how many tokens stand behind the word -/
def bodyT (k : Int) (T : List Tok) (res : Option (List Rg × Nat)) : Ty × Nat :=
  if k = 1 then (⟨1, rsL res, [], ⟨#[]⟩, ⟨#[]⟩⟩, rsN res)
  else if k = 2 then (⟨2, rsL res, [], txS (textT (T.drop (rsN res))), ⟨#[]⟩⟩, rsN res + txN (textT (T.drop (rsN res))))
  else if k = 4 then (⟨4, [], namesT T, ⟨#[]⟩, ⟨#[]⟩⟩, (namesT T).length)
  else if k = 5 then (⟨5, [], [], ⟨#[]⟩, txS (textT T)⟩, txN (textT T))
  else (⟨k, [], [], ⟨#[]⟩, ⟨#[]⟩⟩, 0)
def tyT (T : List Tok) (res : Option (List Rg × Nat)) : Ty × Nat :=
  if headK T = 0 then (⟨0, [], [], ⟨#[]⟩, ⟨#[]⟩⟩, 0) else ((bodyT (headK T) (T.drop 1) res).1, 1 + (bodyT (headK T) (T.drop 1) res).2)
/-- what ParseType says -/
noncomputable def parTy (e : Option Nat) (T : List Tok) (res : Option (List Rg × Nat)) : Option Ty :=
  match e with
  | none => if (tyT T res).2 = T.length ∧ isTyB (tyT T res).1 = true then some (tyT T res).1 else none
  | some _ => none
theorem namesT_len (T : List Tok) : (namesT T).length ≤ T.length := by
  induction T with
  | nil => exact Nat.le_refl _
  | cons x r ih => unfold namesT; split <;> simp <;> omega
theorem namesT_mem {T : List Tok} : ∀ s ∈ namesT T, ∃ x ∈ T, x.t = s := by
  induction T with
  | nil => intro s h; simp [namesT] at h
  | cons x r ih =>
    intro s h
    unfold namesT at h
    split at h
    · rcases List.mem_cons.1 h with rfl | h
      · exact ⟨x, by simp, rfl⟩
      · obtain ⟨y, h1, h2⟩ := ih s h
        exact ⟨y, List.mem_cons_of_mem _ h1, h2⟩
    · simp at h
theorem namesT_take {T : List Tok} {k : Nat} (h : ∀ j (hj : j < T.length), j < k → T[j].k = 1) (hk : k ≤ T.length) (hend : k = T.length ∨ ∃ (hk : k < T.length), ¬ T[k].k = 1) : namesT T = (T.take k).map (·.t) := by
  induction T generalizing k with
  | nil => simp [namesT]
  | cons x r ih =>
    cases k with
    | zero =>
      rcases hend with h0 | ⟨_, h0⟩
      · simp at h0
      · have h0 : ¬ x.k = 1 := h0
        unfold namesT; rw [if_neg h0]; rfl
    | succ k =>
      have h0 : x.k = 1 := h 0 (by simp) (by omega)
      unfold namesT
      rw [if_pos h0, List.take_succ_cons, List.map_cons]
      congr 1
      refine ih (fun j hj hjk => h (j + 1) (by simpa using hj) (by omega)) (by simpa using hk) ?_
      rcases hend with h1 | ⟨h1, h2⟩
      · exact .inl (by simpa using h1)
      · exact .inr ⟨by simpa using h1, h2⟩
theorem names_next {T : List Tok} {k : Nat} (hk : k < T.length) : (T.take (k + 1)).map (·.t) = (T.take k).map (·.t) ++ [T[k].t] := by
  rw [List.take_succ_eq_append_getElem hk, List.map_append]; rfl
theorem textT_none {x : Tok} {r : List Tok} (h : ¬ x.k = 3) : textT (x :: r) = none := if_neg fun e => h e.1
theorem textT_empty {x : Tok} {r : List Tok} (h : x.t.size = 0) : textT (x :: r) = none := if_neg fun e => e.2 h
theorem textT_some {x : Tok} {r : List Tok} (h : x.k = 3) (h' : x.t.size ≠ 0) : textT (x :: r) = some x.t := if_pos ⟨h, h'⟩
theorem tx_none {o : Option ByteArray} (h : o = none) : txS o = ⟨#[]⟩ ∧ txN o = 0 := by subst h; exact ⟨rfl, rfl⟩
theorem tx_some {o : Option ByteArray} {s : ByteArray} (h : o = some s) : txS o = s ∧ txN o = 1 := by subst h; exact ⟨rfl, rfl⟩
set_option maxHeartbeats 1000000 in
theorem iFil_any (A : Option Addr) (n cap : Nat) (l : List Tok) (w : World) (hv : HasT w (.slice A n cap) l) :
    Calls Tryz.prog 75 #[.slice A n cap] w fun e w' => e = .returned (.tuple #[.string (txS (textT l)), .int .i64 (txN (textT l))]) ∧ w = w' := by
  obtain ⟨hn, hn'⟩ := hv.size
  match l with
  | [] =>
    obtain rfl : n = 0 := by simpa using hn
    clear hv hn
    go_enter Tryz.func75, Tryz.ntmps75
    go_wp2
    go_ret2
    exact ⟨rfl, rfl⟩
  | x :: r =>
    obtain ⟨a, rfl, hn2, hb, c0, c1⟩ := hv.head
    have h0 : (0 : Int) < (n : Int) := by omega
    have hne : ((n : Int) == 0) = false := by simp; omega
    have hne2 : (n == 0) = false := by simp; omega
    have hnn : ¬ n = 0 := by omega
    clear hn hn2 hv
    by_cases hk : x.k = 3
    · have hk' : (x.k != 3) = false := by simpa using hk
      rcases em_cases x.t with he | ⟨e1, e2, e3, e4⟩
      · obtain ⟨q1, q2⟩ := tx_none (textT_empty (x := x) (r := r) (by rw [he]; rfl))
        rw [q1, q2]
        rw [he] at c1
        clear hk
        go_enter Tryz.func75, Tryz.ntmps75
        go_wp2
        go_ret2
        exact ⟨rfl, rfl⟩
      · obtain ⟨q1, q2⟩ := tx_some (textT_some (x := x) (r := r) hk (by intro h; unfold emB at e4; rw [h] at e4; cases e4))
        rw [q1, q2]
        clear hk
        go_enter Tryz.func75, Tryz.ntmps75
        go_wp2
        go_ret2
        exact ⟨rfl, rfl⟩
    · have hk' : (x.k != 3) = true := by simpa using hk
      obtain ⟨q1, q2⟩ := tx_none (textT_none (x := x) (r := r) hk)
      rw [q1, q2]
      clear hk
      go_enter Tryz.func75, Tryz.ntmps75
      go_wp2
      go_ret2
      exact ⟨rfl, rfl⟩
set_option maxHeartbeats 2000000 in
theorem iNms_any (A : Option Addr) (n cap : Nat) (l : List Tok) (w : World) (hv : HasT w (.slice A n cap) l) (hnb : n ≤ 1048576) :
    Calls Tryz.prog 76 #[.slice A n cap] w fun e w' => (∃ v', e = .returned (.tuple #[v', .int .i64 ((namesT l).length : Nat)]) ∧ Row w.heap.size w' v' (namesT l)) ∧ Below w.heap.size w w' := by
  obtain ⟨hn, hn'⟩ := hv.size
  have hc : ∀ i (h : i < l.length), ∃ a, A = some a ∧ a.block < w.heap.size ∧ ∀ j x, (Tok.enc l[i])[j]? = some x → w.cell? ((a.add (i * 3)).add j) = some x := by
    obtain ⟨A', cap', e0, _, hc⟩ := hv
    injection e0 with e1 e2 e3
    subst e1
    exact hc
  have HN := Lib.hid hn
  have HEND := Lib.hid (fun (k : Nat) => namesT_take (T := l) (k := k))
  clear hv hn
  go_enter Tryz.func76, Tryz.ntmps76
  go_wp2
  go_loopw [4, 10] (fun v i wr => ∃ (k g c : Nat), k ≤ n ∧ i = .int .i64 k ∧ v = .slice (some ⟨g, 0, none⟩) k c ∧ Row w.heap.size wr (.slice (some ⟨g, 0, none⟩) k c) ((l.take k).map (·.t)) ∧ Below w.heap.size w wr ∧ Hid (∀ j (hj : j < l.length), j < k → l[j].k = 1)) (fun _ i _ => n - (intOf i).toNat)
  case atStart => exact ⟨0, w.heap.size, 0, Nat.zero_le _, rfl, rfl, row_empty (heap_alloc_new w _) (Nat.le_refl _), below_al (Below.refl _ _) _, Lib.hid (fun j _ h => by omega)⟩
  case round =>
    obtain ⟨k, g, c, hk, rfl, rfl, hrow, hbel, HALL⟩ := hrel
    by_cases hlt : k < n
    · have hlk : k < l.length := by rw [← HN.out]; exact hlt
      obtain ⟨a, rfl, hab, hx⟩ := HasT.tk hc k hlk
      have HNX := Lib.hid (names_next hlk)
      obtain ⟨c0, c1, c2⟩ := hx.below hbel hab
      have HKK := Lib.hid (fun (h : l[k].k = 1) j (hj : j < l.length) (hjk : j < k + 1) => (show l[j].k = 1 by
        by_cases e : j = k
        · subst e; exact h
        · exact HALL.out j hj (by omega)))
      have HNO := Lib.hid (fun (h : ¬ l[k].k = 1) => HEND.out k HALL.out (Nat.le_of_lt hlk) (.inr ⟨hlk, h⟩))
      have hgB := (hrow.lt rfl).1
      generalize l[k] = x at *
      clear hx
      by_cases hk1 : x.k = 1
      · have hk' : (x.k != 1) = false := by simpa using hk1
        have HK2 := Lib.hid (HKK.out hk1)
        clear hk1
        have hrow1 := hrow.alloc (.cells #[.int .i64 x.k, .string x.t, .int .i64 x.p] 106)
        have hbel1 := below_al hbel (.cells #[.int .i64 x.k, .string x.t, .int .i64 x.p] 106)
        go_wp2_with (at_builtin; refine wpList_row_append rfl _ _ rfl w.heap.size g k c _ rfl hrow1 x.t (by show Value.slice (some ⟨wr.heap.size + 1, 0, none⟩) 1 1 = _; simp) (by omega) hbel1.size (k + 1) rfl ?_; intro g' c'' w2 hrow2 hg2)
        go_roundw
        case rel => exact ⟨k + 1, g', c'', by omega, by go_num, rfl, by rw [HNX.out]; exact hrow2, (below_al (below_al hbel _) _).grown hg2 (below_al (below_al hbel _) _).size (fun _ h => by cases h; exact hgB), HK2⟩
        case measure => simp [intOf]; omega
      · have hk' : (x.k != 1) = true := by simpa using hk1
        have HE := Lib.hid (HNO.out hk1)
        have HLEN := Lib.hid hrow.cap'
        clear hk1
        go_wp2
        go_ret2
        rw [HE.out, ← HLEN.out]
        exact ⟨⟨_, rfl, hrow.alloc _⟩, below_al hbel _⟩
    · obtain rfl : k = n := by omega
      have HE := Lib.hid (HEND.out k HALL.out (by rw [← HN.out]; exact Nat.le_refl _) (.inl HN.out))
      have HLEN := Lib.hid hrow.cap'
      clear hc
      go_wp2
      go_ret2
      rw [HE.out, ← HLEN.out]
      exact ⟨⟨_, rfl, hrow⟩, hbel⟩
theorem ix_any {k : Nat} {ws : List UInt8} (h : typeWs[k]? = some ws) (W : World) : (Instr.index 55 (.agg #[.string ⟨#[]⟩, .string ⟨#[105, 110, 116]⟩, .string ⟨#[116, 101, 120, 116]⟩, .string ⟨#[98, 111, 111, 108]⟩, .string ⟨#[101, 110, 117, 109]⟩, .string ⟨#[114, 101, 102]⟩, .string ⟨#[102, 108, 97, 103]⟩]) (.int .i64 k)).run Tryz.prog W = .ok (.string ⟨ws.toArray⟩) W := by
  match k, h with
  | 0, h => cases h; rfl
  | 1, h => cases h; rfl
  | 2, h => cases h; rfl
  | 3, h => cases h; rfl
  | 4, h => cases h; rfl
  | 5, h => cases h; rfl
  | 6, h => cases h; rfl
  | k + 7, h => simp [typeWs] at h
theorem word_at {k : Nat} {ws : List UInt8} (h : typeWs[k]? = some ws) : wordK ⟨ws.toArray⟩ = k := by
  match k, h with
  | 0, h => cases h; rfl
  | 1, h => cases h; rfl
  | 2, h => cases h; rfl
  | 3, h => cases h; rfl
  | 4, h => cases h; rfl
  | 5, h => cases h; rfl
  | 6, h => cases h; rfl
  | k + 7, h => simp [typeWs] at h
theorem str_eqb {s x : ByteArray} (h : s = x) : (s.toList == x.toList) = true := by rw [h]; simp
set_option maxHeartbeats 4000000 in
theorem iWord_any (A : Option Addr) (n cap : Nat) (l : List Tok) (w : World) (hv : HasT w (.slice A n cap) l)
    (hT : ∀ i s, i < 7 → typeWs[i]? = some s → w.cell? ⟨0, i, none⟩ = some (.string ⟨s.toArray⟩)) :
    Calls Tryz.prog 73 #[.slice A n cap] w fun e w' => e = .returned (.int .i64 (headK l)) ∧ w = w' := by
  obtain ⟨hn, hn'⟩ := hv.size
  match l with
  | [] =>
    obtain rfl : n = 0 := by simpa using hn
    clear hv hn hT
    go_enter Tryz.func73, Tryz.ntmps73
    go_wp2
    go_ret
    exact ⟨rfl, rfl⟩
  | x :: r =>
    obtain ⟨a, rfl, hn2, hb, c0, c1⟩ := hv.head
    have h0 : (0 : Int) < (n : Int) := by omega
    have hne : ((n : Int) == 0) = false := by simp; omega
    have hne2 : (n == 0) = false := by simp; omega
    have hnn : ¬ n = 0 := by omega
    clear hn hn2 hv
    have t0 := hT 0 _ (by omega) rfl
    have t1 := hT 1 _ (by omega) rfl
    have t2 := hT 2 _ (by omega) rfl
    have t3 := hT 3 _ (by omega) rfl
    have t4 := hT 4 _ (by omega) rfl
    have t5 := hT 5 _ (by omega) rfl
    have t6 := hT 6 _ (by omega) rfl
    clear hT
    by_cases hk : x.k = 1
    · have hk' : (x.k != 1) = false := by simpa using hk
      have HH : Hid (headK (x :: r) = wordK x.t) := Lib.hid (if_pos hk)
      rw [HH.out]
      clear hk HH
      go_enter Tryz.func73, Tryz.ntmps73
      go_wp2
      go_loopw [16] (fun i wr => ∃ (k : Nat), k ≤ 7 ∧ i = .int .i64 k ∧ wr = w ∧ Hid (∀ j ws, j < k → typeWs[j]? = some ws → x.t ≠ ⟨ws.toArray⟩)) (fun i _ => 7 - (intOf i).toNat)
      case atStart => exact ⟨0, by omega, rfl, rfl, Lib.hid (fun j ws h => by omega)⟩
      case round =>
        obtain ⟨k, hk7, rfl, rfl, HNO⟩ := hrel
        by_cases hlt : k < 7
        · obtain ⟨ws, hws⟩ : ∃ ws, typeWs[k]? = some ws := ⟨_, List.getElem?_eq_getElem hlt⟩
          have hix := fun W => ix_any hws W
          by_cases hx : x.t = ⟨ws.toArray⟩
          · have HW : Hid (wordK x.t = k) := Lib.hid (by rw [hx]; exact word_at hws)
            have he : (ws == x.t.toList) = true := by rw [hx, ByteArray.toList_eq]; simp
            clear hx hws
            go_wp2
            go_ret
            exact ⟨by rw [HW.out]; rfl, rfl⟩
          · have he : (ws == x.t.toList) = false := by
              simp only [beq_eq_false_iff_ne, ne_eq]
              intro e
              exact hx (by rw [e, ByteArray.toList_eq])
            have HN2 : Hid (∀ j ws, j < k + 1 → typeWs[j]? = some ws → x.t ≠ ⟨ws.toArray⟩) := Lib.hid (fun j ws' hj hw => by
              by_cases e : j = k
              · subst e; rw [hws] at hw; cases hw; exact hx
              · exact HNO.out j ws' (by omega) hw)
            clear hx hws
            go_wp2
            go_roundw
            case rel => exact ⟨k + 1, by omega, by go_num, by first | rfl | trivial, HN2⟩
            case measure => simp [intOf]; omega
        · obtain rfl : k = 7 := by omega
          have HW : Hid (wordK x.t = 0) := Lib.hid (by
            unfold wordK
            rw [if_neg (HNO.out 1 _ (by omega) rfl), if_neg (HNO.out 2 _ (by omega) rfl), if_neg (HNO.out 3 _ (by omega) rfl), if_neg (HNO.out 4 _ (by omega) rfl), if_neg (HNO.out 5 _ (by omega) rfl), if_neg (HNO.out 6 _ (by omega) rfl)])
          go_wp2
          go_ret
          exact ⟨by rw [HW.out]; rfl, rfl⟩
    · have hk' : (x.k != 1) = true := by simpa using hk
      rw [show headK (x :: r) = 0 from if_neg hk]
      clear hk
      go_enter Tryz.func73, Tryz.ntmps73
      go_wp2
      go_ret
      exact ⟨rfl, rfl⟩
end Go.Proofs.YtkifdbeklagelaaGreatDoor

/- CHAPTER 6: TYPES READ FROM TOKENS: impl's readType and ParseType. PRINTED by tools/gen_tyS.py. -/
namespace Go.Proofs.YtkifdbeklagelaaGreatDoor
open Go.RowKit NumP
set_option maxRecDepth 100000

theorem rsU_any (a : Addr) (n cap : Nat) (T : List Tok) (w : World) (hv : HasT w (.slice (some a) n cap) T) (hc : n ≤ cap) (hcm : cap ≤ 9223372036854775807) (hnb : n ≤ 1048576) (hs : ∀ x ∈ T, x.t.size ≤ 1048576) (res : Option (List Rg × Nat)) (hr : Run T 0 [] res) :
    Calls Tryz.prog 74 #[.slice (some a) n cap] w fun e w' => ∃ (A : Option Addr) (m c : Nat), e = .returned (.tuple #[.slice A m c, .int .i64 (rsN res : Nat)]) ∧ RowG w.heap.size w' (.slice A m c) (rsL res) ∧ Below w.heap.size w w' := by
  refine (iRs_some a n cap T w hv hc hcm hnb hs res hr).mono ?_
  rintro e w' ⟨h, hb⟩
  cases res with
  | none =>
    obtain ⟨v', rfl, h⟩ := h
    obtain ⟨A, c, hv, _⟩ := RowR.hasG h
    subst hv; exact ⟨A, _, c, rfl, h, hb⟩
  | some p =>
    obtain ⟨R, k⟩ := p
    obtain ⟨v', rfl, h⟩ := h
    obtain ⟨A, c, hv, _⟩ := RowR.hasG h
    subst hv; exact ⟨A, _, c, rfl, h, hb⟩
theorem rsN_le {T : List Tok} {res : Option (List Rg × Nat)} (hr : Run T 0 [] res) : rsN res ≤ T.length := by
  match res, hr with
  | none, _ => exact Nat.zero_le _
  | some (R, k), hr => exact (hr.bd (Nat.zero_le _) R k rfl).1
theorem nextT {T : List Tok} {q : Nat} (h : q ≤ T.length) : True := trivial
theorem tyT_0 {T : List Tok} {res : Option (List Rg × Nat)} (h : headK T = 0) : tyT T res = (⟨0, [], [], ⟨#[]⟩, ⟨#[]⟩⟩, 0) := by unfold tyT; rw [if_pos h]
theorem tyT_k {T : List Tok} {res : Option (List Rg × Nat)} {k : Int} (h : headK T = k) (h0 : k ≠ 0) : tyT T res = ((bodyT k (T.drop 1) res).1, 1 + (bodyT k (T.drop 1) res).2) := by unfold tyT; rw [if_neg (by rw [h]; exact h0), h]
theorem headK_range (T : List Tok) : headK T = 0 ∨ headK T = 1 ∨ headK T = 2 ∨ headK T = 3 ∨ headK T = 4 ∨ headK T = 5 ∨ headK T = 6 := by
  cases T with
  | nil => exact .inl rfl
  | cons x r =>
    unfold headK wordK
    repeat' split
    all_goals simp
theorem run_loadTy {W : World} {b : Nat} {k : Int} {vr vn : Value} {pt ph : ByteArray} (h : TyBox W b k vr vn pt ph) : (loadVar 30 ⟨b, 0, none⟩).run Tryz.prog W = .ok (.agg #[.int .i64 k, vr, vn, .string pt, .string ph]) W :=
  run_loadVar_row W b _ 30 _ (0, 0) _ h Tryz.underlying30 rfl (by kernel_rfl)
theorem TyBox.full {W : World} {b : Nat} {k k' : Int} {vr vn vr' vn' : Value} {pt ph pt' ph' : ByteArray} (h : TyBox W b k vr vn pt ph) : TyBox (((((W.setCell ⟨b, 0, none⟩ (.int .i64 k')).setCell ⟨b, 1, none⟩ vr').setCell ⟨b, 2, none⟩ vn').setCell ⟨b, 3, none⟩ (.string pt')).setCell ⟨b, 4, none⟩ (.string ph')) b k' vr' vn' pt' ph' := by
  have h0 := set5 h 0 (.int .i64 k')
  have h1 := set5 h0 1 vr'
  have h2 := set5 h1 2 vn'
  have h3 := set5 h2 3 (.string pt')
  exact set5 h3 4 (.string ph')
theorem results_ty {P : Program} {fn : Func} {p u : Tmp} {ty : TypeId} (h : fn.results = #[.cell p ty, .tmp u]) (tmps : Array Value) (w : World) (a : Addr) (v : Value) (hp : tmps.getD p undef = .pointer (some a)) (hl : (loadVar ty a).run P w = .ok v w) :
    (results fn tmps).run P w = .ok (.tuple #[v, tmps.getD u undef]) w := by
  have hp' : tmps[p]?.getD undef = .pointer (some a) := by simpa using hp
  simp only [results, h]
  simp [Sem.run_bind, Result.andThen, hp', asAddr, hl]
theorem ownTy_mk {B : Nat} {w : World} {k : Int} {vr vn : Value} {rg : List Rg} {nm : List ByteArray} {pt ph : ByteArray} (h1 : RowG B w vr rg) (h2 : Row B w vn nm) (hne : ∀ j, vr.ownBlock = some j → vn.ownBlock ≠ some j) : OwnTy B w ⟨k, vr, vn, pt, ph⟩ ⟨k, rg, nm, pt, ph⟩ := ⟨rfl, h1, h2, rfl, rfl, hne⟩
/-- what readType hands back -/
def RdV (B : Nat) (p : Ty × Nat) (e : Ending) (w' : World) : Prop := ∃ v : TyV, e = .returned (.tuple #[v.val, .int .i64 (p.2 : Nat)]) ∧ OwnTy B w' v p.1
set_option maxHeartbeats 8000000 in
theorem iRdTy_any (A : Option Addr) (n cap : Nat) (T : List Tok) (w : World) (hv : HasT w (.slice A n cap) T) (hc : n ≤ cap) (hcm : cap ≤ 9223372036854775807) (hnb : n ≤ 1048576) (hs : ∀ x ∈ T, x.t.size ≤ 1048576) (res : Option (List Rg × Nat)) (hr : Run (T.drop 1) 0 [] res)
    (hT : ∀ i s, i < 7 → typeWs[i]? = some s → w.cell? ⟨0, i, none⟩ = some (.string ⟨s.toArray⟩)) :
    Calls Tryz.prog 37 #[.slice A n cap] w fun e w' => RdV w.heap.size (tyT T res) e w' ∧ Below w.heap.size w w' := by
  have HB0 := Lib.hid (below_al (Below.refl w.heap.size w) (.cells #[.int .i64 0, .slice none 0 0, .slice none 0 0, .string ⟨#[]⟩, .string ⟨#[]⟩] 30))
  have HWD : Hid (∀ W, Below w.heap.size w W → Calls Tryz.prog 73 #[.slice A n cap] W fun e w' => e = .returned (.int .i64 (headK T)) ∧ Below W.heap.size W w') := Lib.hid (fun W (hb : Below w.heap.size w W) => (iWord_any A n cap T W (HasR.below hv hb) (fun i s hi hs => (hb.cell (lt_of_cell (hT i s hi hs))).trans (hT i s hi hs))).mono fun e w' h => ⟨h.1, by rw [← h.2]; exact Below.refl _ _⟩)
  have HX0 : Hid (∀ W, Below (w.alloc (.cells #[.int .i64 0, .slice none 0 0, .slice none 0 0, .string ⟨#[]⟩, .string ⟨#[]⟩] 30)).heap.size (w.alloc (.cells #[.int .i64 0, .slice none 0 0, .slice none 0 0, .string ⟨#[]⟩, .string ⟨#[]⟩] 30)) W → TyBox W w.heap.size 0 (.slice none 0 0) (.slice none 0 0) ⟨#[]⟩ ⟨#[]⟩) := Lib.hid fun W hb => (hb.block _ (by simp)).trans (heap_alloc_new w _)
  have HK0 := Lib.hid (fun (h : headK T = 0) => tyT_0 (res := res) h)
  have HKK := Lib.hid (fun (k : Int) (h : headK T = k) (h0 : k ≠ 0) => tyT_k (res := res) h h0)
  have HQ := Lib.hid (rsN_le hr)
  have hRG := headK_range T
  obtain ⟨hnT, hn'⟩ := hv.size
  have HNE : Hid (headK T ≠ 0 → ∃ a, A = some a ∧ 1 ≤ n) := Lib.hid fun h => by
    match T, hv, h, hnT with
    | [], _, h, _ => exact absurd rfl h
    | x :: r, hv, _, hnT => obtain ⟨a, h1, h2, _⟩ := hv.head; exact ⟨a, h1, by omega⟩
  obtain ⟨HK, hHK⟩ : ∃ k, k = headK T := ⟨_, rfl⟩
  have HHK := Lib.hid hHK
  rw [← hHK] at hRG HWD HK0 HKK HNE
  have HN := Lib.hid hnT
  have HV := Lib.hid (fun a (e : A = some a) k (hk : k ≤ n) (h1 : ¬ cap = k) W (hb : Below w.heap.size w W) => (show HasT W (.slice (some (a.add (k * 3))) (n - k) (cap - k)) (T.drop k) from HasT.cutN (by rw [← e]; exact HasR.below hv hb) hc hk h1))
  have HE := Lib.hid (fun a (e : A = some a) k (hk : k ≤ n) (h1 : cap = k) W (hb : Below w.heap.size w W) => (show HasT W (.slice (some a) (n - k) (cap - k)) (T.drop k) from HasT.cutE (by rw [← e]; exact HasR.below hv hb) hc hk h1))
  have HS : Hid (∀ k, ∀ x ∈ T.drop k, x.t.size ≤ 1048576) := Lib.hid fun k x hx => hs x (List.mem_of_mem_drop hx)
  have HR := Lib.hid hr
  obtain ⟨Z, hZ⟩ : ∃ Z, Z = tyT T res := ⟨_, rfl⟩
  rw [← hZ] at HK0 HKK ⊢
  clear hv hs hr hT hnT hHK hZ
  rcases hRG with rfl | hk
  · obtain rfl := HK0.out rfl
    clear HK0 HKK HNE
    go_enter Tryz.func37, Tryz.ntmps37
    go_wp2_with fail
    refine (HWD.out _ HB0.out).mono ?_
    rintro e w1 ⟨rfl, hb1⟩
    have HB1 := Lib.hid (below_step HB0.out hb1)
    have HX1 := Lib.hid (HX0.out w1 hb1)
    have hlt1 : w.heap.size < w1.heap.size := HX1.out.lt
    obtain ⟨⟨y0, y1, y2, y3, y4⟩, r0, r1, r2, r3, r4⟩ := five HX1.out
    clear hb1
    go_wp2
    have hfin := TyBox.below (TyBox.full (k' := 0) (vr' := .slice none 0 0) (vn' := .slice none 0 0) (pt' := ⟨#[]⟩) (ph' := ⟨#[]⟩) HX1.out) (below_al (Below.refl _ _) (.cells #[.int .i64 0, .slice none 0 0, .slice none 0 0, .string ⟨#[]⟩, .string ⟨#[]⟩] 30))
    refine bodyPost_ret (results_ty rfl _ _ ⟨w.heap.size, 0, none⟩ _ rfl (run_loadTy hfin)) rfl ?_
    exact ⟨⟨⟨0, .slice none 0 0, .slice none 0 0, ⟨#[]⟩, ⟨#[]⟩⟩, rfl, ownTy_mk (rowG_nil _ _) (row_nil _ _) (by simp [Value.ownBlock])⟩, below_al (below_set5 HB1.out (by omega)) _⟩
  · obtain ⟨a, rfl, hn1⟩ := HNE.out (by omega)
    have hn1i : (1 : Int) ≤ (n : Int) := by omega
    have hc1i : (1 : Int) ≤ (cap : Int) := by omega
    clear HK0 HNE
    by_cases hcp : cap = 1
    · obtain rfl : n = 1 := by omega
      subst hcp
      have HC1 : Hid (∀ W, Below w.heap.size w W → HasT W (.slice (some a) 0 0) (T.drop 1)) := Lib.hid fun W hb => HE.out a rfl 1 (by omega) rfl W hb
      have HQ0 : Hid (rsN res = 0) := Lib.hid (by have := HQ.out; rw [List.length_drop, ← HN.out] at this; omega)
      rcases hk with rfl | rfl | rfl | rfl | rfl | rfl
      · have HZZ := Lib.hid (HKK.out 1 rfl (by omega))
        clear HKK
        go_enter Tryz.func37, Tryz.ntmps37
        go_wp2_with fail
        refine (HWD.out _ HB0.out).mono ?_
        rintro e w1 ⟨rfl, hb1⟩
        have HB1 := Lib.hid (below_al (below_step HB0.out hb1) (.cells #[.int .i64 1, .slice none 0 0, .slice none 0 0, .string ⟨#[]⟩, .string ⟨#[]⟩] 30))
        have HX1 := Lib.hid (TyBox.below (HX0.out w1 hb1) (below_al (Below.refl _ _) (.cells #[.int .i64 1, .slice none 0 0, .slice none 0 0, .string ⟨#[]⟩, .string ⟨#[]⟩] 30)))
        have HY1 : Hid (TyBox (w1.alloc (.cells #[.int .i64 1, .slice none 0 0, .slice none 0 0, .string ⟨#[]⟩, .string ⟨#[]⟩] 30)) w1.heap.size 1 (.slice none 0 0) (.slice none 0 0) ⟨#[]⟩ ⟨#[]⟩) := Lib.hid (heap_alloc_new w1 _)
        have hlt1 : w.heap.size < w1.heap.size := (HX0.out w1 hb1).lt
        have HXR := Lib.hid (HX0.out w1 hb1)
        have HBW := Lib.hid (below_step HB0.out hb1)
        clear hb1
        have hszb : (w1.alloc (.cells #[.int .i64 1, .slice none 0 0, .slice none 0 0, .string ⟨#[]⟩, .string ⟨#[]⟩] 30)).heap.size = w1.heap.size + 1 := by simp
        go_wp2_with fail
        refine (rsU_any a 0 0 (T.drop 1) _ (HC1.out _ HB1.out) (by omega) (by omega) (by omega) (HS.out 1) res HR.out).mono ?_
        rintro e w2 ⟨A2, m2, c2, rfl, hrow, hb⟩
        have HB2 := Lib.hid (below_step HB1.out hb)
        have HX2 := Lib.hid (HX1.out.below hb)
        have HY2 := Lib.hid (HY1.out.below hb)
        have HG2 := Lib.hid (RowR.mono hrow (B' := w1.heap.size + 1) (by omega))
        have hlt2 : w1.heap.size < w2.heap.size := HY2.out.lt
        have hlt3 : w.heap.size < w2.heap.size := HX2.out.lt
        obtain ⟨q, hq⟩ : ∃ q, q = rsN res := ⟨_, rfl⟩
        have HQE := Lib.hid hq
        have hqn : q ≤ 0 := by rw [hq, HQ0.out]; exact Nat.le_refl _
        rw [← hq]
        clear hrow hb hq
        have HT1 : Hid (Z.1 = ⟨1, rsL res, [], ⟨#[]⟩, ⟨#[]⟩⟩) := Lib.hid (by rw [HZZ.out]; rfl)
        have HT2 : Hid ((Z.2 : Int) = 1 + (q : Int)) := Lib.hid (by rw [HZZ.out, HQE.out]; show ((1 + rsN res : Nat) : Int) = _; omega)
        obtain ⟨⟨y0, y1, y2, y3, y4⟩, r0, r1, r2, r3, r4⟩ := five HX2.out
        obtain ⟨⟨x0, x1, x2, x3, x4⟩, g0, g1, g2, g3, g4⟩ := five HY2.out
        go_wp2
        have hfin := TyBox.full (k' := 1) (vr' := .slice A2 m2 c2) (vn' := .slice none 0 0) (pt' := ⟨#[]⟩) (ph' := ⟨#[]⟩) (TyBox.set (c := w1.heap.size) (j := 1) (u := .slice A2 m2 c2) HX2.out (by omega))
        refine bodyPost_ret (results_ty rfl _ _ ⟨w.heap.size, 0, none⟩ _ rfl (run_loadTy hfin)) rfl ?_
        refine ⟨⟨⟨1, .slice A2 m2 c2, .slice none 0 0, ⟨#[]⟩, ⟨#[]⟩⟩, (by rw [HT2.out]; first | done | rfl), ?_⟩, below_set5 (below_set' HB2.out (by omega)) (by omega)⟩
        rw [HT1.out]
        exact (OwnTy.set5 (OwnTy.setLow (ownTy_mk HG2.out (row_nil _ _) (by simp [Value.ownBlock])) (by omega)) (by omega)).mono (by omega)
      · have HZZ := Lib.hid (HKK.out 2 rfl (by omega))
        clear HKK
        go_enter Tryz.func37, Tryz.ntmps37
        go_wp2_with fail
        refine (HWD.out _ HB0.out).mono ?_
        rintro e w1 ⟨rfl, hb1⟩
        have HB1 := Lib.hid (below_al (below_step HB0.out hb1) (.cells #[.int .i64 2, .slice none 0 0, .slice none 0 0, .string ⟨#[]⟩, .string ⟨#[]⟩] 30))
        have HX1 := Lib.hid (TyBox.below (HX0.out w1 hb1) (below_al (Below.refl _ _) (.cells #[.int .i64 2, .slice none 0 0, .slice none 0 0, .string ⟨#[]⟩, .string ⟨#[]⟩] 30)))
        have HY1 : Hid (TyBox (w1.alloc (.cells #[.int .i64 2, .slice none 0 0, .slice none 0 0, .string ⟨#[]⟩, .string ⟨#[]⟩] 30)) w1.heap.size 2 (.slice none 0 0) (.slice none 0 0) ⟨#[]⟩ ⟨#[]⟩) := Lib.hid (heap_alloc_new w1 _)
        have hlt1 : w.heap.size < w1.heap.size := (HX0.out w1 hb1).lt
        have HXR := Lib.hid (HX0.out w1 hb1)
        have HBW := Lib.hid (below_step HB0.out hb1)
        clear hb1
        have hszb : (w1.alloc (.cells #[.int .i64 2, .slice none 0 0, .slice none 0 0, .string ⟨#[]⟩, .string ⟨#[]⟩] 30)).heap.size = w1.heap.size + 1 := by simp
        go_wp2_with fail
        refine (rsU_any a 0 0 (T.drop 1) _ (HC1.out _ HB1.out) (by omega) (by omega) (by omega) (HS.out 1) res HR.out).mono ?_
        rintro e w2 ⟨A2, m2, c2, rfl, hrow, hb⟩
        have HB2 := Lib.hid (below_step HB1.out hb)
        have HX2 := Lib.hid (HX1.out.below hb)
        have HY2 := Lib.hid (HY1.out.below hb)
        have HG2 := Lib.hid (RowR.mono hrow (B' := w1.heap.size + 1) (by omega))
        have hlt2 : w1.heap.size < w2.heap.size := HY2.out.lt
        have hlt3 : w.heap.size < w2.heap.size := HX2.out.lt
        obtain ⟨q, hq⟩ : ∃ q, q = rsN res := ⟨_, rfl⟩
        have HQE := Lib.hid hq
        have hqn : q ≤ 0 := by rw [hq, HQ0.out]; exact Nat.le_refl _
        rw [← hq]
        clear hrow hb hq
        obtain ⟨sx, hsx⟩ : ∃ s, s = txS (textT ((T.drop 1).drop q)) := ⟨_, rfl⟩
        obtain ⟨mx, hmx⟩ : ∃ m, m = txN (textT ((T.drop 1).drop q)) := ⟨_, rfl⟩
        have hmx1 : mx ≤ 1 := by rw [hmx]; unfold txN; split <;> omega
        have HT1 : Hid (Z.1 = ⟨2, rsL res, [], sx, ⟨#[]⟩⟩) := Lib.hid (by rw [HZZ.out, hsx, HQE.out]; rfl)
        have HT2 : Hid ((Z.2 : Int) = 1 + (q : Int) + (mx : Int)) := Lib.hid (by rw [HZZ.out, hmx, HQE.out]; show ((1 + (rsN res + txN (textT ((T.drop 1).drop (rsN res)))) : Nat) : Int) = _; omega)
        have HSX := Lib.hid (And.intro hsx hmx)
        clear hsx hmx
        have HC2 := Lib.hid (HC1.out)
        have HC3 : Hid (∀ W, Below w.heap.size w W → HasT W (.slice (some a) (0 - q) (0 - q)) ((T.drop 1).drop q)) := Lib.hid fun W hb => by
          have h := HasT.cutE (HC1.out W hb) (k := q) (by omega) (by omega) (by omega)
          exact h
        have HFL : Hid (∀ W, Below w.heap.size w W → Calls Tryz.prog 75 #[.slice (some a) (0 - q) (0 - q)] W fun e w' => e = .returned (.tuple #[.string sx, .int .i64 mx]) ∧ Below W.heap.size W w') := Lib.hid fun W hb => (iFil_any _ _ _ _ W (HC3.out W hb)).mono fun e w' h => ⟨by rw [h.1, HSX.out.1, HSX.out.2], by rw [← h.2]; exact Below.refl _ _⟩
        obtain ⟨⟨y0, y1, y2, y3, y4⟩, r0, r1, r2, r3, r4⟩ := five HX2.out
        obtain ⟨⟨x0, x1, x2, x3, x4⟩, g0, g1, g2, g3, g4⟩ := five HY2.out
        obtain rfl : q = 0 := by omega
        go_wp2_with fail
        refine (HFL.out _ (below_set' HB2.out (by omega))).mono ?_
        rintro e w3 ⟨rfl, hb⟩
        have HB3 := Lib.hid (below_step (below_set' HB2.out (b := w1.heap.size) (j := 1) (u := .slice A2 m2 c2) (by omega)) hb)
        have HX3 := Lib.hid (TyBox.below (TyBox.set (c := w1.heap.size) (j := 1) (u := .slice A2 m2 c2) HX2.out (by omega)) hb)
        have HY3 : Hid (TyBox w3 w1.heap.size 2 (.slice A2 m2 c2) (.slice none 0 0) ⟨#[]⟩ ⟨#[]⟩) := Lib.hid (TyBox.below (set5 HY2.out 1 (.slice A2 m2 c2)) hb)
        have HG3 := Lib.hid (OwnTy.below (OwnTy.setLow (b := w1.heap.size) (j := 1) (u := .slice A2 m2 c2) (ownTy_mk (k := 2) (pt := sx) (ph := ⟨#[]⟩) HG2.out (row_nil _ _) (by simp [Value.ownBlock])) (by omega)) hb)
        have hlt4 : w1.heap.size < w3.heap.size := HY3.out.lt
        have hlt5 : w.heap.size < w3.heap.size := HX3.out.lt
        clear hb x0 x1 x2 x3 x4 g0 g1 g2 g3 g4 y0 y1 y2 y3 y4 r0 r1 r2 r3 r4
        obtain ⟨⟨y0, y1, y2, y3, y4⟩, r0, r1, r2, r3, r4⟩ := five HX3.out
        obtain ⟨⟨x0, x1, x2, x3, x4⟩, g0, g1, g2, g3, g4⟩ := five HY3.out
        go_wp2
        have hfin := TyBox.full (k' := 2) (vr' := .slice A2 m2 c2) (vn' := .slice none 0 0) (pt' := sx) (ph' := ⟨#[]⟩) (TyBox.set (c := w1.heap.size) (j := 3) (u := .string sx) HX3.out (by omega))
        refine bodyPost_ret (results_ty rfl _ _ ⟨w.heap.size, 0, none⟩ _ rfl (run_loadTy hfin)) rfl ?_
        refine ⟨⟨⟨2, .slice A2 m2 c2, .slice none 0 0, sx, ⟨#[]⟩⟩, (by rw [HT2.out]; first | done | rfl), ?_⟩, below_set5 (below_set' HB3.out (by omega)) (by omega)⟩
        rw [HT1.out]
        exact (OwnTy.set5 (OwnTy.setLow HG3.out (by omega)) (by omega)).mono (by omega)
      · have HZZ := Lib.hid (HKK.out 3 rfl (by omega))
        clear HKK
        go_enter Tryz.func37, Tryz.ntmps37
        go_wp2_with fail
        refine (HWD.out _ HB0.out).mono ?_
        rintro e w1 ⟨rfl, hb1⟩
        have HB1 := Lib.hid (below_al (below_step HB0.out hb1) (.cells #[.int .i64 3, .slice none 0 0, .slice none 0 0, .string ⟨#[]⟩, .string ⟨#[]⟩] 30))
        have HX1 := Lib.hid (TyBox.below (HX0.out w1 hb1) (below_al (Below.refl _ _) (.cells #[.int .i64 3, .slice none 0 0, .slice none 0 0, .string ⟨#[]⟩, .string ⟨#[]⟩] 30)))
        have HY1 : Hid (TyBox (w1.alloc (.cells #[.int .i64 3, .slice none 0 0, .slice none 0 0, .string ⟨#[]⟩, .string ⟨#[]⟩] 30)) w1.heap.size 3 (.slice none 0 0) (.slice none 0 0) ⟨#[]⟩ ⟨#[]⟩) := Lib.hid (heap_alloc_new w1 _)
        have hlt1 : w.heap.size < w1.heap.size := (HX0.out w1 hb1).lt
        have HXR := Lib.hid (HX0.out w1 hb1)
        have HBW := Lib.hid (below_step HB0.out hb1)
        clear hb1
        have hszb : (w1.alloc (.cells #[.int .i64 3, .slice none 0 0, .slice none 0 0, .string ⟨#[]⟩, .string ⟨#[]⟩] 30)).heap.size = w1.heap.size + 1 := by simp
        have HT1 : Hid (Z.1 = ⟨3, [], [], ⟨#[]⟩, ⟨#[]⟩⟩ ∧ Z.2 = 1) := Lib.hid (by rw [HZZ.out]; exact ⟨rfl, rfl⟩)
        have HT2 := Lib.hid HT1.out.2
        have HT1 := Lib.hid HT1.out.1
        have HX0w := Lib.hid HXR.out
        obtain ⟨⟨y0, y1, y2, y3, y4⟩, r0, r1, r2, r3, r4⟩ := five HX0w.out
        go_wp2
        have hfin := TyBox.below (TyBox.full (k' := 3) (vr' := .slice none 0 0) (vn' := .slice none 0 0) (pt' := ⟨#[]⟩) (ph' := ⟨#[]⟩) HX0w.out) (below_al (Below.refl _ _) (.cells #[.int .i64 3, .slice none 0 0, .slice none 0 0, .string ⟨#[]⟩, .string ⟨#[]⟩] 30))
        refine bodyPost_ret (results_ty rfl _ _ ⟨w.heap.size, 0, none⟩ _ rfl (run_loadTy hfin)) rfl ?_
        refine ⟨⟨⟨3, .slice none 0 0, .slice none 0 0, ⟨#[]⟩, ⟨#[]⟩⟩, (by rw [HT2.out]; first | done | rfl), ?_⟩, below_al (below_set5 HBW.out (by omega)) _⟩
        rw [HT1.out]
        exact ownTy_mk (rowG_nil _ _) (row_nil _ _) (by simp [Value.ownBlock])
      · have HZZ := Lib.hid (HKK.out 4 rfl (by omega))
        clear HKK
        go_enter Tryz.func37, Tryz.ntmps37
        go_wp2_with fail
        refine (HWD.out _ HB0.out).mono ?_
        rintro e w1 ⟨rfl, hb1⟩
        have HB1 := Lib.hid (below_al (below_step HB0.out hb1) (.cells #[.int .i64 4, .slice none 0 0, .slice none 0 0, .string ⟨#[]⟩, .string ⟨#[]⟩] 30))
        have HX1 := Lib.hid (TyBox.below (HX0.out w1 hb1) (below_al (Below.refl _ _) (.cells #[.int .i64 4, .slice none 0 0, .slice none 0 0, .string ⟨#[]⟩, .string ⟨#[]⟩] 30)))
        have HY1 : Hid (TyBox (w1.alloc (.cells #[.int .i64 4, .slice none 0 0, .slice none 0 0, .string ⟨#[]⟩, .string ⟨#[]⟩] 30)) w1.heap.size 4 (.slice none 0 0) (.slice none 0 0) ⟨#[]⟩ ⟨#[]⟩) := Lib.hid (heap_alloc_new w1 _)
        have hlt1 : w.heap.size < w1.heap.size := (HX0.out w1 hb1).lt
        have HXR := Lib.hid (HX0.out w1 hb1)
        have HBW := Lib.hid (below_step HB0.out hb1)
        clear hb1
        have hszb : (w1.alloc (.cells #[.int .i64 4, .slice none 0 0, .slice none 0 0, .string ⟨#[]⟩, .string ⟨#[]⟩] 30)).heap.size = w1.heap.size + 1 := by simp
        go_wp2_with fail
        refine (iNms_any (some a) 0 0 (T.drop 1) _ (HC1.out _ HB1.out) (by omega)).mono ?_
        rintro e w2 ⟨⟨v2, rfl, hrow⟩, hb⟩
        obtain ⟨A2, m2, c2, rfl⟩ : ∃ A n c, v2 = .slice A n c := by obtain ⟨A, c, hv, _⟩ := hrow.has; exact ⟨A, _, c, hv⟩
        have HG2 := Lib.hid (Row.mono hrow (B' := w1.heap.size + 1) (by omega))
        have HB2 := Lib.hid (below_step HB1.out hb)
        have HX2 := Lib.hid (HX1.out.below hb)
        have HY2 := Lib.hid (HY1.out.below hb)
        have hlt2 : w1.heap.size < w2.heap.size := HY2.out.lt
        have hlt3 : w.heap.size < w2.heap.size := HX2.out.lt
        obtain ⟨q, hq⟩ : ∃ q, q = (namesT (T.drop 1)).length := ⟨_, rfl⟩
        have hqn : q ≤ 1048576 := by have := namesT_len (T.drop 1); rw [List.length_drop, ← HN.out] at this; omega
        have HT1 : Hid (Z.1 = ⟨4, [], namesT (T.drop 1), ⟨#[]⟩, ⟨#[]⟩⟩) := Lib.hid (by rw [HZZ.out]; rfl)
        have HT2 : Hid ((Z.2 : Int) = 1 + (q : Int)) := Lib.hid (by rw [HZZ.out, hq]; show ((1 + (namesT (T.drop 1)).length : Nat) : Int) = _; omega)
        rw [← hq]
        clear hrow hb hq
        obtain ⟨⟨y0, y1, y2, y3, y4⟩, r0, r1, r2, r3, r4⟩ := five HX2.out
        obtain ⟨⟨x0, x1, x2, x3, x4⟩, g0, g1, g2, g3, g4⟩ := five HY2.out
        go_wp2
        have hfin := TyBox.full (k' := 4) (vr' := .slice none 0 0) (vn' := .slice A2 m2 c2) (pt' := ⟨#[]⟩) (ph' := ⟨#[]⟩) (TyBox.set (c := w1.heap.size) (j := 2) (u := .slice A2 m2 c2) HX2.out (by omega))
        refine bodyPost_ret (results_ty rfl _ _ ⟨w.heap.size, 0, none⟩ _ rfl (run_loadTy hfin)) rfl ?_
        refine ⟨⟨⟨4, .slice none 0 0, .slice A2 m2 c2, ⟨#[]⟩, ⟨#[]⟩⟩, (by rw [HT2.out]; first | done | rfl), ?_⟩, below_set5 (below_set' HB2.out (by omega)) (by omega)⟩
        rw [HT1.out]
        exact (OwnTy.set5 (OwnTy.setLow (ownTy_mk (rowG_nil _ _) HG2.out (by simp [Value.ownBlock])) (by omega)) (by omega)).mono (by omega)
      · have HZZ := Lib.hid (HKK.out 5 rfl (by omega))
        clear HKK
        go_enter Tryz.func37, Tryz.ntmps37
        go_wp2_with fail
        refine (HWD.out _ HB0.out).mono ?_
        rintro e w1 ⟨rfl, hb1⟩
        have HB1 := Lib.hid (below_al (below_step HB0.out hb1) (.cells #[.int .i64 5, .slice none 0 0, .slice none 0 0, .string ⟨#[]⟩, .string ⟨#[]⟩] 30))
        have HX1 := Lib.hid (TyBox.below (HX0.out w1 hb1) (below_al (Below.refl _ _) (.cells #[.int .i64 5, .slice none 0 0, .slice none 0 0, .string ⟨#[]⟩, .string ⟨#[]⟩] 30)))
        have HY1 : Hid (TyBox (w1.alloc (.cells #[.int .i64 5, .slice none 0 0, .slice none 0 0, .string ⟨#[]⟩, .string ⟨#[]⟩] 30)) w1.heap.size 5 (.slice none 0 0) (.slice none 0 0) ⟨#[]⟩ ⟨#[]⟩) := Lib.hid (heap_alloc_new w1 _)
        have hlt1 : w.heap.size < w1.heap.size := (HX0.out w1 hb1).lt
        have HXR := Lib.hid (HX0.out w1 hb1)
        have HBW := Lib.hid (below_step HB0.out hb1)
        clear hb1
        have hszb : (w1.alloc (.cells #[.int .i64 5, .slice none 0 0, .slice none 0 0, .string ⟨#[]⟩, .string ⟨#[]⟩] 30)).heap.size = w1.heap.size + 1 := by simp
        obtain ⟨sx, hsx⟩ : ∃ s, s = txS (textT (T.drop 1)) := ⟨_, rfl⟩
        obtain ⟨mx, hmx⟩ : ∃ m, m = txN (textT (T.drop 1)) := ⟨_, rfl⟩
        have hmx1 : mx ≤ 1 := by rw [hmx]; unfold txN; split <;> omega
        have HFL : Hid (∀ W, Below w.heap.size w W → Calls Tryz.prog 75 #[.slice (some a) 0 0] W fun e w' => e = .returned (.tuple #[.string sx, .int .i64 mx]) ∧ Below W.heap.size W w') := Lib.hid fun W hb => (iFil_any _ _ _ _ W (HC1.out W hb)).mono fun e w' h => ⟨by rw [h.1, hsx, hmx], by rw [← h.2]; exact Below.refl _ _⟩
        have HT1 : Hid (Z.1 = ⟨5, [], [], ⟨#[]⟩, sx⟩) := Lib.hid (by rw [HZZ.out, hsx]; rfl)
        have HT2 : Hid ((Z.2 : Int) = 1 + (mx : Int)) := Lib.hid (by rw [HZZ.out, hmx]; show ((1 + txN (textT (T.drop 1)) : Nat) : Int) = _; omega)
        clear hsx hmx
        go_wp2_with fail
        refine (HFL.out _ HB1.out).mono ?_
        rintro e w2 ⟨rfl, hb⟩
        have HB2 := Lib.hid (below_step HB1.out hb)
        have HX2 := Lib.hid (HX1.out.below hb)
        have HY2 := Lib.hid (HY1.out.below hb)
        have hlt2 : w1.heap.size < w2.heap.size := HY2.out.lt
        have hlt3 : w.heap.size < w2.heap.size := HX2.out.lt
        clear hb
        obtain ⟨⟨y0, y1, y2, y3, y4⟩, r0, r1, r2, r3, r4⟩ := five HX2.out
        obtain ⟨⟨x0, x1, x2, x3, x4⟩, g0, g1, g2, g3, g4⟩ := five HY2.out
        go_wp2
        have hfin := TyBox.full (k' := 5) (vr' := .slice none 0 0) (vn' := .slice none 0 0) (pt' := ⟨#[]⟩) (ph' := sx) (TyBox.set (c := w1.heap.size) (j := 4) (u := .string sx) HX2.out (by omega))
        refine bodyPost_ret (results_ty rfl _ _ ⟨w.heap.size, 0, none⟩ _ rfl (run_loadTy hfin)) rfl ?_
        refine ⟨⟨⟨5, .slice none 0 0, .slice none 0 0, ⟨#[]⟩, sx⟩, (by rw [HT2.out]; first | done | rfl), ?_⟩, below_set5 (below_set' HB2.out (by omega)) (by omega)⟩
        rw [HT1.out]
        exact (OwnTy.set5 (OwnTy.setLow (ownTy_mk (B := w1.heap.size + 1) (rowG_nil _ _) (row_nil _ _) (by simp [Value.ownBlock])) (by omega)) (by omega)).mono (by omega)
      · have HZZ := Lib.hid (HKK.out 6 rfl (by omega))
        clear HKK
        go_enter Tryz.func37, Tryz.ntmps37
        go_wp2_with fail
        refine (HWD.out _ HB0.out).mono ?_
        rintro e w1 ⟨rfl, hb1⟩
        have HB1 := Lib.hid (below_al (below_step HB0.out hb1) (.cells #[.int .i64 6, .slice none 0 0, .slice none 0 0, .string ⟨#[]⟩, .string ⟨#[]⟩] 30))
        have HX1 := Lib.hid (TyBox.below (HX0.out w1 hb1) (below_al (Below.refl _ _) (.cells #[.int .i64 6, .slice none 0 0, .slice none 0 0, .string ⟨#[]⟩, .string ⟨#[]⟩] 30)))
        have HY1 : Hid (TyBox (w1.alloc (.cells #[.int .i64 6, .slice none 0 0, .slice none 0 0, .string ⟨#[]⟩, .string ⟨#[]⟩] 30)) w1.heap.size 6 (.slice none 0 0) (.slice none 0 0) ⟨#[]⟩ ⟨#[]⟩) := Lib.hid (heap_alloc_new w1 _)
        have hlt1 : w.heap.size < w1.heap.size := (HX0.out w1 hb1).lt
        have HXR := Lib.hid (HX0.out w1 hb1)
        have HBW := Lib.hid (below_step HB0.out hb1)
        clear hb1
        have hszb : (w1.alloc (.cells #[.int .i64 6, .slice none 0 0, .slice none 0 0, .string ⟨#[]⟩, .string ⟨#[]⟩] 30)).heap.size = w1.heap.size + 1 := by simp
        have HT1 : Hid (Z.1 = ⟨6, [], [], ⟨#[]⟩, ⟨#[]⟩⟩ ∧ Z.2 = 1) := Lib.hid (by rw [HZZ.out]; exact ⟨rfl, rfl⟩)
        have HT2 := Lib.hid HT1.out.2
        have HT1 := Lib.hid HT1.out.1
        have HX0w := Lib.hid HXR.out
        obtain ⟨⟨y0, y1, y2, y3, y4⟩, r0, r1, r2, r3, r4⟩ := five HX0w.out
        go_wp2
        have hfin := TyBox.below (TyBox.full (k' := 6) (vr' := .slice none 0 0) (vn' := .slice none 0 0) (pt' := ⟨#[]⟩) (ph' := ⟨#[]⟩) HX0w.out) (below_al (Below.refl _ _) (.cells #[.int .i64 6, .slice none 0 0, .slice none 0 0, .string ⟨#[]⟩, .string ⟨#[]⟩] 30))
        refine bodyPost_ret (results_ty rfl _ _ ⟨w.heap.size, 0, none⟩ _ rfl (run_loadTy hfin)) rfl ?_
        refine ⟨⟨⟨6, .slice none 0 0, .slice none 0 0, ⟨#[]⟩, ⟨#[]⟩⟩, (by rw [HT2.out]; first | done | rfl), ?_⟩, below_al (below_set5 HBW.out (by omega)) _⟩
        rw [HT1.out]
        exact ownTy_mk (rowG_nil _ _) (row_nil _ _) (by simp [Value.ownBlock])
    · have HC1 : Hid (∀ W, Below w.heap.size w W → HasT W (.slice (some (a.add (1 * 3))) (n - 1) (cap - 1)) (T.drop 1)) := Lib.hid fun W hb => HV.out a rfl 1 hn1 hcp W hb
      obtain ⟨n, rfl⟩ : ∃ m, n = m + 1 := ⟨n - 1, by omega⟩
      obtain ⟨cap, rfl⟩ : ∃ m, cap = m + 1 := ⟨cap - 1, by omega⟩
      have HC1 : Hid (∀ W, Below w.heap.size w W → HasT W (.slice (some ⟨a.block, a.off + 3, none⟩) n cap) (T.drop 1)) := HC1
      have hcp' : ¬ cap = 0 := by omega
      clear HV HE
      rcases hk with rfl | rfl | rfl | rfl | rfl | rfl
      · have HZZ := Lib.hid (HKK.out 1 rfl (by omega))
        clear HKK
        go_enter Tryz.func37, Tryz.ntmps37
        go_wp2_with fail
        refine (HWD.out _ HB0.out).mono ?_
        rintro e w1 ⟨rfl, hb1⟩
        have HB1 := Lib.hid (below_al (below_step HB0.out hb1) (.cells #[.int .i64 1, .slice none 0 0, .slice none 0 0, .string ⟨#[]⟩, .string ⟨#[]⟩] 30))
        have HX1 := Lib.hid (TyBox.below (HX0.out w1 hb1) (below_al (Below.refl _ _) (.cells #[.int .i64 1, .slice none 0 0, .slice none 0 0, .string ⟨#[]⟩, .string ⟨#[]⟩] 30)))
        have HY1 : Hid (TyBox (w1.alloc (.cells #[.int .i64 1, .slice none 0 0, .slice none 0 0, .string ⟨#[]⟩, .string ⟨#[]⟩] 30)) w1.heap.size 1 (.slice none 0 0) (.slice none 0 0) ⟨#[]⟩ ⟨#[]⟩) := Lib.hid (heap_alloc_new w1 _)
        have hlt1 : w.heap.size < w1.heap.size := (HX0.out w1 hb1).lt
        have HXR := Lib.hid (HX0.out w1 hb1)
        have HBW := Lib.hid (below_step HB0.out hb1)
        clear hb1
        have hszb : (w1.alloc (.cells #[.int .i64 1, .slice none 0 0, .slice none 0 0, .string ⟨#[]⟩, .string ⟨#[]⟩] 30)).heap.size = w1.heap.size + 1 := by simp
        go_wp2_with fail
        refine (rsU_any ⟨a.block, a.off + 3, none⟩ n cap (T.drop 1) _ (HC1.out _ HB1.out) (by omega) (by omega) (by omega) (HS.out 1) res HR.out).mono ?_
        rintro e w2 ⟨A2, m2, c2, rfl, hrow, hb⟩
        have HB2 := Lib.hid (below_step HB1.out hb)
        have HX2 := Lib.hid (HX1.out.below hb)
        have HY2 := Lib.hid (HY1.out.below hb)
        have HG2 := Lib.hid (RowR.mono hrow (B' := w1.heap.size + 1) (by omega))
        have hlt2 : w1.heap.size < w2.heap.size := HY2.out.lt
        have hlt3 : w.heap.size < w2.heap.size := HX2.out.lt
        obtain ⟨q, hq⟩ : ∃ q, q = rsN res := ⟨_, rfl⟩
        have HQE := Lib.hid hq
        have hqn : q ≤ n := by have := HQ.out; rw [List.length_drop, ← HN.out] at this; omega
        rw [← hq]
        clear hrow hb hq
        have HT1 : Hid (Z.1 = ⟨1, rsL res, [], ⟨#[]⟩, ⟨#[]⟩⟩) := Lib.hid (by rw [HZZ.out]; rfl)
        have HT2 : Hid ((Z.2 : Int) = 1 + (q : Int)) := Lib.hid (by rw [HZZ.out, HQE.out]; show ((1 + rsN res : Nat) : Int) = _; omega)
        obtain ⟨⟨y0, y1, y2, y3, y4⟩, r0, r1, r2, r3, r4⟩ := five HX2.out
        obtain ⟨⟨x0, x1, x2, x3, x4⟩, g0, g1, g2, g3, g4⟩ := five HY2.out
        go_wp2
        have hfin := TyBox.full (k' := 1) (vr' := .slice A2 m2 c2) (vn' := .slice none 0 0) (pt' := ⟨#[]⟩) (ph' := ⟨#[]⟩) (TyBox.set (c := w1.heap.size) (j := 1) (u := .slice A2 m2 c2) HX2.out (by omega))
        refine bodyPost_ret (results_ty rfl _ _ ⟨w.heap.size, 0, none⟩ _ rfl (run_loadTy hfin)) rfl ?_
        refine ⟨⟨⟨1, .slice A2 m2 c2, .slice none 0 0, ⟨#[]⟩, ⟨#[]⟩⟩, (by rw [HT2.out]; first | done | rfl), ?_⟩, below_set5 (below_set' HB2.out (by omega)) (by omega)⟩
        rw [HT1.out]
        exact (OwnTy.set5 (OwnTy.setLow (ownTy_mk HG2.out (row_nil _ _) (by simp [Value.ownBlock])) (by omega)) (by omega)).mono (by omega)
      · have HZZ := Lib.hid (HKK.out 2 rfl (by omega))
        clear HKK
        go_enter Tryz.func37, Tryz.ntmps37
        go_wp2_with fail
        refine (HWD.out _ HB0.out).mono ?_
        rintro e w1 ⟨rfl, hb1⟩
        have HB1 := Lib.hid (below_al (below_step HB0.out hb1) (.cells #[.int .i64 2, .slice none 0 0, .slice none 0 0, .string ⟨#[]⟩, .string ⟨#[]⟩] 30))
        have HX1 := Lib.hid (TyBox.below (HX0.out w1 hb1) (below_al (Below.refl _ _) (.cells #[.int .i64 2, .slice none 0 0, .slice none 0 0, .string ⟨#[]⟩, .string ⟨#[]⟩] 30)))
        have HY1 : Hid (TyBox (w1.alloc (.cells #[.int .i64 2, .slice none 0 0, .slice none 0 0, .string ⟨#[]⟩, .string ⟨#[]⟩] 30)) w1.heap.size 2 (.slice none 0 0) (.slice none 0 0) ⟨#[]⟩ ⟨#[]⟩) := Lib.hid (heap_alloc_new w1 _)
        have hlt1 : w.heap.size < w1.heap.size := (HX0.out w1 hb1).lt
        have HXR := Lib.hid (HX0.out w1 hb1)
        have HBW := Lib.hid (below_step HB0.out hb1)
        clear hb1
        have hszb : (w1.alloc (.cells #[.int .i64 2, .slice none 0 0, .slice none 0 0, .string ⟨#[]⟩, .string ⟨#[]⟩] 30)).heap.size = w1.heap.size + 1 := by simp
        go_wp2_with fail
        refine (rsU_any ⟨a.block, a.off + 3, none⟩ n cap (T.drop 1) _ (HC1.out _ HB1.out) (by omega) (by omega) (by omega) (HS.out 1) res HR.out).mono ?_
        rintro e w2 ⟨A2, m2, c2, rfl, hrow, hb⟩
        have HB2 := Lib.hid (below_step HB1.out hb)
        have HX2 := Lib.hid (HX1.out.below hb)
        have HY2 := Lib.hid (HY1.out.below hb)
        have HG2 := Lib.hid (RowR.mono hrow (B' := w1.heap.size + 1) (by omega))
        have hlt2 : w1.heap.size < w2.heap.size := HY2.out.lt
        have hlt3 : w.heap.size < w2.heap.size := HX2.out.lt
        obtain ⟨q, hq⟩ : ∃ q, q = rsN res := ⟨_, rfl⟩
        have HQE := Lib.hid hq
        have hqn : q ≤ n := by have := HQ.out; rw [List.length_drop, ← HN.out] at this; omega
        rw [← hq]
        clear hrow hb hq
        obtain ⟨sx, hsx⟩ : ∃ s, s = txS (textT ((T.drop 1).drop q)) := ⟨_, rfl⟩
        obtain ⟨mx, hmx⟩ : ∃ m, m = txN (textT ((T.drop 1).drop q)) := ⟨_, rfl⟩
        have hmx1 : mx ≤ 1 := by rw [hmx]; unfold txN; split <;> omega
        have HT1 : Hid (Z.1 = ⟨2, rsL res, [], sx, ⟨#[]⟩⟩) := Lib.hid (by rw [HZZ.out, hsx, HQE.out]; rfl)
        have HT2 : Hid ((Z.2 : Int) = 1 + (q : Int) + (mx : Int)) := Lib.hid (by rw [HZZ.out, hmx, HQE.out]; show ((1 + (rsN res + txN (textT ((T.drop 1).drop (rsN res)))) : Nat) : Int) = _; omega)
        have HSX := Lib.hid (And.intro hsx hmx)
        clear hsx hmx
        have HC2 := Lib.hid (HC1.out)
        by_cases hqc : cap = q
        · subst hqc
          have HC3 : Hid (∀ W, Below w.heap.size w W → HasT W (.slice (some ⟨a.block, a.off + 3, none⟩) (n - cap) 0) ((T.drop 1).drop cap)) := Lib.hid fun W hb => by
            have h := HasT.cutE (HC1.out W hb) (k := cap) (by omega) (by omega) rfl
            rwa [Nat.sub_self] at h
          have HFL : Hid (∀ W, Below w.heap.size w W → Calls Tryz.prog 75 #[.slice (some ⟨a.block, a.off + 3, none⟩) (n - cap) 0] W fun e w' => e = .returned (.tuple #[.string sx, .int .i64 mx]) ∧ Below W.heap.size W w') := Lib.hid fun W hb => (iFil_any _ _ _ _ W (HC3.out W hb)).mono fun e w' h => ⟨by rw [h.1, HSX.out.1, HSX.out.2], by rw [← h.2]; exact Below.refl _ _⟩
          obtain ⟨⟨y0, y1, y2, y3, y4⟩, r0, r1, r2, r3, r4⟩ := five HX2.out
          obtain ⟨⟨x0, x1, x2, x3, x4⟩, g0, g1, g2, g3, g4⟩ := five HY2.out
          go_wp2_with fail
          refine (HFL.out _ (below_set' HB2.out (by omega))).mono ?_
          rintro e w3 ⟨rfl, hb⟩
          have HB3 := Lib.hid (below_step (below_set' HB2.out (b := w1.heap.size) (j := 1) (u := .slice A2 m2 c2) (by omega)) hb)
          have HX3 := Lib.hid (TyBox.below (TyBox.set (c := w1.heap.size) (j := 1) (u := .slice A2 m2 c2) HX2.out (by omega)) hb)
          have HY3 : Hid (TyBox w3 w1.heap.size 2 (.slice A2 m2 c2) (.slice none 0 0) ⟨#[]⟩ ⟨#[]⟩) := Lib.hid (TyBox.below (set5 HY2.out 1 (.slice A2 m2 c2)) hb)
          have HG3 := Lib.hid (OwnTy.below (OwnTy.setLow (b := w1.heap.size) (j := 1) (u := .slice A2 m2 c2) (ownTy_mk (k := 2) (pt := sx) (ph := ⟨#[]⟩) HG2.out (row_nil _ _) (by simp [Value.ownBlock])) (by omega)) hb)
          have hlt4 : w1.heap.size < w3.heap.size := HY3.out.lt
          have hlt5 : w.heap.size < w3.heap.size := HX3.out.lt
          clear hb x0 x1 x2 x3 x4 g0 g1 g2 g3 g4 y0 y1 y2 y3 y4 r0 r1 r2 r3 r4
          obtain ⟨⟨y0, y1, y2, y3, y4⟩, r0, r1, r2, r3, r4⟩ := five HX3.out
          obtain ⟨⟨x0, x1, x2, x3, x4⟩, g0, g1, g2, g3, g4⟩ := five HY3.out
          go_wp2
          have hfin := TyBox.full (k' := 2) (vr' := .slice A2 m2 c2) (vn' := .slice none 0 0) (pt' := sx) (ph' := ⟨#[]⟩) (TyBox.set (c := w1.heap.size) (j := 3) (u := .string sx) HX3.out (by omega))
          refine bodyPost_ret (results_ty rfl _ _ ⟨w.heap.size, 0, none⟩ _ rfl (run_loadTy hfin)) rfl ?_
          refine ⟨⟨⟨2, .slice A2 m2 c2, .slice none 0 0, sx, ⟨#[]⟩⟩, (by rw [HT2.out]; first | done | rfl), ?_⟩, below_set5 (below_set' HB3.out (by omega)) (by omega)⟩
          rw [HT1.out]
          exact (OwnTy.set5 (OwnTy.setLow HG3.out (by omega)) (by omega)).mono (by omega)
        · have HC3 : Hid (∀ W, Below w.heap.size w W → HasT W (.slice (some ⟨a.block, a.off + 3 + q * 3, none⟩) (n - q) (cap - q)) ((T.drop 1).drop q)) := Lib.hid fun W hb => by
            have h := HasT.cutN (HC1.out W hb) (k := q) (by omega) (by omega) (by omega)
            rwa [addr_at] at h
          have HFL : Hid (∀ W, Below w.heap.size w W → Calls Tryz.prog 75 #[.slice (some ⟨a.block, a.off + 3 + q * 3, none⟩) (n - q) (cap - q)] W fun e w' => e = .returned (.tuple #[.string sx, .int .i64 mx]) ∧ Below W.heap.size W w') := Lib.hid fun W hb => (iFil_any _ _ _ _ W (HC3.out W hb)).mono fun e w' h => ⟨by rw [h.1, HSX.out.1, HSX.out.2], by rw [← h.2]; exact Below.refl _ _⟩
          obtain ⟨⟨y0, y1, y2, y3, y4⟩, r0, r1, r2, r3, r4⟩ := five HX2.out
          obtain ⟨⟨x0, x1, x2, x3, x4⟩, g0, g1, g2, g3, g4⟩ := five HY2.out
          go_wp2_with fail
          refine (HFL.out _ (below_set' HB2.out (by omega))).mono ?_
          rintro e w3 ⟨rfl, hb⟩
          have HB3 := Lib.hid (below_step (below_set' HB2.out (b := w1.heap.size) (j := 1) (u := .slice A2 m2 c2) (by omega)) hb)
          have HX3 := Lib.hid (TyBox.below (TyBox.set (c := w1.heap.size) (j := 1) (u := .slice A2 m2 c2) HX2.out (by omega)) hb)
          have HY3 : Hid (TyBox w3 w1.heap.size 2 (.slice A2 m2 c2) (.slice none 0 0) ⟨#[]⟩ ⟨#[]⟩) := Lib.hid (TyBox.below (set5 HY2.out 1 (.slice A2 m2 c2)) hb)
          have HG3 := Lib.hid (OwnTy.below (OwnTy.setLow (b := w1.heap.size) (j := 1) (u := .slice A2 m2 c2) (ownTy_mk (k := 2) (pt := sx) (ph := ⟨#[]⟩) HG2.out (row_nil _ _) (by simp [Value.ownBlock])) (by omega)) hb)
          have hlt4 : w1.heap.size < w3.heap.size := HY3.out.lt
          have hlt5 : w.heap.size < w3.heap.size := HX3.out.lt
          clear hb x0 x1 x2 x3 x4 g0 g1 g2 g3 g4 y0 y1 y2 y3 y4 r0 r1 r2 r3 r4
          obtain ⟨⟨y0, y1, y2, y3, y4⟩, r0, r1, r2, r3, r4⟩ := five HX3.out
          obtain ⟨⟨x0, x1, x2, x3, x4⟩, g0, g1, g2, g3, g4⟩ := five HY3.out
          go_wp2
          have hfin := TyBox.full (k' := 2) (vr' := .slice A2 m2 c2) (vn' := .slice none 0 0) (pt' := sx) (ph' := ⟨#[]⟩) (TyBox.set (c := w1.heap.size) (j := 3) (u := .string sx) HX3.out (by omega))
          refine bodyPost_ret (results_ty rfl _ _ ⟨w.heap.size, 0, none⟩ _ rfl (run_loadTy hfin)) rfl ?_
          refine ⟨⟨⟨2, .slice A2 m2 c2, .slice none 0 0, sx, ⟨#[]⟩⟩, (by rw [HT2.out]; first | done | rfl), ?_⟩, below_set5 (below_set' HB3.out (by omega)) (by omega)⟩
          rw [HT1.out]
          exact (OwnTy.set5 (OwnTy.setLow HG3.out (by omega)) (by omega)).mono (by omega)
      · have HZZ := Lib.hid (HKK.out 3 rfl (by omega))
        clear HKK
        go_enter Tryz.func37, Tryz.ntmps37
        go_wp2_with fail
        refine (HWD.out _ HB0.out).mono ?_
        rintro e w1 ⟨rfl, hb1⟩
        have HB1 := Lib.hid (below_al (below_step HB0.out hb1) (.cells #[.int .i64 3, .slice none 0 0, .slice none 0 0, .string ⟨#[]⟩, .string ⟨#[]⟩] 30))
        have HX1 := Lib.hid (TyBox.below (HX0.out w1 hb1) (below_al (Below.refl _ _) (.cells #[.int .i64 3, .slice none 0 0, .slice none 0 0, .string ⟨#[]⟩, .string ⟨#[]⟩] 30)))
        have HY1 : Hid (TyBox (w1.alloc (.cells #[.int .i64 3, .slice none 0 0, .slice none 0 0, .string ⟨#[]⟩, .string ⟨#[]⟩] 30)) w1.heap.size 3 (.slice none 0 0) (.slice none 0 0) ⟨#[]⟩ ⟨#[]⟩) := Lib.hid (heap_alloc_new w1 _)
        have hlt1 : w.heap.size < w1.heap.size := (HX0.out w1 hb1).lt
        have HXR := Lib.hid (HX0.out w1 hb1)
        have HBW := Lib.hid (below_step HB0.out hb1)
        clear hb1
        have hszb : (w1.alloc (.cells #[.int .i64 3, .slice none 0 0, .slice none 0 0, .string ⟨#[]⟩, .string ⟨#[]⟩] 30)).heap.size = w1.heap.size + 1 := by simp
        have HT1 : Hid (Z.1 = ⟨3, [], [], ⟨#[]⟩, ⟨#[]⟩⟩ ∧ Z.2 = 1) := Lib.hid (by rw [HZZ.out]; exact ⟨rfl, rfl⟩)
        have HT2 := Lib.hid HT1.out.2
        have HT1 := Lib.hid HT1.out.1
        have HX0w := Lib.hid HXR.out
        obtain ⟨⟨y0, y1, y2, y3, y4⟩, r0, r1, r2, r3, r4⟩ := five HX0w.out
        go_wp2
        have hfin := TyBox.below (TyBox.full (k' := 3) (vr' := .slice none 0 0) (vn' := .slice none 0 0) (pt' := ⟨#[]⟩) (ph' := ⟨#[]⟩) HX0w.out) (below_al (Below.refl _ _) (.cells #[.int .i64 3, .slice none 0 0, .slice none 0 0, .string ⟨#[]⟩, .string ⟨#[]⟩] 30))
        refine bodyPost_ret (results_ty rfl _ _ ⟨w.heap.size, 0, none⟩ _ rfl (run_loadTy hfin)) rfl ?_
        refine ⟨⟨⟨3, .slice none 0 0, .slice none 0 0, ⟨#[]⟩, ⟨#[]⟩⟩, (by rw [HT2.out]; first | done | rfl), ?_⟩, below_al (below_set5 HBW.out (by omega)) _⟩
        rw [HT1.out]
        exact ownTy_mk (rowG_nil _ _) (row_nil _ _) (by simp [Value.ownBlock])
      · have HZZ := Lib.hid (HKK.out 4 rfl (by omega))
        clear HKK
        go_enter Tryz.func37, Tryz.ntmps37
        go_wp2_with fail
        refine (HWD.out _ HB0.out).mono ?_
        rintro e w1 ⟨rfl, hb1⟩
        have HB1 := Lib.hid (below_al (below_step HB0.out hb1) (.cells #[.int .i64 4, .slice none 0 0, .slice none 0 0, .string ⟨#[]⟩, .string ⟨#[]⟩] 30))
        have HX1 := Lib.hid (TyBox.below (HX0.out w1 hb1) (below_al (Below.refl _ _) (.cells #[.int .i64 4, .slice none 0 0, .slice none 0 0, .string ⟨#[]⟩, .string ⟨#[]⟩] 30)))
        have HY1 : Hid (TyBox (w1.alloc (.cells #[.int .i64 4, .slice none 0 0, .slice none 0 0, .string ⟨#[]⟩, .string ⟨#[]⟩] 30)) w1.heap.size 4 (.slice none 0 0) (.slice none 0 0) ⟨#[]⟩ ⟨#[]⟩) := Lib.hid (heap_alloc_new w1 _)
        have hlt1 : w.heap.size < w1.heap.size := (HX0.out w1 hb1).lt
        have HXR := Lib.hid (HX0.out w1 hb1)
        have HBW := Lib.hid (below_step HB0.out hb1)
        clear hb1
        have hszb : (w1.alloc (.cells #[.int .i64 4, .slice none 0 0, .slice none 0 0, .string ⟨#[]⟩, .string ⟨#[]⟩] 30)).heap.size = w1.heap.size + 1 := by simp
        go_wp2_with fail
        refine (iNms_any (some ⟨a.block, a.off + 3, none⟩) n cap (T.drop 1) _ (HC1.out _ HB1.out) (by omega)).mono ?_
        rintro e w2 ⟨⟨v2, rfl, hrow⟩, hb⟩
        obtain ⟨A2, m2, c2, rfl⟩ : ∃ A n c, v2 = .slice A n c := by obtain ⟨A, c, hv, _⟩ := hrow.has; exact ⟨A, _, c, hv⟩
        have HG2 := Lib.hid (Row.mono hrow (B' := w1.heap.size + 1) (by omega))
        have HB2 := Lib.hid (below_step HB1.out hb)
        have HX2 := Lib.hid (HX1.out.below hb)
        have HY2 := Lib.hid (HY1.out.below hb)
        have hlt2 : w1.heap.size < w2.heap.size := HY2.out.lt
        have hlt3 : w.heap.size < w2.heap.size := HX2.out.lt
        obtain ⟨q, hq⟩ : ∃ q, q = (namesT (T.drop 1)).length := ⟨_, rfl⟩
        have hqn : q ≤ 1048576 := by have := namesT_len (T.drop 1); rw [List.length_drop, ← HN.out] at this; omega
        have HT1 : Hid (Z.1 = ⟨4, [], namesT (T.drop 1), ⟨#[]⟩, ⟨#[]⟩⟩) := Lib.hid (by rw [HZZ.out]; rfl)
        have HT2 : Hid ((Z.2 : Int) = 1 + (q : Int)) := Lib.hid (by rw [HZZ.out, hq]; show ((1 + (namesT (T.drop 1)).length : Nat) : Int) = _; omega)
        rw [← hq]
        clear hrow hb hq
        obtain ⟨⟨y0, y1, y2, y3, y4⟩, r0, r1, r2, r3, r4⟩ := five HX2.out
        obtain ⟨⟨x0, x1, x2, x3, x4⟩, g0, g1, g2, g3, g4⟩ := five HY2.out
        go_wp2
        have hfin := TyBox.full (k' := 4) (vr' := .slice none 0 0) (vn' := .slice A2 m2 c2) (pt' := ⟨#[]⟩) (ph' := ⟨#[]⟩) (TyBox.set (c := w1.heap.size) (j := 2) (u := .slice A2 m2 c2) HX2.out (by omega))
        refine bodyPost_ret (results_ty rfl _ _ ⟨w.heap.size, 0, none⟩ _ rfl (run_loadTy hfin)) rfl ?_
        refine ⟨⟨⟨4, .slice none 0 0, .slice A2 m2 c2, ⟨#[]⟩, ⟨#[]⟩⟩, (by rw [HT2.out]; first | done | rfl), ?_⟩, below_set5 (below_set' HB2.out (by omega)) (by omega)⟩
        rw [HT1.out]
        exact (OwnTy.set5 (OwnTy.setLow (ownTy_mk (rowG_nil _ _) HG2.out (by simp [Value.ownBlock])) (by omega)) (by omega)).mono (by omega)
      · have HZZ := Lib.hid (HKK.out 5 rfl (by omega))
        clear HKK
        go_enter Tryz.func37, Tryz.ntmps37
        go_wp2_with fail
        refine (HWD.out _ HB0.out).mono ?_
        rintro e w1 ⟨rfl, hb1⟩
        have HB1 := Lib.hid (below_al (below_step HB0.out hb1) (.cells #[.int .i64 5, .slice none 0 0, .slice none 0 0, .string ⟨#[]⟩, .string ⟨#[]⟩] 30))
        have HX1 := Lib.hid (TyBox.below (HX0.out w1 hb1) (below_al (Below.refl _ _) (.cells #[.int .i64 5, .slice none 0 0, .slice none 0 0, .string ⟨#[]⟩, .string ⟨#[]⟩] 30)))
        have HY1 : Hid (TyBox (w1.alloc (.cells #[.int .i64 5, .slice none 0 0, .slice none 0 0, .string ⟨#[]⟩, .string ⟨#[]⟩] 30)) w1.heap.size 5 (.slice none 0 0) (.slice none 0 0) ⟨#[]⟩ ⟨#[]⟩) := Lib.hid (heap_alloc_new w1 _)
        have hlt1 : w.heap.size < w1.heap.size := (HX0.out w1 hb1).lt
        have HXR := Lib.hid (HX0.out w1 hb1)
        have HBW := Lib.hid (below_step HB0.out hb1)
        clear hb1
        have hszb : (w1.alloc (.cells #[.int .i64 5, .slice none 0 0, .slice none 0 0, .string ⟨#[]⟩, .string ⟨#[]⟩] 30)).heap.size = w1.heap.size + 1 := by simp
        obtain ⟨sx, hsx⟩ : ∃ s, s = txS (textT (T.drop 1)) := ⟨_, rfl⟩
        obtain ⟨mx, hmx⟩ : ∃ m, m = txN (textT (T.drop 1)) := ⟨_, rfl⟩
        have hmx1 : mx ≤ 1 := by rw [hmx]; unfold txN; split <;> omega
        have HFL : Hid (∀ W, Below w.heap.size w W → Calls Tryz.prog 75 #[.slice (some ⟨a.block, a.off + 3, none⟩) n cap] W fun e w' => e = .returned (.tuple #[.string sx, .int .i64 mx]) ∧ Below W.heap.size W w') := Lib.hid fun W hb => (iFil_any _ _ _ _ W (HC1.out W hb)).mono fun e w' h => ⟨by rw [h.1, hsx, hmx], by rw [← h.2]; exact Below.refl _ _⟩
        have HT1 : Hid (Z.1 = ⟨5, [], [], ⟨#[]⟩, sx⟩) := Lib.hid (by rw [HZZ.out, hsx]; rfl)
        have HT2 : Hid ((Z.2 : Int) = 1 + (mx : Int)) := Lib.hid (by rw [HZZ.out, hmx]; show ((1 + txN (textT (T.drop 1)) : Nat) : Int) = _; omega)
        clear hsx hmx
        go_wp2_with fail
        refine (HFL.out _ HB1.out).mono ?_
        rintro e w2 ⟨rfl, hb⟩
        have HB2 := Lib.hid (below_step HB1.out hb)
        have HX2 := Lib.hid (HX1.out.below hb)
        have HY2 := Lib.hid (HY1.out.below hb)
        have hlt2 : w1.heap.size < w2.heap.size := HY2.out.lt
        have hlt3 : w.heap.size < w2.heap.size := HX2.out.lt
        clear hb
        obtain ⟨⟨y0, y1, y2, y3, y4⟩, r0, r1, r2, r3, r4⟩ := five HX2.out
        obtain ⟨⟨x0, x1, x2, x3, x4⟩, g0, g1, g2, g3, g4⟩ := five HY2.out
        go_wp2
        have hfin := TyBox.full (k' := 5) (vr' := .slice none 0 0) (vn' := .slice none 0 0) (pt' := ⟨#[]⟩) (ph' := sx) (TyBox.set (c := w1.heap.size) (j := 4) (u := .string sx) HX2.out (by omega))
        refine bodyPost_ret (results_ty rfl _ _ ⟨w.heap.size, 0, none⟩ _ rfl (run_loadTy hfin)) rfl ?_
        refine ⟨⟨⟨5, .slice none 0 0, .slice none 0 0, ⟨#[]⟩, sx⟩, (by rw [HT2.out]; first | done | rfl), ?_⟩, below_set5 (below_set' HB2.out (by omega)) (by omega)⟩
        rw [HT1.out]
        exact (OwnTy.set5 (OwnTy.setLow (ownTy_mk (B := w1.heap.size + 1) (rowG_nil _ _) (row_nil _ _) (by simp [Value.ownBlock])) (by omega)) (by omega)).mono (by omega)
      · have HZZ := Lib.hid (HKK.out 6 rfl (by omega))
        clear HKK
        go_enter Tryz.func37, Tryz.ntmps37
        go_wp2_with fail
        refine (HWD.out _ HB0.out).mono ?_
        rintro e w1 ⟨rfl, hb1⟩
        have HB1 := Lib.hid (below_al (below_step HB0.out hb1) (.cells #[.int .i64 6, .slice none 0 0, .slice none 0 0, .string ⟨#[]⟩, .string ⟨#[]⟩] 30))
        have HX1 := Lib.hid (TyBox.below (HX0.out w1 hb1) (below_al (Below.refl _ _) (.cells #[.int .i64 6, .slice none 0 0, .slice none 0 0, .string ⟨#[]⟩, .string ⟨#[]⟩] 30)))
        have HY1 : Hid (TyBox (w1.alloc (.cells #[.int .i64 6, .slice none 0 0, .slice none 0 0, .string ⟨#[]⟩, .string ⟨#[]⟩] 30)) w1.heap.size 6 (.slice none 0 0) (.slice none 0 0) ⟨#[]⟩ ⟨#[]⟩) := Lib.hid (heap_alloc_new w1 _)
        have hlt1 : w.heap.size < w1.heap.size := (HX0.out w1 hb1).lt
        have HXR := Lib.hid (HX0.out w1 hb1)
        have HBW := Lib.hid (below_step HB0.out hb1)
        clear hb1
        have hszb : (w1.alloc (.cells #[.int .i64 6, .slice none 0 0, .slice none 0 0, .string ⟨#[]⟩, .string ⟨#[]⟩] 30)).heap.size = w1.heap.size + 1 := by simp
        have HT1 : Hid (Z.1 = ⟨6, [], [], ⟨#[]⟩, ⟨#[]⟩⟩ ∧ Z.2 = 1) := Lib.hid (by rw [HZZ.out]; exact ⟨rfl, rfl⟩)
        have HT2 := Lib.hid HT1.out.2
        have HT1 := Lib.hid HT1.out.1
        have HX0w := Lib.hid HXR.out
        obtain ⟨⟨y0, y1, y2, y3, y4⟩, r0, r1, r2, r3, r4⟩ := five HX0w.out
        go_wp2
        have hfin := TyBox.below (TyBox.full (k' := 6) (vr' := .slice none 0 0) (vn' := .slice none 0 0) (pt' := ⟨#[]⟩) (ph' := ⟨#[]⟩) HX0w.out) (below_al (Below.refl _ _) (.cells #[.int .i64 6, .slice none 0 0, .slice none 0 0, .string ⟨#[]⟩, .string ⟨#[]⟩] 30))
        refine bodyPost_ret (results_ty rfl _ _ ⟨w.heap.size, 0, none⟩ _ rfl (run_loadTy hfin)) rfl ?_
        refine ⟨⟨⟨6, .slice none 0 0, .slice none 0 0, ⟨#[]⟩, ⟨#[]⟩⟩, (by rw [HT2.out]; first | done | rfl), ?_⟩, below_al (below_set5 HBW.out (by omega)) _⟩
        rw [HT1.out]
        exact ownTy_mk (rowG_nil _ _) (row_nil _ _) (by simp [Value.ownBlock])
end Go.Proofs.YtkifdbeklagelaaGreatDoor

/- CHAPTER 6: TYPES READ FROM TEXTS: impl's ParseType. -/
namespace Go.Proofs.YtkifdbeklagelaaGreatDoor
open Go.RowKit NumP
set_option maxRecDepth 100000

def zeroTy : Ty := ⟨0, [], [], ⟨#[]⟩, ⟨#[]⟩⟩
/-- what ParseType hands back -/
def PtV (B : Nat) (o : Option Ty) (e : Ending) (w' : World) : Prop := match o with
  | some t => ∃ v : TyV, e = .returned (.tuple #[v.val, .bool true]) ∧ OwnTy B w' v t
  | none => ∃ v : TyV, e = .returned (.tuple #[v.val, .bool false]) ∧ OwnTy B w' v zeroTy
theorem ptV_none {B : Nat} {w : World} : PtV B none (.returned (.tuple #[.agg #[.int .i64 0, .slice none 0 0, .slice none 0 0, .string ⟨#[]⟩, .string ⟨#[]⟩], .bool false])) w :=
  ⟨⟨0, .slice none 0 0, .slice none 0 0, ⟨#[]⟩, ⟨#[]⟩⟩, rfl, ownTy_mk (rowG_nil _ _) (row_nil _ _) (by simp [Value.ownBlock])⟩
theorem rowT_caps {B n cap : Nat} {A : Option Addr} {w : World} {T : List Tok} (h : RowT B w (.slice A n cap) T) : HasT w (.slice A n cap) T ∧ n ≤ cap ∧ cap ≤ 9223372036854775807 := by
  refine ⟨RowR.has Tok.enc_len h, ?_⟩
  rcases h.2 with ⟨h', _⟩ | ⟨g', c', cur, h', _, _, h5, h6, _⟩
  · cases h'; exact ⟨Nat.le_refl _, Nat.zero_le _⟩
  · cases h'; unfold maxLen at h6; exact ⟨h5, h6⟩
theorem textT_sz {T : List Tok} (hs : ∀ x ∈ T, x.t.size ≤ 1048576) : (txS (textT T)).size ≤ 1048576 := by
  cases T with
  | nil => exact Nat.zero_le _
  | cons x r =>
    by_cases h : x.k = 3 ∧ x.t.size ≠ 0
    · rw [show textT (x :: r) = some x.t from if_pos h]; exact hs x (by simp)
    · rw [show textT (x :: r) = none from if_neg h]; exact Nat.zero_le _
theorem bodyT_sz (k : Int) {T : List Tok} {res : Option (List Rg × Nat)} (hs : ∀ x ∈ T, x.t.size ≤ 1048576) : TySz (bodyT k T res).1 := by
  have hn : ∀ s ∈ namesT T, s.size ≤ 1048576 := fun s h => by obtain ⟨x, hx, rfl⟩ := namesT_mem s h; exact hs x hx
  have hd : ∀ q, (txS (textT (T.drop q))).size ≤ 1048576 := fun q => textT_sz fun x hx => hs x (List.mem_of_mem_drop hx)
  have hz : (⟨#[]⟩ : ByteArray).size ≤ 1048576 := Nat.zero_le _
  unfold bodyT
  repeat' split
  · exact ⟨by simp, hz, hz⟩
  · exact ⟨by simp, hd _, hz⟩
  · exact ⟨hn, hz, hz⟩
  · exact ⟨by simp, hz, textT_sz hs⟩
  · exact ⟨by simp, hz, hz⟩
theorem tyT_sz {T : List Tok} {res : Option (List Rg × Nat)} (hs : ∀ x ∈ T, x.t.size ≤ 1048576) : TySz (tyT T res).1 := by
  unfold tyT
  split
  · exact ⟨by simp, Nat.zero_le _, Nat.zero_le _⟩
  · exact bodyT_sz _ fun x hx => hs x (List.mem_of_mem_drop hx)
theorem bodyT_le (k : Int) {T : List Tok} {res : Option (List Rg × Nat)} (hr : rsN res ≤ T.length) : (bodyT k T res).2 ≤ T.length + 1 := by
  have h1 : ∀ o, txN o ≤ 1 := fun o => by unfold txN; split <;> omega
  have h2 := namesT_len T
  unfold bodyT
  repeat' split
  · show rsN res ≤ _; omega
  · show rsN res + txN _ ≤ _; have := h1 (textT (T.drop (rsN res))); omega
  · show (namesT T).length ≤ _; omega
  · show txN _ ≤ _; have := h1 (textT T); omega
  · exact Nat.zero_le _
theorem tyT_le {T : List Tok} {res : Option (List Rg × Nat)} (hr : rsN res ≤ (T.drop 1).length) : (tyT T res).2 ≤ T.length + 2 := by
  unfold tyT
  split
  · exact Nat.zero_le _
  · have := bodyT_le (headK T) hr
    show 1 + _ ≤ _
    rw [List.length_drop] at this; omega
set_option maxHeartbeats 8000000 in
theorem iParTy_any (s : ByteArray) (hs : s.size ≤ 1048576) (T : List Tok) (e : Option Nat) (hL : Lx s.size s.data.toList T e) (hlen : (lexT T e).length ≤ 1048576) (hts : ∀ x ∈ lexT T e, x.t.size ≤ 1048576) (res : Option (List Rg × Nat)) (hr : Run ((lexT T e).drop 1) 0 [] res) (w : World)
    (hT : ∀ i s, i < 7 → typeWs[i]? = some s → w.cell? ⟨0, i, none⟩ = some (.string ⟨s.toArray⟩)) :
    Calls Tryz.prog 12 #[.string s] w fun en w' => PtV w.heap.size (parTy e (lexT T e) res) en w' ∧ Below w.heap.size w w' := by
  have HB0 := Lib.hid (below_al (Below.refl w.heap.size w) (.cells #[.int .i64 0, .slice none 0 0, .slice none 0 0, .string ⟨#[]⟩, .string ⟨#[]⟩] 30))
  have HX0 : Hid (∀ W, Below (w.alloc (.cells #[.int .i64 0, .slice none 0 0, .slice none 0 0, .string ⟨#[]⟩, .string ⟨#[]⟩] 30)).heap.size (w.alloc (.cells #[.int .i64 0, .slice none 0 0, .slice none 0 0, .string ⟨#[]⟩, .string ⟨#[]⟩] 30)) W → TyBox W w.heap.size 0 (.slice none 0 0) (.slice none 0 0) ⟨#[]⟩ ⟨#[]⟩) := Lib.hid fun W hb => (hb.block _ (by simp)).trans (heap_alloc_new w _)
  have HL := Lib.hid hL
  have HTB := Lib.hid (fun W (hb : Below w.heap.size w W) i s (hi : i < 7) (hs : typeWs[i]? = some s) => (hb.cell (lt_of_cell (hT i s hi hs))).trans (hT i s hi hs))
  have HRD := Lib.hid (fun A n cap W (hv : RowT w.heap.size W (.slice A n cap) (lexT T e)) (hn : n ≤ 1048576) (hb : Below w.heap.size w W) => iRdTy_any A n cap (lexT T e) W (rowT_caps hv).1 (rowT_caps hv).2.1 (rowT_caps hv).2.2 hn hts res hr (HTB.out W hb))
  have HIS := Lib.hid (fun v W (h : OwnTy w.heap.size W v (tyT (lexT T e) res).1) => iIsTy_any v (tyT (lexT T e) res).1 W h.has h.nm.capN (tyT_sz hts))
  have hle := tyT_le (T := lexT T e) (rsN_le hr)
  obtain ⟨n, hn⟩ : ∃ n, n = (lexT T e).length := ⟨_, rfl⟩
  have HN := Lib.hid hn
  have HP : Hid (e = none → parTy e (lexT T e) res = if (tyT (lexT T e) res).2 = n ∧ isTyB (tyT (lexT T e) res).1 = true then some (tyT (lexT T e) res).1 else none) := Lib.hid (fun h => by subst h; rw [hn]; rfl)
  have HPB : Hid (∀ p, e = some p → parTy e (lexT T e) res = none) := Lib.hid (fun p h => by subst h; rfl)
  rw [← hn] at hlen hle
  have HLL := Lib.hid (fun W => iLex_any s hs T e hL W)
  obtain ⟨q, hq⟩ : ∃ q, q = (tyT (lexT T e) res).2 := ⟨_, rfl⟩
  obtain ⟨t, ht⟩ : ∃ t, t = (tyT (lexT T e) res).1 := ⟨_, rfl⟩
  rw [← hq] at hle HP
  rw [← ht] at HIS HP
  have HRD2 : Hid (∀ A m cap W, RowT w.heap.size W (.slice A m cap) (lexT T e) → m ≤ 1048576 → Below w.heap.size w W → Calls Tryz.prog 37 #[.slice A m cap] W fun en w' => (∃ v : TyV, en = .returned (.tuple #[v.val, .int .i64 (q : Nat)]) ∧ OwnTy W.heap.size w' v t) ∧ Below W.heap.size W w') := Lib.hid fun A m cap W h1 h2 h3 => by
    refine (HRD.out A m cap W h1 h2 h3).mono ?_
    rintro en w' ⟨⟨v, h4, h5⟩, h6⟩
    exact ⟨⟨v, by rw [hq]; exact h4, by rw [ht]; exact h5⟩, h6⟩
  generalize isTyB t = b at *
  clear hL hts hr hT hn hq ht HRD
  obtain ⟨Z, hZ⟩ : ∃ Z, Z = parTy e (lexT T e) res := ⟨_, rfl⟩
  rw [← hZ] at HP HPB ⊢
  clear hZ
  -- what is alike in all ways: up to the box of t
  have main : ∀ (ei : Int), ei = lexI e → Calls Tryz.prog 12 #[.string s] w fun en w' => PtV w.heap.size Z en w' ∧ Below w.heap.size w w' := by
    intro ei hei
    have HEI := Lib.hid hei
    clear hei
    go_enter Tryz.func12, Tryz.ntmps12
    go_wp2_with fail
    refine (HLL.out _).mono ?_
    rintro en w1 ⟨vl, rfl, hra, hb1⟩
    obtain ⟨A, cap, rfl⟩ := RowR.shape hra
    rw [← HN.out] at hra ⊢
    rw [← HEI.out]
    have HB1 := Lib.hid (below_step HB0.out hb1)
    have HX1 := Lib.hid (HX0.out w1 hb1)
    have HRA := Lib.hid (RowR.mono hra (B' := w.heap.size) (by simp))
    clear hra hb1
    go_wp2_with fail
    refine (HRD2.out A n cap _ HRA.out hlen HB1.out).mono ?_
    rintro en w2 ⟨⟨⟨k2, vr2, vn2, pt2, ph2⟩, rfl, hown⟩, hb2⟩
    obtain ⟨F, m, d, rfl⟩ : ∃ A n c, vr2 = .slice A n c := by obtain ⟨A, c, hv, _⟩ := RowR.hasG hown.rg; exact ⟨A, _, c, hv⟩
    obtain ⟨F', m', d', rfl⟩ : ∃ A n c, vn2 = .slice A n c := by obtain ⟨A, c, hv, _⟩ := hown.nm.has; exact ⟨A, _, c, hv⟩
    have HB2 := Lib.hid (below_step HB1.out hb2)
    have HX2 := Lib.hid (HX1.out.below hb2)
    have HO2 := Lib.hid (hown.mono (B' := w.heap.size + 1) HX1.out.lt)
    have hlt2 : w.heap.size < w2.heap.size := HX2.out.lt
    obtain ⟨⟨y0, y1, y2, y3, y4⟩, r0, r1, r2, r3, r4⟩ := five HX2.out
    clear hown hb2
    by_cases hbad : 0 ≤ ei
    · have HZ : Hid (Z = none) := Lib.hid (by
        cases e with
        | none => have h9 := HEI.out; rw [show lexI none = (-1 : Int) from rfl] at h9; omega
        | some p => exact HPB.out p rfl)
      go_wp2
      have hfin := TyBox.below (TyBox.full (k' := 0) (vr' := .slice none 0 0) (vn' := .slice none 0 0) (pt' := ⟨#[]⟩) (ph' := ⟨#[]⟩) HX2.out) (below_al (Below.refl _ _) (.cells #[.int .i64 k2, .slice F m d, .slice F' m' d', .string pt2, .string ph2] 30))
      refine bodyPost_ret (results_ty rfl _ _ ⟨w.heap.size, 0, none⟩ _ rfl (run_loadTy hfin)) rfl ?_
      rw [HZ.out]
      exact ⟨ptV_none, below_al (below_set5 HB2.out (by omega)) _⟩
    · have HEN : Hid (e = none) := Lib.hid (by
        cases e with
        | none => rfl
        | some p => have h9 := HEI.out; rw [show lexI (some p) = (p : Int) from rfl] at h9; omega)
      by_cases hqn : q = n
      · have HB3 := Lib.hid (below_al HB2.out (.cells #[.int .i64 k2, .slice F m d, .slice F' m' d', .string pt2, .string ph2] 30))
        have HY3 : Hid (∀ W, Below (w2.alloc (.cells #[.int .i64 k2, .slice F m d, .slice F' m' d', .string pt2, .string ph2] 30)).heap.size (w2.alloc (.cells #[.int .i64 k2, .slice F m d, .slice F' m' d', .string pt2, .string ph2] 30)) W → TyBox W w2.heap.size k2 (.slice F m d) (.slice F' m' d') pt2 ph2 ∧ TyBox W w.heap.size 0 (.slice none 0 0) (.slice none 0 0) ⟨#[]⟩ ⟨#[]⟩ ∧ OwnTy (w.heap.size + 1) W ⟨k2, .slice F m d, .slice F' m' d', pt2, ph2⟩ t) := Lib.hid fun W hb => ⟨TyBox.below (heap_alloc_new w2 _) hb, TyBox.below (TyBox.below HX2.out (below_al (Below.refl _ _) _)) hb, (HO2.out.below (below_al (Below.refl _ _) _)).below hb⟩
        have hqq : ((q : Int) != (n : Int)) = false := by rw [hqn]; simp
        have HQN := Lib.hid hqn
        clear hqn y0 y1 y2 y3 y4 r0 r1 r2 r3 r4
        go_wp2_with fail
        refine (HIS.out ⟨k2, .slice F m d, .slice F' m' d', pt2, ph2⟩ _ ((HY3.out _ (Below.refl _ _)).2.2.mono (by omega))).mono ?_
        rintro en w3 ⟨rfl, hb3⟩
        obtain ⟨hY3, hX3, hO3⟩ := HY3.out _ hb3
        have HX3 := Lib.hid hX3
        have HO3 := Lib.hid hO3
        have HBB := Lib.hid (below_step HB3.out hb3)
        have hlt3 : w.heap.size < w3.heap.size := hX3.lt
        have hlt4 : w2.heap.size < w3.heap.size := hY3.lt
        obtain ⟨⟨y0, y1, y2, y3, y4⟩, r0, r1, r2, r3, r4⟩ := five hX3
        obtain ⟨⟨x0, x1, x2, x3, x4⟩, -⟩ := five hY3
        clear hb3 hX3 hY3 hO3
        cases b
        · have HZ : Hid (Z = none) := Lib.hid (by rw [HP.out HEN.out]; simp)
          go_wp2
          have hfin := TyBox.full (k' := 0) (vr' := .slice none 0 0) (vn' := .slice none 0 0) (pt' := ⟨#[]⟩) (ph' := ⟨#[]⟩) HX3.out
          refine bodyPost_ret (results_ty rfl _ _ ⟨w.heap.size, 0, none⟩ _ rfl (run_loadTy hfin)) rfl ?_
          rw [HZ.out]
          exact ⟨ptV_none, below_set5 HBB.out (by omega)⟩
        · have HZ : Hid (Z = some t) := Lib.hid (by rw [HP.out HEN.out]; simp [HQN.out])
          go_wp2
          have hfin := TyBox.full (k' := k2) (vr' := .slice F m d) (vn' := .slice F' m' d') (pt' := pt2) (ph' := ph2) HX3.out
          refine bodyPost_ret (results_ty rfl _ _ ⟨w.heap.size, 0, none⟩ _ rfl (run_loadTy hfin)) rfl ?_
          rw [HZ.out]
          exact ⟨⟨⟨k2, .slice F m d, .slice F' m' d', pt2, ph2⟩, rfl, (OwnTy.set5 HO3.out (by omega)).mono (by omega)⟩, below_set5 HBB.out (by omega)⟩
      · have hqq : ((q : Int) != (n : Int)) = true := by simp; omega
        have HZ : Hid (Z = none) := Lib.hid (by rw [HP.out HEN.out]; simp [hqn])
        have hqq' : (q != n) = true := by simpa using hqn
        clear hqn
        go_wp2
        have hfin := TyBox.below (TyBox.full (k' := 0) (vr' := .slice none 0 0) (vn' := .slice none 0 0) (pt' := ⟨#[]⟩) (ph' := ⟨#[]⟩) HX2.out) (below_al (Below.refl _ _) (.cells #[.int .i64 k2, .slice F m d, .slice F' m' d', .string pt2, .string ph2] 30))
        refine bodyPost_ret (results_ty rfl _ _ ⟨w.heap.size, 0, none⟩ _ rfl (run_loadTy hfin)) rfl ?_
        rw [HZ.out]
        exact ⟨ptV_none, below_al (below_set5 HB2.out (by omega)) _⟩
  exact main _ rfl
end Go.Proofs.YtkifdbeklagelaaGreatDoor

/- CHAPTER 6: TYPES READ, spec: the parser's l3At and l3Take at any kind; plain facts; a type's box while it is read. -/
namespace Go.Proofs.YtkifdbeklagelaaGreatDoor
open Go.RowKit NumP
set_option maxRecDepth 100000

/-- the head is of kind k -/
def kB (k : Int) : List Tok → Bool
  | [] => false
  | x :: _ => decide (x.k = k)
theorem kB_inv {k : Int} {l : List Tok} (h : kB k l = true) : ∃ x r, l = x :: r ∧ x.k = k := by
  match l, h with
  | x :: r, h => exact ⟨x, r, rfl, by simpa [kB] using h⟩
theorem mkB_inv {m : ByteArray} {l : List Tok} (h : mkB l m = true) : ∃ x r, l = x :: r ∧ x.k = 4 := by
  match l, h with
  | x :: r, h =>
    by_cases hk : x.k = 4
    · exact ⟨x, r, rfl, hk⟩
    · rw [mkB_kind hk] at h; cases h
section
variable {B b n cap i : Nat} {A : Option Addr} {T : List Tok} {bad : Bool} {w : World}
theorem sAtK (k : Int) (h : Par B b A n cap T i bad w) :
    Calls Tryz.prog 68 #[.pointer (some ⟨b, 0, none⟩), .int .i64 k, .string ⟨#[]⟩] w fun e w' => e = .returned (.bool (!bad && kB k (T.drop i))) ∧ ∃ q, w' = w.drewN q := by
  cases bad with
  | true => exact sAt_bad k _ h
  | false =>
    rcases Nat.lt_or_ge i n with hi | hi
    · obtain ⟨a, x, r, _, hx, _⟩ := h.at hi
      rw [hx]
      by_cases hk : x.k = k
      · rw [show (!false && kB k (x :: r)) = true by simp [kB, hk]]; exact sAt_any k h hi hx hk
      · rw [show (!false && kB k (x :: r)) = false by simp [kB, hk]]; exact sAt_kind k _ h hi hx hk
    · have hn := h.size.1
      rw [List.drop_eq_nil_of_le (by omega)]
      exact sAt_end k _ h (by have := h.le; omega)
theorem Par.setBadV (z : Bool) (h : Par B b A n cap T i bad w) : Par B b A n cap T i z (w.setCell ⟨b, 2, none⟩ (.bool z)) := by
  have hs : w.heap.size ≤ (w.setCell ⟨b, 2, none⟩ (.bool z)).heap.size := (grownBy_set w b 2 _).size
  have hk : ∀ p : Addr, p ≠ ⟨b, 2, none⟩ → (w.setCell ⟨b, 2, none⟩ (.bool z)).cell? p = w.cell? p := fun p hp => World.cell?_setCell_other w ⟨b, 2, none⟩ p _ (fun e => hp e.symm)
  refine ⟨(hk _ (by simp)).trans h.c0, (hk _ (by simp)).trans h.c1, ?_, ?_, ?_, h.lo, Nat.lt_of_lt_of_le h.hi hs, HasR.keep h.tk hs (fun p ⟨a, h1, h2⟩ => hk p (fun e => by subst e; have := h.tb a h1; simp at h2; omega)), h.tb, h.le⟩
  · exact World.cell?_setCell_same w _ _ h.c2
  · rw [World.frozen?_setCell]; exact h.f1
  · rw [World.frozen?_setCell]; exact h.f2
theorem sTkN (k : Int) (h : Par B b A n cap T i bad w) (hk : (!bad && kB k (T.drop i)) = false) :
    Calls Tryz.prog 67 #[.pointer (some ⟨b, 0, none⟩), .int .i64 k] w fun e w' => e = .returned (.string ⟨#[]⟩) ∧ Par B b A n cap T i true w' ∧ w.grownBy w' (some b) := by
  have H := Lib.hid h
  have HC := Lib.hid (sAtK k h)
  rw [hk] at HC
  clear h hk
  go_enter Tryz.func67, Tryz.ntmps67
  go_wp2_with (go_at_call 68; refine HC.out.mono ?_; rintro e w1 ⟨rfl, q, hq⟩; have HP := Lib.hid (H.out.drewN q); rw [← hq] at HP; have HG := Lib.hid (grown_drewN w q b); rw [← hq] at HG; clear hq; have c2 := HP.out.c2; have f2 := HP.out.f2; have HS := Lib.hid HP.out.setBad; have HG2 := Lib.hid (grownBy_set w1 b 2 (.bool true)))
  go_ret
  exact ⟨rfl, HS.out, grown_trans HG.out HG2.out⟩
set_option maxHeartbeats 1000000 in
theorem sTkY (k : Int) (h : Par B b A n cap T i false w) {x : Tok} {r : List Tok} (hx : T.drop i = x :: r) (hk : x.k = k) :
    Calls Tryz.prog 67 #[.pointer (some ⟨b, 0, none⟩), .int .i64 k] w fun e w' => e = .returned (.string x.t) ∧ Par B b A n cap T (i + 1) false w' ∧ w.grownBy w' (some b) := by
  have H := Lib.hid h
  have hn := h.size.1
  have hn' := h.size.2
  have hi : i < n := by
    rcases Nat.lt_or_ge i n with hi | hi
    · exact hi
    · rw [List.drop_eq_nil_of_le (by omega)] at hx; cases hx
  have HC := Lib.hid (sAt_any k h hi hx hk)
  have HI : Hid (i + 1 ≤ n) := Lib.hid (by omega)
  obtain ⟨a, y, r', rfl, hy, _, _, _⟩ := h.at hi
  rw [hx] at hy
  cases hy
  have HX := Lib.hid hx
  have hin : (i : Int) < (n : Int) := by omega
  have hib : (i : Int) + 1 ≤ 9223372036854775807 := by omega
  clear h hx hk hn
  go_enter Tryz.func67, Tryz.ntmps67
  go_wp2_with (go_at_call 68; refine HC.out.mono ?_; rintro e w1 ⟨rfl, q, hq⟩; have HP := Lib.hid (H.out.drewN q); rw [← hq] at HP; have HG := Lib.hid (grown_drewN w q b); rw [← hq] at HG; clear hq; have c1 := HP.out.c1; have f1 := HP.out.f1; have HS := Lib.hid (HP.out.setI HI.out); have HG2 := Lib.hid (grownBy_set w1 b 1 (.int .i64 ((i + 1 : Nat) : Int))))
  have HS2 : Hid (Par B b (some a) n cap T (i + 1) false (w1.setCell ⟨b, 1, none⟩ (.int .i64 ((i : Int) + 1)))) := HS
  have HG3 : Hid (w1.grownBy (w1.setCell ⟨b, 1, none⟩ (.int .i64 ((i : Int) + 1))) (some b)) := HG2
  clear HS HG2 c1 f1
  generalize w1.setCell ⟨b, 1, none⟩ (.int .i64 ((i : Int) + 1)) = w2 at HS2 HG3 ⊢
  have c0 := HS2.out.c0
  have c1 : w2.cell? ⟨b, 1, none⟩ = some (.int .i64 ((i : Int) + 1)) := HS2.out.c1
  obtain ⟨a', y, r', ha', hy, d0, d1⟩ := HS2.out.atk hi
  cases ha'
  rw [HX.out] at hy
  cases hy
  have hs1 : (i : Int) + 1 - 1 = (i : Int) := by omega
  have hw1 : IntKind.i64.wrap ((i : Int) + 1 - 1) = (i : Int) := by rw [hs1]; exact IntWalk.i64_in _ (by omega)
  go_wp2
  go_quiet (fail)
  go_wp2
  go_ret
  exact ⟨rfl, HS2.out.drewN _, grown_trans HG.out (grown_trans HG3.out (grown_drewN _ _ b))⟩
end
/- plain facts -/
theorem Run.shift {T : List Tok} (d : Nat) {p : Nat} {R : List Rg} {res : Option (List Rg × Nat)} (h : Run (T.drop d) p R res) : Run T (p + d) R (res.map fun q => (q.1, q.2 + d)) := by
  induction h with
  | bad h => exact .bad (by rwa [List.drop_drop, Nat.add_comm] at h)
  | @stop p k R x h hm =>
    have := Run.stop (T := T) (p := p + d) (k := k) (R := R) (x := x) (by rwa [List.drop_drop, Nat.add_comm] at h) (by rw [List.drop_drop] at hm; rw [show p + d + k = d + (p + k) by omega]; exact hm)
    rw [show p + d + k = p + k + d by omega] at this
    exact this
  | @more p k R x res h hm hr ih =>
    refine .more (k := k) (x := x) (by rwa [List.drop_drop, Nat.add_comm] at h) (by rw [List.drop_drop] at hm; rw [show p + d + k = d + (p + k) by omega]; exact hm) ?_
    rw [show p + d + k + 1 = p + k + 1 + d by omega]; exact ih
theorem run_none {T : List Tok} {res : Option (List Rg × Nat)} (h : Run T 0 [] res) (h2 : kB 2 T = false) (h4 : mkB T minusT = false) : res = none := by
  rcases h.inv with ⟨_, h⟩ | ⟨x, k, h1, _⟩
  · exact h
  · rw [List.drop_zero, rdR_none (by
      rw [rdB_plain h4]
      cases T with
      | nil => rfl
      | cons x r => rw [numT_kind (by simpa [kB] using h2)]; rfl)] at h1
    cases h1
def Good (T : List Tok) (res : Option (List Rg × Nat)) : Prop := (tyT T res).2 = T.length ∧ isTyB (tyT T res).1 = true
def Pre (T : List Tok) (res : Option (List Rg × Nat)) (j : Nat) (bad : Bool) (t : Ty) : Prop := (bad = false ∧ (tyT T res).1 = t ∧ (tyT T res).2 = j) ∨ (bad = true ∧ ¬ Good T res)
def Fin6 (T : List Tok) (res : Option (List Rg × Nat)) (j : Nat) (bad : Bool) (t : Ty) : Prop := (bad = false ∧ (tyT T res).1 = t ∧ (tyT T res).2 = j ∧ isTyB t = true) ∨ (bad = true ∧ ¬ Good T res)
def Mid (T : List Tok) (res : Option (List Rg × Nat)) (j : Nat) (bad : Bool) (R : List Rg) : Prop := (bad = false ∧ rsL res = R ∧ 1 + rsN res = j) ∨ (bad = true ∧ ¬ Good T res)
theorem fin_yes {T : List Tok} {res : Option (List Rg × Nat)} {j : Nat} {bad : Bool} {t : Ty} (h : Pre T res j bad t) (ht : isTyB t = true) : Fin6 T res j bad t := by
  rcases h with ⟨h1, h2, h3⟩ | h
  · exact .inl ⟨h1, h2, h3, ht⟩
  · exact .inr h
theorem fin_no {T : List Tok} {res : Option (List Rg × Nat)} {j : Nat} {bad : Bool} {t : Ty} (h : Pre T res j bad t) (ht : isTyB t = false) : Fin6 T res j true t := by
  rcases h with ⟨h1, h2, h3⟩ | h
  · exact .inr ⟨rfl, fun hg => by have := hg.2; rw [h2, ht] at this; cases this⟩
  · exact .inr ⟨rfl, h.2⟩
theorem isTy_zero : isTyB ⟨0, [], [], ⟨#[]⟩, ⟨#[]⟩⟩ = false := isTy_other _ _ _ _ ⟨by omega, by omega, by omega, by omega, by omega, by omega⟩
theorem good_zero {T : List Tok} {res : Option (List Rg × Nat)} (h : headK T = 0) : ¬ Good T res := fun hg => by
  have := hg.2
  rw [tyT_0 h] at this
  rw [isTy_zero] at this
  cases this
theorem length_of {T : List Tok} {d : Nat} {x : Tok} {r : List Tok} (h : T.drop d = x :: r) : d + 1 ≤ T.length := by
  have := congrArg List.length h
  rw [List.length_drop] at this
  simp at this; omega
theorem textT_kind {l : List Tok} (h : kB 3 l = false) : textT l = none := by
  cases l with
  | nil => rfl
  | cons x r => exact textT_none (by simpa [kB] using h)
theorem tyT_1 {T : List Tok} {res : Option (List Rg × Nat)} (h : headK T = 1) : tyT T res = (⟨1, rsL res, [], ⟨#[]⟩, ⟨#[]⟩⟩, 1 + rsN res) := by rw [tyT_k h (by omega)]; rfl
theorem tyT_2 {T : List Tok} {res : Option (List Rg × Nat)} (h : headK T = 2) : tyT T res = (⟨2, rsL res, [], txS (textT (T.drop (1 + rsN res))), ⟨#[]⟩⟩, 1 + (rsN res + txN (textT (T.drop (1 + rsN res))))) := by
  rw [tyT_k h (by omega)]
  show (Ty.mk 2 (rsL res) [] (txS (textT ((T.drop 1).drop (rsN res)))) ⟨#[]⟩, 1 + (rsN res + txN (textT ((T.drop 1).drop (rsN res))))) = _
  rw [List.drop_drop]
theorem tyT_4 {T : List Tok} {res : Option (List Rg × Nat)} (h : headK T = 4) : tyT T res = (⟨4, [], namesT (T.drop 1), ⟨#[]⟩, ⟨#[]⟩⟩, 1 + (namesT (T.drop 1)).length) := by rw [tyT_k h (by omega)]; rfl
theorem tyT_5 {T : List Tok} {res : Option (List Rg × Nat)} (h : headK T = 5) : tyT T res = (⟨5, [], [], ⟨#[]⟩, txS (textT (T.drop 1))⟩, 1 + txN (textT (T.drop 1))) := by rw [tyT_k h (by omega)]; rfl
theorem tyT_3 {T : List Tok} {res : Option (List Rg × Nat)} (h : headK T = 3) : tyT T res = (⟨3, [], [], ⟨#[]⟩, ⟨#[]⟩⟩, 1) := by rw [tyT_k h (by omega)]; rfl
theorem tyT_6 {T : List Tok} {res : Option (List Rg × Nat)} (h : headK T = 6) : tyT T res = (⟨6, [], [], ⟨#[]⟩, ⟨#[]⟩⟩, 1) := by rw [tyT_k h (by omega)]; rfl
theorem mid_none {T : List Tok} {res : Option (List Rg × Nat)} (h : Run (T.drop 1) 0 [] res) (h2 : kB 2 (T.drop 1) = false) (h4 : mkB (T.drop 1) minusT = false) : Mid T res 1 false [] := by
  have := run_none h h2 h4
  subst this
  exact .inl ⟨rfl, rfl, rfl⟩
theorem mid_read {T : List Tok} {res : Option (List Rg × Nat)} {R : List Rg} {j : Nat} {bad : Bool} (hk : headK T = 1 ∨ headK T = 2) (h : kB 2 (T.drop 1) = true ∨ mkB (T.drop 1) minusT = true)
    (hr : (bad = false ∧ (res.map fun q => (q.1, q.2 + 1)) = some (R, j) ∧ Are R) ∨ (bad = true ∧ ∀ Q k, (res.map fun q => (q.1, q.2 + 1)) = some (Q, k) → ¬ Are Q)) : Mid T res j bad R := by
  rcases hr with ⟨rfl, h1, h2⟩ | ⟨rfl, h1⟩
  · cases res with
    | none => cases h1
    | some q =>
      obtain ⟨Q, k⟩ := q
      cases h1
      exact .inl ⟨rfl, rfl, by show 1 + k = k + 1; omega⟩
  · refine .inr ⟨rfl, fun hg => ?_⟩
    cases res with
    | none =>
      obtain ⟨x, r, hx, hx3⟩ : ∃ x r, T.drop 1 = x :: r ∧ ¬ x.k = 3 := by
        rcases h with h | h
        · obtain ⟨x, r, h3, h4⟩ := kB_inv h; exact ⟨x, r, h3, by omega⟩
        · obtain ⟨x, r, h3, h4⟩ := mkB_inv h; exact ⟨x, r, h3, by omega⟩
      have hl := length_of hx
      have hg1 := hg.1
      rcases hk with hk | hk
      · rw [tyT_1 hk] at hg1
        have : 1 + 0 = T.length := hg1
        omega
      · rw [tyT_2 hk] at hg1
        have : 1 + (0 + txN (textT (T.drop (1 + 0)))) = T.length := hg1
        rw [Nat.add_zero, hx, textT_none hx3] at this
        have h0 : txN none = 0 := rfl
        omega
    | some q =>
      obtain ⟨Q, k⟩ := q
      have hn := areB_no (h1 Q (k + 1) rfl)
      have hg2 := hg.2
      rcases hk with hk | hk
      · rw [tyT_1 hk, isTy_1] at hg2
        rw [show rsL (some (Q, k)) = Q from rfl, hn] at hg2
        simp at hg2
      · rw [tyT_2 hk, isTy_2] at hg2
        rw [show rsL (some (Q, k)) = Q from rfl, hn] at hg2
        simp at hg2
theorem pre_1 {T : List Tok} {res : Option (List Rg × Nat)} {R : List Rg} {j : Nat} {bad : Bool} (hk : headK T = 1) (h : Mid T res j bad R) : Pre T res j bad ⟨1, R, [], ⟨#[]⟩, ⟨#[]⟩⟩ := by
  rcases h with ⟨rfl, rfl, rfl⟩ | h
  · exact .inl ⟨rfl, by rw [tyT_1 hk], by rw [tyT_1 hk]⟩
  · exact .inr h
theorem pre_2n {T : List Tok} {res : Option (List Rg × Nat)} {R : List Rg} {j : Nat} {bad : Bool} (hk : headK T = 2) (h : Mid T res j bad R) (hq : (!bad && kB 3 (T.drop j)) = false) : Pre T res j bad ⟨2, R, [], ⟨#[]⟩, ⟨#[]⟩⟩ := by
  rcases h with ⟨rfl, rfl, rfl⟩ | h
  · have := textT_kind (l := T.drop (1 + rsN res)) (by simpa using hq)
    exact .inl ⟨rfl, by rw [tyT_2 hk, this]; rfl, by rw [tyT_2 hk, this]; rfl⟩
  · exact .inr h
theorem pre_2t {T : List Tok} {res : Option (List Rg × Nat)} {R : List Rg} {j : Nat} {bad : Bool} (hk : headK T = 2) (h : Mid T res j bad R) (hb : bad = false) {x : Tok} {r : List Tok} (hx : T.drop j = x :: r) (hx3 : x.k = 3) : Pre T res (j + 1) (emB x.t) ⟨2, R, [], x.t, ⟨#[]⟩⟩ := by
  subst hb
  rcases h with ⟨_, rfl, rfl⟩ | ⟨h, _⟩
  · cases he : emB x.t with
    | false =>
      have := textT_some (r := r) hx3 (by unfold emB at he; simpa using he)
      rw [← hx] at this
      exact .inl ⟨rfl, by rw [tyT_2 hk, this]; rfl, by rw [tyT_2 hk, this]; show 1 + (rsN res + 1) = _; omega⟩
    | true =>
      refine .inr ⟨rfl, fun hg => ?_⟩
      have := textT_empty (x := x) (r := r) (by unfold emB at he; simpa using he)
      rw [← hx] at this
      have hg1 := hg.1
      rw [tyT_2 hk, this] at hg1
      have h2 : 1 + (rsN res + 0) = T.length := hg1
      have := length_of hx
      omega
  · cases h
theorem pre_4 {T : List Tok} {res : Option (List Rg × Nat)} {k : Nat} (hk : headK T = 4) (h : ∀ j (hj : j < (T.drop 1).length), j < k → (T.drop 1)[j].k = 1) (hle : k ≤ (T.drop 1).length) (hq : kB 1 (T.drop (1 + k)) = false) : Pre T res (1 + k) false ⟨4, [], ((T.drop 1).take k).map (·.t), ⟨#[]⟩, ⟨#[]⟩⟩ := by
  have hn := namesT_take h hle (by
    rcases Nat.lt_or_ge k (T.drop 1).length with hl | hl
    · refine .inr ⟨hl, ?_⟩
      rw [← List.drop_drop, List.drop_eq_getElem_cons hl] at hq
      simpa [kB] using hq
    · exact .inl (by omega))
  refine .inl ⟨rfl, by rw [tyT_4 hk, hn], by rw [tyT_4 hk, hn]; show 1 + (((T.drop 1).take k).map (·.t)).length = _; rw [List.length_map, List.length_take]; omega⟩
theorem pre_5 {T : List Tok} {res : Option (List Rg × Nat)} (hk : headK T = 5) {x : Tok} {r : List Tok} (hx : T.drop 1 = x :: r) (hx3 : x.k = 3) (he : emB x.t = false) : Pre T res 2 false ⟨5, [], [], ⟨#[]⟩, x.t⟩ := by
  have := textT_some (r := r) hx3 (by unfold emB at he; simpa using he)
  rw [← hx] at this
  exact .inl ⟨rfl, by rw [tyT_5 hk, this]; rfl, by rw [tyT_5 hk, this]; rfl⟩
theorem isTy_5e : isTyB ⟨5, [], [], ⟨#[]⟩, ⟨#[]⟩⟩ = false := by rw [isTy_5, show emB (⟨#[]⟩ : ByteArray) = true from rfl]; simp
theorem good_5 {T : List Tok} {res : Option (List Rg × Nat)} (hk : headK T = 5) (h : textT (T.drop 1) = none) : ¬ Good T res := fun hg => by
  have := hg.2
  rw [tyT_5 hk, h] at this
  rw [show txS none = (⟨#[]⟩ : ByteArray) from rfl, isTy_5e] at this
  cases this
theorem text5_cases (T : List Tok) : (kB 3 T = false ∧ textT T = none) ∨ (∃ x r, T = x :: r ∧ x.k = 3 ∧ x.t = ⟨#[]⟩ ∧ textT T = none) ∨ (∃ x r, T = x :: r ∧ x.k = 3 ∧ emB x.t = false) := by
  cases hq : kB 3 T with
  | false => exact .inl ⟨rfl, textT_kind hq⟩
  | true =>
    obtain ⟨x, r, rfl, h3⟩ := kB_inv hq
    rcases em_cases x.t with he | ⟨_, _, _, he⟩
    · exact .inr (.inl ⟨x, r, rfl, h3, he, textT_empty (by rw [he]; rfl)⟩)
    · exact .inr (.inr ⟨x, r, rfl, h3, he⟩)
theorem pre_3 {T : List Tok} {res : Option (List Rg × Nat)} (hk : headK T = 3) : Pre T res 1 false ⟨3, [], [], ⟨#[]⟩, ⟨#[]⟩⟩ := .inl ⟨rfl, by rw [tyT_3 hk], by rw [tyT_3 hk]⟩
theorem pre_6 {T : List Tok} {res : Option (List Rg × Nat)} (hk : headK T = 6) : Pre T res 1 false ⟨6, [], [], ⟨#[]⟩, ⟨#[]⟩⟩ := .inl ⟨rfl, by rw [tyT_6 hk], by rw [tyT_6 hk]⟩
/-- the six words -/
theorem head_cases (T : List Tok) : (kB 1 T = false ∧ headK T = 0) ∨ ∃ x r, T = x :: r ∧ x.k = 1 ∧ (
    (x.t = ⟨#[105, 110, 116]⟩ ∧ headK T = 1) ∨ (x.t = ⟨#[116, 101, 120, 116]⟩ ∧ headK T = 2) ∨ (x.t = ⟨#[98, 111, 111, 108]⟩ ∧ headK T = 3) ∨ (x.t = ⟨#[101, 110, 117, 109]⟩ ∧ headK T = 4) ∨ (x.t = ⟨#[114, 101, 102]⟩ ∧ headK T = 5) ∨ (x.t = ⟨#[102, 108, 97, 103]⟩ ∧ headK T = 6) ∨
    ((x.t ≠ ⟨#[105, 110, 116]⟩ ∧ x.t ≠ ⟨#[116, 101, 120, 116]⟩ ∧ x.t ≠ ⟨#[98, 111, 111, 108]⟩ ∧ x.t ≠ ⟨#[101, 110, 117, 109]⟩ ∧ x.t ≠ ⟨#[114, 101, 102]⟩ ∧ x.t ≠ ⟨#[102, 108, 97, 103]⟩) ∧ headK T = 0)) := by
  cases T with
  | nil => exact .inl ⟨rfl, rfl⟩
  | cons x r =>
    by_cases hk : x.k = 1
    · refine .inr ⟨x, r, rfl, hk, ?_⟩
      rw [show headK (x :: r) = wordK x.t from if_pos hk]
      unfold wordK
      by_cases h1 : x.t = ⟨#[105, 110, 116]⟩
      · exact .inl ⟨h1, if_pos h1⟩
      by_cases h2 : x.t = ⟨#[116, 101, 120, 116]⟩
      · rw [if_neg h1]; exact .inr (.inl ⟨h2, if_pos h2⟩)
      by_cases h3 : x.t = ⟨#[98, 111, 111, 108]⟩
      · rw [if_neg h1, if_neg h2]; exact .inr (.inr (.inl ⟨h3, if_pos h3⟩))
      by_cases h4 : x.t = ⟨#[101, 110, 117, 109]⟩
      · rw [if_neg h1, if_neg h2, if_neg h3]; exact .inr (.inr (.inr (.inl ⟨h4, if_pos h4⟩)))
      by_cases h5 : x.t = ⟨#[114, 101, 102]⟩
      · rw [if_neg h1, if_neg h2, if_neg h3, if_neg h4]; exact .inr (.inr (.inr (.inr (.inl ⟨h5, if_pos h5⟩))))
      by_cases h6 : x.t = ⟨#[102, 108, 97, 103]⟩
      · rw [if_neg h1, if_neg h2, if_neg h3, if_neg h4, if_neg h5]; exact .inr (.inr (.inr (.inr (.inr (.inl ⟨h6, if_pos h6⟩)))))
      · rw [if_neg h1, if_neg h2, if_neg h3, if_neg h4, if_neg h5, if_neg h6]; exact .inr (.inr (.inr (.inr (.inr (.inr ⟨⟨h1, h2, h3, h4, h5, h6⟩, rfl⟩)))))
    · exact .inl ⟨by simp [kB, hk], if_neg hk⟩
theorem str_neb {s x : ByteArray} (h : s ≠ x) : (s.toList == x.toList) = false := by
  simp only [beq_eq_false_iff_ne, ne_eq]
  intro e; exact h (by rw [ByteArray.toList_eq, ByteArray.toList_eq] at e; apply ByteArray.ext; exact Array.toList_inj.1 e)
theorem str_neb3 {s x : ByteArray} {l : List UInt8} (h : s ≠ x) (hl : x.toList = l) : (s.toList == l) = false := by rw [← hl]; exact str_neb h
/-- the state of l6Type: the parser, the result's box, the type's box -/
structure Rt (W0 : World) (B b : Nat) (A : Option Addr) (n cap : Nat) (T : List Tok) (i : Nat) (bad : Bool) (k : Int) (vr vn : Value) (pt ph : ByteArray) (rg : List Rg) (nm : List ByteArray) (w : World) : Prop where
  P : Par B b A n cap T i bad w
  G : W0.grownBy w (some b)
  bl : b < W0.heap.size
  Z : TyBox w W0.heap.size 0 (.slice none 0 0) (.slice none 0 0) ⟨#[]⟩ ⟨#[]⟩
  X : TyBox w (W0.heap.size + 1) k vr vn pt ph
  R : RowG (W0.heap.size + 2) w vr rg
  N : Row (W0.heap.size + 2) w vn nm
section
variable {W0 w1 w2 : World} {B b n cap i i' : Nat} {A : Option Addr} {T : List Tok} {bad bad' : Bool} {k : Int} {vr vn : Value} {pt ph : ByteArray} {rg : List Rg} {nm : List ByteArray}
theorem Rt.step (h : Rt W0 B b A n cap T i bad k vr vn pt ph rg nm w1) (hP : Par B b A n cap T i' bad' w2) (hG : w1.grownBy w2 (some b)) : Rt W0 B b A n cap T i' bad' k vr vn pt ph rg nm w2 := by
  have hb := h.bl
  refine ⟨hP, grown_trans h.G hG, hb, TyBox.grown h.Z hG (by omega), TyBox.grown h.X hG (by omega), rowR_frame h.R fun j hj => ?_, row_frame h.N fun j hj => ?_⟩
  · have hl := RowR.lt h.R hj
    exact hG.block j hl.2 (fun e => by have := Option.some.inj e; omega)
  · have hl := h.N.lt hj
    exact hG.block j hl.2 (fun e => by have := Option.some.inj e; omega)
theorem Rt.below (h : Rt W0 B b A n cap T i bad k vr vn pt ph rg nm w1) (hb : Below w1.heap.size w1 w2) : Rt W0 B b A n cap T i bad k vr vn pt ph rg nm w2 := h.step (h.P.below hb) (below_grown hb)
theorem Rt.drewN (h : Rt W0 B b A n cap T i bad k vr vn pt ph rg nm w1) (q : Nat) : Rt W0 B b A n cap T i bad k vr vn pt ph rg nm (w1.drewN q) := h.below (below_drewN (Below.refl _ _) q)
theorem Rt.setBad (h : Rt W0 B b A n cap T i bad k vr vn pt ph rg nm w1) (z : Bool) : Rt W0 B b A n cap T i z k vr vn pt ph rg nm (w1.setCell ⟨b, 2, none⟩ (.bool z)) := h.step (h.P.setBadV z) (grownBy_set _ _ _ _)
theorem Rt.lt (h : Rt W0 B b A n cap T i bad k vr vn pt ph rg nm w1) : W0.heap.size + 1 < w1.heap.size := h.X.lt
/-- a store to the type's box -/
theorem put_parts {k' : Int} {vr' vn' : Value} {pt' ph' : ByteArray} {rg' : List Rg} {nm' : List ByteArray} (P : Par B b A n cap T i bad w1) (G : W0.grownBy w1 (some b)) (bl : b < W0.heap.size) (Z : TyBox w1 W0.heap.size 0 (.slice none 0 0) (.slice none 0 0) ⟨#[]⟩ ⟨#[]⟩) (X : TyBox w1 (W0.heap.size + 1) k vr vn pt ph) (j : Nat) (u : Value) (hX : #[.int .i64 k, vr, vn, .string pt, .string ph].setIfInBounds j u = #[.int .i64 k', vr', vn', .string pt', .string ph']) (hR : RowG (W0.heap.size + 2) w1 vr' rg') (hN : Row (W0.heap.size + 2) w1 vn' nm') :
    Rt W0 B b A n cap T i bad k' vr' vn' pt' ph' rg' nm' (w1.setCell ⟨W0.heap.size + 1, j, none⟩ u) := by
  have hg := grownBy_set w1 (W0.heap.size + 1) j u
  refine ⟨P.other hg (by omega), grown_far G hg (by omega), bl, TyBox.set Z (by omega), ?_, rowR_frame hR fun q hq => ?_, row_frame hN fun q hq => ?_⟩
  · have := set5 X j u
    rw [hX] at this
    exact this
  · have hl := RowR.lt hR hq
    exact Below.heap_setCell w1 _ u q (by show q ≠ W0.heap.size + 1; omega)
  · have hl := hN.lt hq
    exact Below.heap_setCell w1 _ u q (by show q ≠ W0.heap.size + 1; omega)
theorem Rt.put {k' : Int} {vr' vn' : Value} {pt' ph' : ByteArray} {rg' : List Rg} {nm' : List ByteArray} (h : Rt W0 B b A n cap T i bad k vr vn pt ph rg nm w1) (j : Nat) (u : Value) (hX : #[.int .i64 k, vr, vn, .string pt, .string ph].setIfInBounds j u = #[.int .i64 k', vr', vn', .string pt', .string ph']) (hR : RowG (W0.heap.size + 2) w1 vr' rg') (hN : Row (W0.heap.size + 2) w1 vn' nm') :
    Rt W0 B b A n cap T i bad k' vr' vn' pt' ph' rg' nm' (w1.setCell ⟨W0.heap.size + 1, j, none⟩ u) := put_parts h.P h.G h.bl h.Z h.X j u hX hR hN
/-- one name more: what the append leaves, and the store behind it -/
theorem Rt.snoc {vn' : Value} {nm' : List ByteArray} (h : Rt W0 B b A n cap T i bad k (.slice none 0 0) vn pt ph [] nm w1) (o : Obj) (hg : (w1.alloc o).grownBy w2 vn.ownBlock) (hN : Row (W0.heap.size + 2) w2 vn' nm') :
    (TyBox w2 (W0.heap.size + 1) k (.slice none 0 0) vn pt ph) ∧ Rt W0 B b A n cap T i bad k (.slice none 0 0) vn' pt ph [] nm' (w2.setCell ⟨W0.heap.size + 1, 2, none⟩ vn') := by
  have hb := h.bl
  have h' := h.below (below_al (Below.refl _ _) o)
  obtain ⟨g, hg', hge⟩ : ∃ g, (w1.alloc o).grownBy w2 (some g) ∧ W0.heap.size + 2 ≤ g := by
    cases ho : vn.ownBlock with
    | none =>
      rw [ho] at hg
      exact ⟨W0.heap.size + 2, ⟨hg.os, hg.tape, hg.output, hg.size, fun q hq _ => hg.block q hq (by simp)⟩, Nat.le_refl _⟩
    | some g => rw [ho] at hg; exact ⟨g, hg, (h.N.lt ho).1⟩
  have X := TyBox.grown h'.X hg' (by omega)
  exact ⟨X, put_parts (h'.P.other hg' (by omega)) (grown_far h'.G hg' (by omega)) hb (TyBox.grown h'.Z hg' (by omega)) X 2 vn' rfl (rowG_nil _ _) hN⟩
theorem Rt.done (h : Rt W0 B b A n cap T i bad k vr vn pt ph rg nm w1) (hne : ∀ j, vr.ownBlock = some j → vn.ownBlock ≠ some j) (u0 u1 u2 u3 u4 : Value) :
    OwnTy W0.heap.size (((((w1.setCell ⟨W0.heap.size, 0, none⟩ u0).setCell ⟨W0.heap.size, 1, none⟩ u1).setCell ⟨W0.heap.size, 2, none⟩ u2).setCell ⟨W0.heap.size, 3, none⟩ u3).setCell ⟨W0.heap.size, 4, none⟩ u4) ⟨k, vr, vn, pt, ph⟩ ⟨k, rg, nm, pt, ph⟩ ∧
    Par B b A n cap T i bad (((((w1.setCell ⟨W0.heap.size, 0, none⟩ u0).setCell ⟨W0.heap.size, 1, none⟩ u1).setCell ⟨W0.heap.size, 2, none⟩ u2).setCell ⟨W0.heap.size, 3, none⟩ u3).setCell ⟨W0.heap.size, 4, none⟩ u4) ∧
    W0.grownBy (((((w1.setCell ⟨W0.heap.size, 0, none⟩ u0).setCell ⟨W0.heap.size, 1, none⟩ u1).setCell ⟨W0.heap.size, 2, none⟩ u2).setCell ⟨W0.heap.size, 3, none⟩ u3).setCell ⟨W0.heap.size, 4, none⟩ u4) (some b) := by
  have hb := h.bl
  refine ⟨(OwnTy.set5 (ownTy_mk h.R h.N hne) (by omega)).mono (by omega), ?_, ?_⟩
  · exact ((((h.P.other (grownBy_set _ _ _ _) hb).other (grownBy_set _ _ _ _) hb).other (grownBy_set _ _ _ _) hb).other (grownBy_set _ _ _ _) hb).other (grownBy_set _ _ _ _) hb
  · exact grown_far (grown_far (grown_far (grown_far (grown_far h.G (grownBy_set _ _ _ _) (Nat.le_refl _)) (grownBy_set _ _ _ _) (Nat.le_refl _)) (grownBy_set _ _ _ _) (Nat.le_refl _)) (grownBy_set _ _ _ _) (Nat.le_refl _)) (grownBy_set _ _ _ _) (Nat.le_refl _)
theorem Rt.own (h : Rt W0 B b A n cap T i bad k vr vn pt ph rg nm w1) (hne : ∀ j, vr.ownBlock = some j → vn.ownBlock ≠ some j) : OwnTy (W0.heap.size + 2) w1 ⟨k, vr, vn, pt, ph⟩ ⟨k, rg, nm, pt, ph⟩ := ownTy_mk h.R h.N hne
end
theorem rt_start {W0 : World} {B b n cap i : Nat} {A : Option Addr} {T : List Tok} {bad : Bool} (h : Par B b A n cap T i bad W0) :
    Rt W0 B b A n cap T i bad 0 (.slice none 0 0) (.slice none 0 0) ⟨#[]⟩ ⟨#[]⟩ [] [] ((W0.alloc (.cells #[.int .i64 0, .slice none 0 0, .slice none 0 0, .string ⟨#[]⟩, .string ⟨#[]⟩] 30)).alloc (.cells #[.int .i64 0, .slice none 0 0, .slice none 0 0, .string ⟨#[]⟩, .string ⟨#[]⟩] 30)) := by
  have hb := below_al (below_al (Below.refl W0.heap.size W0) (.cells #[.int .i64 0, .slice none 0 0, .slice none 0 0, .string ⟨#[]⟩, .string ⟨#[]⟩] 30)) (.cells #[.int .i64 0, .slice none 0 0, .slice none 0 0, .string ⟨#[]⟩, .string ⟨#[]⟩] 30)
  exact ⟨h.below hb, below_grown hb, h.hi, ((below_al (Below.refl _ _) _).block _ (by simp)).trans (heap_alloc_new W0 _), heap_alloc_new' _ _ (by simp), rowG_nil _ _, row_nil _ _⟩
theorem results_ty1 {P : Program} {fn : Func} {p : Tmp} {ty : TypeId} (h : fn.results = #[.cell p ty]) (tmps : Array Value) (w : World) (a : Addr) (v : Value) (hp : tmps.getD p undef = .pointer (some a)) (hl : (loadVar ty a).run P w = .ok v w) :
    (results fn tmps).run P w = .ok v w := by
  have hp' : tmps[p]?.getD undef = .pointer (some a) := by simpa using hp
  simp only [results, h]
  simp [Sem.run_bind, Result.andThen, hp', asAddr, hl]
/-- 'own = append(own, x)' of a text at a step of a region that draws its order; own may be nil -/
theorem step_str_append {w : World} {ops : Array Oper} {o : Oper} {a : Act} {K : Act → World → Prop} {Q : Exit → Act → World → Prop} {E : Prop} (hgd : o.guard = none) (s x : Operand)
    (ho : o.op = .call { callee := .builtin .append, args := #[s, x], argTypes := #[23, 23] })
    (B n : Nat) (v : Value) (L : List ByteArray) (hs : a.eval s = v) (hrow : Row B w v L) (hn : n = L.length)
    (y : ByteArray) (ad : Addr) (c' : Nat) (hx : a.eval x = .slice (some ad) 1 c') (hnews : ∀ j u, [Value.string y][j]? = some u → w.cell? (ad.add j) = some u)
    (hlen : n + 1 ≤ 549755813888) (hbase : B ≤ w.heap.size) (q : Nat) (hq : q = n + 1)
    (h : ∀ g' c'' w', Row B w' (.slice (some ⟨g', 0, none⟩) q c'') (L ++ [y]) → w.grownBy w' v.ownBlock → K (a.put o.dst (.slice (some ⟨g', 0, none⟩) q c'')) w') :
    if Region.wanted o (yielded ops a.tmps) = true then Oper.wp Tryz.prog o a w K Q else E := by
  have hw : Region.wanted o (yielded ops a.tmps) = true := by simp [Region.wanted, hgd]
  rw [if_pos hw]
  obtain ⟨i0, hi, hz0, hz1, hz2⟩ := info_parts infoStr
  subst hq hn
  obtain ⟨v', w', hr, h2, h3, h4, h5⟩ := run_append_own_at (P := Tryz.prog) w B 23 o.type 9 i0 (.string ⟨#[]⟩) 1 16 Tryz.underlying23 hi hz0 hz1 hz2 rfl (by decide) v L.length (L.map Value.string) hrow ad 1 c' [.string y] rfl hnews (by simp [Value.oneCell']) (by unfold maxLen; omega) (by omega) hbase
  unfold Oper.wp execOp
  simp only [ho, resolve, invoke, builtin, Sem.run_bind, Sem.run_pure, Result.andThen_ok, List.map_toArray, List.map_cons, List.map_nil, hs, hx, hr]
  rcases h2.2 with ⟨_, h6⟩ | ⟨g', cap', cur, h6, _⟩
  · omega
  · subst h6
    refine h g' cap' w' ?_ h3
    unfold Row
    rw [List.length_append, List.map_append]
    exact h2
theorem news_str (w : World) (y : ByteArray) (t : TypeId) : ∀ j u, [Value.string y][j]? = some u → (w.alloc (.cells #[.string y] t)).cell? ((⟨w.heap.size, 0, none⟩ : Addr).add j) = some u := World.news_of_block (heap_alloc_new w _)
end Go.Proofs.YtkifdbeklagelaaGreatDoor
