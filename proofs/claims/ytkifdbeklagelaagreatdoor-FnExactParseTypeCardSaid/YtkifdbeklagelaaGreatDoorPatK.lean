/- MERGED for a claim: PatI PatB PatJ PatK. -/
import Derived.Test.YtkifdbeklagelaaGreatDoorPatP
import Derived.Test.YtkifdbeklagelaaGreatDoorNameB
import Derived.Maps.AppendAt
import Derived.Test.YtkifdbeklagelaaGreatDoorBuf
import Derived.Deep.RegionHeld3
import Derived.Deep.QuietTactic
import Derived.BigQuiet
import Derived.Lib.Strings
set_option linter.unusedVariables false
set_option linter.unusedSimpArgs false
/- CHAPTER 5: impl's joinPats, readRepeat, readInner, readAtom, readSeq, readAlt (the class is asked for as a premise). -/
namespace Go.Proofs.YtkifdbeklagelaaGreatDoor
open Go.RowKit

theorem infoPat : (Tryz.prog.info? 124).map (fun i => (i.zero, i.size, i.bytes)) = some (some (.agg #[.int .i64 0, .string ⟨#[]⟩, .slice none 0 0]), 3, 48) := by kernel_rfl
abbrev RowP (B : Nat) (w : World) (v : Value) (R : List PatR) : Prop := RowR PatR.enc 3 124 B w v R
/-- 'own = append(own, x)' of a pattern that lies in the block that the statement has just laid -/
theorem wpList_pat_append {ops : Array Oper} {rest : List Oper} {o : Oper} {a : Act} {Q : Exit → Act → World → Prop} {w : World} (hgd : o.guard = none) (s x : Operand)
    (ho : o.op = .call { callee := .builtin .append, args := #[s, x], argTypes := #[122, 122] })
    (B g n c : Nat) (L : List PatR) (hs : a.eval s = .slice (some ⟨g, 0, none⟩) n c) (hrow : RowP B w (.slice (some ⟨g, 0, none⟩) n c) L)
    (yo : Int) (yt : ByteArray) (ya : Option Addr) (yn yc : Nat) (b : Nat) (hx : a.eval x = .slice (some ⟨b, 0, none⟩) 1 1) (hb : b = w.heap.size) (hlen : n + 1 ≤ 1048576) (hbase : B ≤ w.heap.size) (q : Nat) (hq : q = n + 1)
    (h : ∀ g' c'' w', RowP B w' (.slice (some ⟨g', 0, none⟩) q c'') (L ++ [⟨yo, yt, .slice ya yn yc⟩]) → (w.alloc (.cells #[.int .i64 yo, .string yt, .slice ya yn yc] 124)).grownBy w' (some g) → (g' = g ∨ w.heap.size < g') → wpList Tryz.prog ops Q rest (a.put o.dst (.slice (some ⟨g', 0, none⟩) q c'')) w') :
    wpList Tryz.prog ops Q (o :: rest) a (w.alloc (.cells #[.int .i64 yo, .string yt, .slice ya yn yc] 124)) := by
  obtain ⟨i0, hi, hz0, hz1, hz2⟩ := info_parts infoPat
  have hnL := RowR.cap' hrow
  subst hq
  subst hnL
  subst hb
  refine wpList_append_own_at _ hgd s x 122 ho B 124 i0 (.agg #[.int .i64 0, .string ⟨#[]⟩, .slice none 0 0]) 3 48 Tryz.underlying122 hi hz0 hz1 hz2 rfl (by decide) _ L.length (L.flatMap PatR.enc) hs (RowR.alloc hrow _) ⟨w.heap.size, 0, none⟩ 1 1 [.int .i64 yo, .string yt, .slice ya yn yc] hx rfl (World.news_of_block (heap_alloc_new w _)) (by simp [Value.oneCell']) (by unfold maxLen; omega) (by omega) (Nat.le_trans hbase ((Below.refl 0 w).alloc (Nat.zero_le _) _).size) ?_
  intro v' w' h2 h3 h4 h6
  rcases h2.2 with ⟨h5, _⟩ | ⟨g', cap', cur, h5, _⟩
  · exact absurd (h4.1 h5).1 (by simp)
  · subst h5
    refine h g' cap' w' ?_ h3 ?_
    · unfold RowP RowR
      rw [List.length_append, List.flatMap_append, List.flatMap_singleton]
      exact h2
    · rcases h6 with h6 | h6
      · exact .inl (Option.some.inj h6)
      · have h7 : g' = (w.alloc (.cells #[.int .i64 yo, .string yt, .slice ya yn yc] 124)).heap.size := Option.some.inj h6
        exact .inr (by rw [h7]; simp)
/-- a struct variable of three cells, behind calls that leave it alone -/
theorem box3p {w w1 : World} {v0 v1 v2 : Value} {t : TypeId} (h : Below (w.alloc (.cells #[v0, v1, v2] t)).heap.size (w.alloc (.cells #[v0, v1, v2] t)) w1) :
    (w1.cell? ⟨w.heap.size, 0, none⟩ = some v0 ∧ w1.cell? ⟨w.heap.size, 1, none⟩ = some v1 ∧ w1.cell? ⟨w.heap.size, 2, none⟩ = some v2) ∧ (w1.frozen? ⟨w.heap.size, 0, none⟩ = false ∧ w1.frozen? ⟨w.heap.size, 1, none⟩ = false ∧ w1.frozen? ⟨w.heap.size, 2, none⟩ = false) ∧ w.heap.size < w1.heap.size := by
  have hl : w.heap.size < (w.alloc (.cells #[v0, v1, v2] t)).heap.size := by simp
  have hb : w1.heap[w.heap.size]? = some (.cells #[v0, v1, v2] t (0, 0)) := (h.block _ hl).trans (heap_alloc_new w _)
  refine ⟨⟨?_, ?_, ?_⟩, ⟨?_, ?_, ?_⟩, Nat.lt_of_lt_of_le hl h.size⟩
  · rw [cell_of_row _ w.heap.size 0 _ _ _ hb]; rfl
  · rw [cell_of_row _ w.heap.size 1 _ _ _ hb]; rfl
  · rw [cell_of_row _ w.heap.size 2 _ _ _ hb]; rfl
  all_goals simp [World.frozen?, hb]
theorem OwP.parts {d B : Nat} {w : World} {v : Value} {l : List Pat} {S : Nat → Prop} (h : OwL patK (d + 1) B w v l S) : ∃ (R : List PatR) (K : Nat → Nat → Prop), RowP B w v R ∧ R.length = l.length ∧ (∀ i (h : i < R.length) (h' : i < l.length), OwN patK d B w (R[i] : PatR) l[i] (K i)) ∧
      (∀ i j b, i < R.length → j < R.length → K i b → K j b → i = j) ∧ (∀ i b, i < R.length → K i b → v.ownBlock ≠ some b) ∧ ∀ b, S b ↔ v.ownBlock = some b ∨ ∃ i, i < R.length ∧ K i b := h.parts
/-- a record that holds a tree is what the tree says, and a slice -/
theorem OwN.slice {d B : Nat} {w : World} {x : PatR} {t : Pat} {S : Nat → Prop} (h : OwN patK d B w x t S) : ∃ A c, x = ⟨t.x.op, t.x.text, .slice A t.kids.length c⟩ := by
  obtain ⟨⟨h1, h2⟩, h3⟩ := h.rd
  obtain ⟨A, c, h4⟩ := h3.form
  obtain ⟨xo, xt, xk⟩ := x
  have h1' : xo = t.x.op := h1
  have h2' : xt = t.x.text := h2
  have h4' : xk = .slice A t.kids.length c := h4
  exact ⟨A, c, by rw [h1', h2', h4']⟩
theorem owN_of {d B : Nat} {w : World} {op : Int} {text : ByteArray} {v : Value} {l : List Pat} {S : Nat → Prop} (h : OwL patK d B w v l S) : OwN patK d B w ⟨op, text, v⟩ (.mk ⟨op, text⟩ l) S :=
  ⟨fun _ => False, S, ⟨⟨rfl, rfl⟩, fun _ => id⟩, h, fun _ => False.elim, fun b => by simp⟩
theorem join_op (op : Int) {l : List Pat} (h : l.length ≠ 1) : joinP op l = opP op l := by
  match l, h with
  | [], _ => rfl
  | [_], h => exact absurd rfl h
  | _ :: _ :: _, _ => rfl
def NodeOut (d B : Nat) (t : Pat) (S : Nat → Prop) (w : World) (e : Ending) (w' : World) : Prop :=
  ∃ (A : Option Addr) (c : Nat) (S' : Nat → Prop), e = .returned (.agg #[.int .i64 t.x.op, .string t.x.text, .slice A t.kids.length c]) ∧ OwN patK d B w' ⟨t.x.op, t.x.text, .slice A t.kids.length c⟩ t S' ∧ (∀ b, S' b → S b) ∧ Below w.heap.size w w'
set_option maxRecDepth 100000 in
set_option maxHeartbeats 1000000 in
theorem iJoin_one (d B : Nat) (op : Int) (A : Option Addr) (c : Nat) (t : Pat) (S : Nat → Prop) (w : World) (h : OwL patK (d + 1) B w (.slice A 1 c) [t] S) :
    Calls Tryz.prog 188 #[.int .i64 op, .slice A 1 c] w (NodeOut d B t S w) := by
  rcases h.form with ⟨_, h0⟩ | ⟨g, cap, hv, hgB, hg⟩
  · cases h0
  · injection hv with e1 e2 e3
    subst e1; subst e3; clear e2
    obtain ⟨R, K, h1, h2, h3, h4, h5, h6⟩ := OwP.parts h
    have hR : 0 < R.length := by rw [h2]; simp
    have hn := h3 0 hR (by simp)
    obtain ⟨Ak, ck, hx⟩ := hn.slice
    have hz : ∀ r : PatR, r.enc.length = 3 := fun _ => rfl
    have c0 : w.cell? ⟨g, 0, none⟩ = some (.int .i64 t.x.op) := by have := RowR.cell hz h1 hR (j := 0) (x := .int .i64 t.x.op) (by rw [hx]; rfl); simpa using this
    have c1 : w.cell? ⟨g, 1, none⟩ = some (.string t.x.text) := by have := RowR.cell hz h1 hR (j := 1) (x := .string t.x.text) (by rw [hx]; rfl); simpa using this
    have c2 : w.cell? ⟨g, 2, none⟩ = some (.slice Ak t.kids.length ck) := by have := RowR.cell hz h1 hR (j := 2) (x := .slice Ak t.kids.length ck) (by rw [hx]; rfl); simpa using this
    rw [hx] at hn
    have hn' : OwN patK d B w ⟨t.x.op, t.x.text, .slice Ak t.kids.length ck⟩ t (K 0) := hn
    have HN := Lib.hid hn'
    have HS : Hid (∀ b, K 0 b → S b) := Lib.hid fun b hb => (h6 b).2 (.inr ⟨0, hR, hb⟩)
    clear hn hn' h h1 h2 h3 h4 h5 h6 hx hz hR hgB
    go_enter Tryz.func188, Tryz.ntmps188
    go_wp2
    refine bodyPost_ret (v := .agg #[.int .i64 t.x.op, .string t.x.text, .slice Ak t.kids.length ck]) (by simp [results, Tryz.results188, go_sem]) rfl ?_
    exact ⟨Ak, ck, K 0, rfl, HN.out.below (below_al (Below.refl _ _) _), HS.out, below_al (Below.refl _ _) _⟩
set_option maxRecDepth 100000 in
set_option maxHeartbeats 1000000 in
theorem iJoin_op (d B : Nat) (op : Int) (A : Option Addr) (c : Nat) (l : List Pat) (S : Nat → Prop) (w : World) (h : OwL patK d B w (.slice A l.length c) l S) (h1 : l.length ≠ 1) :
    Calls Tryz.prog 188 #[.int .i64 op, .slice A l.length c] w (NodeOut d B (opP op l) S w) := by
  have HO : Hid (∀ w', Below w.heap.size w w' → OwN patK d B w' ⟨op, ⟨#[]⟩, .slice A l.length c⟩ (opP op l) S) := Lib.hid fun w' hb => owN_of (h.below hb)
  have hn1 : ((l.length : Int) == 1) = false := by simp only [beq_eq_false_iff_ne, ne_eq]; omega
  have H1 := Lib.hid h1
  clear h h1
  go_enter Tryz.func188, Tryz.ntmps188
  go_wp2
  refine bodyPost_ret (v := .agg #[.int .i64 op, .string ⟨#[]⟩, .slice A l.length c]) (by simp [results, Tryz.results188, go_sem]) rfl ?_
  exact ⟨A, c, S, rfl, HO.out _ (below_al (Below.refl _ _) _), fun _ => id, below_al (Below.refl _ _) _⟩
theorem iJoin_any (d B : Nat) (op : Int) (v : Value) (l : List Pat) (S : Nat → Prop) (w : World) (h : OwL patK (d + 1) B w v l S) :
    Calls Tryz.prog 188 #[.int .i64 op, v] w (NodeOut (d + 1) B (joinP op l) S w) := by
  have hf : ∃ A c, v = .slice A l.length c := h.rd.form
  obtain ⟨A, c, rfl⟩ := hf
  by_cases h1 : l.length = 1
  · match l, h1, h with
    | [t], _, h =>
      refine (iJoin_one d B op A c t S w h).mono ?_
      rintro e w' ⟨A', c', S', h2, h3, h4⟩
      exact ⟨A', c', S', h2, h3.to (Nat.le_succ d), h4⟩
  · rw [join_op op h1]
    exact iJoin_op (d + 1) B op A c l S w h h1
end Go.Proofs.YtkifdbeklagelaaGreatDoor

/- CHAPTER 5: impl's isPatternChar, bytesBetween, readSpan. -/
namespace Go.Proofs.YtkifdbeklagelaaGreatDoor
open Go.RowKit

theorem betw_length (a b : UInt8) : (betw a b).length = b.toNat - a.toNat + 1 := by simp [betw]
theorem betw_take {a b : UInt8} {k : Nat} (hk : k < b.toNat - a.toNat + 1) : (betw a b).take (k + 1) = (betw a b).take k ++ [UInt8.ofNat (a.toNat + k)] := by
  rw [List.take_succ_eq_append_getElem (by rw [betw_length]; exact hk)]
  simp [betw]
theorem any_betw : betw 32 126 = anyL := by decide
set_option maxRecDepth 100000 in
theorem iPc_any (c : UInt8) (w : World) : Calls Tryz.prog 212 #[.int .u8 c.toNat] w fun e w' => e = .returned (.bool (pcB c)) ∧ w = w' := by
  unfold pcB
  cases h : nbB c
  · have HB := Lib.hid h
    clear h
    by_cases h1 : c = 95
    · have h1' : ((c.toNat : Int) == 95) = true := by rw [h1]; rfl
      have e : (c == 95) = true := by rw [h1]; rfl
      rw [e]
      clear e h1
      go_enter Tryz.func212, Tryz.ntmps212
      go_wp2_with (go_at_call 135; ((with_reducible refine (iNb_any _ _).mono ?_); rw [HB.out]; rintro e w' ⟨rfl, rfl⟩))
      go_ret
      exact ⟨rfl, rfl⟩
    · have h1' : ((c.toNat : Int) == 95) = false := byte_ne (d := 95) h1
      have e : (c == 95) = false := beq_eq_false_iff_ne.2 h1
      rw [e]
      clear e h1
      have h2 : ((c.toNat : Int) == 46) = (c == 46) := byte_beq c 46
      have H2 := Lib.hid h2
      clear h2
      go_enter Tryz.func212, Tryz.ntmps212
      go_wp2_with (go_at_call 135; ((with_reducible refine (iNb_any _ _).mono ?_); rw [HB.out]; rintro e w' ⟨rfl, rfl⟩))
      go_ret
      exact ⟨ret_bool (by rw [H2.out]; rfl), rfl⟩
  · have HB := Lib.hid h
    clear h
    go_enter Tryz.func212, Tryz.ntmps212
    go_wp2_with (go_at_call 135; ((with_reducible refine (iNb_any _ _).mono ?_); rw [HB.out]; rintro e w' ⟨rfl, rfl⟩))
    go_ret
    exact ⟨rfl, rfl⟩
set_option maxRecDepth 100000 in
set_option maxHeartbeats 1000000 in
theorem iBetw_any (a b : UInt8) (hab : a.toNat ≤ b.toNat) (w : World) :
    Calls Tryz.prog 208 #[.int .u8 a.toNat, .int .u8 b.toNat] w fun e w' => ∃ v, e = .returned v ∧ Buf w.heap.size v (betw a b) w w' := by
  have ha := a.toNat_lt
  have hb := b.toNat_lt
  obtain ⟨x, hx⟩ : ∃ x, x = a.toNat := ⟨_, rfl⟩
  obtain ⟨y, hy⟩ : ∃ y, y = b.toNat := ⟨_, rfl⟩
  rw [← hx] at ha hab ⊢
  rw [← hy] at hb hab ⊢
  have hxy : (x : Int) ≤ (y : Int) := by omega
  have hy1 : (y : Int) ≤ 255 := by omega
  have HN : Hid ((betw a b).length = y - x + 1) := Lib.hid (by rw [betw_length, hx, hy])
  have HT : Hid (∀ k, k < y - x + 1 → (betw a b).take (k + 1) = (betw a b).take k ++ [UInt8.ofNat (x + k)]) := Lib.hid fun k hk => by
    rw [betw_take (by rw [← hx, ← hy]; exact hk), hx]
  generalize betw a b = L at HN HT ⊢
  have hb0 : Buf w.heap.size (.slice (some ⟨w.heap.size, 0, none⟩) 0 0) [] w (w.alloc (.cells #[] 5)) := buf_none (Below.refl _ _)
  clear hx hy
  go_enter Tryz.func208, Tryz.ntmps208
  go_wp2
  go_loopw [5, 13] (fun v i wr => ∃ k : Nat, k ≤ y - x + 1 ∧ i = .int .i64 k ∧ Buf w.heap.size v (L.take k) w wr) (fun _ i _ => y - x + 1 - (intOf i).toNat)
  case atStart => exact ⟨0, by omega, rfl, by rw [List.take_zero]; exact hb0⟩
  case round =>
    obtain ⟨k, hk, rfl, hb⟩ := hrel
    clear hb0
    by_cases hlt : k < y - x + 1
    · have hlt2 : (k : Int) < (y : Int) - (x : Int) + 1 := by omega
      have hcv : (((UInt8.ofNat (x + k)).toNat : Nat) : Int) = (x : Int) + (k : Int) := by
        simp only [UInt8.toNat_ofNat']; omega
      have hlen : (L.take k).length ≤ 300 := by rw [List.length_take]; omega
      have HCV := Lib.hid hcv
      have HNX := Lib.hid (HT.out k hlt)
      clear hcv
      go_wp2_with (at_builtin; refine buf_append rfl _ _ rfl _ _ _ rfl _ _ _ hb rfl (UInt8.ofNat (x + k)) (HCV.out) (by omega) ?_; clear hb; intro v1 w1 hb)
      go_roundw
      case rel => exact ⟨k + 1, by omega, by go_num, by rw [HNX.out]; exact hb⟩
      case measure => simp [intOf]; omega
    · have hge : ¬ (k : Int) < (y : Int) - (x : Int) + 1 := by omega
      go_wp2
      go_ret
      rw [List.take_of_length_le (by have := HN.out; omega)] at hb
      exact ⟨_, rfl, hb⟩
theorem spanL_char {c : UInt8} {r : List UInt8} (h : pcB c = false) : spanL (c :: r) = none := by unfold spanL; simp [h]
theorem spanL_one {c : UInt8} (h : pcB c = true) : spanL [c] = some ([c], []) := by unfold spanL; simp [h]
theorem spanL_solo {c t : UInt8} {r : List UInt8} (h : pcB c = true) (h1 : t ≠ 126) : spanL (c :: t :: r) = some ([c], t :: r) := by unfold spanL; simp [h, h1]
theorem spanL_cut {c : UInt8} (h : pcB c = true) : spanL [c, 126] = none := by unfold spanL; simp [h]
theorem spanL_bad {c d : UInt8} {r : List UInt8} (h : pcB c = true) (hd : ¬ (pcB d = true ∧ c.toNat ≤ d.toNat)) : spanL (c :: 126 :: d :: r) = none := by
  show (if pcB c = true then (if (126 : UInt8) = 126 then (if pcB d = true ∧ c.toNat ≤ d.toNat then some (betw c d, r) else none) else some ([c], 126 :: d :: r)) else none) = none
  rw [if_pos h, if_pos rfl, if_neg hd]
theorem spanL_row {c d : UInt8} {r : List UInt8} (h : pcB c = true) (hd : pcB d = true ∧ c.toNat ≤ d.toNat) : spanL (c :: 126 :: d :: r) = some (betw c d, r) := by
  show (if pcB c = true then (if (126 : UInt8) = 126 then (if pcB d = true ∧ c.toNat ≤ d.toNat then some (betw c d, r) else none) else some ([c], 126 :: d :: r)) else none) = some (betw c d, r)
  rw [if_pos h, if_pos rfl, if_pos hd]
theorem data_len1 {s : ByteArray} (h : s.size = 1) : s.data.toList = [s[0]] := by
  rw [data_cons s (by omega), List.drop_eq_nil_of_le (by simp; omega)]
theorem data_two (s : ByteArray) (h : 1 < s.size) : s.data.toList = s[0] :: s[1] :: s.data.toList.drop 2 := by
  rw [data_cons s (by omega), data_drop s 1 h]
  simp
theorem data_three (s : ByteArray) (h : 2 < s.size) : s.data.toList = s[0] :: s[1] :: s[2] :: s.data.toList.drop 3 := by
  rw [data_two s (by omega), data_drop s 2 h]
  simp
theorem Buf.lift {v : Value} {l : List UInt8} {w W w1 : World} (h : Buf W.heap.size v l W w1) (hb : Below w.heap.size w W) : Buf w.heap.size v l w w1 :=
  ⟨⟨h.1.1, by
    rcases h.1.2 with hn | ⟨g, cap, cur, fz, h1, h2, h3⟩
    · exact .inl hn
    · exact .inr ⟨g, cap, cur, fz, h1, Nat.le_trans hb.size h2, h3⟩⟩, below_step hb h.2.1, Nat.le_trans hb.size h.2.2⟩
theorem tup_int {a : Value} {x y : Int} (h : x = y) : Ending.returned (.tuple #[a, .int .i64 x]) = .returned (.tuple #[a, .int .i64 y]) := by rw [h]
/-- the bytes of a span and how many it takes -/
def SpanOut (o : Option (List UInt8 × List UInt8)) (n : Nat) (w : World) (e : Ending) (w' : World) : Prop := match o with
  | none => ∃ v, e = .returned (.tuple #[v, .int .i64 0]) ∧ Buf w.heap.size v [] w w'
  | some (b, r) => ∃ v, e = .returned (.tuple #[v, .int .i64 ((n - r.length : Nat) : Int)]) ∧ Buf w.heap.size v b w w'
theorem iPc_q (c : UInt8) (b : Bool) (h : pcB c = b) (w : World) : Calls Tryz.prog 212 #[.int .u8 c.toNat] w fun e w' => e = .returned (.bool b) ∧ w' = w :=
  (iPc_any c w).mono fun _ _ ⟨he, hw⟩ => ⟨by rw [he, h], hw.symm⟩
set_option maxRecDepth 100000 in
set_option maxHeartbeats 1000000 in
theorem iSpan_any (s : ByteArray) (hs : s.size ≤ 1048576) (w : World) :
    Calls Tryz.prog 209 #[.string s] w (SpanOut (spanL s.data.toList) s.size w) := by
  have hb0 : Buf w.heap.size (.slice (some ⟨w.heap.size, 0, none⟩) 0 0) [] w (w.alloc (.cells #[] 5)) := buf_none (Below.refl _ _)
  by_cases h0 : s.size = 0
  · have he : s.data.toList = [] := by rw [str_empty h0]
    have hem : s.toList.isEmpty = true := by rw [ByteArray.toList_eq, he]; rfl
    have hem2 : s.toList = [] := by rw [ByteArray.toList_eq, he]
    rw [he]
    have HB := Lib.hid hb0
    clear he hb0 h0
    go_enter Tryz.func209, Tryz.ntmps209
    go_wp2
    go_ret2
    exact ⟨_, rfl, HB.out⟩
  · have h0' : 0 < s.size := by omega
    have hne := not_empty h0'
    have hne2 : ¬ s.toList = [] := by rw [ByteArray.toList_eq]; exact data_ne h0'
    have hs9 : s.size ≤ 9223372036854775807 := by omega
    have hx0 : (s[0].toNat : Int) ≤ 255 := by have := s[0].toNat_lt; omega
    have HB := Lib.hid hb0
    clear hb0 h0
    cases h1 : pcB s[0]
    · rw [data_cons s h0', spanL_char h1]
      have H1 := Lib.hid h1
      clear h1
      go_enter Tryz.func209, Tryz.ntmps209
      go_wp2_with (go_at_call 212; ((with_reducible refine (iPc_any _ _).mono ?_); rw [H1.out]; rintro e w' ⟨rfl, rfl⟩))
      go_ret2
      exact ⟨_, rfl, HB.out⟩
    · have H1 := Lib.hid h1
      by_cases h2 : s.size = 1
      · rw [data_len1 h2, spanL_one h1]
        have hq : ((s.size : Int) == 1) = true := by simp; omega
        have HB1 := Lib.hid (buf_one (Below.refl w.heap.size w) s[0] rfl)
        have HL : Hid (s.size = 1) := Lib.hid h2
        clear h1 h2
        go_enter Tryz.func209, Tryz.ntmps209
        go_wp2_with (go_at_call 212; ((with_reducible refine (iPc_any _ _).mono ?_); rw [H1.out]; rintro e w' ⟨rfl, rfl⟩))
        go_ret2
        exact ⟨_, tup_int (by have := HL.out; simp; omega), HB1.out⟩
      · have h3 : 1 < s.size := by omega
        have hq : ((s.size : Int) == 1) = false := by simp only [beq_eq_false_iff_ne, ne_eq]; omega
        have hi1 : (1 : Int) < (s.size : Int) := by omega
        clear h2
        by_cases h4 : s[1] = 126
        · have h4' : ((s[1].toNat : Int) != 126) = false := by rw [h4]; rfl
          by_cases h5 : s.size = 2
          · have hq2 : ((s.size : Int) == 2) = true := by simp; omega
            have he : s.data.toList = [s[0], 126] := by
              rw [data_two s h3, h4, List.drop_eq_nil_of_le (by simp; omega)]
            rw [he, spanL_cut h1]
            have HL := Lib.hid h5
            clear he h1 h4 h5
            go_enter Tryz.func209, Tryz.ntmps209
            go_wp2_with (go_at_call 212; ((with_reducible refine (iPc_any _ _).mono ?_); rw [H1.out]; rintro e w' ⟨rfl, rfl⟩))
            go_quiet (fail)
            go_wp2
            go_ret2
            exact ⟨_, rfl, HB.out.drewN _⟩
          · have h6 : 2 < s.size := by omega
            have hq2 : ((s.size : Int) == 2) = false := by simp only [beq_eq_false_iff_ne, ne_eq]; omega
            have hi2 : (2 : Int) < (s.size : Int) := by omega
            have hd3 : s.data.toList = s[0] :: 126 :: s[2] :: s.data.toList.drop 3 := by rw [data_three s h6, h4]; simp
            have hx2 : (s[2].toNat : Int) ≤ 255 := by have := s[2].toNat_lt; omega
            clear h5
            by_cases h7 : pcB s[2] = true ∧ s[0].toNat ≤ s[2].toNat
            · rw [hd3, spanL_row h1 h7]
              obtain ⟨h8, h9⟩ := h7
              have H8 := Lib.hid h8
              have h9' : ¬ (s[2].toNat : Int) < (s[0].toNat : Int) := by omega
              have hdd : decide ((s[2].toNat : Int) < (s[0].toNat : Int)) = false := by simpa using h9'
              have H9 := Lib.hid h9
              have HL : Hid ((s.size - (s.data.toList.drop 3).length : Nat) = 3) := Lib.hid (by simp; omega)
              clear h1 h4 h8 h9 hd3
              go_enter Tryz.func209, Tryz.ntmps209
              go_wp2_with (go_at_call 212; ((with_reducible refine (iPc_any _ _).mono ?_); rw [H1.out]; rintro e w' ⟨rfl, rfl⟩))
              go_quiet ((go_at_call 212; exact Calls.quiet_of_same (iPc_q _ true H8.out _)))
              go_wp2
              go_region_held3 (fun w' => Below w.heap.size w w') (first | exact (below_drewN (Below.refl _ _) _) | exact (below_drewN (below_drewN (Below.refl _ _) _) _) | exact hbuf2.below | assumption | go_keep) (first | (go_at_call 208; refine (iBetw_any s[0] s[2] H9.out _).mono ?_; rintro e w1 ⟨v, rfl, hbuf⟩; have hbuf2 := Buf.lift hbuf (by assumption : Below w.heap.size w _)))
              all_goals
                go_wp2
                go_ret2
                exact ⟨_, tup_int (by rw [HL.out]; rfl), hbuf2⟩
            · rw [hd3, spanL_bad h1 h7]
              cases h8 : pcB s[2]
              · have H8 := Lib.hid h8
                clear h1 h4 h8 hd3 h7
                go_enter Tryz.func209, Tryz.ntmps209
                go_wp2_with (go_at_call 212; ((with_reducible refine (iPc_any _ _).mono ?_); rw [H1.out]; rintro e w' ⟨rfl, rfl⟩))
                go_quiet ((go_at_call 212; exact Calls.quiet_of_same (iPc_q _ false H8.out _)))
                go_wp2
                go_ret2
                exact ⟨_, rfl, buf_none (below_drewN (Below.refl _ _) _)⟩
              · have h9' : (s[2].toNat : Int) < (s[0].toNat : Int) := by
                  have : ¬ s[0].toNat ≤ s[2].toNat := fun h => h7 ⟨h8, h⟩
                  omega
                have hdd : decide ((s[2].toNat : Int) < (s[0].toNat : Int)) = true := by simpa using h9'
                have H8 := Lib.hid h8
                clear h1 h4 h8 hd3 h7
                go_enter Tryz.func209, Tryz.ntmps209
                go_wp2_with (go_at_call 212; ((with_reducible refine (iPc_any _ _).mono ?_); rw [H1.out]; rintro e w' ⟨rfl, rfl⟩))
                go_quiet ((go_at_call 212; exact Calls.quiet_of_same (iPc_q _ true H8.out _)))
                go_wp2
                go_ret2
                exact ⟨_, rfl, buf_none (below_drewN (Below.refl _ _) _)⟩
        · have h4' : ((s[1].toNat : Int) != 126) = true := by rw [bne, show ((s[1].toNat : Int) == 126) = false from byte_ne (d := 126) h4]; rfl
          rw [data_two s h3, spanL_solo h1 h4]
          have HL : Hid ((s.size - (s[1] :: s.data.toList.drop 2).length : Nat) = 1) := Lib.hid (by simp; omega)
          have HB1 := Lib.hid (buf_one (Below.refl w.heap.size w) s[0] rfl)
          clear h1 h4
          go_enter Tryz.func209, Tryz.ntmps209
          go_wp2_with (go_at_call 212; ((with_reducible refine (iPc_any _ _).mono ?_); rw [H1.out]; rintro e w' ⟨rfl, rfl⟩))
          go_ret2
          exact ⟨_, tup_int (by rw [HL.out]; rfl), HB1.out⟩
end Go.Proofs.YtkifdbeklagelaaGreatDoor

/- CHAPTER 5: impl's readInner, readRepeat, readAtom (the class is asked for as a premise). -/
namespace Go.Proofs.YtkifdbeklagelaaGreatDoor
open Go.RowKit

/-- what a reader hands back: the pattern and how many bytes it takes; the zero pattern and 0 -/
def TreeOut (d : Nat) (o : Option (Pat × List UInt8)) (n : Nat) (w : World) (e : Ending) (w' : World) : Prop := match o with
  | none => e = .returned (.tuple #[.agg #[.int .i64 0, .string ⟨#[]⟩, .slice none 0 0], .int .i64 0]) ∧ Below w.heap.size w w'
  | some (p, r) => ∃ (A : Option Addr) (c : Nat) (S : Nat → Prop), e = .returned (.tuple #[.agg #[.int .i64 p.x.op, .string p.x.text, .slice A p.kids.length c], .int .i64 ((n - r.length : Nat) : Int)]) ∧ OwN patK d w.heap.size w' ⟨p.x.op, p.x.text, .slice A p.kids.length c⟩ p S ∧ Below w.heap.size w w'
def AtomC (n : Nat) : Prop := ∀ (s : ByteArray) (w : World), s.size ≤ n → s.size ≤ 30 → Calls Tryz.prog 205 #[.string s] w (TreeOut (4 * n) (atomF n s.data.toList) s.size w)
def RepC (n : Nat) : Prop := ∀ (s : ByteArray) (w : World), s.size ≤ n → s.size ≤ 30 → Calls Tryz.prog 199 #[.string s] w (TreeOut (4 * n + 2) (repL (atomF n) s.data.toList) s.size w)
def SeqC (n : Nat) : Prop := ∀ (s : ByteArray) (w : World), s.size ≤ n → s.size ≤ 30 → Calls Tryz.prog 187 #[.string s] w (TreeOut (4 * n + 3) (some (seqP (atomF n) s.data.toList)) s.size w)
def AltC (n : Nat) : Prop := ∀ (s : ByteArray) (w : World), s.size ≤ n → s.size ≤ 30 → Calls Tryz.prog 173 #[.string s] w (TreeOut (4 * n + 4) (some (altP (atomF n) s.data.toList)) s.size w)
def ClassC : Prop := ∀ (s : ByteArray) (w : World), 0 < s.size → s.size ≤ 30 → Calls Tryz.prog 207 #[.string s] w (TreeOut 0 (classL (s.data.toList.drop 1)) s.size w)
/-- behind '(' -/
def innerL (n : Nat) (l : List UInt8) : Option (Pat × List UInt8) := match (altP (atomF n) l).2 with
  | [] => none
  | d :: r' => if d = 41 then some ((altP (atomF n) l).1, r') else none
def InnerC (n : Nat) : Prop := ∀ (s : ByteArray) (w : World), 0 < s.size → s.size ≤ n + 1 → s.size ≤ 30 → Calls Tryz.prog 206 #[.string s] w (TreeOut (4 * n + 4) (innerL n (s.data.toList.drop 1)) s.size w)
theorem drop_head {s : ByteArray} {k : Nat} {d : UInt8} {r : List UInt8} (h : d :: r = s.data.toList.drop k) : ∃ hk : k < s.size, s[k] = d ∧ r = s.data.toList.drop (k + 1) := by
  have hk : k < s.size := by
    rcases Nat.lt_or_ge k s.size with h1 | h1
    · exact h1
    · rw [List.drop_eq_nil_of_le (by simpa using h1)] at h; cases h
  rw [data_drop s k hk] at h
  injection h with h1 h2
  exact ⟨hk, h1.symm, h2⟩
theorem ext_drop (s : ByteArray) (k : Nat) : (s.extract k s.size).data.toList = s.data.toList.drop k := by
  rw [Lib.extract_data, List.take_of_length_le (by simp)]
theorem ext_size (s : ByteArray) (k : Nat) : (s.extract k s.size).size = s.size - k := by simp
set_option maxRecDepth 100000 in
set_option maxHeartbeats 1000000 in
theorem inner_of {n : Nat} (hA : AltC n) : InnerC n := by
  intro s w h0 hn h30
  have hC := fun w => hA (s.extract 1 s.size) w (by rw [ext_size]; omega) (by rw [ext_size]; omega)
  rw [ext_drop, ext_size] at hC
  have hsuf := altP_suf (atomF_sh n) (s.data.toList.drop 1)
  unfold innerL
  obtain ⟨⟨p, r⟩, hpr⟩ : ∃ x, x = altP (atomF n) (s.data.toList.drop 1) := ⟨_, rfl⟩
  rw [← hpr] at hC hsuf ⊢
  have hlen : (s.data.toList.drop 1).length = s.size - 1 := by simp
  have hr := hsuf.drop
  have hrl := hsuf.len
  simp only at hr hrl ⊢
  rw [hlen] at hr hrl
  rw [List.drop_drop] at hr
  obtain ⟨k, hk⟩ : ∃ k, k = s.size - 1 - r.length := ⟨_, rfl⟩
  rw [← hk] at hr
  have HC : Hid (∀ w, Calls Tryz.prog 173 #[.string (s.extract 1 s.size)] w fun e w' => ∃ (A : Option Addr) (c : Nat) (S : Nat → Prop), e = .returned (.tuple #[.agg #[.int .i64 p.x.op, .string p.x.text, .slice A p.kids.length c], .int .i64 (k : Int)]) ∧ OwN patK (4 * n + 4) w.heap.size w' ⟨p.x.op, p.x.text, .slice A p.kids.length c⟩ p S ∧ Below w.heap.size w w') := Lib.hid (by
    intro w; rw [hk]; exact hC w)
  have hs0 : s.size ≤ 9223372036854775807 := by omega
  have hs1 : 1 ≤ s.size := h0
  have hkb : (k : Int) ≤ 30 := by omega
  clear hC hsuf hlen hpr hA
  cases r with
  | nil =>
    have hk1 : 1 + k = s.size := by simp at hk; omega
    have hq : (1 + (k : Int) == (s.size : Int)) = true := by simp; omega
    have HK := Lib.hid hk1
    clear hr hrl hk hk1 hn h30 h0
    go_enter Tryz.func206, Tryz.ntmps206
    go_wp2_with (go_at_call 173; refine (HC.out _).mono ?_; rintro e w1 ⟨A, c, S, rfl, ho, hb⟩; obtain ⟨⟨b0, b1, b2⟩, ⟨f0, f1, f2⟩, hz⟩ := box3p hb)
    refine bodyPost_ret (v := .tuple #[.agg #[.int .i64 0, .string ⟨#[]⟩, .slice none 0 0], .int .i64 0]) (by simp [results, Tryz.results206, go_sem, b0, b1, b2, hz]) rfl ?_
    exact ⟨rfl, below_al (below_set (below_set (below_set (below_step (below_al (Below.refl _ _) _) hb) (Nat.le_refl _)) (Nat.le_refl _)) (Nat.le_refl _)) _⟩
  | cons d r' =>
    obtain ⟨hlt, hd, hr'⟩ := drop_head hr
    have hq : (1 + (k : Int) == (s.size : Int)) = false := by simp only [beq_eq_false_iff_ne, ne_eq]; omega
    have hlt1 : (1 : Int) + (k : Int) < (s.size : Int) := by omega
    have hln : r'.length = s.size - (1 + k + 1) := by rw [hr']; simp
    have HLN : Hid ((s.size - r'.length : Nat) = 1 + k + 1) := Lib.hid (by omega)
    have HD := Lib.hid hd
    by_cases h41 : d = 41
    · have hq2 : ((s[1 + k].toNat : Int) != 41) = false := by rw [hd, h41]; rfl
      have H41 := Lib.hid h41
      simp only [if_pos h41]
      clear hr hrl hk hn h30 h0 hr' hln hd h41
      go_enter Tryz.func206, Tryz.ntmps206
      go_wp2_with (go_at_call 173; refine (HC.out _).mono ?_; rintro e w1 ⟨A, c, S, rfl, ho, hb⟩; obtain ⟨⟨b0, b1, b2⟩, ⟨f0, f1, f2⟩, hz⟩ := box3p hb)
      refine bodyPost_ret (v := .tuple #[.agg #[.int .i64 p.x.op, .string p.x.text, .slice A p.kids.length c], .int .i64 (1 + (k : Int) + 1)]) (by simp [results, Tryz.results206, go_sem, b0, b1, b2, hz]) rfl ?_
      refine ⟨A, c, S, by rw [HLN.out]; rfl, ?_, below_al (below_set (below_set (below_set (below_step (below_al (Below.refl _ _) _) hb) (Nat.le_refl _)) (Nat.le_refl _)) (Nat.le_refl _)) _⟩
      exact ((((OwN.set ho (by simp)).set (by simp)).set (by simp)).al _).mono (by simp)
    · have hq2 : ((s[1 + k].toNat : Int) != 41) = true := by rw [hd, bne, show ((d.toNat : Int) == 41) = false from byte_ne (d := 41) h41]; rfl
      have H41 := Lib.hid h41
      simp only [if_neg h41]
      clear hr hrl hk hn h30 h0 hr' hln hd h41
      go_enter Tryz.func206, Tryz.ntmps206
      go_wp2_with (go_at_call 173; refine (HC.out _).mono ?_; rintro e w1 ⟨A, c, S, rfl, ho, hb⟩; obtain ⟨⟨b0, b1, b2⟩, ⟨f0, f1, f2⟩, hz⟩ := box3p hb)
      refine bodyPost_ret (v := .tuple #[.agg #[.int .i64 0, .string ⟨#[]⟩, .slice none 0 0], .int .i64 0]) (by simp [results, Tryz.results206, go_sem, b0, b1, b2, hz]) rfl ?_
      exact ⟨rfl, below_al (below_set (below_set (below_set (below_step (below_al (Below.refl _ _) _) hb) (Nat.le_refl _)) (Nat.le_refl _)) (Nat.le_refl _)) _⟩
section
variable {d n k : Nat} {p : Pat} {r : List UInt8} {w w1 : World} {o : Obj} {A : Option Addr} {c : Nat} {S : Nat → Prop} {x0 x1 x2 : Value}
theorem set3_below (hb : Below (w.alloc o).heap.size (w.alloc o) w1) : Below w.heap.size w (((w1.setCell ⟨w.heap.size, 0, none⟩ x0).setCell ⟨w.heap.size, 1, none⟩ x1).setCell ⟨w.heap.size, 2, none⟩ x2) :=
  below_set (below_set (below_set (below_step (below_al (Below.refl _ _) _) hb) (Nat.le_refl _)) (Nat.le_refl _)) (Nat.le_refl _)
theorem tree_some (ho : OwN patK d (w.alloc o).heap.size w1 ⟨p.x.op, p.x.text, .slice A p.kids.length c⟩ p S) (hb : Below (w.alloc o).heap.size (w.alloc o) w1) {e : Nat} (he : d ≤ e) (hk : n - r.length = k) :
    TreeOut e (some (p, r)) n w (.returned (.tuple #[.agg #[.int .i64 p.x.op, .string p.x.text, .slice A p.kids.length c], .int .i64 (k : Int)])) (((w1.setCell ⟨w.heap.size, 0, none⟩ x0).setCell ⟨w.heap.size, 1, none⟩ x1).setCell ⟨w.heap.size, 2, none⟩ x2) :=
  ⟨A, c, S, by rw [hk], ((((OwN.set ho (by simp)).set (by simp)).set (by simp)).mono (by simp)).to he, set3_below hb⟩
theorem tree_none (hb : Below (w.alloc o).heap.size (w.alloc o) w1) :
    TreeOut d none n w (.returned (.tuple #[.agg #[.int .i64 0, .string ⟨#[]⟩, .slice none 0 0], .int .i64 0])) (((w1.setCell ⟨w.heap.size, 0, none⟩ x0).setCell ⟨w.heap.size, 1, none⟩ x1).setCell ⟨w.heap.size, 2, none⟩ x2) := ⟨rfl, set3_below hb⟩
end
theorem owN_leaf (d B : Nat) (w : World) (op : Int) (text : ByteArray) : OwN patK d B w ⟨op, text, .slice none 0 0⟩ (.mk ⟨op, text⟩ []) (fun _ => False) := owN_of (owL_nil patK d B w)
set_option maxRecDepth 100000 in
set_option maxHeartbeats 1000000 in
theorem atom_of {n : Nat} (hI : InnerC n) (hK : ClassC) : AtomC (n + 1) := by
  intro s w hn h30
  have hs9 : s.size ≤ 9223372036854775807 := by omega
  by_cases h0 : s.size = 0
  · have he : s.data.toList = [] := by rw [str_empty h0]
    have hem : s.toList.isEmpty = true := by rw [ByteArray.toList_eq, he]; rfl
    have hem2 : s.toList = [] := by rw [ByteArray.toList_eq, he]
    rw [he, atomF_nil]
    clear he h0 hn h30 hs9 hI hK
    go_enter Tryz.func205, Tryz.ntmps205
    go_wp2
    refine bodyPost_ret (v := .tuple #[.agg #[.int .i64 0, .string ⟨#[]⟩, .slice none 0 0], .int .i64 0]) (by simp [results, Tryz.results205, go_sem]) rfl ?_
    exact ⟨rfl, below_al (Below.refl _ _) _⟩
  · have h0' : 0 < s.size := by omega
    have hne := not_empty h0'
    have hne2 : ¬ s.toList = [] := by rw [ByteArray.toList_eq]; exact data_ne h0'
    have hi0 : (0 : Int) < (s.size : Int) := by omega
    have hcons := data_cons s h0'
    obtain ⟨c, hc⟩ : ∃ c, c = s[0] := ⟨_, rfl⟩
    have hlen : (s.data.toList.drop 1).length = s.size - 1 := by simp
    rw [← hc] at hcons
    have HX : Hid (atomF (n + 1) s.data.toList = atomL (altP (atomF n)) (c :: s.data.toList.drop 1)) := Lib.hid (by rw [← hcons]; rfl)
    rw [HX.out]
    by_cases h40 : c = 40
    · have hq : ((s[0].toNat : Int) == 40) = true := by rw [← hc, h40]; rfl
      have HC := Lib.hid (fun w => hI s w h0' hn h30)
      have e : atomL (altP (atomF n)) (c :: s.data.toList.drop 1) = innerL n (s.data.toList.drop 1) := by rw [h40]; rfl
      rw [e]
      generalize innerL n (s.data.toList.drop 1) = o at HC
      clear hcons hc h40 e h0 hn h30 hI hK hlen HX
      match o, HC with
      | none, HC =>
        go_enter Tryz.func205, Tryz.ntmps205
        go_wp2_with (go_at_call 206; refine (HC.out _).mono ?_; rintro e w1 ⟨rfl, hb⟩; obtain ⟨⟨b0, b1, b2⟩, ⟨f0, f1, f2⟩, hz⟩ := box3p hb)
        refine bodyPost_ret (v := .tuple #[.agg #[.int .i64 0, .string ⟨#[]⟩, .slice none 0 0], .int .i64 0]) (by simp [results, Tryz.results205, go_sem, b0, b1, b2, hz]) rfl ?_
        exact tree_none hb
      | some (p, r), HC =>
        obtain ⟨k, hk⟩ : ∃ k, s.size - r.length = k := ⟨_, rfl⟩
        have HK := Lib.hid hk
        have HC2 : Hid (∀ w, Calls Tryz.prog 206 #[.string s] w fun e w' => ∃ (A : Option Addr) (c : Nat) (S : Nat → Prop), e = .returned (.tuple #[.agg #[.int .i64 p.x.op, .string p.x.text, .slice A p.kids.length c], .int .i64 (k : Int)]) ∧ OwN patK (4 * n + 4) w.heap.size w' ⟨p.x.op, p.x.text, .slice A p.kids.length c⟩ p S ∧ Below w.heap.size w w') := Lib.hid (by rw [← hk]; exact HC.out)
        clear hk HC
        go_enter Tryz.func205, Tryz.ntmps205
        go_wp2_with (go_at_call 206; refine (HC2.out _).mono ?_; rintro e w1 ⟨A, cc, S, rfl, ho, hb⟩; obtain ⟨⟨b0, b1, b2⟩, ⟨f0, f1, f2⟩, hz⟩ := box3p hb)
        refine bodyPost_ret (v := .tuple #[.agg #[.int .i64 p.x.op, .string p.x.text, .slice A p.kids.length cc], .int .i64 (k : Int)]) (by simp [results, Tryz.results205, go_sem, b0, b1, b2, hz]) rfl ?_
        exact tree_some ho hb (by omega) HK.out
    · have hq : ((s[0].toNat : Int) == 40) = false := by rw [← hc]; exact byte_ne (d := 40) h40
      by_cases h91 : c = 91
      · have hq1 : ((s[0].toNat : Int) == 91) = true := by rw [← hc, h91]; rfl
        have HC := Lib.hid (fun w => hK s w h0' h30)
        have e : atomL (altP (atomF n)) (c :: s.data.toList.drop 1) = classL (s.data.toList.drop 1) := by rw [h91]; rfl
        rw [e]
        generalize classL (s.data.toList.drop 1) = o at HC
        clear hcons hc h40 h91 e h0 hn h30 hI hK hlen HX
        match o, HC with
        | none, HC =>
          go_enter Tryz.func205, Tryz.ntmps205
          go_wp2_with (go_at_call 207; refine (HC.out _).mono ?_; rintro e w1 ⟨rfl, hb⟩; obtain ⟨⟨b0, b1, b2⟩, ⟨f0, f1, f2⟩, hz⟩ := box3p hb)
          refine bodyPost_ret (v := .tuple #[.agg #[.int .i64 0, .string ⟨#[]⟩, .slice none 0 0], .int .i64 0]) (by simp [results, Tryz.results205, go_sem, b0, b1, b2, hz]) rfl ?_
          exact tree_none hb
        | some (p, r), HC =>
          obtain ⟨k, hk⟩ : ∃ k, s.size - r.length = k := ⟨_, rfl⟩
          have HK := Lib.hid hk
          have HC2 : Hid (∀ w, Calls Tryz.prog 207 #[.string s] w fun e w' => ∃ (A : Option Addr) (c : Nat) (S : Nat → Prop), e = .returned (.tuple #[.agg #[.int .i64 p.x.op, .string p.x.text, .slice A p.kids.length c], .int .i64 (k : Int)]) ∧ OwN patK 0 w.heap.size w' ⟨p.x.op, p.x.text, .slice A p.kids.length c⟩ p S ∧ Below w.heap.size w w') := Lib.hid (by rw [← hk]; exact HC.out)
          clear hk HC
          go_enter Tryz.func205, Tryz.ntmps205
          go_wp2_with (go_at_call 207; refine (HC2.out _).mono ?_; rintro e w1 ⟨A, cc, S, rfl, ho, hb⟩; obtain ⟨⟨b0, b1, b2⟩, ⟨f0, f1, f2⟩, hz⟩ := box3p hb)
          refine bodyPost_ret (v := .tuple #[.agg #[.int .i64 p.x.op, .string p.x.text, .slice A p.kids.length cc], .int .i64 (k : Int)]) (by simp [results, Tryz.results205, go_sem, b0, b1, b2, hz]) rfl ?_
          exact tree_some ho hb (by omega) HK.out
      · have hq1 : ((s[0].toNat : Int) == 91) = false := by rw [← hc]; exact byte_ne (d := 91) h91
        by_cases h46 : c = 46
        · have hq2 : ((s[0].toNat : Int) == 46) = true := by rw [← hc, h46]; rfl
          have e : atomL (altP (atomF n)) (c :: s.data.toList.drop 1) = some (charsP anyL, s.data.toList.drop 1) := by rw [h46]; rfl
          rw [e]
          have HL : Hid ((s.size - (s.data.toList.drop 1).length : Nat) = 1) := Lib.hid (by rw [hlen]; omega)
          clear hcons hc h40 h91 h46 e h0 hn h30 hI hK hlen HX
          go_enter Tryz.func205, Tryz.ntmps205
          go_wp2_with (go_at_call 208; refine (iBetw_any 32 126 (by decide) _).mono ?_; rintro e w1 ⟨v, rfl, hbuf⟩; rw [any_betw] at hbuf; have hcv := buf_str hbuf; have hb := hbuf.below; obtain ⟨⟨b0, b1, b2⟩, ⟨f0, f1, f2⟩, hz⟩ := box3p hb)
          refine bodyPost_ret (v := .tuple #[.agg #[.int .i64 1, .string ⟨anyL.toArray⟩, .slice none 0 0], .int .i64 1]) (by simp [results, Tryz.results205, go_sem, b0, b1, b2, hz]) rfl ?_
          exact tree_some (p := charsP anyL) (d := 0) (owN_leaf _ _ _ _ _) hb (by omega) HL.out
        · have hq2 : ((s[0].toNat : Int) == 46) = false := by rw [← hc]; exact byte_ne (d := 46) h46
          cases hnb : nbB c
          · have e : atomL (altP (atomF n)) (c :: s.data.toList.drop 1) = none := by simp [atomL, h40, h91, h46, hnb]
            rw [e]
            have HNB : Hid (nbB s[0] = false) := Lib.hid (by rw [← hc]; exact hnb)
            clear hcons hc h40 h91 h46 e h0 hn h30 hI hK hlen HX hnb
            go_enter Tryz.func205, Tryz.ntmps205
            go_wp2_with (go_at_call 135; ((with_reducible refine (iNb_any _ _).mono ?_); rw [HNB.out]; rintro e w' ⟨rfl, rfl⟩))
            refine bodyPost_ret (v := .tuple #[.agg #[.int .i64 0, .string ⟨#[]⟩, .slice none 0 0], .int .i64 0]) (by simp [results, Tryz.results205, go_sem]) rfl ?_
            exact ⟨rfl, below_al (Below.refl _ _) _⟩
          · have e : atomL (altP (atomF n)) (c :: s.data.toList.drop 1) = some (charsP [c], s.data.toList.drop 1) := by simp [atomL, h40, h91, h46, hnb]
            rw [e]
            have HNB : Hid (nbB s[0] = true) := Lib.hid (by rw [← hc]; exact hnb)
            have HL : Hid ((s.size - (s.data.toList.drop 1).length : Nat) = 1) := Lib.hid (by rw [hlen]; omega)
            have HE : Hid (s.extract 0 1 = ⟨[c].toArray⟩) := Lib.hid (by
              apply ByteArray.ext; apply Array.toList_inj.1
              rw [Lib.extract_data, hcons]; rfl)
            have hi1 : (1 : Int) ≤ (s.size : Int) := by omega
            clear hcons hc h40 h91 h46 e h0 hn h30 hI hK hlen HX hnb
            go_enter Tryz.func205, Tryz.ntmps205
            go_wp2_with (go_at_call 135; ((with_reducible refine (iNb_any _ _).mono ?_); rw [HNB.out]; rintro e w' ⟨rfl, rfl⟩))
            refine bodyPost_ret (v := .tuple #[.agg #[.int .i64 1, .string (s.extract 0 1), .slice none 0 0], .int .i64 1]) (by simp [results, Tryz.results205, go_sem]) rfl ?_
            rw [HE.out]
            refine ⟨none, 0, fun _ => False, by rw [HL.out]; rfl, (owN_leaf _ _ _ _ _), below_al (Below.refl _ _) _⟩
theorem pat_cells (op : Int) (text : ByteArray) (A : Option Addr) (n c : Nat) : ∀ v ∈ patK.enc ⟨op, text, .slice A n c⟩, v.oneCell' = true := by
  intro v hv
  simp [patK, PatR.enc] at hv
  rcases hv with rfl | rfl | rfl <;> rfl
theorem star_own {d : Nat} {p : Pat} {w w1 : World} {o box : Obj} {A : Option Addr} {c : Nat} {S : Nat → Prop} {x0 x1 x2 : Value} (op : Int) (ho : OwN patK d (w.alloc o).heap.size w1 ⟨p.x.op, p.x.text, .slice A p.kids.length c⟩ p S) (hz : w.heap.size < w1.heap.size) :
    OwN patK (d + 1) w.heap.size (((((w1.setCell ⟨w.heap.size, 0, none⟩ x0).setCell ⟨w.heap.size, 1, none⟩ x1).setCell ⟨w.heap.size, 2, none⟩ x2).alloc box).alloc (.cells #[.int .i64 p.x.op, .string p.x.text, .slice A p.kids.length c] 124)) ⟨op, ⟨#[]⟩, .slice (some ⟨w1.heap.size + 1, 0, none⟩) 1 1⟩ (opP op [p]) (fun b => b = w1.heap.size + 1 ∨ S b) := by
  have h1 := (((OwN.set (j := 0) (u := x0) ho (b := w.heap.size) (by simp)).set (j := 1) (u := x1) (b := w.heap.size) (by simp)).set (j := 2) (u := x2) (b := w.heap.size) (by simp)).al box
  have e : ((((w1.setCell ⟨w.heap.size, 0, none⟩ x0).setCell ⟨w.heap.size, 1, none⟩ x1).setCell ⟨w.heap.size, 2, none⟩ x2).alloc box).heap.size = w1.heap.size + 1 := by simp [World.setCell]
  have h2 := owL_one (B := w.heap.size) (h1.mono (by simp)) (by rw [e]; omega) (by decide) (pat_cells _ _ _ _ _)
  rw [e] at h2
  exact owN_of h2
theorem star_at {d B m : Nat} {p : Pat} {W : World} {box : Obj} {A : Option Addr} {c : Nat} {S : Nat → Prop} (op : Int) (h : OwN patK d B W ⟨p.x.op, p.x.text, .slice A p.kids.length c⟩ p S) (hB : B ≤ W.heap.size) (hm : W.heap.size = m) :
    OwN patK (d + 1) B ((W.alloc box).alloc (.cells #[.int .i64 p.x.op, .string p.x.text, .slice A p.kids.length c] 124)) ⟨op, ⟨#[]⟩, .slice (some ⟨m + 1, 0, none⟩) 1 1⟩ (opP op [p]) (fun b => b = m + 1 ∨ S b) := by
  have e : (W.alloc box).heap.size = m + 1 := by simp [hm]
  have h2 := owL_one (B := B) (h.al box) (by rw [e]; omega) (by decide) (pat_cells _ _ _ _ _)
  rw [e] at h2
  exact owN_of h2
theorem plus_own {d : Nat} {p : Pat} {w w1 w2 : World} {o box box2 box3 : Obj} {A A2 : Option Addr} {c c2 : Nat} {S S2 : Nat → Prop} {x0 x1 x2 : Value}
    (ho : OwN patK d (w.alloc o).heap.size w1 ⟨p.x.op, p.x.text, .slice A p.kids.length c⟩ p S) (hz : w.heap.size < w1.heap.size) (hb : Below (w1.alloc box).heap.size (w1.alloc box) w2) (ho2 : OwN patK d (w1.alloc box).heap.size w2 ⟨p.x.op, p.x.text, .slice A2 p.kids.length c2⟩ p S2) :
    OwN patK (d + 2) w.heap.size (((((((w2.setCell ⟨w.heap.size, 0, none⟩ x0).setCell ⟨w.heap.size, 1, none⟩ x1).setCell ⟨w.heap.size, 2, none⟩ x2).alloc box2).alloc (.cells #[.int .i64 p.x.op, .string p.x.text, .slice A2 p.kids.length c2] 124)).alloc box3).alloc (.cells #[.int .i64 p.x.op, .string p.x.text, .slice A p.kids.length c, .int .i64 4, .string ⟨#[]⟩, .slice (some ⟨w2.heap.size + 1, 0, none⟩) 1 1] 124))
      ⟨2, ⟨#[]⟩, .slice (some ⟨w2.heap.size + 1 + 1 + 1, 0, none⟩) 2 2⟩ (opP 2 [p, opP 4 [p]]) (fun b => b = w2.heap.size + 1 + 1 + 1 ∨ S b ∨ (b = w2.heap.size + 1 ∨ S2 b)) := by
  have hz2 : w1.heap.size < w2.heap.size := by have := hb.size; simp at this; omega
  have hb1 : Below w1.heap.size w1 w2 := below_step (below_al (Below.refl _ _) _) hb
  have e : (((w2.setCell ⟨w.heap.size, 0, none⟩ x0).setCell ⟨w.heap.size, 1, none⟩ x1).setCell ⟨w.heap.size, 2, none⟩ x2).heap.size = w2.heap.size := by simp [World.setCell]
  have h1 := ((OwN.set (j := 0) (u := x0) (ho.below hb1) (b := w.heap.size) (by simp)).set (j := 1) (u := x1) (b := w.heap.size) (by simp)).set (j := 2) (u := x2) (b := w.heap.size) (by simp)
  have h2 := ((OwN.set (j := 0) (u := x0) ho2 (b := w.heap.size) (by simp; omega)).set (j := 1) (u := x1) (b := w.heap.size) (by simp; omega)).set (j := 2) (u := x2) (b := w.heap.size) (by simp; omega)
  have h3 := star_at (box := box2) 4 h2 (by rw [e]; simp; omega) e
  generalize ((w2.setCell ⟨w.heap.size, 0, none⟩ x0).setCell ⟨w.heap.size, 1, none⟩ x1).setCell ⟨w.heap.size, 2, none⟩ x2 = W at h1 h3 e ⊢
  have h1' := (((h1.al box2).al (.cells #[.int .i64 p.x.op, .string p.x.text, .slice A2 p.kids.length c2] 124)).al box3).to (Nat.le_succ d)
  have h3' := h3.al box3
  have e3 : (((W.alloc box2).alloc (.cells #[.int .i64 p.x.op, .string p.x.text, .slice A2 p.kids.length c2] 124)).alloc box3).heap.size = w2.heap.size + 1 + 1 + 1 := by simp [e]
  have h4 := owL_two (B := w.heap.size) (h1'.mono (by simp)) (h3'.mono (by simp; omega)) (fun b hb hs => by
    have hlt := (ho.lt b hb).2
    rcases hs with hs | hs
    · omega
    · have := (ho2.lt b hs).1; simp at this; omega) (by rw [e3]; omega)
  rw [e3] at h4
  exact owN_of h4
set_option maxRecDepth 100000 in
set_option maxHeartbeats 2000000 in
theorem rep_of {n : Nat} (hA : AtomC n) : RepC n := by
  intro s w hn h30
  have hs9 : s.size ≤ 9223372036854775807 := by omega
  have HC := Lib.hid (fun w => hA s w hn h30)
  unfold repL
  have hsh := atomF_sh n s.data.toList
  have hlen : s.data.toList.length = s.size := by simp
  cases ho : atomF n s.data.toList with
  | none =>
    rw [ho] at HC
    clear hn h30 hA hsh hlen ho
    go_enter Tryz.func199, Tryz.ntmps199
    go_wp2_with (go_at_call 205; refine (HC.out _).mono ?_; rintro e w1 ⟨rfl, hb⟩; obtain ⟨⟨b0, b1, b2⟩, ⟨f0, f1, f2⟩, hz⟩ := box3p hb)
    refine bodyPost_ret (v := .tuple #[.agg #[.int .i64 0, .string ⟨#[]⟩, .slice none 0 0], .int .i64 0]) (by simp [results, Tryz.results199, go_sem, b0, b1, b2, hz]) rfl ?_
    exact ⟨rfl, below_al (set3_below hb) _⟩
  | some x =>
    obtain ⟨p, r⟩ := x
    rw [ho] at HC
    obtain ⟨hsuf, hlt⟩ := hsh p r ho
    have hr := hsuf.drop
    rw [hlen] at hr hlt
    obtain ⟨k, hk⟩ : ∃ k, s.size - r.length = k := ⟨_, rfl⟩
    rw [hk] at hr
    have hk0 : 0 < k := by omega
    have hkb : (k : Int) ≤ 30 := by omega
    have HC2 : Hid (∀ w, Calls Tryz.prog 205 #[.string s] w fun e w' => ∃ (A : Option Addr) (c : Nat) (S : Nat → Prop), e = .returned (.tuple #[.agg #[.int .i64 p.x.op, .string p.x.text, .slice A p.kids.length c], .int .i64 (k : Int)]) ∧ OwN patK (4 * n) w.heap.size w' ⟨p.x.op, p.x.text, .slice A p.kids.length c⟩ p S ∧ Below w.heap.size w w') := Lib.hid (by rw [← hk]; exact HC.out)
    have hq0 : ((k : Int) == 0) = false := by simp only [beq_eq_false_iff_ne, ne_eq]; omega
    clear HC hA hsh hsuf ho
    cases r with
    | nil =>
      have hks : k = s.size := by simp at hk; omega
      have hq1 : ((k : Int) == (s.size : Int)) = true := by simp; omega
      have HK := Lib.hid hk
      clear hn h30 hlen hlt hr hk hk0 hks
      go_enter Tryz.func199, Tryz.ntmps199
      go_wp2_with (go_at_call 205; refine (HC2.out _).mono ?_; rintro e w1 ⟨A, c, S, rfl, ho, hb⟩; obtain ⟨⟨b0, b1, b2⟩, ⟨f0, f1, f2⟩, hz⟩ := box3p hb)
      refine bodyPost_ret (v := .tuple #[.agg #[.int .i64 p.x.op, .string p.x.text, .slice A p.kids.length c], .int .i64 (k : Int)]) (by simp [results, Tryz.results199, go_sem, b0, b1, b2, hz]) rfl ?_
      exact ⟨A, c, S, by rw [HK.out], (((((OwN.set ho (by simp)).set (by simp)).set (by simp)).al _).mono (by simp)).to (by omega), below_al (set3_below hb) _⟩
    | cons d r' =>
      obtain ⟨hlt2, hd, hr'⟩ := drop_head hr
      have hq1 : ((k : Int) == (s.size : Int)) = false := by simp only [beq_eq_false_iff_ne, ne_eq]; omega
      have hlk : (k : Int) < (s.size : Int) := by omega
      have hln : r'.length = s.size - (k + 1) := by rw [hr']; simp
      have HK1 : Hid ((s.size - (d :: r').length : Nat) = k) := Lib.hid hk
      have HK2 : Hid ((s.size - r'.length : Nat) = k + 1) := Lib.hid (by omega)
      have hdx : (s[k].toNat : Int) ≤ 255 := by have := s[k].toNat_lt; omega
      clear hn h30 hlen hlt hr hr' hk hk0 hln
      by_cases h42 : d = 42
      · have hq2 : ((s[k].toNat : Int) == 42) = true := by rw [hd, h42]; rfl
        have e : Option.map (fun x => repT x.1 x.2) (some (p, d :: r')) = some (opP 4 [p], r') := by rw [h42]; rfl
        rw [e]
        clear e hd h42
        go_enter Tryz.func199, Tryz.ntmps199
        go_wp2_with (go_at_call 205; refine (HC2.out _).mono ?_; rintro e w1 ⟨A, c, S, rfl, ho, hb⟩; obtain ⟨⟨b0, b1, b2⟩, ⟨f0, f1, f2⟩, hz⟩ := box3p hb)
        refine bodyPost_ret (v := .tuple #[.agg #[.int .i64 4, .string ⟨#[]⟩, .slice (some ⟨w1.heap.size + 1, 0, none⟩) 1 1], .int .i64 ((k : Int) + 1)]) (by simp [results, Tryz.results199, go_sem, b0, b1, b2, hz]) rfl ?_
        exact ⟨some ⟨w1.heap.size + 1, 0, none⟩, 1, _, by rw [HK2.out]; rfl, (star_own 4 ho hz).to (by omega), below_al (below_al (set3_below hb) _) _⟩
      · have hq2 : ((s[k].toNat : Int) == 42) = false := by rw [hd]; exact byte_ne (d := 42) h42
        by_cases h63 : d = 63
        · have hq3 : ((s[k].toNat : Int) == 63) = true := by rw [hd, h63]; rfl
          have e : Option.map (fun x => repT x.1 x.2) (some (p, d :: r')) = some (opP 5 [p], r') := by rw [h63]; rfl
          rw [e]
          clear e hd h42 h63
          go_enter Tryz.func199, Tryz.ntmps199
          go_wp2_with (go_at_call 205; refine (HC2.out _).mono ?_; rintro e w1 ⟨A, c, S, rfl, ho, hb⟩; obtain ⟨⟨b0, b1, b2⟩, ⟨f0, f1, f2⟩, hz⟩ := box3p hb)
          refine bodyPost_ret (v := .tuple #[.agg #[.int .i64 5, .string ⟨#[]⟩, .slice (some ⟨w1.heap.size + 1, 0, none⟩) 1 1], .int .i64 ((k : Int) + 1)]) (by simp [results, Tryz.results199, go_sem, b0, b1, b2, hz]) rfl ?_
          exact ⟨some ⟨w1.heap.size + 1, 0, none⟩, 1, _, by rw [HK2.out]; rfl, (star_own 5 ho hz).to (by omega), below_al (below_al (set3_below hb) _) _⟩
        · have hq3 : ((s[k].toNat : Int) == 63) = false := by rw [hd]; exact byte_ne (d := 63) h63
          by_cases h43 : d = 43
          · have hq4 : ((s[k].toNat : Int) == 43) = true := by rw [hd, h43]; rfl
            have e : Option.map (fun x => repT x.1 x.2) (some (p, d :: r')) = some (opP 2 [p, opP 4 [p]], r') := by rw [h43]; rfl
            rw [e]
            clear e hd h42 h63 h43
            go_enter Tryz.func199, Tryz.ntmps199
            go_wp2_with (first
              | (go_at_call 205; ((with_reducible refine (HC2.out (w.alloc _)).mono ?_); rintro e w1 ⟨A, c, S, rfl, ho, hb⟩; obtain ⟨⟨b0, b1, b2⟩, ⟨f0, f1, f2⟩, hz⟩ := box3p hb))
              | (go_at_call 205; ((refine (HC2.out _).mono ?_); rintro e w2 ⟨A2, c2, S2, rfl, ho2, hb2⟩; obtain ⟨⟨a0, a1, a2⟩, _, hz2⟩ := box3p hb2; clear b0 b1 b2 f0 f1 f2; have hb3 := below_step hb (below_step (below_al (Below.refl _ _) _) hb2); obtain ⟨⟨b0, b1, b2⟩, ⟨f0, f1, f2⟩, hz3⟩ := box3p hb3; have q0 : w1.heap.size ≤ w2.heap.size := (by omega); have q1 : w1.heap.size ≤ w2.heap.size + 1 := (by omega); have q2 : w1.heap.size ≤ w2.heap.size + 1 + 1 := (by omega); have q3 : w1.heap.size < w2.heap.size + 1 + 1 := (by omega); have p0 : w.heap.size ≤ w2.heap.size := (by omega); have p1 : w.heap.size ≤ w2.heap.size + 1 := (by omega); have p2 : w.heap.size ≤ w2.heap.size + 1 + 1 := (by omega); have p3 : w.heap.size < w2.heap.size + 1 + 1 := (by omega))))
            refine bodyPost_ret (v := .tuple #[.agg #[.int .i64 2, .string ⟨#[]⟩, .slice (some ⟨w2.heap.size + 1 + 1 + 1, 0, none⟩) 2 2], .int .i64 ((k : Int) + 1)]) (by simp [results, Tryz.results199, go_sem, b0, b1, b2, hz3, p0, p1, p2, p3]) rfl ?_
            exact ⟨some ⟨w2.heap.size + 1 + 1 + 1, 0, none⟩, 2, _, by rw [HK2.out]; rfl, plus_own ho hz hb2 ho2, below_al (below_al (below_al (below_al (set3_below hb3) _) _) _) _⟩
          · have hq4 : ((s[k].toNat : Int) == 43) = false := by rw [hd]; exact byte_ne (d := 43) h43
            have e : Option.map (fun x => repT x.1 x.2) (some (p, d :: r')) = some (p, d :: r') := by simp [repT, h42, h63, h43]
            rw [e]
            clear e hd h42 h63 h43
            go_enter Tryz.func199, Tryz.ntmps199
            go_wp2_with (go_at_call 205; refine (HC2.out _).mono ?_; rintro e w1 ⟨A, c, S, rfl, ho, hb⟩; obtain ⟨⟨b0, b1, b2⟩, ⟨f0, f1, f2⟩, hz⟩ := box3p hb)
            refine bodyPost_ret (v := .tuple #[.agg #[.int .i64 p.x.op, .string p.x.text, .slice A p.kids.length c], .int .i64 (k : Int)]) (by simp [results, Tryz.results199, go_sem, b0, b1, b2, hz]) rfl ?_
            exact ⟨A, c, S, by rw [HK1.out], (((((OwN.set ho (by simp)).set (by simp)).set (by simp)).al _).mono (by simp)).to (by omega), below_al (set3_below hb) _⟩
end Go.Proofs.YtkifdbeklagelaaGreatDoor

/- CHAPTER 5: impl's readSeq, readAlt, ParsePattern, IsPattern (the class is asked for as a premise). -/
namespace Go.Proofs.YtkifdbeklagelaaGreatDoor
open Go.RowKit

/-- one more tree behind a list of the call's own that the append law has made -/
theorem own_append {d B g n g' c' : Nat} {w w' : World} {l : List Pat} {p : Pat} {A : Option Addr} {cc : Nat} {S Sp : Nat → Prop} {R : List PatR}
    (hgrow : ∀ {w' : World} {v' : Value} {r : PatR} {t : Pat} {Sr : Nat → Prop}, OwN patK d B w r t Sr → (∀ b, S b → Sr b → False) → RowP B w' v' (R ++ [r]) → w.grownBy w' (some g) → (v'.ownBlock = some g ∨ ∃ g, v'.ownBlock = some g ∧ w.heap.size ≤ g) →
      OwL patK (d + 1) B w' v' (l ++ [t]) (fun b => v'.ownBlock = some b ∨ (S b ∧ some g ≠ some b) ∨ Sr b))
    (hp : OwN patK d B w ⟨p.x.op, p.x.text, .slice A p.kids.length cc⟩ p Sp) (hdis : ∀ b, S b → Sp b → False)
    (hrow : RowP B w' (.slice (some ⟨g', 0, none⟩) n c') (R ++ [⟨p.x.op, p.x.text, .slice A p.kids.length cc⟩])) {o : Obj} (hg : (w.alloc o).grownBy w' (some g)) (hv : g' = g ∨ w.heap.size < g') :
    ∃ S', OwL patK (d + 1) B w' (.slice (some ⟨g', 0, none⟩) n c') (l ++ [p]) S' := by
  refine ⟨_, hgrow hp hdis hrow ((World.grownBy_alloc w o (some g)).trans hg) ?_⟩
  rcases hv with rfl | h
  · exact .inl rfl
  · exact .inr ⟨g', rfl, by omega⟩
theorem seq_done {A : List UInt8 → Option (Pat × List UInt8)} {m : Nat} {l : List UInt8} (h : repL A l = none) : seqL A m l = ([], l) := by
  cases m with
  | zero => rfl
  | succ m => rw [seqL, h]
theorem seq_step {A : List UInt8 → Option (Pat × List UInt8)} (hs : Sh A) (h0 : A [] = none) {m m' : Nat} {l r : List UInt8} {p : Pat} (hl : l.length ≤ m) (h : repL A l = some (p, r)) (hr : r.length ≤ m') : seqL A m l = (p :: (seqL A m' r).1, (seqL A m' r).2) := by
  have hlt := (repL_sh hs l p r h).2
  match m, hl with
  | 0, hl => omega
  | m + 1, hl =>
    rw [seqL, h]
    show (p :: (seqL A m r).1, (seqL A m r).2) = _
    rw [seqL_more hs h0 m m' r (by omega) hr]
set_option maxRecDepth 100000 in
set_option maxHeartbeats 2000000 in
theorem seq_of {n : Nat} (hA : RepC n) : SeqC n := by
  intro s w hn h30
  have hs9 : s.size ≤ 9223372036854775807 := by omega
  have HA := Lib.hid hA
  have HN := Lib.hid hn
  have H30 := Lib.hid h30
  have hlen : ∀ k, (s.data.toList.drop k).length = s.size - k := fun k => by simp
  have HL := Lib.hid hlen
  obtain ⟨l, hl⟩ : ∃ l, l = s.data.toList := ⟨_, rfl⟩
  have HLL := Lib.hid hl
  rw [← hl]
  have h0 : OwL patK (4 * n + 3) (w.heap.size + 1) ((w.alloc (.cells #[.int .i64 0, .string ⟨#[]⟩, .slice none 0 0] 124)).alloc (.cells #[] 124)) (.slice (some ⟨w.heap.size + 1, 0, none⟩) 0 0) [] (fun b => b = w.heap.size + 1) := by
    have := owL_new patK (4 * n + 3) (w.heap.size + 1) (w.alloc (.cells #[.int .i64 0, .string ⟨#[]⟩, .slice none 0 0] 124)) (by simp)
    simpa [patK] using this
  have HO0 := Lib.hid h0
  have hb0 : Below (w.alloc (.cells #[.int .i64 0, .string ⟨#[]⟩, .slice none 0 0] 124)).heap.size (w.alloc (.cells #[.int .i64 0, .string ⟨#[]⟩, .slice none 0 0] 124)) ((w.alloc (.cells #[.int .i64 0, .string ⟨#[]⟩, .slice none 0 0] 124)).alloc (.cells #[] 124)) := below_al (Below.refl _ _) _
  clear h0 hA hn h30 hlen hl
  go_enter Tryz.func187, Tryz.ntmps187
  go_wp2
  go_loopw [4, 5] (fun u i wr => ∃ (k g c : Nat) (lk : List Pat) (S : Nat → Prop), k ≤ s.size ∧ lk.length ≤ k ∧ u = .slice (some ⟨g, 0, none⟩) lk.length c ∧ i = .int .i64 k ∧ Hid (OwL patK (4 * n + 3) (w.heap.size + 1) wr (.slice (some ⟨g, 0, none⟩) lk.length c) lk S) ∧ Hid (seqL (atomF n) s.size l = (lk ++ (seqL (atomF n) (s.size - k) (l.drop k)).1, (seqL (atomF n) (s.size - k) (l.drop k)).2)) ∧ Below (w.alloc (.cells #[.int .i64 0, .string ⟨#[]⟩, .slice none 0 0] 124)).heap.size (w.alloc (.cells #[.int .i64 0, .string ⟨#[]⟩, .slice none 0 0] 124)) wr) (fun _ i _ => s.size - (intOf i).toNat)
  case atStart => exact ⟨0, w.heap.size + 1, 0, [], _, by omega, by simp, rfl, rfl, HO0, Lib.hid (by simp), hb0⟩
  case round =>
    obtain ⟨k, g, c, lk, S, hk, hlk, rfl, rfl, HO, HQ, hbel⟩ := hrel
    clear hb0
    have hC := fun w => HA.out (s.extract k s.size) w (by rw [ext_size]; have := HN.out; omega) (by rw [ext_size]; have := H30.out; omega)
    rw [ext_drop, ext_size, ← HLL.out] at hC
    have hkl : (k : Int) ≤ (s.size : Int) := by omega
    cases hrep : repL (atomF n) (l.drop k) with
    | none =>
      rw [hrep] at hC
      have HC := Lib.hid hC
      have HD : Hid (seqP (atomF n) l = (joinP 2 lk, l.drop k)) := Lib.hid (by
        have hll : l.length = s.size := by rw [HLL.out]; simp
        unfold seqP; rw [hll, HQ.out, seq_done hrep]; simp)
      have HK : Hid ((s.size - (l.drop k).length : Nat) = k) := Lib.hid (by have := HL.out k; rw [← HLL.out] at this; omega)
      clear hC hrep
      rw [HD.out]
      go_wp2_with (first
        | (go_at_call 199; ((refine (HC.out _).mono ?_); rintro e w1 ⟨rfl, hb⟩; have hbel1 := below_step hbel hb; have HO1 := Lib.hid (HO.out.below hb); clear hbel hb))
        | (go_at_call 188; ((refine (iJoin_any (4 * n + 2) (w.heap.size + 1) 2 _ lk S _ (HO1.out.al _)).mono ?_); rintro e w2 ⟨Ak, ck, S', rfl, hn2, hS, hb2⟩; have hbel2 := below_step (below_al hbel1 _) hb2; obtain ⟨⟨b0, b1, b2⟩, ⟨f0, f1, f2⟩, hz⟩ := box3p hbel2)))
      refine bodyPost_ret (v := .tuple #[.agg #[.int .i64 (joinP 2 lk).x.op, .string (joinP 2 lk).x.text, .slice Ak (joinP 2 lk).kids.length ck], .int .i64 (k : Int)]) (by simp [results, Tryz.results187, go_sem, b0, b1, b2, hz]) rfl ?_
      exact tree_some (by simpa using hn2) hbel2 (Nat.le_refl _) HK.out
    | some x =>
      obtain ⟨p, r⟩ := x
      rw [hrep] at hC
      have hsh := repL_sh (atomF_sh n) (l.drop k) p r hrep
      have hdl : (l.drop k).length = s.size - k := by rw [HLL.out]; exact HL.out k
      have hr := hsh.1.drop
      have hrl := hsh.2
      rw [hdl] at hr hrl
      rw [List.drop_drop] at hr
      obtain ⟨j, hj⟩ : ∃ j, s.size - k - r.length = j := ⟨_, rfl⟩
      rw [hj] at hr
      have hj0 : 0 < j := by omega
      have hkj : k + j ≤ s.size := by omega
      have HC : Hid (∀ w, Calls Tryz.prog 199 #[.string (s.extract k s.size)] w fun e w' => ∃ (A : Option Addr) (c : Nat) (S : Nat → Prop), e = .returned (.tuple #[.agg #[.int .i64 p.x.op, .string p.x.text, .slice A p.kids.length c], .int .i64 (j : Int)]) ∧ OwN patK (4 * n + 2) w.heap.size w' ⟨p.x.op, p.x.text, .slice A p.kids.length c⟩ p S ∧ Below w.heap.size w w') := Lib.hid (by rw [← hj]; exact hC)
      have HQ2 : Hid (seqL (atomF n) s.size l = ((lk ++ [p]) ++ (seqL (atomF n) (s.size - (k + j)) (l.drop (k + j))).1, (seqL (atomF n) (s.size - (k + j)) (l.drop (k + j))).2)) := Lib.hid (by
        rw [HQ.out, seq_step (atomF_sh n) (atomF_nil n) (Nat.le_of_eq hdl) hrep (m' := s.size - (k + j)) (by omega), hr]
        simp)
      have hq0 : ((j : Int) == 0) = false := by simp only [beq_eq_false_iff_ne, ne_eq]; omega
      obtain ⟨nk, hnk⟩ : ∃ nk, nk = lk.length := ⟨_, rfl⟩
      have HNK := Lib.hid hnk
      rw [← hnk] at hlk HO ⊢
      have hjb : (j : Int) ≤ 30 := by have := H30.out; omega
      have hkb : (k : Int) ≤ 30 := by have := H30.out; omega
      have hnb : nk + 1 ≤ 1048576 := by have := H30.out; omega
      have hwr : w.heap.size + 1 ≤ wr.heap.size := by have := hbel.size; simp at this; omega
      have HST : Hid (∀ (w1 : World) (A1 : Option Addr) (c1 : Nat) (S1 : Nat → Prop), OwN patK (4 * n + 2) wr.heap.size w1 ⟨p.x.op, p.x.text, .slice A1 p.kids.length c1⟩ p S1 → Below wr.heap.size wr w1 → ∃ R : List PatR, RowP (w.heap.size + 1) (w1.alloc (.cells #[.int .i64 p.x.op, .string p.x.text, .slice A1 p.kids.length c1] 124)) (.slice (some ⟨g, 0, none⟩) nk c) R ∧ w.heap.size + 1 ≤ g ∧ w.heap.size + 1 ≤ w1.heap.size ∧
          ∀ g' c' w4, RowP (w.heap.size + 1) w4 (.slice (some ⟨g', 0, none⟩) (nk + 1) c') (R ++ [⟨p.x.op, p.x.text, .slice A1 p.kids.length c1⟩]) → ((w1.alloc (.cells #[.int .i64 p.x.op, .string p.x.text, .slice A1 p.kids.length c1] 124)).alloc (.cells #[.int .i64 p.x.op, .string p.x.text, .slice A1 p.kids.length c1] 124)).grownBy w4 (some g) → (g' = g ∨ (w1.alloc (.cells #[.int .i64 p.x.op, .string p.x.text, .slice A1 p.kids.length c1] 124)).heap.size < g') → ∃ S', OwL patK (4 * n + 3) (w.heap.size + 1) w4 (.slice (some ⟨g', 0, none⟩) (nk + 1) c') (lk ++ [p]) S') := Lib.hid (by
        intro w1 A1 c1 S1 ho hb
        have hO1 := (HO.out.below hb).al (.cells #[.int .i64 p.x.op, .string p.x.text, .slice A1 p.kids.length c1] 124)
        obtain ⟨R, hrow, hRl, hgrow⟩ := hO1.grow
        refine ⟨R, hrow, (hrow.lt (k := g) rfl).1, Nat.le_trans hwr hb.size, fun g' c' w4 h1 h2 h3 => ?_⟩
        exact own_append hgrow ((ho.al _).mono hwr) (fun b hb1 hb2 => absurd (HO.out.lt b hb1).2 (Nat.not_lt.2 (ho.lt b hb2).1)) h1 h2 h3)
      clear hC hsh hdl hr hrl hj hrep HQ hnk
      go_wp2_with (first
        | (go_at_call 199; ((refine (HC.out _).mono ?_); rintro e w1 ⟨A1, c1, S1, rfl, ho, hb⟩; have hbel1 := below_step hbel hb; obtain ⟨R, hrow, hgB, hw1, hF⟩ := HST.out w1 A1 c1 S1 ho hb; have HF := Lib.hid hF; have hbx := below_al hbel1 (.cells #[.int .i64 p.x.op, .string p.x.text, .slice A1 p.kids.length c1] 124); clear hbel hb hF ho))
        | (at_builtin; refine wpList_pat_append rfl _ _ rfl (w.heap.size + 1) g nk c R rfl hrow p.x.op p.x.text A1 p.kids.length c1 (w1.heap.size + 1) rfl (by simp) hnb (by simp; omega) (nk + 1) rfl ?_; intro g' c' w4 hrow4 hg4 hg4'))
      go_roundw
      case rel =>
        obtain ⟨S', hS'⟩ := HF.out g' c' w4 hrow4 hg4 hg4'
        have hl1 : (lk ++ [p]).length = nk + 1 := by rw [List.length_append, ← HNK.out]; rfl
        exact ⟨k + j, g', c', lk ++ [p], S', by omega, by rw [hl1]; omega, by rw [hl1], by go_num, by rw [hl1]; exact Lib.hid hS', HQ2, (below_al hbx _).grown hg4 (below_al hbx _).size (fun _ h => by cases h; simp; omega)⟩
      case measure => simp [intOf]; omega
theorem seq_any {n : Nat} (hA : RepC n) : SeqC n := seq_of hA
/-- what follows a sequence of an alternative -/
def contL (A : List UInt8 → Option (Pat × List UInt8)) (m : Nat) : List UInt8 → List Pat × List UInt8
  | [] => ([], [])
  | c :: r => if c = 124 then altL A m r else ([], c :: r)
theorem alt_unroll {A : List UInt8 → Option (Pat × List UInt8)} (h : Sh A) {m : Nat} {l : List UInt8} (hl : l.length ≤ m) : altL A m l = ((seqP A l).1 :: (contL A m (seqP A l).2).1, (contL A m (seqP A l).2).2) := by
  rw [altL_more h m (m + 1) l hl (by omega), altL]
  cases (seqP A l).2 with
  | nil => rfl
  | cons c r =>
    simp only [contL]
    split <;> rfl
set_option maxRecDepth 100000 in
set_option maxHeartbeats 2000000 in
theorem alt_of {n : Nat} (hA : SeqC n) : AltC n := by
  intro s w hn h30
  have hs9 : s.size ≤ 9223372036854775807 := by omega
  have HA := Lib.hid hA
  have HN := Lib.hid hn
  have H30 := Lib.hid h30
  have hlen : ∀ k, (s.data.toList.drop k).length = s.size - k := fun k => by simp
  have HL := Lib.hid hlen
  obtain ⟨l, hl⟩ : ∃ l, l = s.data.toList := ⟨_, rfl⟩
  have HLL := Lib.hid hl
  have hll : l.length = s.size := by rw [hl]; simp
  have hAs := fun w => hA s w hn h30
  rw [← hl] at hAs ⊢
  have hsuf := seqP_suf (atomF_sh n) l
  have hun := alt_unroll (atomF_sh n) (m := s.size) (l := l) (by omega)
  obtain ⟨⟨p0, r0⟩, hpr⟩ : ∃ x, x = seqP (atomF n) l := ⟨_, rfl⟩
  rw [← hpr] at hAs hsuf hun
  have hr0 := hsuf.drop
  have hrl0 := hsuf.len
  simp only [hll] at hr0 hrl0
  obtain ⟨k0, hk0⟩ : ∃ k, s.size - r0.length = k := ⟨_, rfl⟩
  rw [hk0] at hr0
  have HC0 : Hid (∀ w, Calls Tryz.prog 187 #[.string s] w fun e w' => ∃ (A : Option Addr) (c : Nat) (S : Nat → Prop), e = .returned (.tuple #[.agg #[.int .i64 p0.x.op, .string p0.x.text, .slice A p0.kids.length c], .int .i64 (k0 : Int)]) ∧ OwN patK (4 * n + 3) w.heap.size w' ⟨p0.x.op, p0.x.text, .slice A p0.kids.length c⟩ p0 S ∧ Below w.heap.size w w') := Lib.hid (by rw [← hk0]; exact hAs)
  have HQ0 : Hid (altL (atomF n) s.size l = ([p0] ++ (contL (atomF n) s.size (l.drop k0)).1, (contL (atomF n) s.size (l.drop k0)).2)) := Lib.hid (by rw [hun, hr0]; rfl)
  have hk0s : k0 ≤ s.size := by omega
  have HLn : Hid (l.length = s.size) := Lib.hid hll
  clear hA hn h30 hlen hl hll hAs hsuf hun hpr hr0 hrl0 hk0
  go_enter Tryz.func173, Tryz.ntmps173
  go_wp2_with (go_at_call 187; ((refine (HC0.out _).mono ?_); rintro e w1 ⟨A0, c0, S0, rfl, ho0, hb1⟩))
  have hO0 : OwL patK (4 * n + 4) (w.heap.size + 1) ((w1.alloc (.cells #[.int .i64 p0.x.op, .string p0.x.text, .slice A0 p0.kids.length c0] 124)).alloc (.cells #[.int .i64 p0.x.op, .string p0.x.text, .slice A0 p0.kids.length c0] 124)) (.slice (some ⟨w1.heap.size + 1, 0, none⟩) 1 1) [p0] (fun b => b = w1.heap.size + 1 ∨ S0 b) := by
    have h1 : OwN patK (4 * n + 3) (w.heap.size + 1) w1 ⟨p0.x.op, p0.x.text, .slice A0 p0.kids.length c0⟩ p0 S0 := ho0.mono (by simp)
    have hz := hb1.size
    simp at hz
    have h2 := owL_one (h1.al (.cells #[.int .i64 p0.x.op, .string p0.x.text, .slice A0 p0.kids.length c0] 124)) (by simp; omega) (by decide) (pat_cells _ _ _ _ _)
    simpa [patK, PatR.enc] using h2
  have HO0 := Lib.hid hO0
  have hbl0 := below_al (below_al hb1 (.cells #[.int .i64 p0.x.op, .string p0.x.text, .slice A0 p0.kids.length c0] 124)) (.cells #[.int .i64 p0.x.op, .string p0.x.text, .slice A0 p0.kids.length c0] 124)
  clear hO0 ho0 hb1
  go_loopw [6, 5] (fun u i wr => ∃ (k g c : Nat) (lk : List Pat) (S : Nat → Prop), k ≤ s.size ∧ lk.length ≤ k + 1 ∧ u = .slice (some ⟨g, 0, none⟩) lk.length c ∧ i = .int .i64 k ∧ Hid (OwL patK (4 * n + 4) (w.heap.size + 1) wr (.slice (some ⟨g, 0, none⟩) lk.length c) lk S) ∧ Hid (altL (atomF n) s.size l = (lk ++ (contL (atomF n) s.size (l.drop k)).1, (contL (atomF n) s.size (l.drop k)).2)) ∧ Below (w.alloc (.cells #[.int .i64 0, .string ⟨#[]⟩, .slice none 0 0] 124)).heap.size (w.alloc (.cells #[.int .i64 0, .string ⟨#[]⟩, .slice none 0 0] 124)) wr) (fun _ i _ => s.size - (intOf i).toNat)
  case atStart => exact ⟨k0, w1.heap.size + 1, 1, [p0], _, hk0s, by simp, rfl, rfl, HO0, HQ0, hbl0⟩
  case round =>
    obtain ⟨k, g, c, lk, S, hk, hlk, rfl, rfl, HO, HQ, hbel⟩ := hrel
    clear hbl0
    by_cases hgo : ∃ h : k < s.size, s[k] = 124
    · obtain ⟨hlt, h124⟩ := hgo
      have hq : ((s[k].toNat : Int) == 124) = true := by rw [h124]; rfl
      have hd : l.drop k = 124 :: l.drop (k + 1) := by rw [HLL.out, data_drop s k hlt, h124]
      have hC := fun w => HA.out (s.extract (k + 1) s.size) w (by rw [ext_size]; have := HN.out; omega) (by rw [ext_size]; have := H30.out; omega)
      rw [ext_drop, ext_size, ← HLL.out] at hC
      have hdl : (l.drop (k + 1)).length = s.size - (k + 1) := by rw [HLL.out]; exact HL.out (k + 1)
      have hun := alt_unroll (atomF_sh n) (m := s.size) (l := l.drop (k + 1)) (by omega)
      have hcl : contL (atomF n) s.size (l.drop k) = altL (atomF n) s.size (l.drop (k + 1)) := by rw [hd]; rfl
      have hsuf := seqP_suf (atomF_sh n) (l.drop (k + 1))
      obtain ⟨⟨p, r⟩, hpr⟩ : ∃ x, x = seqP (atomF n) (l.drop (k + 1)) := ⟨_, rfl⟩
      rw [← hpr] at hC hsuf hun
      have hr := hsuf.drop
      have hrl := hsuf.len
      simp only [hdl] at hr hrl
      rw [List.drop_drop] at hr
      obtain ⟨j, hj⟩ : ∃ j, s.size - (k + 1) - r.length = j := ⟨_, rfl⟩
      rw [hj] at hr
      have hkj : k + 1 + j ≤ s.size := by omega
      have HC : Hid (∀ w, Calls Tryz.prog 187 #[.string (s.extract (k + 1) s.size)] w fun e w' => ∃ (A : Option Addr) (c : Nat) (S : Nat → Prop), e = .returned (.tuple #[.agg #[.int .i64 p.x.op, .string p.x.text, .slice A p.kids.length c], .int .i64 (j : Int)]) ∧ OwN patK (4 * n + 3) w.heap.size w' ⟨p.x.op, p.x.text, .slice A p.kids.length c⟩ p S ∧ Below w.heap.size w w') := Lib.hid (by rw [← hj]; exact hC)
      have HQ2 : Hid (altL (atomF n) s.size l = ((lk ++ [p]) ++ (contL (atomF n) s.size (l.drop (k + 1 + j))).1, (contL (atomF n) s.size (l.drop (k + 1 + j))).2)) := Lib.hid (by
        rw [HQ.out, hcl, hun, hr]; simp)
      obtain ⟨nk, hnk⟩ : ∃ nk, nk = lk.length := ⟨_, rfl⟩
      have HNK := Lib.hid hnk
      rw [← hnk] at hlk HO ⊢
      have hjb : (j : Int) ≤ 30 := by have := H30.out; omega
      have hkb : (k : Int) ≤ 30 := by have := H30.out; omega
      have hnb : nk + 1 ≤ 1048576 := by have := H30.out; omega
      have hlk1 : (k : Int) + 1 ≤ (s.size : Int) := by omega
      have hlt1 : (k : Int) < (s.size : Int) := by omega
      have hwr : w.heap.size + 1 ≤ wr.heap.size := by have := hbel.size; simp at this; omega
      have HST : Hid (∀ (w1 : World) (A1 : Option Addr) (c1 : Nat) (S1 : Nat → Prop), OwN patK (4 * n + 3) wr.heap.size w1 ⟨p.x.op, p.x.text, .slice A1 p.kids.length c1⟩ p S1 → Below wr.heap.size wr w1 → ∃ R : List PatR, RowP (w.heap.size + 1) (w1.alloc (.cells #[.int .i64 p.x.op, .string p.x.text, .slice A1 p.kids.length c1] 124)) (.slice (some ⟨g, 0, none⟩) nk c) R ∧ w.heap.size + 1 ≤ g ∧ w.heap.size + 1 ≤ w1.heap.size ∧
          ∀ g' c' w4, RowP (w.heap.size + 1) w4 (.slice (some ⟨g', 0, none⟩) (nk + 1) c') (R ++ [⟨p.x.op, p.x.text, .slice A1 p.kids.length c1⟩]) → ((w1.alloc (.cells #[.int .i64 p.x.op, .string p.x.text, .slice A1 p.kids.length c1] 124)).alloc (.cells #[.int .i64 p.x.op, .string p.x.text, .slice A1 p.kids.length c1] 124)).grownBy w4 (some g) → (g' = g ∨ (w1.alloc (.cells #[.int .i64 p.x.op, .string p.x.text, .slice A1 p.kids.length c1] 124)).heap.size < g') → ∃ S', OwL patK (4 * n + 4) (w.heap.size + 1) w4 (.slice (some ⟨g', 0, none⟩) (nk + 1) c') (lk ++ [p]) S') := Lib.hid (by
        intro w1 A1 c1 S1 ho hb
        have hO1 := (HO.out.below hb).al (.cells #[.int .i64 p.x.op, .string p.x.text, .slice A1 p.kids.length c1] 124)
        obtain ⟨R, hrow, hRl, hgrow⟩ := hO1.grow
        refine ⟨R, hrow, (hrow.lt (k := g) rfl).1, Nat.le_trans hwr hb.size, fun g' c' w4 h1 h2 h3 => ?_⟩
        exact own_append hgrow ((ho.al _).mono hwr) (fun b hb1 hb2 => absurd (HO.out.lt b hb1).2 (Nat.not_lt.2 (ho.lt b hb2).1)) h1 h2 h3)
      clear hC hdl hun hcl hsuf hpr hr hrl hj HQ hnk hd h124
      go_wp2_with (first
        | (go_at_call 187; ((refine (HC.out _).mono ?_); rintro e w2 ⟨A1, c1, S1, rfl, ho, hb⟩; have hbel1 := below_step hbel hb; obtain ⟨R, hrow, hgB, hw1, hF⟩ := HST.out w2 A1 c1 S1 ho hb; have HF := Lib.hid hF; have hbx := below_al hbel1 (.cells #[.int .i64 p.x.op, .string p.x.text, .slice A1 p.kids.length c1] 124); clear hbel hb hF ho))
        | (at_builtin; refine wpList_pat_append rfl _ _ rfl (w.heap.size + 1) g nk c R rfl hrow p.x.op p.x.text A1 p.kids.length c1 (w2.heap.size + 1) rfl (by simp) hnb (by simp; omega) (nk + 1) rfl ?_; intro g' c' w4 hrow4 hg4 hg4'))
      go_roundw
      case rel =>
        obtain ⟨S', hS'⟩ := HF.out g' c' w4 hrow4 hg4 hg4'
        have hl1 : (lk ++ [p]).length = nk + 1 := by rw [List.length_append, ← HNK.out]; rfl
        exact ⟨k + 1 + j, g', c', lk ++ [p], S', by omega, by rw [hl1]; omega, by rw [hl1], by go_num, by rw [hl1]; exact Lib.hid hS', HQ2, (below_al hbx _).grown hg4 (below_al hbx _).size (fun _ h => by cases h; simp; omega)⟩
      case measure => simp [intOf]; omega
    · have hcont : contL (atomF n) s.size (l.drop k) = ([], l.drop k) := by
        by_cases hlt : k < s.size
        · rw [HLL.out, data_drop s k hlt]
          exact if_neg fun e => hgo ⟨hlt, e⟩
        · rw [HLL.out, List.drop_eq_nil_of_le (by simp; omega)]; rfl
      have HD : Hid (altP (atomF n) l = (joinP 3 lk, l.drop k)) := Lib.hid (by
        unfold altP; rw [HLn.out, HQ.out, hcont]; simp)
      have HK : Hid ((s.size - (l.drop k).length : Nat) = k) := Lib.hid (by have := HL.out k; rw [← HLL.out] at this; omega)
      have HG := Lib.hid hgo
      clear hcont
      by_cases hlt : k < s.size
      · have hq : ((s[k].toNat : Int) == 124) = false := byte_ne (d := 124) (fun e => HG.out ⟨hlt, e⟩)
        have hlt1 : (k : Int) < (s.size : Int) := by omega
        clear hgo
        go_wp2_with (go_at_call 188; ((refine (iJoin_any (4 * n + 3) (w.heap.size + 1) 3 _ lk S _ HO.out).mono ?_); rintro e w2 ⟨Ak, ck, S', rfl, hn2, hS, hb2⟩; have hbel2 := below_step hbel hb2; obtain ⟨⟨b0, b1, b2⟩, ⟨f0, f1, f2⟩, hz⟩ := box3p hbel2))
        refine bodyPost_ret (v := .tuple #[.agg #[.int .i64 (joinP 3 lk).x.op, .string (joinP 3 lk).x.text, .slice Ak (joinP 3 lk).kids.length ck], .int .i64 (k : Int)]) (by simp [results, Tryz.results173, go_sem, b0, b1, b2, hz]) rfl ?_
        rw [HD.out]
        exact tree_some (by simpa using hn2) hbel2 (Nat.le_refl _) HK.out
      · have hge : ¬ (k : Int) < (s.size : Int) := by omega
        clear hgo
        go_wp2_with (go_at_call 188; ((refine (iJoin_any (4 * n + 3) (w.heap.size + 1) 3 _ lk S _ HO.out).mono ?_); rintro e w2 ⟨Ak, ck, S', rfl, hn2, hS, hb2⟩; have hbel2 := below_step hbel hb2; obtain ⟨⟨b0, b1, b2⟩, ⟨f0, f1, f2⟩, hz⟩ := box3p hbel2))
        refine bodyPost_ret (v := .tuple #[.agg #[.int .i64 (joinP 3 lk).x.op, .string (joinP 3 lk).x.text, .slice Ak (joinP 3 lk).kids.length ck], .int .i64 (k : Int)]) (by simp [results, Tryz.results173, go_sem, b0, b1, b2, hz]) rfl ?_
        rw [HD.out]
        exact tree_some (by simpa using hn2) hbel2 (Nat.le_refl _) HK.out
set_option maxRecDepth 100000 in
theorem atom_0 : AtomC 0 := by
  intro s w hn h30
  have h0 : s.size = 0 := by omega
  have he : s.data.toList = [] := by rw [str_empty h0]
  have hem : s.toList.isEmpty = true := by rw [ByteArray.toList_eq, he]; rfl
  have hem2 : s.toList = [] := by rw [ByteArray.toList_eq, he]
  rw [he, atomF_nil]
  clear he h0 hn h30
  go_enter Tryz.func205, Tryz.ntmps205
  go_wp2
  refine bodyPost_ret (v := .tuple #[.agg #[.int .i64 0, .string ⟨#[]⟩, .slice none 0 0], .int .i64 0]) (by simp [results, Tryz.results205, go_sem]) rfl ?_
  exact ⟨rfl, below_al (Below.refl _ _) _⟩
theorem atom_any (hK : ClassC) : ∀ n, AtomC n
  | 0 => atom_0
  | n + 1 => atom_of (inner_of (alt_of (seq_of (rep_of (atom_any hK n))))) hK
theorem alt_any (hK : ClassC) (n : Nat) : AltC n := alt_of (seq_of (rep_of (atom_any hK n)))
/-- what ParsePattern hands back -/
def ParseOut (o : Option Pat) (w : World) (e : Ending) (w' : World) : Prop := match o with
  | none => e = .returned (.tuple #[.agg #[.int .i64 0, .string ⟨#[]⟩, .slice none 0 0], .bool false]) ∧ Below w.heap.size w w'
  | some p => ∃ (A : Option Addr) (c : Nat) (S : Nat → Prop), e = .returned (.tuple #[.agg #[.int .i64 p.x.op, .string p.x.text, .slice A p.kids.length c], .bool true]) ∧ OwN patK 124 w.heap.size w' ⟨p.x.op, p.x.text, .slice A p.kids.length c⟩ p S ∧ Below w.heap.size w w'
set_option maxRecDepth 100000 in
set_option maxHeartbeats 1000000 in
theorem iParsePat_any (hK : ClassC) (s : ByteArray) (hs : s.size ≤ maxLen) (w : World) : Calls Tryz.prog 156 #[.string s] w (ParseOut (patS s.data.toList) w) := by
  unfold maxLen at hs
  have hll : s.data.toList.length = s.size := by simp
  unfold patS
  rw [hll]
  by_cases h30 : 30 < s.size
  · rw [if_pos h30]
    have hq : decide ((30 : Int) < (s.size : Int)) = true := by simp; omega
    have hq' : (30 : Int) < (s.size : Int) := by omega
    clear h30 hll
    go_enter Tryz.func156, Tryz.ntmps156
    go_wp2
    refine bodyPost_ret (v := .tuple #[.agg #[.int .i64 0, .string ⟨#[]⟩, .slice none 0 0], .bool false]) (by simp [results, Tryz.results156, go_sem]) rfl ?_
    exact ⟨rfl, below_al (Below.refl _ _) _⟩
  · rw [if_neg h30]
    have hC := fun w => alt_any hK s.size s w (Nat.le_refl _) (by omega)
    have hsuf := altP_suf (atomF_sh s.size) s.data.toList
    obtain ⟨⟨p, r⟩, hpr⟩ : ∃ x, x = altP (atomF s.size) s.data.toList := ⟨_, rfl⟩
    rw [← hpr] at hC hsuf ⊢
    have hrl := hsuf.len
    simp only [hll] at hrl ⊢
    obtain ⟨k, hk⟩ : ∃ k, s.size - r.length = k := ⟨_, rfl⟩
    have HC : Hid (∀ w, Calls Tryz.prog 173 #[.string s] w fun e w' => ∃ (A : Option Addr) (c : Nat) (S : Nat → Prop), e = .returned (.tuple #[.agg #[.int .i64 p.x.op, .string p.x.text, .slice A p.kids.length c], .int .i64 (k : Int)]) ∧ OwN patK (4 * s.size + 4) w.heap.size w' ⟨p.x.op, p.x.text, .slice A p.kids.length c⟩ p S ∧ Below w.heap.size w w') := Lib.hid (by rw [← hk]; exact hC)
    have hq : ¬ (30 : Int) < (s.size : Int) := by omega
    have H30 := Lib.hid h30
    by_cases hr : r = []
    · rw [if_pos hr]
      have hks : k = s.size := by rw [hr] at hk; simpa using hk.symm
      have hq2 : ((k : Int) != (s.size : Int)) = false := by simp; omega
      have HKS := Lib.hid hks
      clear hll h30 hC hsuf hpr hrl hk hr hks
      go_enter Tryz.func156, Tryz.ntmps156
      go_wp2_with (go_at_call 173; ((refine (HC.out _).mono ?_); rintro e w1 ⟨A, c, S, rfl, ho, hb⟩; obtain ⟨⟨b0, b1, b2⟩, ⟨f0, f1, f2⟩, hz⟩ := box3p hb))
      refine bodyPost_ret (v := .tuple #[.agg #[.int .i64 p.x.op, .string p.x.text, .slice A p.kids.length c], .bool true]) (by simp [results, Tryz.results156, go_sem, b0, b1, b2, hz]) rfl ?_
      exact ⟨A, c, S, rfl, (((((OwN.set ho (by simp)).set (by simp)).set (by simp)).al _).mono (by simp)).to (by have := H30.out; omega), below_al (set3_below hb) _⟩
    · rw [if_neg hr]
      have hks : k ≠ s.size := by
        have := List.length_pos_iff.2 hr
        omega
      have hq2 : ((k : Int) != (s.size : Int)) = true := by simp; omega
      have HKS := Lib.hid hks
      clear hll h30 hC hsuf hpr hrl hk hr hks
      go_enter Tryz.func156, Tryz.ntmps156
      go_wp2_with (go_at_call 173; ((refine (HC.out _).mono ?_); rintro e w1 ⟨A, c, S, rfl, ho, hb⟩; obtain ⟨⟨b0, b1, b2⟩, ⟨f0, f1, f2⟩, hz⟩ := box3p hb))
      refine bodyPost_ret (v := .tuple #[.agg #[.int .i64 0, .string ⟨#[]⟩, .slice none 0 0], .bool false]) (by simp [results, Tryz.results156, go_sem, b0, b1, b2, hz]) rfl ?_
      exact ⟨rfl, below_al (set3_below hb) _⟩
set_option maxRecDepth 100000 in
theorem iIsPat_any (hK : ClassC) (s : ByteArray) (hs : s.size ≤ maxLen) (w : World) : Calls Tryz.prog 126 #[.string s] w fun e w' => e = .returned (.bool (patS s.data.toList).isSome) ∧ Below w.heap.size w w' := by
  have HC := Lib.hid (fun w => iParsePat_any hK s hs w)
  unfold maxLen at hs
  cases ho : patS s.data.toList with
  | none =>
    rw [ho] at HC
    clear ho
    go_enter Tryz.func126, Tryz.ntmps126
    go_wp2_with (go_at_call 156; ((refine (HC.out _).mono ?_); rintro e w1 ⟨rfl, hb⟩))
    go_ret
    exact ⟨rfl, below_al hb _⟩
  | some p =>
    rw [ho] at HC
    clear ho
    go_enter Tryz.func126, Tryz.ntmps126
    go_wp2_with (go_at_call 156; ((refine (HC.out _).mono ?_); rintro e w1 ⟨A, c, S, rfl, _, hb⟩))
    go_ret
    exact ⟨rfl, below_al hb _⟩
end Go.Proofs.YtkifdbeklagelaaGreatDoor
