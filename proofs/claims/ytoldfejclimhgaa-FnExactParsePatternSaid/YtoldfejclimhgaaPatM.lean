/- PATTERNS MARKED, AND FOUND AS MARKED: laws.markPatS, heldPatS. -/
import Derived.Test.YtoldfejclimhgaaPat
import Derived.Test.YtoldfejclimhgaaMark
namespace Go.Proofs.Ytoldfejclimhgaa
open Go.RowKit NumP

def mkStep (F : Nat → List Pat → List Pat × Nat) (a : List Pat × Nat) (t : Pat) : List Pat × Nat := (a.1 ++ [.mk ⟨(a.2 : Int), markS (a.2 + 1)⟩ (F (a.2 + 2) t.kids).1], (F (a.2 + 2) t.kids).2)
/-- the trees marked from the q-th mark on, and the mark behind -/
def mkL : Nat → Nat → List Pat → List Pat × Nat
  | 0, q, l => (l, q)
  | d + 1, q, l => l.foldl (mkStep (mkL d)) ([], q)
theorem mk_snoc (d q : Nat) (l : List Pat) (t : Pat) : mkL (d + 1) q (l ++ [t]) = mkStep (mkL d) (mkL (d + 1) q l) t := by
  unfold mkL; rw [List.foldl_append]; rfl
theorem mk_take {d q : Nat} {l : List Pat} {i : Nat} (hi : i < l.length) : mkL (d + 1) q (l.take (i + 1)) = mkStep (mkL d) (mkL (d + 1) q (l.take i)) l[i] := by
  rw [List.take_succ_eq_append_getElem hi, mk_snoc]
theorem mk_mono : ∀ (d q : Nat) (l : List Pat), q ≤ (mkL d q l).2
  | 0, q, l => Nat.le_refl _
  | d + 1, q, l => by
    have h : ∀ (l : List Pat) (a : List Pat × Nat), a.2 ≤ (l.foldl (mkStep (mkL d)) a).2 := fun l => by
      induction l with
      | nil => intro a; exact Nat.le_refl _
      | cons t r ih =>
        intro a
        rw [List.foldl_cons]
        refine Nat.le_trans ?_ (ih _)
        have := mk_mono d (a.2 + 2) t.kids
        show a.2 ≤ (mkL d (a.2 + 2) t.kids).2; omega
    exact h l ([], q)
theorem mk_fold (d : Nat) (l : List Pat) : ∀ a : List Pat × Nat, (l.foldl (mkStep (mkL d)) a).1.length = a.1.length + l.length := by
  induction l with
  | nil => intro a; rfl
  | cons t r ih => intro a; rw [List.foldl_cons, ih]; simp [mkStep]; omega
theorem mk_len (d q : Nat) (l : List Pat) : (mkL d q l).1.length = l.length := by
  cases d with
  | zero => rfl
  | succ d => have := mk_fold d l ([], q); simpa [mkL] using this
theorem mk_le {d q : Nat} {l : List Pat} {i : Nat} (hi : i ≤ l.length) : (mkL (d + 1) q (l.take i)).2 ≤ (mkL (d + 1) q l).2 := by
  have h : ∀ j, i + j ≤ l.length → (mkL (d + 1) q (l.take i)).2 ≤ (mkL (d + 1) q (l.take (i + j))).2 := fun j => by
    induction j with
    | zero => intro _; exact Nat.le_refl _
    | succ j ih =>
      intro hj
      refine Nat.le_trans (ih (by omega)) ?_
      rw [show i + (j + 1) = (i + j) + 1 by omega, mk_take (by omega)]
      have := mk_mono d ((mkL (d + 1) q (l.take (i + j))).2 + 2) (l[i + j]'(by omega)).kids
      show _ ≤ (mkL d ((mkL (d + 1) q (l.take (i + j))).2 + 2) (l[i + j]'(by omega)).kids).2
      omega
  have := h (l.length - i) (by omega)
  rwa [show i + (l.length - i) = l.length by omega, List.take_length] at this
theorem mk_get {d q : Nat} {l : List Pat} {i : Nat} (hi : i < l.length) (hi' : i < (mkL (d + 1) q l).1.length) :
    (mkL (d + 1) q l).1[i] = .mk ⟨((mkL (d + 1) q (l.take i)).2 : Int), markS ((mkL (d + 1) q (l.take i)).2 + 1)⟩ (mkL d ((mkL (d + 1) q (l.take i)).2 + 2) l[i].kids).1 := by
  have h : ∀ j, i + 1 + j ≤ l.length → (mkL (d + 1) q (l.take (i + 1 + j))).1[i]? = some (.mk ⟨((mkL (d + 1) q (l.take i)).2 : Int), markS ((mkL (d + 1) q (l.take i)).2 + 1)⟩ (mkL d ((mkL (d + 1) q (l.take i)).2 + 2) l[i].kids).1) := fun j => by
    induction j with
    | zero =>
      intro _
      rw [Nat.add_zero, mk_take hi]
      have hl : (mkL (d + 1) q (l.take i)).1.length = i := by rw [mk_len, List.length_take]; omega
      show ((mkL (d + 1) q (l.take i)).1 ++ [_])[i]? = _
      rw [List.getElem?_append_right (by omega), hl]; simp
    | succ j ih =>
      intro hj
      rw [show i + 1 + (j + 1) = (i + 1 + j) + 1 by omega, mk_take (by omega)]
      show ((mkL (d + 1) q (l.take (i + 1 + j))).1 ++ [_])[i]? = _
      rw [List.getElem?_append_left (by rw [mk_len, List.length_take]; omega)]
      exact ih (by omega)
  have := h (l.length - (i + 1)) (by omega)
  rw [show i + 1 + (l.length - (i + 1)) = l.length by omega, List.take_length, List.getElem?_eq_getElem hi'] at this
  exact Option.some.inj this
theorem mkN (q : Nat) (hq : q + 1 ≤ 4611686018427387904) (w : World) :
    Calls Try.prog 45 #[.int .i64 ((q : Int) + 1)] w fun e w' => e = .returned (.string (markS (q + 1))) ∧ Below w.heap.size w w' := by
  have h := mark_any (q + 1) (by omega) hq w
  rwa [Int.natCast_add] at h
/-- one tree of a list turned into another, in the same blocks -/
theorem OwL.change {α : Type} {k : Kd α} {d B : Nat} {w w' : World} {v : Value} {l : List (Tr α)} {S : Nat → Prop} {R : List k.ρ} {K : Nat → Nat → Prop} {i : Nat} {r' : k.ρ} {t' : Tr α}
    (h2 : R.length = l.length) (h3 : ∀ i (h : i < R.length) (h' : i < l.length), OwN k d B w R[i] l[i] (K i))
    (h4 : ∀ i j b, i < R.length → j < R.length → K i b → K j b → i = j) (h5 : ∀ i b, i < R.length → K i b → v.ownBlock ≠ some b) (h6 : ∀ b, S b ↔ v.ownBlock = some b ∨ ∃ i, i < R.length ∧ K i b)
    (hrow : RowR k.enc k.z k.E B w' v (R.set i r')) (hn : OwN k d B w' r' t' (K i)) (hf : ∀ j b, j < R.length → j ≠ i → K j b → w'.heap[b]? = w.heap[b]?) : OwL k (d + 1) B w' v (l.set i t') S := by
  refine OwL.whole hrow (by simpa using h2) (fun j hj hj' => ?_) (fun j j' b hj hj' => h4 j j' b (by simpa using hj) (by simpa using hj')) (fun j b hj => h5 j b (by simpa using hj)) (fun b => by simpa using h6 b)
  by_cases e : j = i
  · subst e; simpa using hn
  · have hj1 : j < R.length := by simpa using hj
    have := (h3 j hj1 (by rw [← h2]; exact hj1)).frame fun b hb => hf j b hj1 e hb
    have e1 : (R.set i r')[j] = R[j] := List.getElem_set_ne (fun e' => e e'.symm) _
    have e2 : (l.set i t')[j] = l[j]'(by simpa using hj') := List.getElem_set_ne (fun e' => e e'.symm) _
    rw [e1, e2]; exact this
/-- a record of a row turned in its first two fields, a call between -/
theorem RowP.put {B g n cap : Nat} {w w1 : World} {R : List PatR} {i : Nat} {q : Int} {t : ByteArray} (h : RowR PatR.enc 3 30 B w (.slice (some ⟨g, 0, none⟩) n cap) R) (hi : i < R.length)
    (hb : Below (w.setCell ⟨g, i * 3, none⟩ (.int .i64 q)).heap.size (w.setCell ⟨g, i * 3, none⟩ (.int .i64 q)) w1) :
    RowR PatR.enc 3 30 B (w1.setCell ⟨g, i * 3 + 1, none⟩ (.string t)) (.slice (some ⟨g, 0, none⟩) n cap) (R.set i ⟨q, t, R[i].kv⟩) ∧
    w.grownBy (w1.setCell ⟨g, i * 3 + 1, none⟩ (.string t)) (some g) ∧
    (w1.cell? ⟨g, i * 3 + 1, none⟩ = some (.string R[i].text) ∧ w1.cell? ⟨g, i * 3 + 2, none⟩ = some R[i].kv) ∧ w1.frozen? ⟨g, i * 3 + 1, none⟩ = false := by
  have hz : ∀ r : PatR, r.enc.length = 3 := fun _ => rfl
  have h0 := RowR.set1 hz h hi 0 (by omega) (.int .i64 q) ⟨q, R[i].text, R[i].kv⟩ rfl
  have h0' := RowR.below h0.1 hb
  have hi' : i < (R.set i ⟨q, R[i].text, R[i].kv⟩).length := by simpa using hi
  have h1 := RowR.set1 hz h0' hi' 1 (by omega) (.string t) ⟨q, t, R[i].kv⟩ (by simp [PatR.enc])
  have hg : (w.setCell ⟨g, i * 3, none⟩ (.int .i64 q)).grownBy w1 (some g) := ⟨hb.os, hb.tape, hb.output, hb.size, fun k hk _ => hb.block k hk⟩
  refine ⟨?_, (h0.2.trans hg).trans h1.2, ⟨?_, ?_⟩, RowR.frozen h0' _⟩
  · have := h1.1; rwa [List.set_set] at this
  · exact RowR.cell hz h0' hi' (j := 1) (by simp [PatR.enc])
  · exact RowR.cell hz h0' hi' (j := 2) (by simp [PatR.enc])
def MarkPats (d : Nat) : Prop := ∀ (B : Nat) (v : Value) (l : List Pat) (q : Nat) (w : World) (S : Nat → Prop), OwL patK d B w v l S → (mkL d q l).2 ≤ 2305843009213693952 →
  Calls Try.prog 29 #[v, .int .i64 q] w fun e w' => e = .returned (.int .i64 ((mkL d q l).2 : Int)) ∧ OwL patK d B w' v (mkL d q l).1 S ∧ TurnsAt S w w'
set_option maxRecDepth 100000 in
theorem markPats_none (A : Option Addr) (cap : Nat) (q : Nat) (w : World) : Calls Try.prog 29 #[.slice A 0 cap, .int .i64 q] w fun e w' => e = .returned (.int .i64 q) ∧ w = w' := by
  go_enter Try.func29, Try.ntmps29
  go_wp2
  go_loopw [1, 5] (fun x i wr => x = .int .i64 q ∧ i = .int .i64 0 ∧ wr = w) (fun _ _ _ => 0)
  case atStart => exact ⟨rfl, rfl, rfl⟩
  case round =>
    obtain ⟨rfl, rfl, rfl⟩ := hrel
    go_wp2
    go_ret
    exact ⟨rfl, rfl⟩
theorem markPats_0 : MarkPats 0 := by
  intro B v l q w S h hb
  have h' := h
  obtain ⟨rfl, hr, _⟩ := h'
  obtain ⟨A, cap, rfl⟩ : ∃ A cap, v = .slice A 0 cap := by
    rcases hr.form with ⟨rfl, _⟩ | ⟨g, cap, rfl, _⟩
    · exact ⟨_, _, rfl⟩
    · exact ⟨_, cap, rfl⟩
  refine (markPats_none A cap q w).mono ?_
  rintro e w' ⟨rfl, rfl⟩
  exact ⟨rfl, h, TurnsAt.refl _ _⟩
set_option maxRecDepth 100000 in
set_option maxHeartbeats 2000000 in
theorem markPats_of {d : Nat} (ih : MarkPats d) : MarkPats (d + 1) := by
  intro B v l q w S h hbd
  rcases h.form with ⟨rfl, rfl⟩ | ⟨g, cap, rfl, hg0, hg⟩
  · refine (markPats_none none 0 q w).mono ?_
    rintro e w' ⟨rfl, rfl⟩
    exact ⟨rfl, h, TurnsAt.refl _ _⟩
  · obtain ⟨n, hnn⟩ : ∃ n, n = l.length := ⟨_, rfl⟩
    have HN : Hid (n = l.length) := Lib.hid hnn
    have hn9 : n ≤ 9223372036854775807 := by
      obtain ⟨R, K, h1, h2, _⟩ := h.parts
      have := h1.len; omega
    have h0 : OwL patK (d + 1) B w (.slice (some ⟨g, 0, none⟩) n cap) ((mkL (d + 1) q (l.take 0)).1 ++ l.drop 0) S := by
      rw [hnn]; simpa [mkL] using h
    have HBD := Lib.hid hbd
    have HIH := Lib.hid ih
    rw [← hnn]
    clear h hnn ih hbd
    go_enter Try.func29, Try.ntmps29
    go_wp2
    go_loopw [1, 5] (fun x i wr => ∃ j m : Nat, j ≤ n ∧ Hid (m = (mkL (d + 1) q (l.take j)).2) ∧ m ≤ 2305843009213693952 ∧ x = .int .i64 m ∧ i = .int .i64 j ∧ Hid (OwL patK (d + 1) B wr (.slice (some ⟨g, 0, none⟩) n cap) ((mkL (d + 1) q (l.take j)).1 ++ l.drop j) S) ∧ TurnsAt S w wr) (fun _ i _ => n - (intOf i).toNat)
    case atStart => exact ⟨0, q, Nat.zero_le _, Lib.hid (by simp [mkL]), Nat.le_trans (mk_mono (d + 1) q l) HBD.out, rfl, rfl, Lib.hid h0, TurnsAt.refl _ _⟩
    case round =>
      obtain ⟨j, m, hj, HM, hm, rfl, rfl, HO, htu⟩ := hrel
      by_cases hlt : j < n
      · have hjl : j < l.length := by rw [← HN.out]; exact hlt
        obtain ⟨R, K, h1, h2, h3, h4, h5, h6⟩ := HO.out.parts
        have hpl : (mkL (d + 1) q (l.take j)).1.length = j := by rw [mk_len, List.length_take]; omega
        have hLl : ((mkL (d + 1) q (l.take j)).1 ++ l.drop j).length = n := by have := HN.out; simp [hpl]; omega
        have hR : j < R.length := by rw [h2, hLl]; exact hlt
        have hLj : ((mkL (d + 1) q (l.take j)).1 ++ l.drop j)[j]'(by rw [hLl]; exact hlt) = l[j] := by
          rw [List.getElem_append_right (by omega)]; simp [hpl]
        have hnode := h3 j hR (by rw [hLl]; exact hlt)
        rw [hLj] at hnode
        obtain ⟨S1, S2, ⟨⟨hop, htx⟩, hS1⟩, hkid, hdis, hK⟩ := hnode
        have hz : ∀ r : PatR, r.enc.length = 3 := fun _ => rfl
        have e0 : wr.cell? ⟨g, j * 3, none⟩ = some (.int .i64 R[j].op) := RowR.cell hz h1 hR (j := 0) rfl
        have f0 : wr.frozen? ⟨g, j * 3, none⟩ = false := RowR.frozen h1 _
        have hq1 : m + 1 ≤ 4611686018427387904 := by omega
        have HNX : Hid (mkL (d + 1) q (l.take (j + 1)) = mkStep (mkL d) (mkL (d + 1) q (l.take j)) l[j]) := Lib.hid (mk_take hjl)
        have hstep : (mkL d (m + 2) l[j].kids).2 ≤ 2305843009213693952 := by
          have := mk_le (d := d) (q := q) (l := l) (i := j + 1) (by omega)
          rw [mk_take hjl] at this
          have e : (mkStep (mkL d) (mkL (d + 1) q (l.take j)) l[j]).2 = (mkL d (m + 2) l[j].kids).2 := by rw [HM.out]; rfl
          rw [e] at this
          exact Nat.le_trans this HBD.out
        have HP : Hid (∀ w1, Below (wr.setCell ⟨g, j * 3, none⟩ (.int .i64 (m : Int))).heap.size (wr.setCell ⟨g, j * 3, none⟩ (.int .i64 (m : Int))) w1 → _) := Lib.hid fun w1 hb => RowP.put (t := markS (m + 1)) (q := (m : Int)) h1 hR hb
        have HS2 : Hid (∀ b, S2 b → b ≠ g) := Lib.hid fun b hb e => h5 j b hR ((hK b).2 (.inr hb)) (by rw [e]; rfl)
        have HKID : Hid (∀ w1, wr.grownBy (w1) (some g) → OwL patK d B w1 R[j].kv l[j].kids S2) := Lib.hid fun w1 hg1 => hkid.other hg1 fun b hb e => HS2.out b hb (Option.some.inj e)
        have HST : Hid (∀ w3 kids', (kids' = (mkL d (m + 2) l[j].kids).1) → ∀ w2, wr.grownBy w2 (some g) → RowR PatR.enc 3 30 B w2 (.slice (some ⟨g, 0, none⟩) n cap) (R.set j ⟨(m : Int), markS (m + 1), R[j].kv⟩) → OwL patK d B w3 R[j].kv kids' S2 → TurnsAt S2 w2 w3 → OwL patK (d + 1) B w3 (.slice (some ⟨g, 0, none⟩) n cap) ((mkL (d + 1) q (l.take (j + 1))).1 ++ l.drop (j + 1)) S ∧ TurnsAt S w w3) := Lib.hid (by
          intro w3 kids' hks w2 hp2 hp1 hk3 ht3
          have hlst : (mkL (d + 1) q (l.take (j + 1))).1 ++ l.drop (j + 1) = ((mkL (d + 1) q (l.take j)).1 ++ l.drop j).set j (.mk ⟨(m : Int), markS (m + 1)⟩ kids') := by
            rw [List.set_append_right _ _ (by omega), hpl, Nat.sub_self, List.drop_eq_getElem_cons hjl, List.set_cons_zero, HNX.out, hks, HM.out]
            simp [mkStep]
          rw [hlst]
          refine ⟨OwL.change h2 h3 h4 h5 h6 (rowR_apart hp1 ht3 fun b hb hs => HS2.out b hs (by simpa [Value.ownBlock] using hb.symm)) ⟨S1, S2, ⟨⟨rfl, rfl⟩, hS1⟩, hk3, hdis, hK⟩ ?_, ?_⟩
          · intro j' b hj' hne hk
            have hlt' := ((h3 j' hj' (by rw [← h2]; exact hj')).lt b hk).2
            rw [ht3.block b (Nat.lt_of_lt_of_le hlt' hp2.size) (fun hs => hne (h4 j' j b hj' hR hk ((hK b).2 (.inr hs))))]
            exact hp2.block b hlt' (fun e => h5 j' b hj' hk e.symm)
          · exact (htu.trans (grown_turns hp2 fun b e => (h6 b).2 (.inl (by rw [← e]; rfl)))).trans (ht3.mono fun b hs _ => (h6 b).2 (.inr ⟨j, hR, (hK b).2 (.inr hs)⟩)))
        have HIHc : Hid (∀ w1, OwL patK d B w1 R[j].kv l[j].kids S2 → Calls Try.prog 29 #[R[j].kv, .int .i64 ((m : Int) + 2)] w1 fun e w' => e = .returned (.int .i64 ((mkL d (m + 2) l[j].kids).2 : Int)) ∧ OwL patK d B w' R[j].kv (mkL d (m + 2) l[j].kids).1 S2 ∧ TurnsAt S2 w1 w') := Lib.hid fun w1 hw => by
          have := HIH.out B R[j].kv l[j].kids (m + 2) w1 S2 hw hstep
          rwa [Int.natCast_add] at this
        have HM2 : Hid ((mkL d (m + 2) l[j].kids).2 = (mkL (d + 1) q (l.take (j + 1))).2) := Lib.hid (by rw [HNX.out, HM.out]; rfl)
        obtain ⟨kv, hkv⟩ : ∃ kv, kv = R[j].kv := ⟨_, rfl⟩
        obtain ⟨m', hm'⟩ : ∃ m', m' = (mkL d (m + 2) l[j].kids).2 := ⟨_, rfl⟩
        rw [← hkv, ← hm'] at HIHc
        rw [← hkv] at HKID
        rw [← hm'] at hstep HM2
        have HKV := Lib.hid hkv
        clear hkv hm' h1 h2 h3 h4 h5 h6 hkid hdis hK hop htx hS1 hLj hLl hpl htu HO
        go_wp2_with (first
          | (go_at_call 45; refine (mkN m hq1 _).mono ?_; rintro e w1 ⟨rfl, hb1⟩; obtain ⟨hp1, hp2, ⟨c1, c2⟩, f1⟩ := HP.out w1 hb1; have c3 : w1.cell? ⟨g, j * 3 + 2, none⟩ = some kv := (by rw [HKV.out]; exact c2); clear c2; have HP1 := Lib.hid hp1; have HP2 := Lib.hid hp2; clear hb1 hp1 hp2)
          | (go_at_call 29; refine (HIHc.out _ (HKID.out _ HP2.out)).mono ?_; rintro e w3 ⟨rfl, hk3, ht3⟩))
        go_roundw
        case rel =>
          rw [HKV.out] at hk3
          have hf := HST.out w3 _ rfl _ HP2.out HP1.out hk3 ht3
          exact ⟨j + 1, m', by omega, HM2, hstep, rfl, by go_num, Lib.hid hf.1, hf.2⟩
        case measure => simp [intOf]; omega
      · have e : j = n := by omega
        subst e
        go_wp2
        go_ret
        have e1 : l.take j = l := List.take_of_length_le (by have := HN.out; omega)
        have e2 : l.drop j = [] := List.drop_eq_nil_of_le (by have := HN.out; omega)
        have h := HO.out
        rw [e1, e2, List.append_nil] at h
        refine ⟨ret_int (by rw [HM.out, e1]), ?_, htu⟩
        exact h
theorem markPats_any : ∀ d, MarkPats d
  | 0 => markPats_0
  | d + 1 => markPats_of (markPats_any d)
theorem held_pat {w w1 w2 : World} {p : Addr} {t : ByteArray} (k : Below w1.heap.size w1 w2) (h : w1.cell? p = some (.string t) ∧ Below w.heap.size w w1) (hp : p.block < w.heap.size) : w2.cell? p = some (.string t) ∧ Below w.heap.size w w2 :=
  ⟨by rw [k.cell (Nat.lt_of_lt_of_le hp h.2.size)]; exact h.1, below_step h.2 k⟩
def HeldPats (d : Nat) : Prop := ∀ (v : Value) (l : List Pat) (q : Nat) (w : World), RdL patK d w v (mkL d q l).1 → (mkL d q l).2 ≤ 2305843009213693952 →
  Calls Try.prog 30 #[v, .int .i64 q] w fun e w' => e = .returned (.int .i64 ((mkL d q l).2 : Int)) ∧ Below w.heap.size w w'
set_option maxRecDepth 100000 in
theorem heldPats_0 : HeldPats 0 := by
  rintro v l q w ⟨hl, A, cap, rfl, _⟩ _
  go_enter Try.func30, Try.ntmps30
  go_wp2
  go_loopw [1, 5] (fun x i wr => x = .int .i64 q ∧ i = .int .i64 0 ∧ wr = w) (fun _ _ _ => 0)
  case atStart => exact ⟨rfl, rfl, rfl⟩
  case round =>
    obtain ⟨rfl, rfl, rfl⟩ := hrel
    go_wp2
    go_ret
    exact ⟨rfl, Below.refl _ _⟩
set_option maxRecDepth 100000 in
set_option maxHeartbeats 2000000 in
theorem heldPats_of {d : Nat} (ih : HeldPats d) : HeldPats (d + 1) := by
  rintro v l q w ⟨R, hR, hRl, hRk⟩ hbd
  rw [mk_len] at hRl
  obtain ⟨A, cap, rfl, hn', hc⟩ := hR
  obtain ⟨n, hnn⟩ : ∃ n, n = l.length := ⟨_, rfl⟩
  have HN : Hid (n = l.length) := Lib.hid hnn
  rw [hRl, ← hnn] at hn' ⊢
  rw [show patK.enc = PatR.enc from rfl, show patK.z = 3 from rfl] at hc
  have HC : ∀ i m, i < n → m = (mkL (d + 1) q (l.take i)).2 → ∃ (a : Addr) (kv : Value) (m' : Nat), A = some a ∧ (a.add (i * 3)).block < w.heap.size ∧ Pk w (a.add (i * 3)) ⟨(m : Int), markS (m + 1), kv⟩ ∧ m' = (mkL (d + 1) q (l.take (i + 1))).2 ∧ m' ≤ 2305843009213693952 ∧ m + 2 ≤ m' ∧ ∀ W, Below w.heap.size w W → Calls Try.prog 30 #[kv, .int .i64 ((m : Int) + 2)] W fun e w' => e = .returned (.int .i64 (m' : Int)) ∧ Below W.heap.size W w' := fun i m hi hm => by
    have h1 : i < R.length := by rw [hRl, ← hnn]; exact hi
    obtain ⟨a, e1, e2, e3⟩ := HasP.pk hc i h1
    have hl : i < l.length := by rw [← hnn]; exact hi
    have hk := hRk i h1 (by rw [mk_len]; exact hl)
    rw [mk_get hl (by rw [mk_len]; exact hl), ← hm] at hk
    obtain ⟨⟨k1, k2⟩, k3⟩ := hk
    have hnx := mk_take (d := d) (q := q) hl
    have hm' : (mkL d (m + 2) l[i].kids).2 = (mkL (d + 1) q (l.take (i + 1))).2 := by rw [hnx, hm]; rfl
    have hb' : (mkL d (m + 2) l[i].kids).2 ≤ 2305843009213693952 := by rw [hm']; exact Nat.le_trans (mk_le (by omega)) hbd
    refine ⟨a, R[i].kv, (mkL d (m + 2) l[i].kids).2, e1, e2, ?_, hm', hb', mk_mono d (m + 2) _, fun W hb => ?_⟩
    · have k1' : R[i].op = (m : Int) := k1
      have k2' : R[i].text = markS (m + 1) := k2
      exact ⟨by rw [← k1']; exact e3.1, by rw [← k2']; exact e3.2.1, e3.2.2⟩
    · have := ih R[i].kv l[i].kids (m + 2) W (k3.below hb) hb'
      rwa [Int.natCast_add] at this
  have hbd0 := Nat.le_trans (mk_mono (d + 1) q l) hbd
  clear hc hRk hRl hnn hbd
  go_enter Try.func30, Try.ntmps30
  go_wp2
  go_loopw [1, 5] (fun x i wr => ∃ j m : Nat, j ≤ n ∧ Hid (m = (mkL (d + 1) q (l.take j)).2) ∧ m ≤ 2305843009213693952 ∧ x = .int .i64 m ∧ i = .int .i64 j ∧ Below w.heap.size w wr) (fun _ i _ => n - (intOf i).toNat)
  case atStart => exact ⟨0, q, Nat.zero_le _, Lib.hid (by simp [mkL]), hbd0, rfl, rfl, Below.refl _ _⟩
  case round =>
    obtain ⟨j, m, hj, HM, hm, rfl, rfl, hbel⟩ := hrel
    by_cases hlt : j < n
    · obtain ⟨a, kv, m', rfl, hab, hcell, hm1, hm2, hm3, hcall⟩ := HC j m hlt HM.out
      obtain ⟨c0, c1, c2⟩ := hcell.below hbel hab
      have hq1 : m + 1 ≤ 4611686018427387904 := by omega
      have hab' : (a.add (j * 3)).block < wr.heap.size := Nat.lt_of_lt_of_le hab hbel.size
      have HM1 := Lib.hid hm1
      have HCALL := Lib.hid hcall
      clear hcell HC hm1 hcall
      simp only at c0 c1 c2
      go_wp2
      go_region_held3 (fun w' => w'.cell? ⟨(a.add (j * 3)).block, (a.add (j * 3)).off + 1, none⟩ = some (.string (markS (m + 1))) ∧ Below wr.heap.size wr w') (first | exact ⟨c1, (Below.refl _ _).drew⟩ | exact held_pat hbm (by assumption) hab' | go_keep)
        (first | (go_at_call 45; refine (mkN m hq1 _).mono ?_; rintro e w1 ⟨rfl, hbm⟩))
      have hS := (by assumption : _ ∧ Below wr.heap.size wr _)
      have hB2 := below_step hbel hS.2
      have c2' := (hS.2.cell (p := ⟨(a.add (j * 3)).block, (a.add (j * 3)).off + 2, none⟩) hab').trans c2
      clear hS c0 c1 c2
      have hm0 : ¬ ((m' : Int) < 0) := by omega
      go_wp2_with (go_at_call 30; refine (HCALL.out _ hB2).mono ?_; rintro e w3 ⟨rfl, hb3⟩)
      go_roundw
      case rel => exact ⟨j + 1, m', by omega, HM1, hm2, rfl, by go_num, below_step hB2 hb3⟩
      case measure => simp [intOf]; omega
    · have e : j = n := by omega
      subst e
      go_wp2
      go_ret
      exact ⟨ret_int (by rw [HM.out, List.take_of_length_le (by have := HN.out; omega)]), hbel⟩
theorem heldPats_any : ∀ d, HeldPats d
  | 0 => heldPats_0
  | d + 1 => heldPats_of (heldPats_any d)
set_option maxRecDepth 100000 in
theorem markPat_any (d B : Nat) (x : PatR) (t : Pat) (S : Nat → Prop) (w : World) (h : OwN patK d B w x t S) (hb : (mkL d 1 t.kids).2 ≤ 2305843009213693952) :
    Calls Try.prog 16 #[.agg #[.int .i64 x.op, .string x.text, x.kv], .int .i64 1] w fun e w' => e = .returned (.int .i64 ((mkL d 1 t.kids).2 : Int)) ∧ OwN patK d B w' x (.mk t.x (mkL d 1 t.kids).1) S ∧ TurnsAt S w w' := by
  obtain ⟨S1, S2, ⟨⟨h1, h2⟩, h3⟩, hk, hd, hS⟩ := h
  obtain ⟨xo, xt, xk⟩ := x
  have hbel := below_al (Below.refl w.heap.size w) (.cells #[.int .i64 xo, .string xt, xk] 30)
  have HC := Lib.hid (markPats_any d B xk t.kids 1 (w.alloc (.cells #[.int .i64 xo, .string xt, xk] 30)) S2 (hk.below hbel) hb)
  have HB := Lib.hid hbel
  clear hk hbel
  go_enter Try.func16, Try.ntmps16
  go_wp2_with (go_at_call 29; refine (HC.out).mono ?_; rintro e w1 ⟨rfl, hk1, ht1⟩)
  go_ret
  exact ⟨rfl, ⟨S1, S2, ⟨⟨h1, h2⟩, h3⟩, hk1, hd, hS⟩, (below_turns HB.out).trans (ht1.mono fun b hb _ => (hS b).2 (.inr hb))⟩
set_option maxRecDepth 100000 in
theorem heldPat_any (d : Nat) (x : PatR) (l : List Pat) (w : World) (h : RdL patK d w x.kv (mkL d 1 l).1) (hb : (mkL d 1 l).2 ≤ 2305843009213693952) :
    Calls Try.prog 17 #[.agg #[.int .i64 x.op, .string x.text, x.kv], .int .i64 1] w fun e w' => e = .returned (.int .i64 ((mkL d 1 l).2 : Int)) ∧ Below w.heap.size w w' := by
  obtain ⟨xo, xt, xk⟩ := x
  have hbel := below_al (Below.refl w.heap.size w) (.cells #[.int .i64 xo, .string xt, xk] 30)
  have HC := Lib.hid (heldPats_any d xk l 1 (w.alloc (.cells #[.int .i64 xo, .string xt, xk] 30)) (h.below hbel) hb)
  have HB := Lib.hid hbel
  have hm0 : ¬ (((mkL d 1 l).2 : Int) < 0) := by omega
  generalize (mkL d 1 l).2 = m at HC hm0
  clear h hbel hb
  go_enter Try.func17, Try.ntmps17
  go_wp2_with (go_at_call 30; refine (HC.out).mono ?_; rintro e w1 ⟨rfl, hb1⟩)
  go_ret
  exact ⟨rfl, below_step HB.out hb1⟩
end Go.Proofs.Ytoldfejclimhgaa
