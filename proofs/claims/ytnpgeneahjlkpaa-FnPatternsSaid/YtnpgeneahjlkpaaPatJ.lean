/- CHAPTER 5: impl's readInner, readRepeat, readAtom (the class is asked for as a premise). -/
import Derived.Test.YtnpgeneahjlkpaaPatI
import Derived.Test.YtnpgeneahjlkpaaPatB
import Derived.Lib.Strings
set_option linter.unusedVariables false
set_option linter.unusedSimpArgs false
namespace Go.Proofs.Ytnpgeneahjlkpaa
open Go.RowKit

/-- what a reader hands back: the pattern and how many bytes it takes; the zero pattern and 0 -/
def TreeOut (d : Nat) (o : Option (Pat × List UInt8)) (n : Nat) (w : World) (e : Ending) (w' : World) : Prop := match o with
  | none => e = .returned (.tuple #[.agg #[.int .i64 0, .string ⟨#[]⟩, .slice none 0 0], .int .i64 0]) ∧ Below w.heap.size w w'
  | some (p, r) => ∃ (A : Option Addr) (c : Nat) (S : Nat → Prop), e = .returned (.tuple #[.agg #[.int .i64 p.x.op, .string p.x.text, .slice A p.kids.length c], .int .i64 ((n - r.length : Nat) : Int)]) ∧ OwN patK d w.heap.size w' ⟨p.x.op, p.x.text, .slice A p.kids.length c⟩ p S ∧ Below w.heap.size w w'
def AtomC (n : Nat) : Prop := ∀ (s : ByteArray) (w : World), s.size ≤ n → s.size ≤ 30 → Calls Try.prog 152 #[.string s] w (TreeOut (4 * n) (atomF n s.data.toList) s.size w)
def RepC (n : Nat) : Prop := ∀ (s : ByteArray) (w : World), s.size ≤ n → s.size ≤ 30 → Calls Try.prog 146 #[.string s] w (TreeOut (4 * n + 2) (repL (atomF n) s.data.toList) s.size w)
def SeqC (n : Nat) : Prop := ∀ (s : ByteArray) (w : World), s.size ≤ n → s.size ≤ 30 → Calls Try.prog 125 #[.string s] w (TreeOut (4 * n + 3) (some (seqP (atomF n) s.data.toList)) s.size w)
def AltC (n : Nat) : Prop := ∀ (s : ByteArray) (w : World), s.size ≤ n → s.size ≤ 30 → Calls Try.prog 101 #[.string s] w (TreeOut (4 * n + 4) (some (altP (atomF n) s.data.toList)) s.size w)
def ClassC : Prop := ∀ (s : ByteArray) (w : World), 0 < s.size → s.size ≤ 30 → Calls Try.prog 159 #[.string s] w (TreeOut 0 (classL (s.data.toList.drop 1)) s.size w)
/-- behind '(' -/
def innerL (n : Nat) (l : List UInt8) : Option (Pat × List UInt8) := match (altP (atomF n) l).2 with
  | [] => none
  | d :: r' => if d = 41 then some ((altP (atomF n) l).1, r') else none
def InnerC (n : Nat) : Prop := ∀ (s : ByteArray) (w : World), 0 < s.size → s.size ≤ n + 1 → s.size ≤ 30 → Calls Try.prog 158 #[.string s] w (TreeOut (4 * n + 4) (innerL n (s.data.toList.drop 1)) s.size w)
theorem drop_head {s : ByteArray} {k : Nat} {d : UInt8} {r : List UInt8} (h : d :: r = s.data.toList.drop k) : ∃ hk : k < s.size, s[k] = d ∧ r = s.data.toList.drop (k + 1) := by
  have hk : k < s.size := by
    rcases Nat.lt_or_ge k s.size with h1 | h1
    · exact h1
    · rw [List.drop_eq_nil_of_le (by simpa using h1)] at h; cases h
  rw [data_drop s k hk] at h
  injection h with h1 h2
  exact ⟨hk, h1.symm, h2⟩
theorem ext_drop (s : ByteArray) (k : Nat) : (s.extract k s.size).data.toList = s.data.toList.drop k := by
  rw [Lib.extract_data, List.take_of_length_le (by simp)]
theorem ext_size (s : ByteArray) (k : Nat) : (s.extract k s.size).size = s.size - k := by simp
set_option maxRecDepth 100000 in
set_option maxHeartbeats 1000000 in
theorem inner_of {n : Nat} (hA : AltC n) : InnerC n := by
  intro s w h0 hn h30
  have hC := fun w => hA (s.extract 1 s.size) w (by rw [ext_size]; omega) (by rw [ext_size]; omega)
  rw [ext_drop, ext_size] at hC
  have hsuf := altP_suf (atomF_sh n) (s.data.toList.drop 1)
  unfold innerL
  obtain ⟨⟨p, r⟩, hpr⟩ : ∃ x, x = altP (atomF n) (s.data.toList.drop 1) := ⟨_, rfl⟩
  rw [← hpr] at hC hsuf ⊢
  have hlen : (s.data.toList.drop 1).length = s.size - 1 := by simp
  have hr := hsuf.drop
  have hrl := hsuf.len
  simp only at hr hrl ⊢
  rw [hlen] at hr hrl
  rw [List.drop_drop] at hr
  obtain ⟨k, hk⟩ : ∃ k, k = s.size - 1 - r.length := ⟨_, rfl⟩
  rw [← hk] at hr
  have HC : Hid (∀ w, Calls Try.prog 101 #[.string (s.extract 1 s.size)] w fun e w' => ∃ (A : Option Addr) (c : Nat) (S : Nat → Prop), e = .returned (.tuple #[.agg #[.int .i64 p.x.op, .string p.x.text, .slice A p.kids.length c], .int .i64 (k : Int)]) ∧ OwN patK (4 * n + 4) w.heap.size w' ⟨p.x.op, p.x.text, .slice A p.kids.length c⟩ p S ∧ Below w.heap.size w w') := Lib.hid (by
    intro w; rw [hk]; exact hC w)
  have hs0 : s.size ≤ 9223372036854775807 := by omega
  have hs1 : 1 ≤ s.size := h0
  have hkb : (k : Int) ≤ 30 := by omega
  clear hC hsuf hlen hpr hA
  cases r with
  | nil =>
    have hk1 : 1 + k = s.size := by simp at hk; omega
    have hq : (1 + (k : Int) == (s.size : Int)) = true := by simp; omega
    have HK := Lib.hid hk1
    clear hr hrl hk hk1 hn h30 h0
    go_enter Try.func158, Try.ntmps158
    go_wp2_with (go_at_call 101; refine (HC.out _).mono ?_; rintro e w1 ⟨A, c, S, rfl, ho, hb⟩; obtain ⟨⟨b0, b1, b2⟩, ⟨f0, f1, f2⟩, hz⟩ := box3p hb)
    refine bodyPost_ret (v := .tuple #[.agg #[.int .i64 0, .string ⟨#[]⟩, .slice none 0 0], .int .i64 0]) (by simp [results, Try.results158, go_sem, b0, b1, b2, hz]) rfl ?_
    exact ⟨rfl, below_al (below_set (below_set (below_set (below_step (below_al (Below.refl _ _) _) hb) (Nat.le_refl _)) (Nat.le_refl _)) (Nat.le_refl _)) _⟩
  | cons d r' =>
    obtain ⟨hlt, hd, hr'⟩ := drop_head hr
    have hq : (1 + (k : Int) == (s.size : Int)) = false := by simp only [beq_eq_false_iff_ne, ne_eq]; omega
    have hlt1 : (1 : Int) + (k : Int) < (s.size : Int) := by omega
    have hln : r'.length = s.size - (1 + k + 1) := by rw [hr']; simp
    have HLN : Hid ((s.size - r'.length : Nat) = 1 + k + 1) := Lib.hid (by omega)
    have HD := Lib.hid hd
    by_cases h41 : d = 41
    · have hq2 : ((s[1 + k].toNat : Int) != 41) = false := by rw [hd, h41]; rfl
      have H41 := Lib.hid h41
      simp only [if_pos h41]
      clear hr hrl hk hn h30 h0 hr' hln hd h41
      go_enter Try.func158, Try.ntmps158
      go_wp2_with (go_at_call 101; refine (HC.out _).mono ?_; rintro e w1 ⟨A, c, S, rfl, ho, hb⟩; obtain ⟨⟨b0, b1, b2⟩, ⟨f0, f1, f2⟩, hz⟩ := box3p hb)
      refine bodyPost_ret (v := .tuple #[.agg #[.int .i64 p.x.op, .string p.x.text, .slice A p.kids.length c], .int .i64 (1 + (k : Int) + 1)]) (by simp [results, Try.results158, go_sem, b0, b1, b2, hz]) rfl ?_
      refine ⟨A, c, S, by rw [HLN.out]; rfl, ?_, below_al (below_set (below_set (below_set (below_step (below_al (Below.refl _ _) _) hb) (Nat.le_refl _)) (Nat.le_refl _)) (Nat.le_refl _)) _⟩
      exact ((((OwN.set ho (by simp)).set (by simp)).set (by simp)).al _).mono (by simp)
    · have hq2 : ((s[1 + k].toNat : Int) != 41) = true := by rw [hd, bne, show ((d.toNat : Int) == 41) = false from byte_ne (d := 41) h41]; rfl
      have H41 := Lib.hid h41
      simp only [if_neg h41]
      clear hr hrl hk hn h30 h0 hr' hln hd h41
      go_enter Try.func158, Try.ntmps158
      go_wp2_with (go_at_call 101; refine (HC.out _).mono ?_; rintro e w1 ⟨A, c, S, rfl, ho, hb⟩; obtain ⟨⟨b0, b1, b2⟩, ⟨f0, f1, f2⟩, hz⟩ := box3p hb)
      refine bodyPost_ret (v := .tuple #[.agg #[.int .i64 0, .string ⟨#[]⟩, .slice none 0 0], .int .i64 0]) (by simp [results, Try.results158, go_sem, b0, b1, b2, hz]) rfl ?_
      exact ⟨rfl, below_al (below_set (below_set (below_set (below_step (below_al (Below.refl _ _) _) hb) (Nat.le_refl _)) (Nat.le_refl _)) (Nat.le_refl _)) _⟩
section
variable {d n k : Nat} {p : Pat} {r : List UInt8} {w w1 : World} {o : Obj} {A : Option Addr} {c : Nat} {S : Nat → Prop} {x0 x1 x2 : Value}
theorem set3_below (hb : Below (w.alloc o).heap.size (w.alloc o) w1) : Below w.heap.size w (((w1.setCell ⟨w.heap.size, 0, none⟩ x0).setCell ⟨w.heap.size, 1, none⟩ x1).setCell ⟨w.heap.size, 2, none⟩ x2) :=
  below_set (below_set (below_set (below_step (below_al (Below.refl _ _) _) hb) (Nat.le_refl _)) (Nat.le_refl _)) (Nat.le_refl _)
theorem tree_some (ho : OwN patK d (w.alloc o).heap.size w1 ⟨p.x.op, p.x.text, .slice A p.kids.length c⟩ p S) (hb : Below (w.alloc o).heap.size (w.alloc o) w1) {e : Nat} (he : d ≤ e) (hk : n - r.length = k) :
    TreeOut e (some (p, r)) n w (.returned (.tuple #[.agg #[.int .i64 p.x.op, .string p.x.text, .slice A p.kids.length c], .int .i64 (k : Int)])) (((w1.setCell ⟨w.heap.size, 0, none⟩ x0).setCell ⟨w.heap.size, 1, none⟩ x1).setCell ⟨w.heap.size, 2, none⟩ x2) :=
  ⟨A, c, S, by rw [hk], ((((OwN.set ho (by simp)).set (by simp)).set (by simp)).mono (by simp)).to he, set3_below hb⟩
theorem tree_none (hb : Below (w.alloc o).heap.size (w.alloc o) w1) :
    TreeOut d none n w (.returned (.tuple #[.agg #[.int .i64 0, .string ⟨#[]⟩, .slice none 0 0], .int .i64 0])) (((w1.setCell ⟨w.heap.size, 0, none⟩ x0).setCell ⟨w.heap.size, 1, none⟩ x1).setCell ⟨w.heap.size, 2, none⟩ x2) := ⟨rfl, set3_below hb⟩
end
theorem owN_leaf (d B : Nat) (w : World) (op : Int) (text : ByteArray) : OwN patK d B w ⟨op, text, .slice none 0 0⟩ (.mk ⟨op, text⟩ []) (fun _ => False) := owN_of (owL_nil patK d B w)
set_option maxRecDepth 100000 in
set_option maxHeartbeats 1000000 in
theorem atom_of {n : Nat} (hI : InnerC n) (hK : ClassC) : AtomC (n + 1) := by
  intro s w hn h30
  have hs9 : s.size ≤ 9223372036854775807 := by omega
  by_cases h0 : s.size = 0
  · have he : s.data.toList = [] := by rw [str_empty h0]
    have hem : s.toList.isEmpty = true := by rw [ByteArray.toList_eq, he]; rfl
    have hem2 : s.toList = [] := by rw [ByteArray.toList_eq, he]
    rw [he, atomF_nil]
    clear he h0 hn h30 hs9 hI hK
    go_enter Try.func152, Try.ntmps152
    go_wp2
    refine bodyPost_ret (v := .tuple #[.agg #[.int .i64 0, .string ⟨#[]⟩, .slice none 0 0], .int .i64 0]) (by simp [results, Try.results152, go_sem]) rfl ?_
    exact ⟨rfl, below_al (Below.refl _ _) _⟩
  · have h0' : 0 < s.size := by omega
    have hne := not_empty h0'
    have hne2 : ¬ s.toList = [] := by rw [ByteArray.toList_eq]; exact data_ne h0'
    have hi0 : (0 : Int) < (s.size : Int) := by omega
    have hcons := data_cons s h0'
    obtain ⟨c, hc⟩ : ∃ c, c = s[0] := ⟨_, rfl⟩
    have hlen : (s.data.toList.drop 1).length = s.size - 1 := by simp
    rw [← hc] at hcons
    have HX : Hid (atomF (n + 1) s.data.toList = atomL (altP (atomF n)) (c :: s.data.toList.drop 1)) := Lib.hid (by rw [← hcons]; rfl)
    rw [HX.out]
    by_cases h40 : c = 40
    · have hq : ((s[0].toNat : Int) == 40) = true := by rw [← hc, h40]; rfl
      have HC := Lib.hid (fun w => hI s w h0' hn h30)
      have e : atomL (altP (atomF n)) (c :: s.data.toList.drop 1) = innerL n (s.data.toList.drop 1) := by rw [h40]; rfl
      rw [e]
      generalize innerL n (s.data.toList.drop 1) = o at HC
      clear hcons hc h40 e h0 hn h30 hI hK hlen HX
      match o, HC with
      | none, HC =>
        go_enter Try.func152, Try.ntmps152
        go_wp2_with (go_at_call 158; refine (HC.out _).mono ?_; rintro e w1 ⟨rfl, hb⟩; obtain ⟨⟨b0, b1, b2⟩, ⟨f0, f1, f2⟩, hz⟩ := box3p hb)
        refine bodyPost_ret (v := .tuple #[.agg #[.int .i64 0, .string ⟨#[]⟩, .slice none 0 0], .int .i64 0]) (by simp [results, Try.results152, go_sem, b0, b1, b2, hz]) rfl ?_
        exact tree_none hb
      | some (p, r), HC =>
        obtain ⟨k, hk⟩ : ∃ k, s.size - r.length = k := ⟨_, rfl⟩
        have HK := Lib.hid hk
        have HC2 : Hid (∀ w, Calls Try.prog 158 #[.string s] w fun e w' => ∃ (A : Option Addr) (c : Nat) (S : Nat → Prop), e = .returned (.tuple #[.agg #[.int .i64 p.x.op, .string p.x.text, .slice A p.kids.length c], .int .i64 (k : Int)]) ∧ OwN patK (4 * n + 4) w.heap.size w' ⟨p.x.op, p.x.text, .slice A p.kids.length c⟩ p S ∧ Below w.heap.size w w') := Lib.hid (by rw [← hk]; exact HC.out)
        clear hk HC
        go_enter Try.func152, Try.ntmps152
        go_wp2_with (go_at_call 158; refine (HC2.out _).mono ?_; rintro e w1 ⟨A, cc, S, rfl, ho, hb⟩; obtain ⟨⟨b0, b1, b2⟩, ⟨f0, f1, f2⟩, hz⟩ := box3p hb)
        refine bodyPost_ret (v := .tuple #[.agg #[.int .i64 p.x.op, .string p.x.text, .slice A p.kids.length cc], .int .i64 (k : Int)]) (by simp [results, Try.results152, go_sem, b0, b1, b2, hz]) rfl ?_
        exact tree_some ho hb (by omega) HK.out
    · have hq : ((s[0].toNat : Int) == 40) = false := by rw [← hc]; exact byte_ne (d := 40) h40
      by_cases h91 : c = 91
      · have hq1 : ((s[0].toNat : Int) == 91) = true := by rw [← hc, h91]; rfl
        have HC := Lib.hid (fun w => hK s w h0' h30)
        have e : atomL (altP (atomF n)) (c :: s.data.toList.drop 1) = classL (s.data.toList.drop 1) := by rw [h91]; rfl
        rw [e]
        generalize classL (s.data.toList.drop 1) = o at HC
        clear hcons hc h40 h91 e h0 hn h30 hI hK hlen HX
        match o, HC with
        | none, HC =>
          go_enter Try.func152, Try.ntmps152
          go_wp2_with (go_at_call 159; refine (HC.out _).mono ?_; rintro e w1 ⟨rfl, hb⟩; obtain ⟨⟨b0, b1, b2⟩, ⟨f0, f1, f2⟩, hz⟩ := box3p hb)
          refine bodyPost_ret (v := .tuple #[.agg #[.int .i64 0, .string ⟨#[]⟩, .slice none 0 0], .int .i64 0]) (by simp [results, Try.results152, go_sem, b0, b1, b2, hz]) rfl ?_
          exact tree_none hb
        | some (p, r), HC =>
          obtain ⟨k, hk⟩ : ∃ k, s.size - r.length = k := ⟨_, rfl⟩
          have HK := Lib.hid hk
          have HC2 : Hid (∀ w, Calls Try.prog 159 #[.string s] w fun e w' => ∃ (A : Option Addr) (c : Nat) (S : Nat → Prop), e = .returned (.tuple #[.agg #[.int .i64 p.x.op, .string p.x.text, .slice A p.kids.length c], .int .i64 (k : Int)]) ∧ OwN patK 0 w.heap.size w' ⟨p.x.op, p.x.text, .slice A p.kids.length c⟩ p S ∧ Below w.heap.size w w') := Lib.hid (by rw [← hk]; exact HC.out)
          clear hk HC
          go_enter Try.func152, Try.ntmps152
          go_wp2_with (go_at_call 159; refine (HC2.out _).mono ?_; rintro e w1 ⟨A, cc, S, rfl, ho, hb⟩; obtain ⟨⟨b0, b1, b2⟩, ⟨f0, f1, f2⟩, hz⟩ := box3p hb)
          refine bodyPost_ret (v := .tuple #[.agg #[.int .i64 p.x.op, .string p.x.text, .slice A p.kids.length cc], .int .i64 (k : Int)]) (by simp [results, Try.results152, go_sem, b0, b1, b2, hz]) rfl ?_
          exact tree_some ho hb (by omega) HK.out
      · have hq1 : ((s[0].toNat : Int) == 91) = false := by rw [← hc]; exact byte_ne (d := 91) h91
        by_cases h46 : c = 46
        · have hq2 : ((s[0].toNat : Int) == 46) = true := by rw [← hc, h46]; rfl
          have e : atomL (altP (atomF n)) (c :: s.data.toList.drop 1) = some (charsP anyL, s.data.toList.drop 1) := by rw [h46]; rfl
          rw [e]
          have HL : Hid ((s.size - (s.data.toList.drop 1).length : Nat) = 1) := Lib.hid (by rw [hlen]; omega)
          clear hcons hc h40 h91 h46 e h0 hn h30 hI hK hlen HX
          go_enter Try.func152, Try.ntmps152
          go_wp2_with (go_at_call 160; refine (iBetw_any 32 126 (by decide) _).mono ?_; rintro e w1 ⟨v, rfl, hbuf⟩; rw [any_betw] at hbuf; have hcv := buf_str hbuf; have hb := hbuf.below; obtain ⟨⟨b0, b1, b2⟩, ⟨f0, f1, f2⟩, hz⟩ := box3p hb)
          refine bodyPost_ret (v := .tuple #[.agg #[.int .i64 1, .string ⟨anyL.toArray⟩, .slice none 0 0], .int .i64 1]) (by simp [results, Try.results152, go_sem, b0, b1, b2, hz]) rfl ?_
          exact tree_some (p := charsP anyL) (d := 0) (owN_leaf _ _ _ _ _) hb (by omega) HL.out
        · have hq2 : ((s[0].toNat : Int) == 46) = false := by rw [← hc]; exact byte_ne (d := 46) h46
          cases hnb : nbB c
          · have e : atomL (altP (atomF n)) (c :: s.data.toList.drop 1) = none := by simp [atomL, h40, h91, h46, hnb]
            rw [e]
            have HNB : Hid (nbB s[0] = false) := Lib.hid (by rw [← hc]; exact hnb)
            clear hcons hc h40 h91 h46 e h0 hn h30 hI hK hlen HX hnb
            go_enter Try.func152, Try.ntmps152
            go_wp2_with (go_at_call 132; ((with_reducible refine (iNb_any _ _).mono ?_); rw [HNB.out]; rintro e w' ⟨rfl, rfl⟩))
            refine bodyPost_ret (v := .tuple #[.agg #[.int .i64 0, .string ⟨#[]⟩, .slice none 0 0], .int .i64 0]) (by simp [results, Try.results152, go_sem]) rfl ?_
            exact ⟨rfl, below_al (Below.refl _ _) _⟩
          · have e : atomL (altP (atomF n)) (c :: s.data.toList.drop 1) = some (charsP [c], s.data.toList.drop 1) := by simp [atomL, h40, h91, h46, hnb]
            rw [e]
            have HNB : Hid (nbB s[0] = true) := Lib.hid (by rw [← hc]; exact hnb)
            have HL : Hid ((s.size - (s.data.toList.drop 1).length : Nat) = 1) := Lib.hid (by rw [hlen]; omega)
            have HE : Hid (s.extract 0 1 = ⟨[c].toArray⟩) := Lib.hid (by
              apply ByteArray.ext; apply Array.toList_inj.1
              rw [Lib.extract_data, hcons]; rfl)
            have hi1 : (1 : Int) ≤ (s.size : Int) := by omega
            clear hcons hc h40 h91 h46 e h0 hn h30 hI hK hlen HX hnb
            go_enter Try.func152, Try.ntmps152
            go_wp2_with (go_at_call 132; ((with_reducible refine (iNb_any _ _).mono ?_); rw [HNB.out]; rintro e w' ⟨rfl, rfl⟩))
            refine bodyPost_ret (v := .tuple #[.agg #[.int .i64 1, .string (s.extract 0 1), .slice none 0 0], .int .i64 1]) (by simp [results, Try.results152, go_sem]) rfl ?_
            rw [HE.out]
            refine ⟨none, 0, fun _ => False, by rw [HL.out]; rfl, (owN_leaf _ _ _ _ _), below_al (Below.refl _ _) _⟩
theorem pat_cells (op : Int) (text : ByteArray) (A : Option Addr) (n c : Nat) : ∀ v ∈ patK.enc ⟨op, text, .slice A n c⟩, v.oneCell' = true := by
  intro v hv
  simp [patK, PatR.enc] at hv
  rcases hv with rfl | rfl | rfl <;> rfl
theorem star_own {d : Nat} {p : Pat} {w w1 : World} {o box : Obj} {A : Option Addr} {c : Nat} {S : Nat → Prop} {x0 x1 x2 : Value} (op : Int) (ho : OwN patK d (w.alloc o).heap.size w1 ⟨p.x.op, p.x.text, .slice A p.kids.length c⟩ p S) (hz : w.heap.size < w1.heap.size) :
    OwN patK (d + 1) w.heap.size (((((w1.setCell ⟨w.heap.size, 0, none⟩ x0).setCell ⟨w.heap.size, 1, none⟩ x1).setCell ⟨w.heap.size, 2, none⟩ x2).alloc box).alloc (.cells #[.int .i64 p.x.op, .string p.x.text, .slice A p.kids.length c] 56)) ⟨op, ⟨#[]⟩, .slice (some ⟨w1.heap.size + 1, 0, none⟩) 1 1⟩ (opP op [p]) (fun b => b = w1.heap.size + 1 ∨ S b) := by
  have h1 := (((OwN.set (j := 0) (u := x0) ho (b := w.heap.size) (by simp)).set (j := 1) (u := x1) (b := w.heap.size) (by simp)).set (j := 2) (u := x2) (b := w.heap.size) (by simp)).al box
  have e : ((((w1.setCell ⟨w.heap.size, 0, none⟩ x0).setCell ⟨w.heap.size, 1, none⟩ x1).setCell ⟨w.heap.size, 2, none⟩ x2).alloc box).heap.size = w1.heap.size + 1 := by simp [World.setCell]
  have h2 := owL_one (B := w.heap.size) (h1.mono (by simp)) (by rw [e]; omega) (by decide) (pat_cells _ _ _ _ _)
  rw [e] at h2
  exact owN_of h2
theorem star_at {d B m : Nat} {p : Pat} {W : World} {box : Obj} {A : Option Addr} {c : Nat} {S : Nat → Prop} (op : Int) (h : OwN patK d B W ⟨p.x.op, p.x.text, .slice A p.kids.length c⟩ p S) (hB : B ≤ W.heap.size) (hm : W.heap.size = m) :
    OwN patK (d + 1) B ((W.alloc box).alloc (.cells #[.int .i64 p.x.op, .string p.x.text, .slice A p.kids.length c] 56)) ⟨op, ⟨#[]⟩, .slice (some ⟨m + 1, 0, none⟩) 1 1⟩ (opP op [p]) (fun b => b = m + 1 ∨ S b) := by
  have e : (W.alloc box).heap.size = m + 1 := by simp [hm]
  have h2 := owL_one (B := B) (h.al box) (by rw [e]; omega) (by decide) (pat_cells _ _ _ _ _)
  rw [e] at h2
  exact owN_of h2
theorem plus_own {d : Nat} {p : Pat} {w w1 w2 : World} {o box box2 box3 : Obj} {A A2 : Option Addr} {c c2 : Nat} {S S2 : Nat → Prop} {x0 x1 x2 : Value}
    (ho : OwN patK d (w.alloc o).heap.size w1 ⟨p.x.op, p.x.text, .slice A p.kids.length c⟩ p S) (hz : w.heap.size < w1.heap.size) (hb : Below (w1.alloc box).heap.size (w1.alloc box) w2) (ho2 : OwN patK d (w1.alloc box).heap.size w2 ⟨p.x.op, p.x.text, .slice A2 p.kids.length c2⟩ p S2) :
    OwN patK (d + 2) w.heap.size (((((((w2.setCell ⟨w.heap.size, 0, none⟩ x0).setCell ⟨w.heap.size, 1, none⟩ x1).setCell ⟨w.heap.size, 2, none⟩ x2).alloc box2).alloc (.cells #[.int .i64 p.x.op, .string p.x.text, .slice A2 p.kids.length c2] 56)).alloc box3).alloc (.cells #[.int .i64 p.x.op, .string p.x.text, .slice A p.kids.length c, .int .i64 4, .string ⟨#[]⟩, .slice (some ⟨w2.heap.size + 1, 0, none⟩) 1 1] 56))
      ⟨2, ⟨#[]⟩, .slice (some ⟨w2.heap.size + 1 + 1 + 1, 0, none⟩) 2 2⟩ (opP 2 [p, opP 4 [p]]) (fun b => b = w2.heap.size + 1 + 1 + 1 ∨ S b ∨ (b = w2.heap.size + 1 ∨ S2 b)) := by
  have hz2 : w1.heap.size < w2.heap.size := by have := hb.size; simp at this; omega
  have hb1 : Below w1.heap.size w1 w2 := below_step (below_al (Below.refl _ _) _) hb
  have e : (((w2.setCell ⟨w.heap.size, 0, none⟩ x0).setCell ⟨w.heap.size, 1, none⟩ x1).setCell ⟨w.heap.size, 2, none⟩ x2).heap.size = w2.heap.size := by simp [World.setCell]
  have h1 := ((OwN.set (j := 0) (u := x0) (ho.below hb1) (b := w.heap.size) (by simp)).set (j := 1) (u := x1) (b := w.heap.size) (by simp)).set (j := 2) (u := x2) (b := w.heap.size) (by simp)
  have h2 := ((OwN.set (j := 0) (u := x0) ho2 (b := w.heap.size) (by simp; omega)).set (j := 1) (u := x1) (b := w.heap.size) (by simp; omega)).set (j := 2) (u := x2) (b := w.heap.size) (by simp; omega)
  have h3 := star_at (box := box2) 4 h2 (by rw [e]; simp; omega) e
  generalize ((w2.setCell ⟨w.heap.size, 0, none⟩ x0).setCell ⟨w.heap.size, 1, none⟩ x1).setCell ⟨w.heap.size, 2, none⟩ x2 = W at h1 h3 e ⊢
  have h1' := (((h1.al box2).al (.cells #[.int .i64 p.x.op, .string p.x.text, .slice A2 p.kids.length c2] 56)).al box3).to (Nat.le_succ d)
  have h3' := h3.al box3
  have e3 : (((W.alloc box2).alloc (.cells #[.int .i64 p.x.op, .string p.x.text, .slice A2 p.kids.length c2] 56)).alloc box3).heap.size = w2.heap.size + 1 + 1 + 1 := by simp [e]
  have h4 := owL_two (B := w.heap.size) (h1'.mono (by simp)) (h3'.mono (by simp; omega)) (fun b hb hs => by
    have hlt := (ho.lt b hb).2
    rcases hs with hs | hs
    · omega
    · have := (ho2.lt b hs).1; simp at this; omega) (by rw [e3]; omega)
  rw [e3] at h4
  exact owN_of h4
set_option maxRecDepth 100000 in
set_option maxHeartbeats 2000000 in
theorem rep_of {n : Nat} (hA : AtomC n) : RepC n := by
  intro s w hn h30
  have hs9 : s.size ≤ 9223372036854775807 := by omega
  have HC := Lib.hid (fun w => hA s w hn h30)
  unfold repL
  have hsh := atomF_sh n s.data.toList
  have hlen : s.data.toList.length = s.size := by simp
  cases ho : atomF n s.data.toList with
  | none =>
    rw [ho] at HC
    clear hn h30 hA hsh hlen ho
    go_enter Try.func146, Try.ntmps146
    go_wp2_with (go_at_call 152; refine (HC.out _).mono ?_; rintro e w1 ⟨rfl, hb⟩; obtain ⟨⟨b0, b1, b2⟩, ⟨f0, f1, f2⟩, hz⟩ := box3p hb)
    refine bodyPost_ret (v := .tuple #[.agg #[.int .i64 0, .string ⟨#[]⟩, .slice none 0 0], .int .i64 0]) (by simp [results, Try.results146, go_sem, b0, b1, b2, hz]) rfl ?_
    exact ⟨rfl, below_al (set3_below hb) _⟩
  | some x =>
    obtain ⟨p, r⟩ := x
    rw [ho] at HC
    obtain ⟨hsuf, hlt⟩ := hsh p r ho
    have hr := hsuf.drop
    rw [hlen] at hr hlt
    obtain ⟨k, hk⟩ : ∃ k, s.size - r.length = k := ⟨_, rfl⟩
    rw [hk] at hr
    have hk0 : 0 < k := by omega
    have hkb : (k : Int) ≤ 30 := by omega
    have HC2 : Hid (∀ w, Calls Try.prog 152 #[.string s] w fun e w' => ∃ (A : Option Addr) (c : Nat) (S : Nat → Prop), e = .returned (.tuple #[.agg #[.int .i64 p.x.op, .string p.x.text, .slice A p.kids.length c], .int .i64 (k : Int)]) ∧ OwN patK (4 * n) w.heap.size w' ⟨p.x.op, p.x.text, .slice A p.kids.length c⟩ p S ∧ Below w.heap.size w w') := Lib.hid (by rw [← hk]; exact HC.out)
    have hq0 : ((k : Int) == 0) = false := by simp only [beq_eq_false_iff_ne, ne_eq]; omega
    clear HC hA hsh hsuf ho
    cases r with
    | nil =>
      have hks : k = s.size := by simp at hk; omega
      have hq1 : ((k : Int) == (s.size : Int)) = true := by simp; omega
      have HK := Lib.hid hk
      clear hn h30 hlen hlt hr hk hk0 hks
      go_enter Try.func146, Try.ntmps146
      go_wp2_with (go_at_call 152; refine (HC2.out _).mono ?_; rintro e w1 ⟨A, c, S, rfl, ho, hb⟩; obtain ⟨⟨b0, b1, b2⟩, ⟨f0, f1, f2⟩, hz⟩ := box3p hb)
      refine bodyPost_ret (v := .tuple #[.agg #[.int .i64 p.x.op, .string p.x.text, .slice A p.kids.length c], .int .i64 (k : Int)]) (by simp [results, Try.results146, go_sem, b0, b1, b2, hz]) rfl ?_
      exact ⟨A, c, S, by rw [HK.out], (((((OwN.set ho (by simp)).set (by simp)).set (by simp)).al _).mono (by simp)).to (by omega), below_al (set3_below hb) _⟩
    | cons d r' =>
      obtain ⟨hlt2, hd, hr'⟩ := drop_head hr
      have hq1 : ((k : Int) == (s.size : Int)) = false := by simp only [beq_eq_false_iff_ne, ne_eq]; omega
      have hlk : (k : Int) < (s.size : Int) := by omega
      have hln : r'.length = s.size - (k + 1) := by rw [hr']; simp
      have HK1 : Hid ((s.size - (d :: r').length : Nat) = k) := Lib.hid hk
      have HK2 : Hid ((s.size - r'.length : Nat) = k + 1) := Lib.hid (by omega)
      have hdx : (s[k].toNat : Int) ≤ 255 := by have := s[k].toNat_lt; omega
      clear hn h30 hlen hlt hr hr' hk hk0 hln
      by_cases h42 : d = 42
      · have hq2 : ((s[k].toNat : Int) == 42) = true := by rw [hd, h42]; rfl
        have e : Option.map (fun x => repT x.1 x.2) (some (p, d :: r')) = some (opP 4 [p], r') := by rw [h42]; rfl
        rw [e]
        clear e hd h42
        go_enter Try.func146, Try.ntmps146
        go_wp2_with (go_at_call 152; refine (HC2.out _).mono ?_; rintro e w1 ⟨A, c, S, rfl, ho, hb⟩; obtain ⟨⟨b0, b1, b2⟩, ⟨f0, f1, f2⟩, hz⟩ := box3p hb)
        refine bodyPost_ret (v := .tuple #[.agg #[.int .i64 4, .string ⟨#[]⟩, .slice (some ⟨w1.heap.size + 1, 0, none⟩) 1 1], .int .i64 ((k : Int) + 1)]) (by simp [results, Try.results146, go_sem, b0, b1, b2, hz]) rfl ?_
        exact ⟨some ⟨w1.heap.size + 1, 0, none⟩, 1, _, by rw [HK2.out]; rfl, (star_own 4 ho hz).to (by omega), below_al (below_al (set3_below hb) _) _⟩
      · have hq2 : ((s[k].toNat : Int) == 42) = false := by rw [hd]; exact byte_ne (d := 42) h42
        by_cases h63 : d = 63
        · have hq3 : ((s[k].toNat : Int) == 63) = true := by rw [hd, h63]; rfl
          have e : Option.map (fun x => repT x.1 x.2) (some (p, d :: r')) = some (opP 5 [p], r') := by rw [h63]; rfl
          rw [e]
          clear e hd h42 h63
          go_enter Try.func146, Try.ntmps146
          go_wp2_with (go_at_call 152; refine (HC2.out _).mono ?_; rintro e w1 ⟨A, c, S, rfl, ho, hb⟩; obtain ⟨⟨b0, b1, b2⟩, ⟨f0, f1, f2⟩, hz⟩ := box3p hb)
          refine bodyPost_ret (v := .tuple #[.agg #[.int .i64 5, .string ⟨#[]⟩, .slice (some ⟨w1.heap.size + 1, 0, none⟩) 1 1], .int .i64 ((k : Int) + 1)]) (by simp [results, Try.results146, go_sem, b0, b1, b2, hz]) rfl ?_
          exact ⟨some ⟨w1.heap.size + 1, 0, none⟩, 1, _, by rw [HK2.out]; rfl, (star_own 5 ho hz).to (by omega), below_al (below_al (set3_below hb) _) _⟩
        · have hq3 : ((s[k].toNat : Int) == 63) = false := by rw [hd]; exact byte_ne (d := 63) h63
          by_cases h43 : d = 43
          · have hq4 : ((s[k].toNat : Int) == 43) = true := by rw [hd, h43]; rfl
            have e : Option.map (fun x => repT x.1 x.2) (some (p, d :: r')) = some (opP 2 [p, opP 4 [p]], r') := by rw [h43]; rfl
            rw [e]
            clear e hd h42 h63 h43
            go_enter Try.func146, Try.ntmps146
            go_wp2_with (first
              | (go_at_call 152; ((with_reducible refine (HC2.out (w.alloc _)).mono ?_); rintro e w1 ⟨A, c, S, rfl, ho, hb⟩; obtain ⟨⟨b0, b1, b2⟩, ⟨f0, f1, f2⟩, hz⟩ := box3p hb))
              | (go_at_call 152; ((refine (HC2.out _).mono ?_); rintro e w2 ⟨A2, c2, S2, rfl, ho2, hb2⟩; obtain ⟨⟨a0, a1, a2⟩, _, hz2⟩ := box3p hb2; clear b0 b1 b2 f0 f1 f2; have hb3 := below_step hb (below_step (below_al (Below.refl _ _) _) hb2); obtain ⟨⟨b0, b1, b2⟩, ⟨f0, f1, f2⟩, hz3⟩ := box3p hb3; have q0 : w1.heap.size ≤ w2.heap.size := (by omega); have q1 : w1.heap.size ≤ w2.heap.size + 1 := (by omega); have q2 : w1.heap.size ≤ w2.heap.size + 1 + 1 := (by omega); have q3 : w1.heap.size < w2.heap.size + 1 + 1 := (by omega); have p0 : w.heap.size ≤ w2.heap.size := (by omega); have p1 : w.heap.size ≤ w2.heap.size + 1 := (by omega); have p2 : w.heap.size ≤ w2.heap.size + 1 + 1 := (by omega); have p3 : w.heap.size < w2.heap.size + 1 + 1 := (by omega))))
            refine bodyPost_ret (v := .tuple #[.agg #[.int .i64 2, .string ⟨#[]⟩, .slice (some ⟨w2.heap.size + 1 + 1 + 1, 0, none⟩) 2 2], .int .i64 ((k : Int) + 1)]) (by simp [results, Try.results146, go_sem, b0, b1, b2, hz3, p0, p1, p2, p3]) rfl ?_
            exact ⟨some ⟨w2.heap.size + 1 + 1 + 1, 0, none⟩, 2, _, by rw [HK2.out]; rfl, plus_own ho hz hb2 ho2, below_al (below_al (below_al (below_al (set3_below hb3) _) _) _) _⟩
          · have hq4 : ((s[k].toNat : Int) == 43) = false := by rw [hd]; exact byte_ne (d := 43) h43
            have e : Option.map (fun x => repT x.1 x.2) (some (p, d :: r')) = some (p, d :: r') := by simp [repT, h42, h63, h43]
            rw [e]
            clear e hd h42 h63 h43
            go_enter Try.func146, Try.ntmps146
            go_wp2_with (go_at_call 152; refine (HC2.out _).mono ?_; rintro e w1 ⟨A, c, S, rfl, ho, hb⟩; obtain ⟨⟨b0, b1, b2⟩, ⟨f0, f1, f2⟩, hz⟩ := box3p hb)
            refine bodyPost_ret (v := .tuple #[.agg #[.int .i64 p.x.op, .string p.x.text, .slice A p.kids.length c], .int .i64 (k : Int)]) (by simp [results, Try.results146, go_sem, b0, b1, b2, hz]) rfl ?_
            exact ⟨A, c, S, by rw [HK1.out], (((((OwN.set ho (by simp)).set (by simp)).set (by simp)).al _).mono (by simp)).to (by omega), below_al (set3_below hb) _⟩
end Go.Proofs.Ytnpgeneahjlkpaa
