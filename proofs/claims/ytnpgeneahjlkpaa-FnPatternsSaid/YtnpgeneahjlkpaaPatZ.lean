/- CHAPTER 5, spec: l5Class (a class in brackets). -/
import Derived.Test.YtnpgeneahjlkpaaPatY
import Derived.Test.YtnpgeneahjlkpaaPatB
set_option linter.unusedVariables false
set_option linter.unusedSimpArgs false
namespace Go.Proofs.Ytnpgeneahjlkpaa
open Go.RowKit

def bE (b : Bool) : List Value := [.bool b]
theorem bE_len : ∀ b, (bE b).length = 1 := fun _ => rfl
abbrev RowB (B : Nat) (w : World) (v : Value) (l : List Bool) : Prop := RowR bE 1 4 B w v l
theorem infoBool : (Try.prog.info? 4).map (fun i => (i.zero, i.size, i.bytes)) = some (some (.bool false), 1, 1) := by kernel_rfl
/-- which of the 256 bytes stand in l -/
def hasL (l : List UInt8) : List Bool := (List.range 256).map fun x => l.contains (UInt8.ofNat x)
theorem hasL_len (l : List UInt8) : (hasL l).length = 256 := by unfold hasL; rw [List.length_map, List.length_range]
theorem hasL_get (l : List UInt8) {x : Nat} (h : x < (hasL l).length) : (hasL l)[x] = l.contains (UInt8.ofNat x) := by simp [hasL]
theorem hasL_nil : hasL [] = List.replicate 256 false := by
  apply List.ext_getElem
  · rw [hasL_len, List.length_replicate]
  · intro i h1 h2; rw [List.getElem_replicate, hasL_get]; rfl
theorem hasL_set (l : List UInt8) (x : Nat) (hx : x < 256) : (hasL l).set x true = hasL (l ++ [UInt8.ofNat x]) := by
  apply List.ext_getElem
  · simp [hasL]
  · intro i h1 h2
    have hi : i < 256 := by simpa [hasL] using h2
    rw [List.getElem_set, hasL_get]
    by_cases e : x = i
    · subst e
      rw [if_pos rfl, hasL_get]; simp
    · rw [if_neg e, hasL_get]
      have hne : (UInt8.ofNat i == UInt8.ofNat x) = false := by
        rw [beq_eq_false_iff_ne]; intro e2
        have := congrArg UInt8.toNat e2
        simp only [UInt8.toNat_ofNat'] at this
        omega
      rw [List.contains_eq_any_beq, List.contains_eq_any_beq, List.any_append]
      simp [hne]
theorem betw_upto (a b : UInt8) (x : Nat) (h1 : a.toNat ≤ x) (h2 : x ≤ b.toNat) : (betw a b).take (x + 1 - a.toNat) = (betw a b).take (x - a.toNat) ++ [UInt8.ofNat x] := by
  have hl2 : (betw a b).length = b.toNat - a.toNat + 1 := by simp [betw]
  have hl : x - a.toNat < (betw a b).length := by omega
  rw [show x + 1 - a.toNat = (x - a.toNat) + 1 by omega, List.take_succ_eq_append_getElem hl]
  congr 2
  simp only [betw, List.getElem_map, List.getElem_range]
  rw [show a.toNat + (x - a.toNat) = x by omega]
theorem betw_all (a b : UInt8) (h : a.toNat ≤ b.toNat) : (betw a b).take (b.toNat + 1 - a.toNat) = betw a b := List.take_of_length_le (by simp [betw]; omega)
theorem betw_self (a : UInt8) : betw a a = [a] := by simp [betw]
theorem RowB.at {B g n cap x : Nat} {w : World} {l : List Bool} (h : RowB B w (.slice (some ⟨g, 0, none⟩) n cap) l) (hx : x < l.length) : w.cell? ⟨g, x, none⟩ = some (.bool l[x]) := by
  have := RowR.cell bE_len h hx (j := 0) (x := .bool l[x]) rfl
  simpa using this
theorem RowB.put {B g n cap x : Nat} {w : World} {l : List Bool} (h : RowB B w (.slice (some ⟨g, 0, none⟩) n cap) l) (hx : x < l.length) (u : Bool) : RowB B (w.setCell ⟨g, x, none⟩ (.bool u)) (.slice (some ⟨g, 0, none⟩) n cap) (l.set x u) ∧ w.grownBy (w.setCell ⟨g, x, none⟩ (.bool u)) (some g) := by
  have := RowR.set1 bE_len h hx 0 (by omega) (.bool u) u rfl
  simpa using this
/-- the bytes below x that stand in l -/
def lowL (l : List UInt8) (x : Nat) : List UInt8 := ((List.range x).map UInt8.ofNat).filter fun c => l.contains c
theorem lowL_succ (l : List UInt8) (x : Nat) : lowL l (x + 1) = lowL l x ++ (if l.contains (UInt8.ofNat x) then [UInt8.ofNat x] else []) := by
  unfold lowL
  rw [List.range_succ, List.map_append, List.filter_append]
  simp only [List.map_cons, List.map_nil, List.filter_cons, List.filter_nil]
theorem lowL_len (l : List UInt8) (x : Nat) : (lowL l x).length ≤ x := by
  unfold lowL
  refine Nat.le_trans (List.length_filter_le _ _) ?_
  simp
theorem lowL_all (l : List UInt8) : lowL l 256 = clsL l := rfl
/-- read so far: the bytes cs, at the place k -/
def OkC (s : ByteArray) (i k : Nat) (cs : List UInt8) : Prop := i ≤ k ∧ k ≤ s.size ∧ (cs = [] ↔ k = i) ∧
  spansL (s.data.toList.drop i).length (s.data.toList.drop i) = (cs ++ (spansL (s.data.toList.drop i).length (s.data.toList.drop k)).1, (spansL (s.data.toList.drop i).length (s.data.toList.drop k)).2)
theorem OkC.start (s : ByteArray) (i : Nat) (hi : i ≤ s.size) : OkC s i i [] := ⟨Nat.le_refl _, hi, by simp, by simp⟩
theorem spansL_none {m : Nat} {l : List UInt8} (h : spanL l = none) : spansL m l = ([], l) := by
  cases m with
  | zero => rfl
  | succ m => rw [spansL, h]
theorem spansL_some {m : Nat} {l b r : List UInt8} (hm : l.length ≤ m) (h : spanL l = some (b, r)) : spansL m l = (b ++ (spansL m r).1, (spansL m r).2) := by
  have hl := (spanL_suf h).2.1
  obtain ⟨q, rfl⟩ : ∃ q, m = q + 1 := ⟨m - 1, by omega⟩
  rw [spansL_more (q + 1) (q + 1) r (by omega) (by omega), spansL, h]
  simp only
  rw [spansL_more q (q + 1) r (by omega) (by omega)]
theorem OkC.step {s : ByteArray} {i k k' : Nat} {cs b : List UInt8} (h : OkC s i k cs) (hk : k < k') (hk' : k' ≤ s.size) (hs : spanL (s.data.toList.drop k) = some (b, s.data.toList.drop k')) : OkC s i k' (cs ++ b) := by
  obtain ⟨h1, h2, h3, h4⟩ := h
  have hb := (spanL_suf hs).2.2
  refine ⟨by omega, hk', ⟨fun e => absurd (List.append_eq_nil_iff.1 e).2 hb, fun e => by omega⟩, ?_⟩
  rw [h4, spansL_some (by simp; omega) hs]
  simp
theorem OkC.stop {s : ByteArray} {i k : Nat} {cs : List UInt8} (h : OkC s i k cs) (hs : spanL (s.data.toList.drop k) = none) (hne : ∀ h : k < s.size, s[k] ≠ 93) : classL (s.data.toList.drop i) = none := by
  obtain ⟨h1, h2, h3, h4⟩ := h
  rw [spansL_none hs] at h4
  unfold classL
  rw [h4]
  by_cases hk : k < s.size
  · rw [data_drop s k hk]
    show (if s[k] = 93 ∧ _ then _ else _) = _
    rw [if_neg (fun e => hne hk e.1)]
  · rw [List.drop_eq_nil_of_le (by simp; omega)]
theorem OkC.close {s : ByteArray} {i k : Nat} {cs : List UInt8} (h : OkC s i k cs) (hk : k < s.size) (he : s[k] = 93) : classL (s.data.toList.drop i) = if k = i then none else some (charsP (clsL cs), s.data.toList.drop (k + 1)) := by
  obtain ⟨h1, h2, h3, h4⟩ := h
  have hd := data_drop s k hk
  rw [he] at hd
  have hsp : spanL (s.data.toList.drop k) = none := by rw [hd]; rfl
  rw [spansL_none hsp, hd] at h4
  unfold classL
  rw [h4]
  simp only [List.append_nil]
  by_cases e : k = i
  · rw [if_pos e, if_neg (fun x => x.2 (h3.2 e))]
  · rw [if_neg e, if_pos ⟨by first | rfl | trivial, fun x => e (h3.1 x)⟩]
theorem sChar_q (c : UInt8) (b : Bool) (h : pcB c = b) (w : World) : Calls Try.prog 161 #[.int .u8 c.toNat] w fun e w' => e = .returned (.bool b) ∧ w' = w :=
  (sChar_any c w).mono fun _ _ ⟨he, hw⟩ => ⟨by rw [he, h], hw.symm⟩
set_option maxRecDepth 100000 in
set_option maxHeartbeats 8000000 in
theorem sclass : SClassC := by
  intro b s i w hP h30 hi
  have hbl := hP.lt
  have hnb : ¬ w.heap.size = b := by omega
  have hnb' : ¬ b = w.heap.size := by omega
  have hs : s.size ≤ maxLen := by unfold maxLen; omega
  have hs9 : s.size ≤ 9223372036854775807 := by omega
  obtain ⟨i0, hi0, hz0, hz1, hz2⟩ := info_parts infoBool
  have hP0 := hP.al (.cells #[.int .i64 0, .string ⟨#[]⟩, .slice none 0 0] 56)
  have HOK := Lib.hid (OkC.start s i hi)
  obtain ⟨O, hO⟩ : ∃ O, O = classL (s.data.toList.drop i) := ⟨_, rfl⟩
  rw [← hO]
  have HO := Lib.hid hO
  have H30 := Lib.hid h30
  have hi30 : (i : Int) ≤ 30 := by omega
  have hi00 : (0 : Int) ≤ (i : Int) := by omega
  have hb2 : i0.bytes * 256 ≤ 281474976710656 := by rw [hz2]; omega
  have hb3 : 256 ≤ maxLen := by unfold maxLen; omega
  clear hO hP h30 hz2
  go_enter Try.func153, Try.ntmps153
  go_wp2_with (at_make; refine wpList_make_full _ rfl _ _ 94 rfl (w.heap.size + 1) 4 i0 (.bool false) 1 Try.underlying94 hi0 hz0 hz1 _ _ _ _ 256 rfl rfl rfl rfl hb2 hb3 (by simp) ?_; intro w1 hown1 hg1; have hP1 : PS w1 b s i false := (hg1.block b hP0.lt (by simp)).trans hP0; obtain ⟨⟨c0, c1, c2⟩, z1, z2⟩ := hP1.cells)
  have hT1 : RT b (w.alloc (.cells #[.int .i64 0, .string ⟨#[]⟩, .slice none 0 0] 56)) w1 := turns_grown' (TurnsAt.refl _ _) hg1 (by intro g h; cases h)
  have hrow1 : RowB (w.heap.size + 1) w1 (.slice (some ⟨w.heap.size + 1, 0, none⟩) 256 256) (hasL []) := by
    have := hown1
    rw [show (madeCells (Value.bool false).cells (256 * 1)).toList = (List.replicate 256 false).flatMap bE from made_flat bE_len (by omega) _ false rfl 256, ← hasL_nil] at this
    unfold RowB RowR
    rw [hasL_len]
    simpa using this
  clear hown1 hg1 c0 c1 c2 z1 z2 hP0
  go_loopg [5] (s.size + 1 - i) (fun G f wr => ∃ (k : Nat) (cs : List UInt8), G = s.size + 1 - k ∧ Hid (OkC s i k cs) ∧ PS wr b s k false ∧ Hid (RowB (w.heap.size + 1) wr (.slice (some ⟨w.heap.size + 1, 0, none⟩) 256 256) (hasL cs)) ∧ RT b (w.alloc (.cells #[.int .i64 0, .string ⟨#[]⟩, .slice none 0 0] 56)) wr)
  case atStart => exact ⟨i, [], rfl, HOK, hP1, Lib.hid hrow1, hT1⟩
  case round =>
    clear hP1 hrow1 hT1 HOK
    obtain ⟨k, cs, HG, HOK, hP, HROW, hT⟩ := hrel
    obtain ⟨hik, hks, _⟩ := HOK.out
    have hgk : gk = s.size + 1 - k := HG
    obtain ⟨⟨c0, c1, c2⟩, z1, z2⟩ := hP.cells
    by_cases hlt : k < s.size
    · by_cases h93 : s[k] = 93
      · have HE : Hid (s[k] = 93) := Lib.hid h93
        have hcl := HOK.out.close hlt h93
        obtain ⟨k1, hk1⟩ : ∃ q, q = k + 1 := ⟨_, rfl⟩
        have HK1 := Lib.hid hk1
        have HKK : Hid (s.size - (s.data.toList.drop (k + 1)).length = k1) := Lib.hid (by rw [hk1]; simp; omega)
        have HRW0 : Hid (∀ W, RT b wr W → RowB (w.heap.size + 1) W (.slice (some ⟨w.heap.size + 1, 0, none⟩) 256 256) (hasL cs)) := Lib.hid fun W h => rowR_apart HROW.out h (fun q hq e => by have := Option.some.inj hq; simp at this; omega)
        by_cases hki : k = i
        ·
          rw [if_pos hki] at hcl
          have HN : Hid (O = none) := Lib.hid (by rw [HO.out]; exact hcl)
          have hq : ((k1 : Int) == (i : Int) + 1) = true := by rw [beq_iff_eq]; omega
          clear hcl h93 hk1 hki HROW HOK HO HG hgk hik
          go_wp2_with (go_at_call 128; ((with_reducible refine (next_yes b s hs k 93 93 ch93 _ hP hlt HE.out).mono ?_); rintro e w3 ⟨rfl, hP3, hT3⟩; rw [← HK1.out] at hP3; have hT03 := hT.trans hT3; obtain ⟨⟨p0, p1, p2⟩, g1, g2⟩ := hP3.cells))
          have hPW := hP3.set2 true
          have HTW : Hid (RT b (w.alloc (.cells #[.int .i64 0, .string ⟨#[]⟩, .slice none 0 0] 56)) (w3.setCell ⟨b, 2, none⟩ (.bool true))) := Lib.hid (hT03.trans (turns_set _ _ _ _ rfl))
          have HRW := Lib.hid (HRW0.out _ (hT3.trans (turns_set w3 b 2 (.bool true) rfl)))
          have HSZ : Hid ((w3.setCell ⟨b, 2, none⟩ (.bool true)).heap.size = w3.heap.size) := Lib.hid (by simp)
          generalize w3.setCell ⟨b, 2, none⟩ (.bool true) = W at hPW HTW HRW HSZ ⊢
          clear p0 p1 p2 g1 g2 hP3 hT03 hT3 c0 c1 c2 z1 z2 hP hT HRW0
          have hP5 : PS W b s k1 true := hPW
          go_wp2
          go_loopw [8, 9] (fun v x wr => ∃ X : Nat, X ≤ 256 ∧ x = .int .i64 X ∧ Buf W.heap.size v (lowL cs X) W wr) (fun _ x _ => 256 - (intOf x).toNat)
          case atStart => exact ⟨0, by omega, rfl, by first | exact buf_none (Below.refl _ _) | (rw [← HSZ.out]; exact buf_none (Below.refl _ _))⟩
          case round =>
            obtain ⟨X, hX, rfl, hbuf⟩ := hrel
            by_cases hltX : X < 256
            · have hXz : (X : Int) < 256 := by omega
              have hcell := RowB.at (RowR.below HRW.out hbuf.below) (x := X) (by rw [hasL_len]; exact hltX)
              rw [hasL_get] at hcell
              have hcv : (((UInt8.ofNat X).toNat : Nat) : Int) = X := by simp only [UInt8.toNat_ofNat']; omega
              have HCV := Lib.hid hcv
              have hlen := lowL_len cs X
              have HLN := Lib.hid hlen
              have HNX := Lib.hid (lowL_succ cs X)
              clear hcv hlen
              cases hcon : cs.contains (UInt8.ofNat X)
              · rw [hcon] at hcell HNX
                clear hcon
                go_wp2
                go_roundw
                case rel => exact ⟨X + 1, by omega, by go_num, by rw [HNX.out]; simpa using hbuf⟩
                case measure => simp [intOf]; omega
              · rw [hcon] at hcell HNX
                clear hcon
                go_wp2_with (at_builtin; refine buf_append rfl _ _ rfl _ _ _ rfl _ _ _ hbuf rfl (UInt8.ofNat X) (HCV.out) (by have := HLN.out; omega) ?_; clear hbuf; intro v1 w1 hbuf)
                go_roundw
                case rel => exact ⟨X + 1, by omega, by go_num, by rw [HNX.out]; simpa using hbuf⟩
                case measure => simp [intOf]; omega
            · obtain rfl : X = 256 := by omega
              have hcv := buf_str hbuf
              rw [lowL_all] at hcv
              have hTe : RT b (w.alloc (.cells #[.int .i64 0, .string ⟨#[]⟩, .slice none 0 0] 56)) wr := HTW.out.trans (below_turns hbuf.below)
              have hPe : PS wr b s k1 true := hP5.below hbuf.below
              obtain ⟨⟨b0, b1, b2⟩, ⟨f0, f1, f2⟩, hz3⟩ := box3t hTe hbl
              clear hbuf hP5 hPW
              go_wp2
              refine bodyPost_ret (v := .agg #[.int .i64 1, .string ⟨(clsL cs).toArray⟩, .slice none 0 0]) (by simp [results, Try.results153, go_sem, b0, b1, b2, hz3, hnb, hnb']) rfl ?_
              rw [HN.out]
              exact s_none hPe hTe hbl
          
        ·
          rw [if_neg hki] at hcl
          have HN : Hid (O = some (charsP (clsL cs), s.data.toList.drop (k + 1))) := Lib.hid (by rw [HO.out]; exact hcl)
          have hq : ((k1 : Int) == (i : Int) + 1) = false := by rw [beq_eq_false_iff_ne]; omega
          clear hcl h93 hk1 hki HROW HOK HO HG hgk hik
          go_wp2_with (go_at_call 128; ((with_reducible refine (next_yes b s hs k 93 93 ch93 _ hP hlt HE.out).mono ?_); rintro e w3 ⟨rfl, hP3, hT3⟩; rw [← HK1.out] at hP3; have hT03 := hT.trans hT3; obtain ⟨⟨p0, p1, p2⟩, g1, g2⟩ := hP3.cells))
          have hPW := hP3
          have HTW : Hid (RT b (w.alloc (.cells #[.int .i64 0, .string ⟨#[]⟩, .slice none 0 0] 56)) w3) := Lib.hid hT03
          have HRW := Lib.hid (HRW0.out _ hT3)
          obtain ⟨W, hW⟩ : ∃ W, W = w3 := ⟨_, rfl⟩
          have HSZ : Hid (W.heap.size = w3.heap.size) := Lib.hid (by rw [hW])
          rw [← hW] at hPW HTW HRW
          subst hW
          clear p0 p1 p2 g1 g2 hP3 hT03 hT3 c0 c1 c2 z1 z2 hP hT HRW0
          have hP5 : PS W b s k1 false := hPW
          go_wp2
          go_loopw [8, 9] (fun v x wr => ∃ X : Nat, X ≤ 256 ∧ x = .int .i64 X ∧ Buf W.heap.size v (lowL cs X) W wr) (fun _ x _ => 256 - (intOf x).toNat)
          case atStart => exact ⟨0, by omega, rfl, by first | exact buf_none (Below.refl _ _) | (rw [← HSZ.out]; exact buf_none (Below.refl _ _))⟩
          case round =>
            obtain ⟨X, hX, rfl, hbuf⟩ := hrel
            by_cases hltX : X < 256
            · have hXz : (X : Int) < 256 := by omega
              have hcell := RowB.at (RowR.below HRW.out hbuf.below) (x := X) (by rw [hasL_len]; exact hltX)
              rw [hasL_get] at hcell
              have hcv : (((UInt8.ofNat X).toNat : Nat) : Int) = X := by simp only [UInt8.toNat_ofNat']; omega
              have HCV := Lib.hid hcv
              have hlen := lowL_len cs X
              have HLN := Lib.hid hlen
              have HNX := Lib.hid (lowL_succ cs X)
              clear hcv hlen
              cases hcon : cs.contains (UInt8.ofNat X)
              · rw [hcon] at hcell HNX
                clear hcon
                go_wp2
                go_roundw
                case rel => exact ⟨X + 1, by omega, by go_num, by rw [HNX.out]; simpa using hbuf⟩
                case measure => simp [intOf]; omega
              · rw [hcon] at hcell HNX
                clear hcon
                go_wp2_with (at_builtin; refine buf_append rfl _ _ rfl _ _ _ rfl _ _ _ hbuf rfl (UInt8.ofNat X) (HCV.out) (by have := HLN.out; omega) ?_; clear hbuf; intro v1 w1 hbuf)
                go_roundw
                case rel => exact ⟨X + 1, by omega, by go_num, by rw [HNX.out]; simpa using hbuf⟩
                case measure => simp [intOf]; omega
            · obtain rfl : X = 256 := by omega
              have hcv := buf_str hbuf
              rw [lowL_all] at hcv
              have hTe : RT b (w.alloc (.cells #[.int .i64 0, .string ⟨#[]⟩, .slice none 0 0] 56)) wr := HTW.out.trans (below_turns hbuf.below)
              have hPe : PS wr b s k1 false := hP5.below hbuf.below
              obtain ⟨⟨b0, b1, b2⟩, ⟨f0, f1, f2⟩, hz3⟩ := box3t hTe hbl
              clear hbuf hP5 hPW
              go_wp2
              refine bodyPost_ret (v := .agg #[.int .i64 1, .string ⟨(clsL cs).toArray⟩, .slice none 0 0]) (by simp [results, Try.results153, go_sem, b0, b1, b2, hz3, hnb, hnb']) rfl ?_
              rw [HN.out]
              exact s_some (p := charsP (clsL cs)) (d := 0) (owN_leaf _ _ _ _ _) hPe HKK.out hTe hbl (Nat.le_refl _)
          
      · have n93 : NoNext s k false 93 := .inr fun _ => h93
        obtain ⟨c, hc⟩ : ∃ c, c = s[k] := ⟨_, rfl⟩
        have hd : s.data.toList.drop k = c :: s.data.toList.drop (k + 1) := by rw [data_drop s k hlt, hc]
        have hge1 : decide (s.size ≤ k) = false := by simp; omega
        have hge2 : ¬ (s.size : Int) ≤ (k : Int) := by omega
        have hltz : (k : Int) < (s.size : Int) := by omega
        cases hpc : pcB c
        ·
          have HN : Hid (O = none) := Lib.hid (by rw [HO.out]; exact HOK.out.stop (by rw [hd]; unfold spanL; simp [hpc]) (fun _ => h93))
          have HPC : Hid (pcB s[k] = false) := Lib.hid (by rw [← hc]; exact hpc)
          clear hc hd hpc h93 HROW HOK HO
          go_wp2_with (go_at_call 128; ((with_reducible refine (next_no b s hs k false 93 93 ch93 _ hP n93).mono ?_); rintro e w3 ⟨rfl, hP3, hT3⟩; have hT03 := hT.trans hT3; obtain ⟨⟨b0, b1, b2⟩, ⟨f0, f1, f2⟩, hz3⟩ := box3t hT03 hbl; obtain ⟨⟨p0, p1, p2⟩, g1, g2⟩ := hP3.cells))
          go_quiet ((go_at_call 161; exact Calls.quiet_of_same (sChar_q _ _ HPC.out _)))
          go_wp2
          refine bodyPost_ret (v := .agg #[.int .i64 0, .string ⟨#[]⟩, .slice none 0 0]) (by simp [results, Try.results153, go_sem, b0, b1, b2, hz3, hnb, hnb']) rfl ?_
          rw [HN.out]
          exact s_none ((hP3.drewN _).set2 true) ((hT03.trans (turns_drewN _ _)).trans (turns_set _ _ _ _ rfl)) hbl
        · have hsk : spanL (s.data.toList.drop k) = spanL (c :: s.data.toList.drop (k + 1)) := by rw [hd]
          have HPC : Hid (pcB s[k] = true) := Lib.hid (by rw [← hc]; exact hpc)
          have hneq : ∀ h : k < s.size, s[k] ≠ 93 := fun _ => h93
          have hstop := fun h => (HO.out).trans (HOK.out.stop h hneq)
          have HSTOP := Lib.hid hstop
          have hP3x : ∀ w', RT b wr w' → RT b (w.alloc (.cells #[.int .i64 0, .string ⟨#[]⟩, .slice none 0 0] 56)) w' := fun w' h => hT.trans h
          have HTR := Lib.hid hP3x
          clear hstop hP3x HO hneq
          go_wp2_with (go_at_call 128; ((with_reducible refine (next_no b s hs k false 93 93 ch93 _ hP n93).mono ?_); rintro e w3 ⟨rfl, hP3, hT3⟩; obtain ⟨⟨p0, p1, p2⟩, g1, g2⟩ := hP3.cells))
          go_quiet ((go_at_call 161; exact Calls.quiet_of_same (sChar_q _ _ HPC.out _)))
          have hP4 := hP3.drewN nq
          have hT4 : RT b wr (w3.drewN nq) := hT3.trans (turns_drewN w3 nq)
          generalize w3.drewN nq = w4 at hP4 hT4 ⊢
          clear p0 p1 p2 g1 g2 hP3 hT3 c0 c1 c2 z1 z2 nq
          obtain ⟨⟨p0, p1, p2⟩, g1, g2⟩ := hP4.cells
          go_wp2
          go_quiet (fail)
          have hP5 := hP4.drewN nq
          have hT5 : RT b wr (w4.drewN nq) := hT4.trans (turns_drewN w4 nq)
          generalize w4.drewN nq = w5 at hP5 hT5 ⊢
          clear p0 p1 p2 g1 g2 hP4 hT4 nq
          obtain ⟨⟨p0, p1, p2⟩, g1, g2⟩ := hP5.cells
          obtain ⟨k1, hk1⟩ : ∃ q, q = k + 1 := ⟨_, rfl⟩
          have hP6 : PS (w5.setCell ⟨b, 1, none⟩ (.int .i64 ((k : Int) + 1))) b s k1 false := by rw [hk1]; exact hP5.set1 (k + 1)
          have hT6 : RT b wr (w5.setCell ⟨b, 1, none⟩ (.int .i64 ((k : Int) + 1))) := hT5.trans (turns_set _ _ _ _ rfl)
          by_cases h126 : ∃ h : k1 < s.size, s[k1] = 126
          · obtain ⟨hl1, he1⟩ := h126
            have HE1 := Lib.hid he1
            obtain ⟨k2, hk2⟩ : ∃ q, q = k1 + 1 := ⟨_, rfl⟩
            have hd1 : s.data.toList.drop (k + 1) = 126 :: s.data.toList.drop k2 := by rw [← hk1, data_drop s k1 hl1, he1, hk2]
            have HK2 := Lib.hid hk2
            rw [hd1] at hsk
            by_cases hl2 : k2 < s.size
            · obtain ⟨e, he⟩ : ∃ e, e = s[k2] := ⟨_, rfl⟩
              have hd2 : s.data.toList.drop k2 = e :: s.data.toList.drop (k2 + 1) := by rw [data_drop s k2 hl2, he]
              rw [hd2] at hsk
              have hge3 : decide (s.size ≤ k2) = false := by simp; omega
              have hge4 : ¬ (s.size : Int) ≤ (k2 : Int) := by omega
              have hltz2 : (k2 : Int) < (s.size : Int) := by omega
              cases hpe : pcB e
              ·
                have HN : Hid (O = none) := Lib.hid (HSTOP.out (by rw [hsk]; simp [spanL, hpc, hpe]))
                have HPD : Hid (pcB s[k2] = false) := Lib.hid (by rw [← he]; exact hpe)
                clear hsk hd1 hd2 hd he hpe hc hk1 hk2 he1 HSTOP HOK HROW h93 HG hgk
                go_wp2_with (go_at_call 128; ((with_reducible refine (next_yes b s hs k1 126 126 ch126 _ hP6 hl1 HE1.out).mono ?_); rintro e w7 ⟨rfl, hP7, hT7⟩; have hP8 : PS w7 b s k2 false := by rw [HK2.out]; exact hP7))
                have hT08 : RT b (w.alloc (.cells #[.int .i64 0, .string ⟨#[]⟩, .slice none 0 0] 56)) w7 := HTR.out _ (hT6.trans hT7)
                obtain ⟨⟨b0, b1, b2⟩, ⟨f0, f1, f2⟩, hz3⟩ := box3t hT08 hbl
                clear p0 p1 p2 g1 g2
                obtain ⟨⟨p0, p1, p2⟩, g1, g2⟩ := hP8.cells
                go_quiet ((go_at_call 161; exact Calls.quiet_of_same (sChar_q _ _ HPD.out _)))
                go_wp2
                refine bodyPost_ret (v := .agg #[.int .i64 0, .string ⟨#[]⟩, .slice none 0 0]) (by simp [results, Try.results153, go_sem, b0, b1, b2, hz3, hnb, hnb']) rfl ?_
                rw [HN.out]
                exact s_none ((hP8.drewN _).set2 true) ((hT08.trans (turns_drewN _ _)).trans (turns_set _ _ _ _ rfl)) hbl
              · have HPD : Hid (pcB s[k2] = true) := Lib.hid (by rw [← he]; exact hpe)
                by_cases hce : c.toNat ≤ e.toNat
                ·
                  have hq5 : decide ((s[k2].toNat : Int) < (s[k].toNat : Int)) = false := by rw [← he, ← hc]; simp; omega
                  have hq6 : ¬ (s[k2].toNat : Int) < (s[k].toNat : Int) := by rw [← he, ← hc]; omega
                  have HSPK : Hid (spanL (s.data.toList.drop k) = some (betw c e, s.data.toList.drop (k2 + 1))) := Lib.hid (by rw [hsk]; simp only [spanL, hpc, if_true]; rw [if_pos ⟨hpe, hce⟩])
                  have HLH0 : Hid (c.toNat ≤ e.toNat) := Lib.hid hce
                  have HK1 := Lib.hid hk1
                  have HC1 := Lib.hid hc
                  have HC2 := Lib.hid he
                  clear hsk hd1 hd2 hd he hpe hc hk1 hk2 he1 HSTOP h93 HG hce hpc
                  go_wp2_with (go_at_call 128; ((with_reducible refine (next_yes b s hs k1 126 126 ch126 _ hP6 hl1 HE1.out).mono ?_); rintro e w7 ⟨rfl, hP7, hT7⟩; have hP8 : PS w7 b s k2 false := by rw [HK2.out]; exact hP7))
                  have hT08 : RT b (w.alloc (.cells #[.int .i64 0, .string ⟨#[]⟩, .slice none 0 0] 56)) w7 := HTR.out _ (hT6.trans hT7)
                  obtain ⟨⟨b0, b1, b2⟩, ⟨f0, f1, f2⟩, hz3⟩ := box3t hT08 hbl
                  clear p0 p1 p2 g1 g2
                  obtain ⟨⟨p0, p1, p2⟩, g1, g2⟩ := hP8.cells
                  go_quiet ((go_at_call 161; exact Calls.quiet_of_same (sChar_q _ _ HPD.out _)))
                  have hP9 := hP8.drewN nq
                  have hT9 : RT b wr (w7.drewN nq) := (hT6.trans hT7).trans (turns_drewN w7 nq)
                  generalize w7.drewN nq = w9 at hP9 hT9 ⊢
                  clear p0 p1 p2 g1 g2 hP8 hT08 hT7 hT6 nq b0 b1 b2 f0 f1 f2 hz3 hP7 hP6
                  obtain ⟨⟨p0, p1, p2⟩, g1, g2⟩ := hP9.cells
                  go_wp2
                  go_quiet (fail)
                  have hPa := hP9.drewN nq
                  have hTa : RT b wr (w9.drewN nq) := hT9.trans (turns_drewN w9 nq)
                  generalize w9.drewN nq = wa at hPa hTa ⊢
                  clear p0 p1 p2 g1 g2 hP9 hT9 nq
                  obtain ⟨⟨p0, p1, p2⟩, g1, g2⟩ := hPa.cells
                  obtain ⟨kk, hkk0⟩ : ∃ q, q = k2 + 1 := ⟨_, rfl⟩
                  have hkk : k < kk := by have h1 := HK2.out; have h2 := HK1.out; omega
                  have hkks : kk ≤ s.size := by omega
                  have HSP : Hid (spanL (s.data.toList.drop k) = some (betw s[k] s[k2], s.data.toList.drop kk)) := Lib.hid (by rw [hkk0, ← HC1.out, ← HC2.out]; exact HSPK.out)
                  have HLH : Hid (s[k].toNat ≤ s[k2].toNat) := Lib.hid (by rw [← HC1.out, ← HC2.out]; exact HLH0.out)
                  obtain ⟨W7, hW7⟩ : ∃ W, W = wa.setCell ⟨b, 1, none⟩ (.int .i64 ((k2 : Int) + 1)) := ⟨_, rfl⟩
                  have hP7 : PS W7 b s kk false := by rw [hW7, hkk0]; exact hPa.set1 (k2 + 1)
                  have hTw : RT b wr W7 := by rw [hW7]; exact hTa.trans (turns_set _ _ _ _ rfl)
                  have hT7 := HTR.out _ hTw
                  have HW7 := Lib.hid hW7
                  clear hPa hTa hkk0 hW7 hge1 hge2 hge3 hge4 hq5 hq6 n93 HPC HPD HTR
                  have HRW7 : Hid (RowB (w.heap.size + 1) W7 (.slice (some ⟨w.heap.size + 1, 0, none⟩) 256 256) (hasL cs)) := Lib.hid (rowR_apart HROW.out hTw (fun q hq e => by have := Option.some.inj hq; simp at this; omega))
                  have hlo : s[k].toNat < 256 := s[k].toNat_lt
                  have hhi : s[k2].toNat < 256 := s[k2].toNat_lt
                  have HOK2 := Lib.hid (HOK.out.step hkk hkks HSP.out)
                  clear hTw HROW HSP
                  go_wp2
                  go_loopw [7] (fun x wr => ∃ X : Nat, x = .int .i64 X ∧ s[k].toNat ≤ X ∧ X ≤ s[k2].toNat + 1 ∧ Hid (RowB (w.heap.size + 1) wr (.slice (some ⟨w.heap.size + 1, 0, none⟩) 256 256) (hasL (cs ++ (betw s[k] s[k2]).take (X - s[k].toNat)))) ∧ PS wr b s kk false ∧ RT b (w.alloc (.cells #[.int .i64 0, .string ⟨#[]⟩, .slice none 0 0] 56)) wr) (fun x _ => s[k2].toNat + 1 - (intOf x).toNat)
                  case atStart => first | (rw [← HW7.out]; exact ⟨s[k].toNat, rfl, Nat.le_refl _, by omega, Lib.hid (by rw [Nat.sub_self, List.take_zero, List.append_nil]; exact HRW7.out), hP7, hT7⟩) | exact ⟨s[k].toNat, rfl, Nat.le_refl _, by omega, Lib.hid (by rw [Nat.sub_self, List.take_zero, List.append_nil]; exact HRW7.out), hP7, hT7⟩
                  case round =>
                    clear hP7 hT7 HRW7
                    obtain ⟨X, rfl, hX1, hX2, HRX, hPX, hTX⟩ := hrel
                    by_cases hXl : X ≤ s[k2].toNat
                    · have hXz : (X : Int) ≤ (s[k2].toNat : Int) := by omega
                      have hX256 : (X : Int) < 256 := by omega
                      have hXn : X < 256 := by omega
                      have hXL : X < (hasL (cs ++ (betw s[k] s[k2]).take (X - s[k].toNat))).length := by rw [hasL_len]; omega
                      obtain ⟨vb, hcell⟩ : ∃ vb, wr.cell? ⟨w.heap.size + 1, X, none⟩ = some (.bool vb) := ⟨_, RowB.at HRX.out hXL⟩
                      have hfz := RowR.frozen HRX.out X
                      have HPUT := Lib.hid (RowB.put HRX.out hXL true)
                      have HPX := Lib.hid (hPX.setNew (c := w.heap.size + 1) (j := X) (u := .bool true) (by omega))
                      have HTX := Lib.hid (turns_new (b := w.heap.size + 1) (j := X) (u := .bool true) hTX (by simp))
                      have HST : Hid ((hasL (cs ++ (betw s[k] s[k2]).take (X - s[k].toNat))).set X true = hasL (cs ++ (betw s[k] s[k2]).take (X + 1 - s[k].toNat))) := Lib.hid (by rw [hasL_set _ _ hXn, betw_upto s[k] s[k2] X hX1 hXl, List.append_assoc])
                      clear HRX hPX hTX hXL
                      go_wp2
                      go_roundw
                      case rel => exact ⟨X + 1, by go_num, by omega, by omega, Lib.hid (by rw [← HST.out]; exact HPUT.out.1), HPX.out, HTX.out⟩
                      case measure => simp [intOf]; omega
                    · obtain rfl : X = s[k2].toNat + 1 := by omega
                      have hXz : ¬ ((s[k2].toNat + 1 : Nat) : Int) ≤ (s[k2].toNat : Int) := by omega
                      have HRE : Hid (RowB (w.heap.size + 1) wr (.slice (some ⟨w.heap.size + 1, 0, none⟩) 256 256) (hasL (cs ++ betw s[k] s[k2]))) := Lib.hid (by have := HRX.out; rwa [betw_all s[k] s[k2] HLH.out] at this)
                      clear HRX
                      go_wp2
                      go_roundg (s.size + 1 - kk)
                      case rel => exact ⟨kk, cs ++ betw s[k] s[k2], rfl, HOK2, hPX, HRE, hTX⟩
                      case measure => omega
                ·
                  have hq5 : decide ((s[k2].toNat : Int) < (s[k].toNat : Int)) = true := by rw [← he, ← hc]; simp; omega
                  have hq6 : (s[k2].toNat : Int) < (s[k].toNat : Int) := by rw [← he, ← hc]; omega
                  have HN : Hid (O = none) := Lib.hid (HSTOP.out (by rw [hsk]; simp only [spanL, hpc, if_true]; rw [if_neg (fun x => hce x.2)]))
                  clear hsk hd1 hd2 hd he hpe hc hk1 hk2 he1 HSTOP HOK HROW h93 HG hgk hce
                  go_wp2_with (go_at_call 128; ((with_reducible refine (next_yes b s hs k1 126 126 ch126 _ hP6 hl1 HE1.out).mono ?_); rintro e w7 ⟨rfl, hP7, hT7⟩; have hP8 : PS w7 b s k2 false := by rw [HK2.out]; exact hP7))
                  have hT08 : RT b (w.alloc (.cells #[.int .i64 0, .string ⟨#[]⟩, .slice none 0 0] 56)) w7 := HTR.out _ (hT6.trans hT7)
                  obtain ⟨⟨b0, b1, b2⟩, ⟨f0, f1, f2⟩, hz3⟩ := box3t hT08 hbl
                  clear p0 p1 p2 g1 g2
                  obtain ⟨⟨p0, p1, p2⟩, g1, g2⟩ := hP8.cells
                  go_quiet ((go_at_call 161; exact Calls.quiet_of_same (sChar_q _ _ HPD.out _)))
                  go_wp2
                  refine bodyPost_ret (v := .agg #[.int .i64 0, .string ⟨#[]⟩, .slice none 0 0]) (by simp [results, Try.results153, go_sem, b0, b1, b2, hz3, hnb, hnb']) rfl ?_
                  rw [HN.out]
                  exact s_none ((hP8.drewN _).set2 true) ((hT08.trans (turns_drewN _ _)).trans (turns_set _ _ _ _ rfl)) hbl
            ·
              have HN : Hid (O = none) := Lib.hid (HSTOP.out (by rw [hsk, List.drop_eq_nil_of_le (show s.data.toList.length ≤ k2 by simp; omega)]; simp [spanL, hpc]))
              have hge3 : decide (s.size ≤ k2) = true := by simp; omega
              have hge4 : (s.size : Int) ≤ (k2 : Int) := by omega
              clear hsk hd1 hd hc hk1 hk2 he1 HSTOP HOK HROW h93 HG hgk
              go_wp2_with (go_at_call 128; ((with_reducible refine (next_yes b s hs k1 126 126 ch126 _ hP6 hl1 HE1.out).mono ?_); rintro e w7 ⟨rfl, hP7, hT7⟩; have hP8 : PS w7 b s k2 false := by rw [HK2.out]; exact hP7))
              have hT08 : RT b (w.alloc (.cells #[.int .i64 0, .string ⟨#[]⟩, .slice none 0 0] 56)) w7 := HTR.out _ (hT6.trans hT7)
              obtain ⟨⟨b0, b1, b2⟩, ⟨f0, f1, f2⟩, hz3⟩ := box3t hT08 hbl
              clear p0 p1 p2 g1 g2
              obtain ⟨⟨p0, p1, p2⟩, g1, g2⟩ := hP8.cells
              go_quiet (fail)
              go_wp2
              refine bodyPost_ret (v := .agg #[.int .i64 0, .string ⟨#[]⟩, .slice none 0 0]) (by simp [results, Try.results153, go_sem, b0, b1, b2, hz3, hnb, hnb']) rfl ?_
              rw [HN.out]
              exact s_none ((hP8.drewN _).set2 true) ((hT08.trans (turns_drewN _ _)).trans (turns_set _ _ _ _ rfl)) hbl
          ·
            have n126 : NoNext s k1 false 126 := .inr fun h e => h126 ⟨h, e⟩
            obtain ⟨kk, hkk0⟩ : ∃ q, q = k1 := ⟨_, rfl⟩
            have hkk : k < kk := by omega
            have hkks : kk ≤ s.size := by omega
            have HSP : Hid (spanL (s.data.toList.drop k) = some (betw s[k] s[k], s.data.toList.drop kk)) := Lib.hid (by
              rw [hsk, hkk0, betw_self, ← hc, hk1]
              by_cases hl1 : k + 1 < s.size
              · have hne : s[k + 1] ≠ 126 := fun e => h126 ⟨by omega, by simpa [hk1] using e⟩
                rw [data_drop s (k + 1) hl1]
                simp [spanL, hpc, hne]
              · rw [List.drop_eq_nil_of_le (show s.data.toList.length ≤ k + 1 by simp; omega)]
                simp [spanL, hpc])
            have HLH : Hid (s[k].toNat ≤ s[k].toNat) := Lib.hid (Nat.le_refl _)
            have HKK0 := Lib.hid hkk0
            clear hsk hd hc hk1 HSTOP h93 HG hpc hkk0 h126 n93 HPC hge1 hge2
            have hlo0 : s[k].toNat < 256 := s[k].toNat_lt
            have hlo1 : (s[k].toNat : Int) < 256 := by omega
            go_wp2_with (go_at_call 128; ((with_reducible refine (next_no b s hs k1 false 126 126 ch126 _ hP6 n126).mono ?_); rintro e W7 ⟨rfl, hP8, hT7a⟩; have hP7 : PS W7 b s kk false := (by rw [HKK0.out]; exact hP8); have hTw : RT b wr W7 := hT6.trans hT7a; have hT7 := HTR.out _ hTw; clear hP8 hP6 hT6 hT7a HTR p0 p1 p2 g1 g2 hP5 hT5))
            have HRW7 : Hid (RowB (w.heap.size + 1) W7 (.slice (some ⟨w.heap.size + 1, 0, none⟩) 256 256) (hasL cs)) := Lib.hid (rowR_apart HROW.out hTw (fun q hq e => by have := Option.some.inj hq; simp at this; omega))
            have hlo : s[k].toNat < 256 := s[k].toNat_lt
            have HOK2 := Lib.hid (HOK.out.step hkk hkks HSP.out)
            clear hTw HROW HSP
            go_loopw [7] (fun x wr => ∃ X : Nat, x = .int .i64 X ∧ s[k].toNat ≤ X ∧ X ≤ s[k].toNat + 1 ∧ Hid (RowB (w.heap.size + 1) wr (.slice (some ⟨w.heap.size + 1, 0, none⟩) 256 256) (hasL (cs ++ (betw s[k] s[k]).take (X - s[k].toNat)))) ∧ PS wr b s kk false ∧ RT b (w.alloc (.cells #[.int .i64 0, .string ⟨#[]⟩, .slice none 0 0] 56)) wr) (fun x _ => s[k].toNat + 1 - (intOf x).toNat)
            case atStart => exact ⟨s[k].toNat, rfl, Nat.le_refl _, by omega, Lib.hid (by rw [Nat.sub_self, List.take_zero, List.append_nil]; exact HRW7.out), hP7, hT7⟩
            case round =>
              clear hP7 hT7 HRW7
              obtain ⟨X, rfl, hX1, hX2, HRX, hPX, hTX⟩ := hrel
              by_cases hXl : X ≤ s[k].toNat
              · have hXz : (X : Int) ≤ (s[k].toNat : Int) := by omega
                have hX256 : (X : Int) < 256 := by omega
                have hXn : X < 256 := by omega
                have hXL : X < (hasL (cs ++ (betw s[k] s[k]).take (X - s[k].toNat))).length := by rw [hasL_len]; omega
                obtain ⟨vb, hcell⟩ : ∃ vb, wr.cell? ⟨w.heap.size + 1, X, none⟩ = some (.bool vb) := ⟨_, RowB.at HRX.out hXL⟩
                have hfz := RowR.frozen HRX.out X
                have HPUT := Lib.hid (RowB.put HRX.out hXL true)
                have HPX := Lib.hid (hPX.setNew (c := w.heap.size + 1) (j := X) (u := .bool true) (by omega))
                have HTX := Lib.hid (turns_new (b := w.heap.size + 1) (j := X) (u := .bool true) hTX (by simp))
                have HST : Hid ((hasL (cs ++ (betw s[k] s[k]).take (X - s[k].toNat))).set X true = hasL (cs ++ (betw s[k] s[k]).take (X + 1 - s[k].toNat))) := Lib.hid (by rw [hasL_set _ _ hXn, betw_upto s[k] s[k] X hX1 hXl, List.append_assoc])
                clear HRX hPX hTX hXL
                go_wp2
                go_roundw
                case rel => exact ⟨X + 1, by go_num, by omega, by omega, Lib.hid (by rw [← HST.out]; exact HPUT.out.1), HPX.out, HTX.out⟩
                case measure => simp [intOf]; omega
              · obtain rfl : X = s[k].toNat + 1 := by omega
                have hXz : ¬ ((s[k].toNat + 1 : Nat) : Int) ≤ (s[k].toNat : Int) := by omega
                have HRE : Hid (RowB (w.heap.size + 1) wr (.slice (some ⟨w.heap.size + 1, 0, none⟩) 256 256) (hasL (cs ++ betw s[k] s[k]))) := Lib.hid (by have := HRX.out; rwa [betw_all s[k] s[k] HLH.out] at this)
                clear HRX
                go_wp2
                go_roundg (s.size + 1 - kk)
                case rel => exact ⟨kk, cs ++ betw s[k] s[k], rfl, HOK2, hPX, HRE, hTX⟩
                case measure => omega
    ·
      have HN : Hid (O = none) := Lib.hid (by rw [HO.out]; exact HOK.out.stop (by rw [List.drop_eq_nil_of_le (by simp; omega)]; rfl) (fun h => absurd h hlt))
      have n93 : NoNext s k false 93 := no_end hlt
      have hge1 : decide (s.size ≤ k) = true := by simp; omega
      have hge2 : (s.size : Int) ≤ (k : Int) := by omega
      clear HROW HOK HO HG hgk
      go_wp2_with (go_at_call 128; ((with_reducible refine (next_no b s hs k false 93 93 ch93 _ hP n93).mono ?_); rintro e w3 ⟨rfl, hP3, hT3⟩; have hT03 := hT.trans hT3; obtain ⟨⟨b0, b1, b2⟩, ⟨f0, f1, f2⟩, hz3⟩ := box3t hT03 hbl; obtain ⟨⟨p0, p1, p2⟩, g1, g2⟩ := hP3.cells))
      go_quiet (fail)
      go_wp2
      refine bodyPost_ret (v := .agg #[.int .i64 0, .string ⟨#[]⟩, .slice none 0 0]) (by simp [results, Try.results153, go_sem, b0, b1, b2, hz3, hnb, hnb']) rfl ?_
      rw [HN.out]
      exact s_none ((hP3.drewN _).set2 true) ((hT03.trans (turns_drewN _ _)).trans (turns_set _ _ _ _ rfl)) hbl
end Go.Proofs.Ytnpgeneahjlkpaa
