/- BYTES SORTED: slices.Sort and slices.Compact on a list of bytes of the call's own, and the text that is made of it. -/
import Derived.Test.YtkifdbeklagelaaGreatDoorBsJ
import Derived.Test.YtkifdbeklagelaaGreatDoorBsP
import Derived.Test.YtkifdbeklagelaaGreatDoorBuf
import Derived.Test.YtkifdbeklagelaaGreatDoorTree
set_option linter.unusedVariables false
set_option linter.unusedSimpArgs false
namespace Go.Proofs.YtkifdbeklagelaaGreatDoor
open Go.RowKit Go.Sort Go.Lib

def cE (c : UInt8) : List Value := [u8v c]
theorem cE_len : ∀ c, (cE c).length = 1 := fun _ => rfl
abbrev RowC (B : Nat) (w : World) (v : Value) (l : List UInt8) : Prop := RowR cE 1 5 B w v l
theorem numL_len (l : List UInt8) : (numL l).length = l.length := by simp [numL]
theorem RowC.holds {B g n cap : Nat} {w : World} {l : List UInt8} (h : RowC B w (.slice (some ⟨g, 0, none⟩) n cap) l) : Holds encB w g 0 (numL l).toArray := by
  intro j hj
  have hj' : j < l.length := by simpa [numL] using hj
  have hc := RowR.cell cE_len h hj' (j := 0) (x := u8v l[j]) rfl
  have hf := RowR.frozen h (j * 1 + 0)
  rw [Nat.mul_one, Nat.add_zero] at hc hf
  rw [Nat.zero_add]
  refine ⟨?_, hf⟩
  rw [hc, getElem!_pos _ j hj]
  simp [numL, encB, u8v]
theorem turns_put {S : Nat → Prop} {g : Nat} (hg : S g) (w : World) (m : Nat) (d : Array Int) (os : Array Obj) : TurnsAt S w (sortWorld encB w g 0 m d os) := by
  unfold sortWorld
  refine ⟨rfl, rfl, rfl, by simp [putRow, mapBlock, Sort.ahead], fun q hq hs => ?_⟩
  rw [heap_grow_old _ _ (by simpa [putRow, mapBlock, Sort.ahead] using hq)]
  have : g ≠ q := fun e => hs (e ▸ hg)
  simp [putRow, mapBlock, Sort.ahead, Array.getElem?_modify, this]
theorem turns_row {S : Nat → Prop} {g : Nat} (hg : S g) (w : World) (m : Nat) (d : Array Int) : TurnsAt S w (putRow encB (Sort.ahead w m) g 0 d) := by
  refine ⟨rfl, rfl, rfl, by simp [putRow, mapBlock, Sort.ahead], fun q hq hs => ?_⟩
  have : g ≠ q := fun e => hs (e ▸ hg)
  simp [putRow, mapBlock, Sort.ahead, Array.getElem?_modify, this]
theorem sb_turns {S : Nat → Prop} {w w' : World} {g : Nat} {d : Array Int} (hg : S g) (h : SB w g 0 d w') : TurnsAt S w w' := by
  obtain ⟨m, os, rfl⟩ := h
  exact turns_put hg w m d os
/-- the bytes of the list, ascending, lie in block g -/
def Asc (w0 : World) (g n : Nat) (l : List UInt8) (w' : World) : Prop := ∃ d : Array Int, d.size = n ∧ d.toList.Perm (numL l) ∧ SortedIn ltInt 0 d.size d ∧ Holds encB w' g 0 d ∧ TurnsAt (fun q => q = g) w0 w'
theorem len_any (n : Nat) (hn : n ≤ 1048576) (w : World) : Calls Tryz.prog 214 #[.int .u64 (n : Int)] w fun e w' => ∃ k : Nat, k ≤ 1000 ∧ e = .returned (.int .i64 (k : Int)) ∧ w = w' :=
  (Tryz.bits_Len (n : Int) w (by omega) (by omega)).mono fun _ _ ⟨he, hw⟩ => ⟨_, by
    rw [Int.toNat_natCast, bitLen_eq _ (by omega)]
    exact Nat.le_trans ((bitsLen_le_iff n 21).2 (by omega)) (by omega), he, hw.symm⟩
set_option maxRecDepth 100000 in
set_option maxHeartbeats 2000000 in
theorem bsort_any (B g cap n : Nat) (l : List UInt8) (w : World) (hn : n = l.length) (h : RowC B w (.slice (some ⟨g, 0, none⟩) n cap) l) (hb : n ≤ 1048576) :
    Calls Tryz.prog 210 #[.slice (some ⟨g, 0, none⟩) n cap] w fun e w' => e = .returned (.tuple #[]) ∧ Asc w g n l w' := by
  have hH := RowC.holds h
  have hsz : (numL l).toArray.size = n := by simp [numL, hn]
  have hg : g < w.heap.size := (h.lt (k := g) rfl).2
  have R : RB w g 0 (numL l).toArray := ⟨encB_one, hH, hg⟩
  have HC : Hid (∀ (lim : Nat), lim ≤ 1000 → Calls Tryz.prog 213 #[.slice (some ⟨g, 0, none⟩) n cap, .int .i64 ((0 : Nat) : Int), .int .i64 (n : Int), .int .i64 (lim : Int)] w (Srt w g 0 (numL l).toArray 0 n)) := Lib.hid fun lim hlim =>
    (Nat.strongRecOn (motive := fun N => PdqC n N) n (fun N ih => pdq_of n N (by omega) ih)) g 0 cap 0 n lim _ _ w w R hsz hsz (SW.start hH) (Nat.zero_le _) (Nat.le_refl _) (.inl rfl) hlim (by omega)
  have HH := Lib.hid hH
  have HG := Lib.hid hg
  have HZ := Lib.hid hsz
  have hn0 : (0 : Int) ≤ (n : Int) := by omega
  have hn9 : (n : Int) ≤ 1048576 := by omega
  have HB := Lib.hid hb
  clear h hH R hsz hg hn
  go_enter Tryz.func210, Tryz.ntmps210
  go_wp2_with fail
  refine (len_any n HB.out _).mono ?_
  rintro e w1 ⟨k, hk, rfl, rfl⟩
  go_wp2_with (go_at_call 213; (refine (HC.out k hk).mono ?_); rintro e w2 ⟨d, rfl, hp, hs, hS⟩)
  go_end0
  refine ⟨rfl, d, hp.1.trans HZ.out, ?_, ?_, SW.holds hS HG.out HH.out (by rw [hp.1]), sb_turns (S := fun q => q = g) rfl hS⟩
  · have e1 : d.extract 0 n = d := by rw [← hp.1.trans HZ.out]; simp
    have e2 : (numL l).toArray.extract 0 n = (numL l).toArray := by rw [← HZ.out]; simp
    have := hp.2.2
    rw [e1, e2] at this
    simpa using this
  · rw [hp.1.trans HZ.out]; exact hs
theorem bcompact_any (g cap n : Nat) (l : List UInt8) (w0 w : World) (h : Asc w0 g n l w) (hcap : n ≤ cap) (hb : n ≤ 1048576) :
    Calls Tryz.prog 211 #[.slice (some ⟨g, 0, none⟩) n cap] w fun e w' => e = .returned (.slice (some ⟨g, 0, none⟩) (clsL l).length cap) ∧ (convert 84 9 (.slice (some ⟨g, 0, none⟩) (clsL l).length cap)).run Tryz.prog w' = .ok (.string ⟨(clsL l).toArray⟩) w' ∧ TurnsAt (fun q => q = g) w0 w' := by
  obtain ⟨d, rfl, hp, hs, hH, hT⟩ := h
  have hc := compact_cls hp hs
  have h1 := AnyE.slices_Compact (P := Tryz.prog) Tryz.compactB encB encB_one (EqlAt.intD _ _ _) (NeqAt.intD _ _ _) 0 (fun w => Tryz.zeroValue5 w) g 0 cap d w hH (by omega) hcap
  rw [hc] at h1
  refine h1.mono ?_
  rintro e w' ⟨rfl, q, rfl⟩
  refine ⟨by rw [numL_len], ?_, hT.trans (turns_row (S := fun q => q = g) rfl _ _ _)⟩
  have hle : (clsL l).length ≤ d.size := by
    have := numL_len (clsL l)
    rw [← this, ← hc]
    unfold compactUpTo
    rw [List.length_map]
    exact Nat.le_trans (List.length_filter_le _ _) (by simp)
  refine run_convert_bytes_back (P := Tryz.prog) _ 84 9 5 ⟨g, 0, none⟩ cap (clsL l) Tryz.underlying84 Tryz.underlying5 Tryz.underlying9 (fun j hj => ?_)
  have hz : (numL (clsL l) ++ List.replicate (d.size - (numL (clsL l)).length) 0).toArray.size = d.size := by simp [numL]; omega
  have := cell?_putRow encB (Sort.ahead w q) g 0 d _ (holds_ahead encB w q g 0 d hH) hz j (by rw [hz]; omega)
  rw [addr_zero]
  rw [Nat.zero_add] at this
  rw [this]
  congr 1
  have hj2 : j < (numL (clsL l)).length := by rw [numL_len]; exact hj
  rw [getElem!_pos _ j (by rw [hz]; omega)]
  simp [encB, List.getElem_append_left hj2]
  simp [numL]
end Go.Proofs.YtkifdbeklagelaaGreatDoor
