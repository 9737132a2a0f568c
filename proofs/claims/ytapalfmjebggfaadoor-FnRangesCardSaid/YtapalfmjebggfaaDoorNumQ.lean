/- CONTRACTS OF CHAPTER 1, FIFTH PART: spec.ReadInt; ParseInt of both. -/
import Derived.Test.YtapalfmjebggfaaDoorNumR
namespace Go.Proofs.YtapalfmjebggfaaDoor
open Go.RowKit NumP

theorem plain_data {s : ByteArray} (h : 0 < s.size) (h' : ¬ (s[0] = 45 ∨ s[0] = 43)) : unsign s.data.toList = s.data.toList := by
  rw [← unS_data, ← unS_plain h h']
theorem iRead_none (s : ByteArray) (hs : s.size ≤ maxLen) (w : World) (h : readL s.data.toList = none) :
    Calls Tryd.prog 87 #[.string s] w fun e w' => e = .returned (.tuple #[.int .i64 0, .bool false]) ∧ w = w' :=
  (iRead_any s hs w).mono fun _ _ ⟨he, hw⟩ => ⟨by rw [he, h]; rfl, hw⟩
theorem iRead_some (s : ByteArray) (hs : s.size ≤ maxLen) (w : World) (n : Int) (h : readL s.data.toList = some n) :
    Calls Tryd.prog 87 #[.string s] w fun e w' => e = .returned (.tuple #[.int .i64 n, .bool true]) ∧ w = w' :=
  (iRead_any s hs w).mono fun _ _ ⟨he, hw⟩ => ⟨by rw [he, h]; rfl, hw⟩
theorem fmt_eq {n : Int} {s : ByteArray} (h : fmtL n = s.data.toList) : fmtS n = s := by
  apply ByteArray.ext; apply Array.toList_inj.1; simp [fmtS, h]
theorem fmt_ne {n : Int} {s : ByteArray} (h : fmtL n ≠ s.data.toList) : fmtS n ≠ s := by
  intro e; apply h; rw [← e]; simp [fmtS]
theorem fmt_neB {n : Int} {s : ByteArray} (h : fmtL n ≠ s.data.toList) : (!(fmtS n).toList == s.toList) = true := by
  rw [ByteArray.toList_eq, ByteArray.toList_eq]
  have : ((fmtS n).data.toList == s.data.toList) = false := beq_eq_false_iff_ne.2 (by simpa [fmtS] using h)
  rw [this]; rfl
theorem parse_ok {l : List UInt8} {n : Int} (h : readL l = some n) (hf : fmtL n = l) : Value.tuple #[.int .i64 n, .bool true] = tupI (parseL l) := by
  unfold parseL; rw [h]; simp only [Option.bind_some]; rw [if_pos hf]; rfl
theorem parse_fail {l : List UInt8} {n : Int} (h : readL l = some n) (hf : fmtL n ≠ l) : Value.tuple #[.int .i64 0, .bool false] = tupI (parseL l) := by
  unfold parseL; rw [h]; simp only [Option.bind_some]; rw [if_neg hf]; rfl
theorem parse_none {l : List UInt8} (h : readL l = none) : Value.tuple #[.int .i64 0, .bool false] = tupI (parseL l) := by
  unfold parseL; rw [h]; rfl
set_option maxRecDepth 100000 in
set_option maxHeartbeats 400000 in
theorem iParse_any (s : ByteArray) (hs : s.size ≤ maxLen) (w : World) :
    Calls Tryd.prog 78 #[.string s] w fun e w' => e = .returned (tupI (parseL s.data.toList)) ∧ Below w.heap.size w w' := by
  cases h : readL s.data.toList with
  | none =>
    have H := Lib.hid h
    clear h
    go_enter Tryd.func78, Tryd.ntmps78
    go_wp2_with (go_at_call 87; refine (iRead_none _ hs _ H.out).mono ?_; rintro e w' ⟨rfl, rfl⟩)
    go_ret2
    exact ⟨ret_val (by unfold parseL; rw [H.out]; rfl), Below.refl _ _⟩
  | some n =>
    have hb := readL_bd h
    have H := Lib.hid h
    clear h
    by_cases hf : fmtL n = s.data.toList
    · have HF := Lib.hid hf
      have e1 := fmt_eq hf
      clear hf
      go_enter Tryd.func78, Tryd.ntmps78
      go_wp2_with (first
        | (go_at_call 87; refine (iRead_some _ hs _ n H.out).mono ?_; rintro e w' ⟨rfl, rfl⟩)
        | (go_at_call 40; refine (iFmt_any n (by omega) (by omega) _).mono ?_; rintro e w' ⟨rfl, hb⟩))
      go_ret2
      exact ⟨ret_val (parse_ok H.out HF.out), hb⟩
    · have HF := Lib.hid hf
      have e1 := fmt_neB hf
      clear hf
      go_enter Tryd.func78, Tryd.ntmps78
      go_wp2_with (first
        | (go_at_call 87; refine (iRead_some _ hs _ n H.out).mono ?_; rintro e w' ⟨rfl, rfl⟩)
        | (go_at_call 40; refine (iFmt_any n (by omega) (by omega) _).mono ?_; rintro e w' ⟨rfl, hb⟩))
      go_ret2
      exact ⟨ret_val (parse_fail H.out HF.out), hb⟩

theorem str_none {s : ByteArray} (h : ¬ 0 < s.size) : s = ⟨#[]⟩ := by apply ByteArray.ext; exact Array.eq_empty_of_size_eq_zero (by show s.size = 0; omega)
theorem readL_neg {s : ByteArray} {m : Nat} (h : rdL (unS s).data.toList = some m) (h0 : 0 < s.size) (h1 : s[0] = 45) : readL s.data.toList = some (-(m : Int)) := by
  rw [unS_data] at h; unfold readL; rw [h, minus_of h0, h1]; rfl
theorem readL_pos {s : ByteArray} {m : Nat} (h : rdL s.data.toList = some m) (h0 : 0 < s.size) : s[0] ≠ 45 ∧ s[0] ≠ 43 ∧ readL s.data.toList = some (m : Int) := by
  have hd := data_cons s h0
  have hn : s[0] ≠ 45 ∧ s[0] ≠ 43 := by
    rw [hd] at h
    unfold rdL at h
    rw [if_neg (by simp), rdGo] at h
    split at h
    · rename_i hc
      constructor <;> intro e <;> rw [e] at hc <;> simp at hc
    · cases h
  refine ⟨hn.1, hn.2, ?_⟩
  unfold readL
  rw [plain_data h0 (by simp [hn.1, hn.2]), h, minus_of h0, beq_eq_false_iff_ne.2 hn.1]; rfl
theorem parse_bad {s : ByteArray} (h : rdL s.data.toList = none) (h0 : 0 < s.size) (h1 : s[0] ≠ 45) : Value.tuple #[.int .i64 0, .bool false] = tupI (parseL s.data.toList) := by
  by_cases h2 : s[0] = 43
  · cases hr : readL s.data.toList with
    | none => rw [← parse_none hr]
    | some n =>
      refine parse_fail hr ?_
      rw [data_cons s h0, h2]
      exact fmtL_plus n _
  · refine parse_none ?_
    unfold readL
    rw [plain_data h0 (by simp [h1, h2]), h]; rfl

end Go.Proofs.YtapalfmjebggfaaDoor
