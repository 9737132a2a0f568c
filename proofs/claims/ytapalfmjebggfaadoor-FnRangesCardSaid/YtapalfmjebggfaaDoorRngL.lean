/- CHAPTER 4, WHAT laws.FnRanges ASKS OF NORMAL RANGES AND OF RANGES IN COMMON: plain mathematics. No function is spoken of. -/
import Derived.Test.YtapalfmjebggfaaDoorRngA
import Derived.Test.YtapalfmjebggfaaDoorRngB
namespace Go.Proofs.YtapalfmjebggfaaDoor

theorem mem_ok {L : List Rg} (h : Nrm L) (n : Int) : Mem L n ↔ MemOk L n := by
  constructor
  · rintro ⟨x, hx, hn⟩; exact ⟨x, hx, h.2 x hx, hn⟩
  · rintro ⟨x, hx, _, hn⟩; exact ⟨x, hx, hn⟩
theorem norm_self {L : List Rg} (h : Nrm L) : normS L = L := (IsNrm.eq (show IsNrm L L from ⟨h, mem_ok h, Nat.le_refl _⟩)).symm
theorem normS_mem (l : List Rg) (n : Int) : Mem (normS l) n ↔ MemOk l n := (normS_is l).2.1 n
theorem meets_mem {a b : List Rg} (ha : Nrm a) (hb : Nrm b) (n : Int) : MemOk (meets a b) n ↔ Mem a n ∧ Mem b n := by
  constructor
  · rintro ⟨z, hz, _, h1, h2⟩
    obtain ⟨x, hx, hz⟩ := List.mem_flatMap.1 hz
    obtain ⟨y, hy, rfl⟩ := List.mem_map.1 hz
    unfold Rg.cap at h1 h2
    simp only at h1 h2
    exact ⟨⟨x, hx, by omega, by omega⟩, ⟨y, hy, by omega, by omega⟩⟩
  · rintro ⟨⟨x, hx, x1, x2⟩, ⟨y, hy, y1, y2⟩⟩
    have hxo := ha.2 x hx
    have hyo := hb.2 y hy
    refine ⟨x.cap y, List.mem_flatMap.2 ⟨x, hx, List.mem_map.2 ⟨y, hy, rfl⟩⟩, ?_, ?_⟩
    · unfold Rg.ok Rg.cap at *; simp only; omega
    · unfold Rg.In Rg.cap; simp only; omega
theorem meetS_a' {a b : List Rg} (h : a = []) : meetS a b = normS b := by subst h; rfl
theorem meetS_b' {a : List Rg} (h : a ≠ []) : meetS a [] = normS a := by unfold meetS; rw [if_neg (by simpa using h)]; rfl
theorem meetS_c' {a b : List Rg} (h : a ≠ []) (h' : b ≠ []) : meetS a b = normS (meets a b) := by unfold meetS; rw [if_neg (by simpa using h), if_neg (by simpa using h')]
theorem meet_mem {a b : List Rg} (ha : Nrm a) (hb : Nrm b) (h1 : a ≠ []) (h2 : b ≠ []) (n : Int) : Mem (meetS a b) n ↔ Mem a n ∧ Mem b n := by
  rw [meetS_c' h1 h2, normS_mem, meets_mem ha hb]
theorem inB_ne {l : List Rg} {n : Int} (h : l ≠ []) : inB l n = true ↔ Mem l n := by
  constructor
  · intro hi
    rcases Classical.em (Mem l n) with hm | hm
    · exact hm
    · rw [inB_no (fun h' => h'.elim h hm)] at hi; cases hi
  · intro hm; exact inB_yes (.inr hm)
theorem inB_nil (n : Int) : inB [] n = true := inB_yes (.inl rfl)
/-- what two normal lists have in common -/
theorem meet_in {a b : List Rg} (ha : Nrm a) (hb : Nrm b) (hm : meetS a b ≠ []) (n : Int) : inB (meetS a b) n = (inB a n && inB b n) := by
  by_cases h1 : a = []
  · subst h1
    rw [meetS_a' rfl, norm_self hb, inB_nil]; simp
  · by_cases h2 : b = []
    · subst h2
      rw [meetS_b' h1, norm_self ha, inB_nil]; simp
    · rw [Bool.eq_iff_iff, Bool.and_eq_true, inB_ne hm, inB_ne h1, inB_ne h2, meet_mem ha hb h1 h2]
theorem meet_none {a b : List Rg} (ha : Nrm a) (hb : Nrm b) (h1 : a ≠ []) (h2 : b ≠ []) (hm : meetS a b = []) (n : Int) : (inB a n && inB b n) = false := by
  rw [Bool.eq_false_iff]
  intro h
  rw [Bool.and_eq_true, inB_ne h1, inB_ne h2, ← meet_mem ha hb h1 h2, hm] at h
  exact mem_nil n h
open Classical in
theorem norm_in {l : List Rg} (h : normS l ≠ []) (n : Int) : inB (normS l) n = decide (MemOk l n) := by
  rw [Bool.eq_iff_iff, inB_ne h, normS_mem, decide_eq_true_iff]
theorem norm_none {l : List Rg} (h : normS l = []) (n : Int) : ¬ MemOk l n := by
  rw [← normS_mem, h]; exact mem_nil n
theorem norm_are {l : List Rg} (h : (normS l).length ≤ 6) : areB (normS l) = true := areB_yes ⟨h, (normS_is l).1⟩
end Go.Proofs.YtapalfmjebggfaaDoor
