/- CHAPTER 9: spec.CountSchema. -/
import Derived.Test.YtlgooejoohcmfaaScA
set_option linter.unusedVariables false
set_option linter.unusedSimpArgs false
namespace Go.Proofs.Ytlgooejoohcmfaa
open Go.RowKit
set_option maxRecDepth 100000

/-- a sum over a list, by recursion -/
def sumI {α : Type} (f : α → Int) : List α → Int
  | [] => 0
  | x :: l => f x + sumI f l
theorem sumI_step {α : Type} (f : α → Int) : ∀ (l : List α) (k : Nat) (h : k < l.length), sumI f (l.take (k + 1)) = sumI f (l.take k) + f l[k]
  | [], k, h => by simp at h
  | x :: l, 0, _ => by simp [sumI]
  | x :: l, k + 1, h => by
    simp only [List.take_succ_cons, sumI, List.getElem_cons_succ]
    rw [sumI_step f l k (by simpa using h)]
    omega
/-- how many nodes the trees l have -/
def cntS : Nat → List Sc → Int
  | 0, l => l.length
  | d + 1, l => l.length + sumI (fun t => cntS d t.kids) l
theorem cntS_eq {d : Nat} {l : List Sc} (h : d = 0 → l = []) : cntS d l = l.length + sumI (fun t => cntS (d - 1) t.kids) l := by
  cases d with
  | zero => rw [h rfl]; rfl
  | succ d => rfl
def SCnt (d : Nat) : Prop := ∀ (v : Value) (l : List Sc) (w : World), RdL scK d w v l → Calls Try.prog 7 #[v] w fun e w' => ∃ y : Int, e = .returned (.int .i64 y) ∧ y = IntKind.i64.wrap (cntS d l) ∧ Below w.heap.size w w'
set_option maxHeartbeats 1000000 in
theorem sCnt_of (d : Nat) (ih : ∀ e, d = e + 1 → SCnt e) : SCnt d := by
  intro v l w hv
  have hl0 : d = 0 → l = [] := fun h => by subst h; exact hv.1
  obtain ⟨A, cap, rfl, hn', hc⟩ := sc_at hv
  obtain ⟨n, hnn⟩ : ∃ n, n = l.length := ⟨_, rfl⟩
  have HN := Lib.hid hnn
  have HE := Lib.hid (cntS_eq hl0)
  have HC : Hid (∀ i (hi : i < l.length), ∃ (a : Addr) (kv : Value), A = some a ∧ (∀ W, Below w.heap.size w W → W.cell? ⟨(a.add (i * 19)).block, (a.add (i * 19)).off + 18, none⟩ = some kv) ∧ ∀ W, Below w.heap.size w W → Calls Try.prog 7 #[kv] W fun e w' => ∃ y : Int, e = .returned (.int .i64 y) ∧ y = IntKind.i64.wrap (cntS (d - 1) l[i].kids) ∧ Below W.heap.size W w') := Lib.hid fun i hi => by
    obtain ⟨a, r, d', e1, e2, e3, e4, e5⟩ := hc i hi
    subst e2
    exact ⟨a, r.kv, e1, fun W hb => (e4.below hb e3) 18 _ rfl, fun W hb => ih d' rfl _ _ W (RdL.below e5.2 hb)⟩
  rw [← hnn] at hn' ⊢
  clear hnn hc hv ih hl0
  go_enter Try.func7, Try.ntmps7
  go_wp2
  go_loopw [3, 4] (fun x i wr => ∃ (k : Nat) (y : Int), k ≤ n ∧ i = .int .i64 k ∧ x = .int .i64 y ∧ Hid (y = IntKind.i64.wrap (n + sumI (fun t => cntS (d - 1) t.kids) (l.take k))) ∧ Below w.heap.size w wr) (fun _ i _ => n - (intOf i).toNat)
  case atStart => exact ⟨0, n, Nat.zero_le _, rfl, rfl, Lib.hid (by rw [IntKind.wrap_i64]; simp [sumI]; omega), Below.refl _ _⟩
  case round =>
    obtain ⟨k, y, hk, rfl, rfl, HS, hbel⟩ := hrel
    by_cases hlt : k < n
    · have hlk : k < l.length := by rw [← HN.out]; exact hlt
      obtain ⟨a, kv, rfl, hcell, hcall⟩ := HC.out k hlk
      have hc18 := hcell wr hbel
      have HCALL := Lib.hid (hcall wr hbel)
      have HT := Lib.hid (sumI_step (fun t => cntS (d - 1) t.kids) l k hlk)
      clear hcell hcall HC
      go_wp2_with fail
      refine (HCALL.out).mono ?_
      rintro e w1 ⟨z, rfl, hz, hb1⟩
      have hbel1 := below_step hbel hb1
      obtain ⟨q, hq⟩ : ∃ q : Int, q = IntKind.i64.wrap (y + z) := ⟨_, rfl⟩
      have HQ : Hid (q = IntKind.i64.wrap (n + sumI (fun t => cntS (d - 1) t.kids) (l.take (k + 1)))) := Lib.hid (by
        rw [hq, HS.out, hz, HT.out]
        simp only [IntKind.wrap_i64]
        omega)
      have hq2 := hq.symm
      clear hz hq hc18 hb1
      go_wp2
      go_roundw
      case rel => exact ⟨k + 1, q, by omega, by go_num, rfl, HQ, hbel1⟩
      case measure => simp [intOf]; omega
    · go_wp2
      go_ret
      refine ⟨y, rfl, ?_, hbel⟩
      have h2 := HS.out
      rw [List.take_of_length_le (by have := HN.out; omega)] at h2
      rw [h2, HE.out, HN.out]
theorem sCnt_any : ∀ d, SCnt d
  | 0 => sCnt_of 0 (fun e h => by cases h)
  | d + 1 => sCnt_of (d + 1) (fun e h => by cases h; exact sCnt_any d)
end Go.Proofs.Ytlgooejoohcmfaa
