/- CHAPTER 9: laws.szSchemaS. First printed by tools/gen_scA.py; changed by hand since (the number of nodes: sizeS). -/
import Derived.Test.YtdkpleghpnflhaaScA
set_option linter.unusedVariables false
set_option linter.unusedSimpArgs false
namespace Go.Proofs.Ytdkpleghpnflhaa
open Go.RowKit
set_option maxRecDepth 100000

set_option maxHeartbeats 4000000 in
theorem szSS_of (d : Nat) (ih : ∀ e, d = e + 1 → SzS9 e) : SzSS d := by
  intro v l w left hv hf h0 h9
  obtain ⟨A, cap, rfl, hn', hc⟩ := sc_at hv
  obtain ⟨n, hnn⟩ : ∃ n, n = l.length := ⟨_, rfl⟩
  have HN : Hid (n = l.length) := Lib.hid hnn
  have HC : ∀ i (hi : i < l.length), ∃ (a : Addr) (r : ScR), A = some a ∧ (a.add (i * 19)).block < w.heap.size ∧ Nl w (a.add (i * 19)) r ∧ ∀ (W : World) (left : Int), Below w.heap.size w W → 0 ≤ left → left ≤ 1048576 → Calls Try.prog 19 #[r.val, .int .i64 left] W fun e w' => ∃ y : Int, e = .returned (.int .i64 y) ∧ (0 ≤ y → (ScSz l[i].x ∧ SizT ScSz (d - 1) l[i].kids) ∧ DeepT (left - y).toNat l[i].kids ∧ sizeS l[i].x.when + sizeS l[i].x.must + wszS l[i].kids ≤ (left - y).toNat) ∧ -1 ≤ y ∧ y ≤ left ∧ Below W.heap.size W w' := fun i hi => by
    obtain ⟨a, r, d', e1, e2, e3, e4, e5⟩ := hc i hi
    subst e2
    have hm := hf _ (List.getElem_mem hi)
    exact ⟨a, r, e1, e3, e4, fun W left hb g0 g9 => ih d' rfl r l[i] W left (RdN.below e5 hb) hm.2 hm.1 g0 g9⟩
  have HD : Hid ((l.length ≤ 1048576 ∧ ∀ t, t ∈ l → ScSz t.x ∧ SizT ScSz (d - 1) t.kids) → SizT ScSz d l) := Lib.hid fun h => by
    cases d with
    | zero => exact True.intro
    | succ d => exact ⟨h.1, h.2⟩
  rw [← hnn] at hn' ⊢
  have HCC := Lib.hid HC
  clear hnn hc hv hf ih HC
  have e1 : IntKind.i64.wrap (left - n) = left - n := by rw [IntKind.wrap_i64]; omega
  by_cases hbig : left < n
  · have z1 : left - n < 0 := by omega
    go_enter Try.func5, Try.ntmps5
    go_wp2
    go_ret
    exact ⟨-1, rfl, fun h => absurd h (by omega), by omega, by omega, Below.refl _ _⟩
  · have z1 : ¬ left - n < 0 := by omega
    obtain ⟨y0, hy0⟩ : ∃ y0, y0 = left - n := ⟨_, rfl⟩
    have e2 : IntKind.i64.wrap (left - n) = y0 := by rw [e1, hy0]
    rw [← hy0] at z1
    have HY := Lib.hid (And.intro hy0 (And.intro h9 h0))
    have hnb : (n : Int) ≤ 1048576 := by omega
    have hy9 : y0 ≤ 1048576 := by omega
    clear e1 hy0 hbig h9 h0
    go_enter Try.func5, Try.ntmps5
    go_wp2
    go_loopw [1, 5] (fun x i wr => ∃ (k : Nat) (y : Int), k ≤ n ∧ i = .int .i64 k ∧ x = .int .i64 y ∧ 0 ≤ y ∧ y ≤ y0 ∧ Hid (∀ s ∈ l.take k, (ScSz s.x ∧ SizT ScSz (d - 1) s.kids) ∧ DeepT (y0 - y).toNat s.kids) ∧ Hid (wszS (l.take k) ≤ k + (y0 - y).toNat) ∧ Below w.heap.size w wr) (fun _ i _ => n - (intOf i).toNat)
    case atStart => exact ⟨0, y0, Nat.zero_le _, rfl, rfl, by omega, by omega, Lib.hid (by simp), Lib.hid (by simp [wszS]), Below.refl _ _⟩
    case round =>
      obtain ⟨k, y, hk, rfl, rfl, hy0, hy1, HS, HZS, hbel⟩ := hrel
      by_cases hlt : k < n
      · have hlk : k < l.length := by rw [← HN.out]; exact hlt
        obtain ⟨a, r, rfl, hab, hcell, hcall⟩ := HCC.out k hlk
        have hload := (hcell.below hbel hab).load Try.underlying53 (by kernel_rfl) (by kernel_rfl)
        obtain ⟨hl1, hl2⟩ := (hcell.below hbel hab).cells
        obtain ⟨rv, hrv⟩ : ∃ rv, rv = r.enc.toArray := ⟨_, rfl⟩
        have hcall2 : ∀ (W : World) (left : Int), Below w.heap.size w W → 0 ≤ left → left ≤ 1048576 → Calls Try.prog 19 #[.agg rv, .int .i64 left] W fun e w' => ∃ y : Int, e = .returned (.int .i64 y) ∧ (0 ≤ y → (ScSz l[k].x ∧ SizT ScSz (d - 1) l[k].kids) ∧ DeepT (left - y).toNat l[k].kids ∧ sizeS l[k].x.when + sizeS l[k].x.must + wszS l[k].kids ≤ (left - y).toNat) ∧ -1 ≤ y ∧ y ≤ left ∧ Below W.heap.size W w' := by rw [hrv]; exact hcall
        have hload : (Instr.loadAt 53 (.pointer (some (a.add (k * 19))))).run Try.prog wr = .ok (.agg rv) wr := by rw [hrv]; exact hload
        rw [← hrv] at hl1 hl2
        have HC := Lib.hid (hcall2 wr y hbel hy0 (by omega))
        have HT : Hid (∀ z : Int, -1 ≤ z → z ≤ y → (ScSz l[k].x ∧ SizT ScSz (d - 1) l[k].kids) ∧ DeepT (y - z).toNat l[k].kids ∧ sizeS l[k].x.when + sizeS l[k].x.must + wszS l[k].kids ≤ (y - z).toNat → ∀ s ∈ l.take (k + 1), (ScSz s.x ∧ SizT ScSz (d - 1) s.kids) ∧ DeepT (y0 - z).toNat s.kids) := Lib.hid fun z hz0 hz1 h1 => all_step hlk (fun s hs => ⟨(HS.out s hs).1, DeepT.more (HS.out s hs).2 (by omega)⟩) ⟨h1.1, DeepT.more h1.2.1 (by omega)⟩
        have HTZ : Hid (∀ z : Int, -1 ≤ z → z ≤ y → sizeS l[k].x.when + sizeS l[k].x.must + wszS l[k].kids ≤ (y - z).toNat → wszS (l.take (k + 1)) ≤ k + 1 + (y0 - z).toNat) := Lib.hid fun z hz0 hz1 h1 => by rw [wszS_step l k hlk, wszN_eq]; have := HZS.out; omega
        generalize l[k] = x at HC HT HTZ
        clear hcell hcall hcall2 hrv
        go_wp2_with (refine wpList_load_at rfl 53 _ rfl (a.add (k * 19)) (by first | rfl | (go_simp; done) | (trace_state; fail)) (.agg rv) hload ?_)
        refine (HC.out).mono ?_
        rintro e w1 ⟨z, rfl, hz, hz1, hz2, hb1⟩
        have hbel1 := below_step hbel hb1
        by_cases hz0 : z < 0
        · clear hz
          go_wp2
          go_ret
          exact ⟨-1, rfl, fun h => absurd h (by omega), by omega, by have := HY.out; omega, hbel1⟩
        · have HT2 := Lib.hid (HT.out z hz1 hz2 (hz (by omega)))
          have HZ2 := Lib.hid (HTZ.out z hz1 hz2 (hz (by omega)).2.2)
          clear hz HT HTZ
          go_wp2
          go_roundw
          case rel => exact ⟨k + 1, z, by omega, by go_num, rfl, by omega, by omega, HT2, HZ2, hbel1⟩
          case measure => simp [intOf]; omega
      · go_wp2
        go_ret
        have hall : ∀ s ∈ l, (ScSz s.x ∧ SizT ScSz (d - 1) s.kids) ∧ DeepT (y0 - y).toNat s.kids := by have h2 := HS.out; rwa [List.take_of_length_le (by have := HN.out; omega)] at h2
        refine ⟨y, rfl, fun h => ⟨HD.out ⟨by have := HN.out; omega, fun t ht => (hall t ht).1⟩, ?_, ?_⟩, by omega, by have := HY.out; omega, hbel⟩
        rotate_left
        · have h2 := HZS.out
          rw [List.take_of_length_le (by have := HN.out; omega)] at h2
          have := HY.out; omega
        by_cases hn0 : n = 0
        · have : l = [] := List.length_eq_zero_iff.1 (by have := HN.out; omega)
          rw [this]; exact DeepT.nil _
        · have h1 := HY.out
          obtain ⟨m, hm⟩ : ∃ m, (left - y).toNat = m + 1 := ⟨(left - y).toNat - 1, by omega⟩
          rw [hm]
          exact fun t ht => DeepT.more (hall t ht).2 (by omega)
theorem szSS_any : ∀ d, SzSS d
  | 0 => szSS_of 0 (fun e h => by cases h)
  | d + 1 => szSS_of (d + 1) (fun e h => by cases h; exact szS9_of (szSS_any d))
end Go.Proofs.Ytdkpleghpnflhaa
