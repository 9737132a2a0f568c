/- CHAPTER 5, laws: szPat, szPatS: how much a pattern takes. -/
import Derived.Test.YtnpgeneahjlkpaaMatY
set_option linter.unusedVariables false
set_option linter.unusedSimpArgs false
namespace Go.Proofs.Ytnpgeneahjlkpaa
open Go.RowKit

def costL : Nat → List Pat → Nat
  | 0, _ => 0
  | d + 1, l => (l.map fun t => 1 + (t.x.text.size + costL d t.kids)).sum
theorem cost_sum (d : Nat) : ∀ l : List Pat, costL (d + 1) l = l.length + (l.map fun t => t.x.text.size + costL d t.kids).sum
  | [] => rfl
  | t :: r => by
    have ih := cost_sum d r
    have ih' : (r.map fun t => 1 + (t.x.text.size + costL d t.kids)).sum = r.length + (r.map fun t => t.x.text.size + costL d t.kids).sum := ih
    show ((t :: r).map fun t => 1 + (t.x.text.size + costL d t.kids)).sum = _
    simp only [List.map_cons, List.sum_cons, List.length_cons]
    omega
def SzOut (c : Nat) (left : Int) (w : World) (e : Ending) (w' : World) : Prop := ∃ n : Int, e = .returned (.int .i64 n) ∧ (0 ≤ n → n + c = left) ∧ -1 ≤ n ∧ n ≤ left ∧ Below w.heap.size w w'
def SzS (d : Nat) : Prop := ∀ (v : Value) (l : List Pat) (w : World) (left : Int), RdL patK d w v l → TxFit d l → 0 ≤ left → left ≤ 1048576 → Calls Try.prog 55 #[v, .int .i64 left] w (SzOut (costL d l) left w)
def SzP (d : Nat) : Prop := ∀ (r : PatR) (t : Pat) (w : World) (left : Int), RdN patK d w r t → TxFit d t.kids → t.x.text.size ≤ 9223372036854775807 → 0 ≤ left → left ≤ 1048576 → Calls Try.prog 24 #[.agg #[.int .i64 r.op, .string r.text, r.kv], .int .i64 left] w (SzOut (t.x.text.size + costL d t.kids) left w)
set_option maxRecDepth 100000 in
set_option maxHeartbeats 2000000 in
theorem szp_of {d : Nat} (ih : SzS d) : SzP d := by
  rintro ⟨op, text, kv⟩ ⟨⟨xo, xt⟩, l⟩ w left ⟨⟨h1, h2⟩, hk⟩ hf ht h0 h9
  obtain rfl : op = xo := h1
  obtain rfl : text = xt := h2
  have ht' : text.size ≤ 9223372036854775807 := ht
  obtain ⟨m, hm⟩ : ∃ m : Int, m = left - text.size := ⟨_, rfl⟩
  have hw : IntKind.i64.wrap (left - text.size) = m := by rw [IntKind.wrap_i64]; omega
  have HM := Lib.hid hm
  have hk2 : RdL patK d w kv l := hk
  have hf2 : TxFit d l := hf
  have HC := Lib.hid (fun W (hb : Below w.heap.size w W) (g0 : 0 ≤ m) (g9 : m ≤ 1048576) => ih kv l W m (hk2.below hb) hf2 g0 g9)
  clear hm hk hf ht ih hk2 hf2
  by_cases hlt : m < 0
  · go_enter Try.func24, Try.ntmps24
    go_wp2
    go_ret
    exact ⟨-1, rfl, fun h => absurd h (by omega), by omega, by omega, below_al (Below.refl _ _) _⟩
  · have hmn : ¬ m < 0 := hlt
    go_enter Try.func24, Try.ntmps24
    go_wp2_with (go_at_call 55; ((refine (HC.out _ (below_al (Below.refl _ _) _) (by omega) (by have := HM.out; omega)).mono ?_); rintro e w1 ⟨n, rfl, H1, h2, h3, hb⟩; have H := Lib.hid H1; have hn4 := Lib.hid (And.intro h2 h3); clear H1 h2 h3))
    · have hM := HM.out
      have hb2 := below_step (below_al (Below.refl w.heap.size w) _) hb
      go_ret
      exact ⟨-1, rfl, fun h => absurd h (by omega), by omega, by omega, hb2⟩
    · have hM := HM.out
      have hb2 := below_step (below_al (Below.refl w.heap.size w) _) hb
      have h4 := hn4.out
      go_ret
      refine ⟨n, rfl, fun h => ?_, by omega, by omega, hb2⟩
      have := H.out h
      show n + ((text.size + costL d l : Nat) : Int) = left
      omega
set_option maxRecDepth 100000 in
set_option maxHeartbeats 2000000 in
theorem szs_of (d : Nat) (ih : ∀ e, d = e + 1 → SzP e) : SzS d := by
  intro v l w left hk hf h0 h9
  obtain ⟨A, cap, rfl⟩ := hk.form
  obtain ⟨n, hnn⟩ : ∃ n, n = l.length := ⟨_, rfl⟩
  have hll : l.length ≤ 9223372036854775807 := by
    cases d with
    | zero => rw [show l = [] from hk.1]; simp
    | succ d => obtain ⟨R, ⟨A', c', e, hn, _⟩, hRl, _⟩ := hk; rw [← hRl]; exact hn
  obtain ⟨cs, hcs, hcost⟩ : ∃ cs : List Nat, cs.length = l.length ∧ costL d l = l.length + cs.sum ∧ ∀ i, i < l.length → ∃ (a : Addr) (x : PatR), A = some a ∧ (a.add (i * 3)).block < w.heap.size ∧ Pk w (a.add (i * 3)) x ∧ ∀ (W : World) (left : Int), Below w.heap.size w W → 0 ≤ left → left ≤ 1048576 → Calls Try.prog 24 #[.agg #[.int .i64 x.op, .string x.text, x.kv], .int .i64 left] W (SzOut (cs.getD i 0) left W) := by
    cases d with
    | zero =>
      obtain rfl : l = [] := hk.1
      exact ⟨[], rfl, rfl, fun i h => absurd h (Nat.not_lt_zero i)⟩
    | succ d =>
      obtain ⟨R, ⟨A', c', e, _, hc⟩, hRl, hRk⟩ := hk
      obtain rfl := (Value.slice.inj e).1
      refine ⟨l.map fun t => t.x.text.size + costL d t.kids, by simp, ?_, fun i h => ?_⟩
      · exact cost_sum d l
      · have h1 : i < R.length := by rw [hRl]; exact h
        obtain ⟨a, e1, e2, e3⟩ := HasP.pk hc i h1
        have hm := hf _ (List.getElem_mem h)
        refine ⟨a, R[i], e1, e2, e3, fun W left hb g0 g9 => ?_⟩
        have := ih d rfl R[i] l[i] W left (RdN.below (hRk i h1 h) hb) hm.2 hm.1 g0 g9
        rw [show (l.map fun t => t.x.text.size + costL d t.kids).getD i 0 = l[i].x.text.size + costL d l[i].kids by simp [List.getD, h]]
        exact this
  obtain ⟨hcost, HC⟩ := hcost
  rw [hcost, ← hnn]
  rw [← hnn] at hcs hll HC
  have HCS := Lib.hid hcs
  have HCC := Lib.hid HC
  obtain ⟨m, hm⟩ : ∃ m : Int, m = left - n := ⟨_, rfl⟩
  have hw : IntKind.i64.wrap (left - n) = m := by rw [IntKind.wrap_i64]; omega
  have HM := Lib.hid hm
  clear hcost HC hcs hnn hm hk hf ih
  by_cases hlt : m < 0
  · go_enter Try.func55, Try.ntmps55
    go_wp2
    go_ret
    exact ⟨-1, rfl, fun h => absurd h (by omega), by omega, by omega, Below.refl _ _⟩
  · have hmn : ¬ m < 0 := hlt
    go_enter Try.func55, Try.ntmps55
    go_wp2
    go_loopw [1, 5] (fun u v wr => ∃ (k : Nat) (q : Int), k ≤ n ∧ v = .int .i64 k ∧ u = .int .i64 q ∧ 0 ≤ q ∧ Hid (q + ((cs.take k).sum : Nat) = m) ∧ Below w.heap.size w wr) (fun _ v _ => n - (intOf v).toNat)
    case atStart => exact ⟨0, m, Nat.zero_le _, rfl, rfl, by omega, Lib.hid (by simp), Below.refl _ _⟩
    case round =>
      obtain ⟨k, q, hk, rfl, rfl, hq0, HQ, hbel⟩ := hrel
      have hq9 : q ≤ 1048576 := by have := HQ.out; have := HM.out; omega
      by_cases hkn : k < n
      · have hkz : (k : Int) < (n : Int) := by omega
        obtain ⟨a, x, rfl, hab, hx, hcall⟩ := HCC.out k hkn
        obtain ⟨d0, d1, d2⟩ := hx.below hbel hab
        have HT : Hid (((cs.take (k + 1)).sum : Nat) = (cs.take k).sum + cs.getD k 0) := Lib.hid (by
          have h : k < cs.length := by rw [HCS.out]; exact hkn
          rw [List.take_succ_eq_append_getElem h, List.sum_append]
          simp [List.getD, h])
        have HCALL := Lib.hid (hcall wr q hbel hq0 hq9)
        clear hx hcall
        go_wp2_with (go_at_call 24; (refine (HCALL.out).mono ?_); rintro e w2 ⟨r, rfl, H1, h2, h3, hb⟩; have H := Lib.hid H1; have hr4 := Lib.hid (And.intro h2 h3); clear H1 h2 h3)
        · have hM := HM.out
          have h4 := HQ.out
          have hb2 := below_step hbel hb
          go_ret
          exact ⟨-1, rfl, fun h => absurd h (by omega), by omega, by omega, hb2⟩
        · go_roundw
          case rel =>
            refine ⟨k + 1, r, by omega, by go_num, rfl, by omega, Lib.hid ?_, below_step hbel hb⟩
            have h1 := HT.out
            have h3 := HQ.out
            have h5 := H.out (by omega)
            omega
          case measure => simp [intOf]; omega
      · have hkz : ¬ (k : Int) < (n : Int) := by omega
        have HT : Hid ((cs.take k).sum = cs.sum) := Lib.hid (by rw [List.take_of_length_le (by rw [HCS.out]; omega)])
        go_wp2
        go_ret
        have hM := HM.out
        have h4 := HQ.out
        have h5 := HT.out
        exact ⟨q, rfl, fun h => by omega, by omega, by omega, hbel⟩
theorem szs_any : ∀ d, SzS d
  | 0 => szs_of 0 (fun e h => by cases h)
  | d + 1 => szs_of (d + 1) (fun e h => by cases h; exact szp_of (szs_any d))
theorem szp_any (d : Nat) : SzP d := szp_of (szs_any d)
end Go.Proofs.Ytnpgeneahjlkpaa
