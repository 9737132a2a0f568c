/- PATTERNS AS TREES IN MEMORY: laws.eqPat, eqPatS. -/
import Derived.Test.YtnpgeneahjlkpaaTree
import Derived.Test.YtnpgeneahjlkpaaDig
import Derived.Deep.RegionHeld3
set_option linter.unusedVariables false
set_option linter.unusedSimpArgs false
namespace Go.Proofs.Ytnpgeneahjlkpaa
open Go.RowKit

/-- what a pattern says besides its kids -/
structure PatX where
  op : Int
  text : ByteArray
structure PatR where
  op : Int
  text : ByteArray
  kv : Value
def PatR.enc (r : PatR) : List Value := [.int .i64 r.op, .string r.text, r.kv]
def patK : Kd PatX where
  ρ := PatR
  enc := PatR.enc
  z := 3
  E := 56
  kv := PatR.kv
  hz := fun _ => rfl
  rd := fun _ r x => r.op = x.op ∧ r.text = x.text
  own := fun _ _ r x S => (r.op = x.op ∧ r.text = x.text) ∧ ∀ b, ¬ S b
  rd_below := fun h _ => h
  own_rd := fun h => h.1
  own_frame := fun h _ => h
  own_lt := fun h b hb => absurd hb (h.2 b)
  own_mono := fun h _ => h
abbrev Pat := Tr PatX
/-- at p lies the record r -/
def Pk (w : World) (p : Addr) (r : PatR) : Prop := w.cell? p = some (.int .i64 r.op) ∧ w.cell? ⟨p.block, p.off + 1, none⟩ = some (.string r.text) ∧ w.cell? ⟨p.block, p.off + 2, none⟩ = some r.kv
theorem Pk.below {w w' : World} {p : Addr} {r : PatR} (h : Pk w p r) (hb : Below w.heap.size w w') (hp : p.block < w.heap.size) : Pk w' p r :=
  ⟨by rw [hb.cell hp]; exact h.1, by rw [hb.cell (p := ⟨p.block, p.off + 1, none⟩) hp]; exact h.2.1, by rw [hb.cell (p := ⟨p.block, p.off + 2, none⟩) hp]; exact h.2.2⟩
theorem HasP.pk {w : World} {A : Option Addr} {R : List PatR} (h : ∀ i (h : i < R.length), ∃ a, A = some a ∧ a.block < w.heap.size ∧ ∀ j x, (R[i].enc)[j]? = some x → w.cell? ((a.add (i * 3)).add j) = some x) (i : Nat) (hi : i < R.length) :
    ∃ a, A = some a ∧ (a.add (i * 3)).block < w.heap.size ∧ Pk w (a.add (i * 3)) R[i] := by
  obtain ⟨a, ha, hb, hc⟩ := h i hi
  exact ⟨a, ha, by rw [addr_blk]; exact hb, hc 0 _ rfl, hc 1 _ rfl, hc 2 _ rfl⟩
theorem held_pats {w w1 w2 : World} {p q : Addr} {x y : PatR} (k : Below w1.heap.size w1 w2)
    (h : (w1.cell? p = some (.int .i64 x.op) ∧ w1.cell? ⟨p.block, p.off + 1, none⟩ = some (.string x.text) ∧ w1.cell? ⟨p.block, p.off + 2, none⟩ = some x.kv) ∧ (w1.cell? q = some (.int .i64 y.op) ∧ w1.cell? ⟨q.block, q.off + 1, none⟩ = some (.string y.text) ∧ w1.cell? ⟨q.block, q.off + 2, none⟩ = some y.kv) ∧ Below w.heap.size w w1)
    (hp : p.block < w.heap.size) (hq : q.block < w.heap.size) :
    (w2.cell? p = some (.int .i64 x.op) ∧ w2.cell? ⟨p.block, p.off + 1, none⟩ = some (.string x.text) ∧ w2.cell? ⟨p.block, p.off + 2, none⟩ = some x.kv) ∧ (w2.cell? q = some (.int .i64 y.op) ∧ w2.cell? ⟨q.block, q.off + 1, none⟩ = some (.string y.text) ∧ w2.cell? ⟨q.block, q.off + 2, none⟩ = some y.kv) ∧ Below w.heap.size w w2 :=
  ⟨Pk.below h.1 k (Nat.lt_of_lt_of_le hp h.2.2.size), Pk.below h.2.1 k (Nat.lt_of_lt_of_le hq h.2.2.size), below_step h.2.2 k⟩
def PatR.val (r : PatR) : Value := .agg #[.int .i64 r.op, .string r.text, r.kv]

/-- the contract of eqPatS at trees of depth d -/
def EqPats (d : Nat) : Prop := ∀ (u v : Value) (l : List Pat) (w : World), RdL patK d w u l → RdL patK d w v l → Calls Try.prog 61 #[u, v] w fun e w' => e = .returned (.bool true) ∧ Below w.heap.size w w'
def EqPat (d : Nat) : Prop := ∀ (x y : PatR) (t : Pat) (w : World), RdN patK d w x t → RdN patK d w y t → Calls Try.prog 28 #[.agg #[.int .i64 x.op, .string x.text, x.kv], .agg #[.int .i64 y.op, .string y.text, y.kv]] w fun e w' => e = .returned (.bool true) ∧ Below w.heap.size w w'
set_option maxRecDepth 100000 in
set_option maxHeartbeats 1000000 in
theorem eqPat_of {d : Nat} (h : EqPats d) : EqPat d := by
  intro x y t w ⟨⟨hx1, hx2⟩, hx3⟩ ⟨⟨hy1, hy2⟩, hy3⟩
  have e1 : y.op = x.op := hy1.trans hx1.symm
  have e2 : y.text = x.text := hy2.trans hx2.symm
  obtain ⟨xo, xt, xk⟩ := x
  obtain ⟨yo, yt, yk⟩ := y
  simp only at e1 e2
  subst e1; subst e2
  clear hx1 hx2 hy1 hy2
  have hb := below_al (below_al (Below.refl w.heap.size w) (.cells #[.int .i64 yo, .string yt, xk] 56)) (.cells #[.int .i64 yo, .string yt, yk] 56)
  have HC := Lib.hid (h xk yk t.kids _ (hx3.below hb) (hy3.below hb))
  have HB := Lib.hid hb
  clear hx3 hy3 hb
  go_enter Try.func28, Try.ntmps28
  go_wp2_with (go_at_call 61; refine (HC.out).mono ?_; rintro e w' ⟨rfl, hb1⟩)
  go_ret
  exact ⟨rfl, below_step HB.out hb1⟩
set_option maxRecDepth 100000 in
set_option maxHeartbeats 2000000 in
theorem eqPats_of {d : Nat} (h : EqPat d) : EqPats (d + 1) := by
  intro u v l w ⟨R, hR, hRl, hRk⟩ ⟨R', hR', hRl', hRk'⟩
  obtain ⟨A, cap, rfl, hn', hc⟩ := hR
  obtain ⟨A', cap', rfl, _, hc'⟩ := hR'
  obtain ⟨n, hnn⟩ : ∃ n, n = l.length := ⟨_, rfl⟩
  have HN : Hid (n = l.length) := Lib.hid hnn
  rw [hRl, ← hnn] at hn'
  rw [show patK.enc = PatR.enc from rfl, show patK.z = 3 from rfl] at hc hc'
  have HL := Lib.hid (hRl.trans hnn.symm)
  have HL' := Lib.hid (hRl'.trans hnn.symm)
  rw [HL.out, HL'.out]
  have HC : ∀ i, i < n → ∃ (a a' : Addr) (x y : PatR), A = some a ∧ A' = some a' ∧ (a.add (i * 3)).block < w.heap.size ∧ (a'.add (i * 3)).block < w.heap.size ∧ Pk w (a.add (i * 3)) x ∧ Pk w (a'.add (i * 3)) y ∧ ∀ W, Below w.heap.size w W → Calls Try.prog 28 #[.agg #[.int .i64 x.op, .string x.text, x.kv], .agg #[.int .i64 y.op, .string y.text, y.kv]] W fun e w' => e = .returned (.bool true) ∧ Below W.heap.size W w' := fun i hi => by
    have h1 : i < R.length := by rw [HL.out]; exact hi
    have h2 : i < R'.length := by rw [HL'.out]; exact hi
    obtain ⟨a, e1, e2, e3⟩ := HasP.pk hc i h1
    obtain ⟨a', f1, f2, f3⟩ := HasP.pk hc' i h2
    have hl : i < l.length := by rw [← hnn]; exact hi
    exact ⟨a, a', R[i], R'[i], e1, f1, e2, f2, e3, f3, fun W hb => h _ _ l[i] W (RdN.below (hRk i h1 hl) hb) (RdN.below (hRk' i h2 hl) hb)⟩
  clear hc hc' hRk hRk' hRl hRl' hnn
  go_enter Try.func61, Try.ntmps61
  go_wp2
  go_loopw [5] (fun i wr => ∃ k : Nat, k ≤ n ∧ i = .int .i64 k ∧ Below w.heap.size w wr) (fun i _ => n - (intOf i).toNat)
  case atStart => exact ⟨0, Nat.zero_le _, rfl, Below.refl _ _⟩
  case round =>
    obtain ⟨k, hk, rfl, hbel⟩ := hrel
    by_cases hlt : k < n
    · obtain ⟨a, a', x, y, rfl, rfl, hab, hab', hx, hy, hcall⟩ := HC k hlt
      obtain ⟨c0, c1, c2⟩ := hx.below hbel hab
      obtain ⟨d0, d1, d2⟩ := hy.below hbel hab'
      have HCALL := Lib.hid hcall
      clear hx hy hcall HC
      go_wp2
      go_region_held3 (fun w' => (w'.cell? (a.add (k * 3)) = some (.int .i64 x.op) ∧ w'.cell? ⟨(a.add (k * 3)).block, (a.add (k * 3)).off + 1, none⟩ = some (.string x.text) ∧ w'.cell? ⟨(a.add (k * 3)).block, (a.add (k * 3)).off + 2, none⟩ = some x.kv) ∧ (w'.cell? (a'.add (k * 3)) = some (.int .i64 y.op) ∧ w'.cell? ⟨(a'.add (k * 3)).block, (a'.add (k * 3)).off + 1, none⟩ = some (.string y.text) ∧ w'.cell? ⟨(a'.add (k * 3)).block, (a'.add (k * 3)).off + 2, none⟩ = some y.kv) ∧ Below w.heap.size w w') (first | exact ⟨⟨c0, c1, c2⟩, ⟨d0, d1, d2⟩, hbel.drew⟩ | exact held_pats hbm (by assumption) hab hab' | go_keep) (first | (go_at_call 28; refine (HCALL.out _ (by assumption : _ ∧ _ ∧ Below _ _ _).2.2).mono ?_; rintro e w1 ⟨rfl, hbm⟩))
      go_wp2
      go_roundw
      case rel => exact ⟨k + 1, by omega, by go_num, (by assumption : _ ∧ _ ∧ Below _ _ _).2.2⟩
      case measure => simp [intOf]; omega
    · go_wp2
      go_ret
      exact ⟨rfl, hbel⟩
set_option maxRecDepth 100000 in
theorem eqPats_0 : EqPats 0 := by
  rintro u v l w ⟨rfl, A, cap, rfl, _⟩ ⟨_, A', cap', rfl, _⟩
  go_enter Try.func61, Try.ntmps61
  go_wp2
  go_loopw [5] (fun i wr => i = .int .i64 0 ∧ wr = w) (fun _ _ => 0)
  case atStart => exact ⟨rfl, rfl⟩
  case round =>
    obtain ⟨rfl, rfl⟩ := hrel
    go_wp2
    go_ret
    exact ⟨rfl, Below.refl _ _⟩
theorem eqPats_any : ∀ d, EqPats d
  | 0 => eqPats_0
  | d + 1 => eqPats_of (eqPat_of (eqPats_any d))
theorem eqPat_any (d : Nat) : EqPat d := eqPat_of (eqPats_any d)
end Go.Proofs.Ytnpgeneahjlkpaa
