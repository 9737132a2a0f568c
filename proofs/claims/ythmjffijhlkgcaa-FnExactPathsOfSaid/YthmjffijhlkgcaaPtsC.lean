/- MERGED for a claim: PtsA PtsB PtsC. -/
import Derived.Test.YthmjffijhlkgcaaTreeO
import Derived.Test.YthmjffijhlkgcaaPthE
import Derived.Test.YthmjffijhlkgcaaPthO
set_option linter.unusedVariables false
set_option linter.unusedSimpArgs false
/- CHAPTER 8: LISTS OF PATHS: how they lie, laws.eqPathS. -/
namespace Go.Proofs.Ythmjffijhlkgcaa
open Go.RowKit NumP

def PthV.enc (v : PthV) : List Value := [.bool v.root, .int .i64 v.ups, v.sv]
theorem PthV.enc_len (v : PthV) : v.enc.length = 3 := rfl
abbrev RowQ (B : Nat) (w : World) (v : Value) (R : List PthV) : Prop := RowR PthV.enc 3 33 B w v R
/-- v is a slice that holds the paths l -/
def HasQ (w : World) (v : Value) (l : List Pth) : Prop := ∃ R : List PthV, HasR PthV.enc 3 w v R ∧ R.length = l.length ∧ ∀ i (h : i < R.length) (h' : i < l.length), HasP7 w R[i] l[i]
theorem HasQ.below {w w' : World} {v : Value} {l : List Pth} (h : HasQ w v l) (hb : Below w.heap.size w w') : HasQ w' v l := by
  obtain ⟨R, h1, h2, h3⟩ := h
  exact ⟨R, HasR.below h1 hb, h2, fun i a b => (h3 i a b).below hb⟩
/-- the same, the call's own: R how they lie, K the blocks of each one's steps -/
structure OwnQ (B : Nat) (w : World) (v : Value) (R : List PthV) (l : List Pth) (K : Nat → Nat → Prop) : Prop where
  row : RowQ B w v R
  len : R.length = l.length
  ps : ∀ i (h : i < R.length) (h' : i < l.length), OwnP7 B w R[i] l[i] (K i)
  dis : ∀ i j b, i < R.length → j < R.length → K i b → K j b → i = j
  nv : ∀ i b, i < R.length → K i b → v.ownBlock ≠ some b
/-- the blocks that it takes -/
def OwnQ.S (v : Value) (R : List PthV) (K : Nat → Nat → Prop) (b : Nat) : Prop := v.ownBlock = some b ∨ ∃ i, i < R.length ∧ K i b
theorem OwnQ.has {B : Nat} {w : World} {v : Value} {R : List PthV} {l : List Pth} {K : Nat → Nat → Prop} (h : OwnQ B w v R l K) : HasQ w v l :=
  ⟨R, RowR.has PthV.enc_len h.row, h.len, fun i a b => (h.ps i a b).has⟩
theorem OwnQ.below {B : Nat} {w w' : World} {v : Value} {R : List PthV} {l : List Pth} {K : Nat → Nat → Prop} (h : OwnQ B w v R l K) (hb : Below w.heap.size w w') : OwnQ B w' v R l K :=
  ⟨RowR.below h.row hb, h.len, fun i a b => (h.ps i a b).below hb, h.dis, h.nv⟩
theorem OwnQ.lt {B : Nat} {w : World} {v : Value} {R : List PthV} {l : List Pth} {K : Nat → Nat → Prop} (h : OwnQ B w v R l K) {b : Nat} (hb : OwnQ.S v R K b) : B ≤ b ∧ b < w.heap.size := by
  rcases hb with hb | ⟨i, hi, hb⟩
  · exact RowR.lt h.row hb
  · exact OwL.lt (h.ps i hi (by rw [← h.len]; exact hi)).st b hb
theorem OwnQ.apart {B : Nat} {w w' : World} {v : Value} {R : List PthV} {l : List Pth} {K : Nat → Nat → Prop} {S' : Nat → Prop} (h : OwnQ B w v R l K) (ht : TurnsAt S' w w') (hd : ∀ b, OwnQ.S v R K b → S' b → False) : OwnQ B w' v R l K :=
  ⟨rowR_apart h.row ht (fun b hb hs => hd b (.inl hb) hs), h.len, fun i a b => (h.ps i a b).apart ht (fun b hb hs => hd b (.inr ⟨i, a, hb⟩) hs), h.dis, h.nv⟩
/-- at p lies the path v -/
def Qk (w : World) (p : Addr) (v : PthV) : Prop := w.cell? p = some (.bool v.root) ∧ w.cell? ⟨p.block, p.off + 1, none⟩ = some (.int .i64 v.ups) ∧ w.cell? ⟨p.block, p.off + 2, none⟩ = some v.sv
theorem Qk.below {w w' : World} {p : Addr} {v : PthV} (h : Qk w p v) (hb : Below w.heap.size w w') (hp : p.block < w.heap.size) : Qk w' p v :=
  ⟨by rw [hb.cell hp]; exact h.1, by rw [hb.cell (p := ⟨p.block, p.off + 1, none⟩) hp]; exact h.2.1, by rw [hb.cell (p := ⟨p.block, p.off + 2, none⟩) hp]; exact h.2.2⟩
theorem HasQ.at {w : World} {v : Value} {l : List Pth} (h : HasQ w v l) : ∃ (A : Option Addr) (cap : Nat), v = .slice A l.length cap ∧ l.length ≤ 9223372036854775807 ∧
    ∀ i (hi : i < l.length), ∃ (a : Addr) (r : PthV), A = some a ∧ (a.add (i * 3)).block < w.heap.size ∧ Qk w (a.add (i * 3)) r ∧ HasP7 w r l[i] := by
  obtain ⟨R, ⟨A, cap, hv, hn, hc⟩, h2, h3⟩ := h
  refine ⟨A, cap, by rw [← h2]; exact hv, by rw [← h2]; exact hn, fun i hi => ?_⟩
  have hi' : i < R.length := by rw [h2]; exact hi
  obtain ⟨a, ha, hb, hk⟩ := hc i hi'
  exact ⟨a, R[i], ha, by rw [addr_blk]; exact hb, ⟨hk 0 _ rfl, hk 1 _ rfl, hk 2 _ rfl⟩, h3 i hi' hi⟩
theorem held_three7 {w w1 w2 : World} {p q : Addr} {x y : PthV} (k : Below w1.heap.size w1 w2) (h : Qk w1 p x ∧ Qk w1 q y ∧ Below w.heap.size w w1) (hp : p.block < w.heap.size) (hq : q.block < w.heap.size) : Qk w2 p x ∧ Qk w2 q y ∧ Below w.heap.size w w2 :=
  ⟨h.1.below k (Nat.lt_of_lt_of_le hp h.2.2.size), h.2.1.below k (Nat.lt_of_lt_of_le hq h.2.2.size), below_step h.2.2 k⟩
set_option maxRecDepth 100000 in
set_option maxHeartbeats 1000000 in
theorem eqPts_any (u v : Value) (l : List Pth) (w : World) (hu : HasQ w u l) (hv : HasQ w v l) :
    Calls Try.prog 8 #[u, v] w fun e w' => e = .returned (.bool true) ∧ Below w.heap.size w w' := by
  obtain ⟨A, cap, rfl, hn', hc⟩ := hu.at
  obtain ⟨A', cap', rfl, _, hc'⟩ := hv.at
  obtain ⟨n, hnn⟩ : ∃ n, n = l.length := ⟨_, rfl⟩
  have HN : Hid (n = l.length) := Lib.hid hnn
  rw [← hnn] at hn' ⊢
  clear hnn hu hv
  go_enter Try.func8, Try.ntmps8
  go_wp2
  go_loopw [5] (fun i wr => ∃ k : Nat, k ≤ n ∧ i = .int .i64 k ∧ Below w.heap.size w wr) (fun i _ => n - (intOf i).toNat)
  case atStart => exact ⟨0, Nat.zero_le _, rfl, Below.refl _ _⟩
  case round =>
    obtain ⟨k, hk, rfl, hbel⟩ := hrel
    by_cases hlt : k < n
    · have hlk : k < l.length := by rw [← HN.out]; exact hlt
      obtain ⟨a, x, rfl, hab, hx, hxp⟩ := hc k hlk
      obtain ⟨a', y, rfl, hab', hy, hyp⟩ := hc' k hlk
      obtain ⟨c0, c1, c2⟩ := hx.below hbel hab
      obtain ⟨d0, d1, d2⟩ := hy.below hbel hab'
      have HCALL := Lib.hid (fun W (hb : Below w.heap.size w W) => eqPth_any x y l[k] W (hxp.below hb) (hyp.below hb))
      clear hx hy hc hc' hxp hyp
      go_wp2
      go_region_held3 (fun w' => (w'.cell? (a.add (k * 3)) = some (.bool x.root) ∧ w'.cell? ⟨(a.add (k * 3)).block, (a.add (k * 3)).off + 1, none⟩ = some (.int .i64 x.ups) ∧ w'.cell? ⟨(a.add (k * 3)).block, (a.add (k * 3)).off + 2, none⟩ = some x.sv) ∧ (w'.cell? (a'.add (k * 3)) = some (.bool y.root) ∧ w'.cell? ⟨(a'.add (k * 3)).block, (a'.add (k * 3)).off + 1, none⟩ = some (.int .i64 y.ups) ∧ w'.cell? ⟨(a'.add (k * 3)).block, (a'.add (k * 3)).off + 2, none⟩ = some y.sv) ∧ Below w.heap.size w w') (first | exact ⟨⟨c0, c1, c2⟩, ⟨d0, d1, d2⟩, hbel.drew⟩ | exact held_three7 hbm (by assumption) hab hab' | go_keep) (first | (go_at_call 20; refine (HCALL.out _ (by assumption : _ ∧ _ ∧ Below _ _ _).2.2).mono ?_; rintro e w1 ⟨rfl, hbm⟩))
      go_wp2
      go_roundw
      case rel => exact ⟨k + 1, by omega, by go_num, (by assumption : _ ∧ _ ∧ Below _ _ _).2.2⟩
      case measure => simp [intOf]; omega
    · go_wp2
      go_ret
      exact ⟨rfl, hbel⟩
end Go.Proofs.Ythmjffijhlkgcaa

/- CHAPTER 8: marks written into owned lists of paths, told. -/
namespace Go.Proofs.Ythmjffijhlkgcaa
open Go.RowKit NumP

/-- the paths as they stand once they are marked from k on -/
def mkPt (k : Nat) (p : Pth) : Pth := ⟨(k : Int).tmod 3 == 0, ((k + 1 : Nat) : Int), mkStps (k + 2) p.st⟩
def mkPts : Nat → List Pth → List Pth
  | _, [] => []
  | k, p :: r => mkPt k p :: mkPts (endStps (k + 2) p.st) r
def endPts : Nat → List Pth → Nat
  | k, [] => k
  | k, p :: r => endPts (endStps (k + 2) p.st) r
theorem endPts_snoc : ∀ (k : Nat) (l : List Pth) (p : Pth), endPts k (l ++ [p]) = endStps (endPts k l + 2) p.st
  | k, [], p => rfl
  | k, x :: r, p => endPts_snoc _ r p
theorem mkPts_snoc : ∀ (k : Nat) (l : List Pth) (p : Pth), mkPts k (l ++ [p]) = mkPts k l ++ [mkPt (endPts k l) p]
  | k, [], p => rfl
  | k, x :: r, p => by show mkPt k x :: mkPts _ (r ++ [p]) = _; rw [mkPts_snoc]; rfl
theorem mkPts_len : ∀ (k : Nat) (l : List Pth), (mkPts k l).length = l.length
  | _, [] => rfl
  | k, x :: r => by show (mkPts _ r).length + 1 = _; rw [mkPts_len]; rfl
theorem endPts_next {l : List Pth} {j k : Nat} (hj : j < l.length) : endPts k (l.take (j + 1)) = endStps (endPts k (l.take j) + 2) l[j].st := by rw [take_next hj, endPts_snoc]
theorem mkPts_next {l : List Pth} {j k : Nat} (hj : j < l.length) : (mkPts k (l.take j) ++ l.drop j).set j (mkPt (endPts k (l.take j)) l[j]) = mkPts k (l.take (j + 1)) ++ l.drop (j + 1) := by
  have e : (mkPts k (l.take j)).length = j := by rw [mkPts_len, List.length_take]; omega
  rw [List.set_append_right _ _ (by rw [e]; exact Nat.le_refl _), e, Nat.sub_self, List.drop_eq_getElem_cons hj, List.set_cons_zero, take_next hj, mkPts_snoc, List.append_assoc]; rfl
theorem mkPts_get (l : List Pth) : ∀ (k j : Nat) (h : j < (mkPts k l).length) (h' : j < l.length), (mkPts k l)[j] = mkPt (endPts k (l.take j)) l[j] := by
  induction l with
  | nil => intro k j h h'; simp at h'
  | cons x r ih =>
    intro k j h h'
    cases j with
    | zero => rfl
    | succ j => exact ih (endStps (k + 2) x.st) j (by simpa [mkPts] using h) (by simpa using h')
/-- the sizes that the marks ask for -/
def PtsSz (l : List Pth) : Prop := l.length ≤ 1048577 ∧ ∀ p ∈ l, p.st.length ≤ 1048576 ∧ ∀ s ∈ p.st, s.ts.length ≤ 1048576
theorem endStps_bd' {l : List Stp} (hn : l.length ≤ 1048576) (hs : ∀ s ∈ l, s.ts.length ≤ 1048576) (k : Nat) : endStps (k + 2) l ≤ k + 2199024304130 := by
  have := endStps_bd hs l.length (k + 2) (Nat.le_refl _)
  rw [List.take_length] at this
  omega
theorem mul_step {x y k C j : Nat} (h1 : y ≤ k + C * j) (h3 : x ≤ y + C) : x ≤ k + C * (j + 1) := by
  rw [Nat.mul_succ, ← Nat.add_assoc]
  exact Nat.le_trans h3 (Nat.add_le_add_right h1 _)
theorem endPts_bd {l : List Pth} (hs : ∀ p ∈ l, p.st.length ≤ 1048576 ∧ ∀ s ∈ p.st, s.ts.length ≤ 1048576) : ∀ j k, j ≤ l.length → endPts k (l.take j) ≤ k + 2199024304130 * j
  | 0, k, _ => by rw [List.take_zero]; exact Nat.le_add_right _ _
  | j + 1, k, h => by
    have hj : j < l.length := h
    have h2 := hs _ (List.getElem_mem hj)
    rw [endPts_next hj]
    exact mul_step (endPts_bd hs j k (Nat.le_of_lt hj)) (endStps_bd' h2.1 h2.2 (endPts k (l.take j)))
theorem endPts_ge : ∀ (l : List Pth) (k : Nat), k ≤ endPts k l
  | [], k => Nat.le_refl _
  | p :: r, k => by
    have := endPts_ge r (endStps (k + 2) p.st)
    have := endStps_ge p.st (k + 2)
    show k ≤ endPts (endStps (k + 2) p.st) r
    omega
theorem ptCells {B g n cap : Nat} {w : World} {L : List PthV} (h : RowQ B w (.slice (some ⟨g, 0, none⟩) n cap) L) {i : Nat} (hi : i < L.length) :
    (w.cell? ⟨g, i * 3, none⟩ = some (.bool L[i].root) ∧ w.cell? ⟨g, i * 3 + 1, none⟩ = some (.int .i64 L[i].ups) ∧ w.cell? ⟨g, i * 3 + 2, none⟩ = some L[i].sv) ∧ w.frozen? ⟨g, i * 3, none⟩ = false ∧ w.frozen? ⟨g, i * 3 + 1, none⟩ = false ∧ w.frozen? ⟨g, i * 3 + 2, none⟩ = false :=
  ⟨⟨RowR.cell PthV.enc_len h hi (j := 0) rfl, RowR.cell PthV.enc_len h hi (j := 1) rfl, RowR.cell PthV.enc_len h hi (j := 2) rfl⟩, RowR.frozen h _, RowR.frozen h _, RowR.frozen h _⟩
/-- the j-th path anew: its first two fields stored, then its steps turned -/
theorem OwnQ.put {B g n cap : Nat} {w : World} {R : List PthV} {M : List Pth} {K : Nat → Nat → Prop} (h : OwnQ B w (.slice (some ⟨g, 0, none⟩) n cap) R M K) {j : Nat} (hj : j < R.length) (hj' : j < M.length) (x : Bool) (u : Int) :
    OwnQ B ((w.setCell ⟨g, j * 3, none⟩ (.bool x)).setCell ⟨g, j * 3 + 1, none⟩ (.int .i64 u)) (.slice (some ⟨g, 0, none⟩) n cap) (R.set j ⟨x, u, R[j].sv⟩) (M.set j ⟨x, u, M[j].st⟩) K ∧ w.grownBy ((w.setCell ⟨g, j * 3, none⟩ (.bool x)).setCell ⟨g, j * 3 + 1, none⟩ (.int .i64 u)) (some g) := by
  have h0 := RowR.set1 PthV.enc_len h.row hj 0 (by omega) (.bool x) ⟨x, R[j].ups, R[j].sv⟩ rfl
  have h1 := RowR.set1 PthV.enc_len h0.1 (i := j) (by simpa using hj) 1 (by omega) (.int .i64 u) ⟨x, u, R[j].sv⟩ (by simp [PthV.enc])
  have hr := h1.1
  rw [List.set_set] at hr
  have hg := h0.2.trans h1.2
  refine ⟨⟨hr, by rw [List.length_set, List.length_set]; exact h.len, fun i hi hi' => ?_, fun i k b h1 h2 => h.dis i k b (by simpa using h1) (by simpa using h2), fun i b h1 => h.nv i b (by simpa using h1)⟩, hg⟩
  have hi1 : i < R.length := by simpa using hi
  have hi2 : i < M.length := by simpa using hi'
  have h2 := h.ps i hi1 hi2
  have h3 := OwL.other h2.st hg (fun b hb e => h.nv i b hi1 hb e.symm)
  by_cases e : i = j
  · subst e; rw [List.getElem_set_self, List.getElem_set_self]; exact ⟨rfl, rfl, h3⟩
  · rw [List.getElem_set_ne (by omega), List.getElem_set_ne (by omega)]; exact ⟨h2.root, h2.ups, h3⟩
theorem OwnQ.steps {B g n cap : Nat} {w w' : World} {R : List PthV} {M : List Pth} {K : Nat → Nat → Prop} (h : OwnQ B w (.slice (some ⟨g, 0, none⟩) n cap) R M K) {j : Nat} (hj : j < R.length) (hj' : j < M.length) {st : List Stp} (ht : OwnS B w' R[j].sv st (K j))
    (hg : TurnsAt (K j) w w') : OwnQ B w' (.slice (some ⟨g, 0, none⟩) n cap) R (M.set j ⟨M[j].root, M[j].ups, st⟩) K := by
  have hjj := h.ps j hj hj'
  refine ⟨rowR_apart h.row hg (fun b hb hk => h.nv j b hj hk hb), by rw [List.length_set]; exact h.len, fun i hi hi' => ?_, h.dis, h.nv⟩
  have hi2 : i < M.length := by simpa using hi'
  by_cases e : i = j
  · subst e; rw [List.getElem_set_self]; exact ⟨hjj.root, hjj.ups, ht⟩
  · rw [List.getElem_set_ne (by omega)]
    exact (h.ps i hi hi2).apart hg (fun b hb hb' => e (h.dis i j b hi hj hb hb'))
theorem bdP_ok {x k j n : Nat} (h : x ≤ k + 2199024304130 * j) (hj : j ≤ n) (hn : n ≤ 1048577) (hk : k ≤ 1048576) : x ≤ 3458764513820540000 := by omega
set_option maxRecDepth 100000 in
set_option maxHeartbeats 1000000 in
theorem markPts_any (B k : Nat) (v : Value) (R0 : List PthV) (l : List Pth) (K : Nat → Nat → Prop) (w : World) (hv : OwnQ B w v R0 l K) (hz : PtsSz l) (hk0 : 0 < k) (hk : k ≤ 1048576) :
    Calls Try.prog 11 #[v, .int .i64 k] w fun e w' => e = .returned (.int .i64 (endPts k l : Nat)) ∧ (∃ R, R.length = R0.length ∧ OwnQ B w' v R (mkPts k l) K) ∧ TurnsAt (OwnQ.S v R0 K) w w' := by
  have hl := hv.len
  rcases RowR.form hv.row with ⟨rfl, hl0⟩ | ⟨g, cap, rfl, hg0, hg⟩
  · obtain rfl : l = [] := List.length_eq_zero_iff.1 (by rw [← hl, hl0]; rfl)
    clear hl hl0
    go_enter Try.func11, Try.ntmps11
    go_wp2
    go_loopw [1, 5] (fun x i wr => x = .int .i64 k ∧ i = .int .i64 0 ∧ wr = w) (fun _ _ _ => 0)
    case atStart => exact ⟨rfl, rfl, rfl⟩
    case round =>
      obtain ⟨rfl, rfl, rfl⟩ := hrel
      go_wp2
      go_ret
      exact ⟨rfl, ⟨R0, rfl, hv⟩, TurnsAt.refl _ _⟩
  · obtain ⟨n, hnn⟩ : ∃ n, n = R0.length := ⟨_, rfl⟩
    have HM0 := Lib.hid hv
    have HN0 := Lib.hid hnn
    have HL0 : Hid (n = l.length) := Lib.hid (hnn.trans hl)
    have HBD := Lib.hid (fun j hj => endPts_bd hz.2 j k hj)
    have HTS := Lib.hid hz.2
    have hn1 : n ≤ 1048577 := by rw [HL0.out]; exact hz.1
    rw [← hnn] at HM0 ⊢
    have hn2 : n ≤ 9223372036854775807 := by omega
    clear hv hz hnn hl
    go_enter Try.func11, Try.ntmps11
    go_wp2
    go_loopw [1, 5] (fun x i wr => ∃ (j q : Nat) (R : List PthV), j ≤ n ∧ Hid (q = endPts k (l.take j)) ∧ (0 < q ∧ q ≤ 3458764513820540000) ∧ x = .int .i64 q ∧ i = .int .i64 j ∧ Hid (R.length = n ∧ R0.length = n) ∧ Hid (OwnQ B wr (.slice (some ⟨g, 0, none⟩) n cap) R (mkPts k (l.take j) ++ l.drop j) K) ∧ Hid (TurnsAt (OwnQ.S (.slice (some ⟨g, 0, none⟩) n cap) R0 K) w wr)) (fun _ i _ => n - (intOf i).toNat)
    case atStart => exact ⟨0, k, R0, Nat.zero_le _, Lib.hid rfl, by omega, rfl, rfl, Lib.hid ⟨HN0.out.symm, HN0.out.symm⟩, Lib.hid HM0.out, Lib.hid (TurnsAt.refl _ _)⟩
    case round =>
      clear HM0 HN0
      obtain ⟨j, q, R, hj, HQ, ⟨hq0, hq⟩, rfl, rfl, HL, HM, HT⟩ := hrel
      by_cases hlt : j < n
      · have hL : j < R.length := by have := HL.out.1; omega
        have hl : j < l.length := by have := HL0.out; omega
        have hML : j < (mkPts k (l.take j) ++ l.drop j).length := by rw [← HM.out.len]; exact hL
        have eM : (mkPts k (l.take j) ++ l.drop j)[j] = l[j] := by
          have e : (mkPts k (l.take j)).length = j := by rw [mkPts_len, List.length_take]; omega
          rw [List.getElem_append_right (by rw [e]; exact Nat.le_refl _)]
          simp [e]
        have ht := (HM.out.ps j hL hML).st
        rw [eM] at ht
        obtain ⟨s0, hs0⟩ : ∃ s, s = l[j] := ⟨_, rfl⟩
        rw [← hs0] at ht
        have hz0 := HTS.out _ (List.getElem_mem hl)
        rw [← hs0] at hz0
        have HS0 : Hid (∀ h : j < l.length, l[j] = s0) := Lib.hid fun _ => hs0.symm
        obtain ⟨q', hq'⟩ : ∃ q', q' = endStps (q + 2) s0.st := ⟨_, rfl⟩
        have hqb : q' = endPts k (l.take (j + 1)) := by rw [endPts_next hl, ← HQ.out, hq', hs0]
        have HMLJ : Hid (j < (mkPts k (l.take j) ++ l.drop j).length) := Lib.hid hML
        have HLJ := Lib.hid hl
        obtain ⟨A', m', c', etv⟩ : ∃ A n c, R[j].sv = .slice A n c := by obtain ⟨A, c, hv', _⟩ := ht.has.at; exact ⟨A, _, c, hv'⟩
        rw [etv] at ht
        have HTV := Lib.hid etv
        have HTS2 := Lib.hid ht
        have HC : Hid (∀ W, OwnS B W (.slice A' m' c') s0.st (K j) → Calls Try.prog 24 #[.slice A' m' c', .int .i64 ((q : Int) + 1 + 1)] W fun e w' => e = .returned (.int .i64 (q' : Int)) ∧ OwnS B w' (.slice A' m' c') (mkStps (q + 2) s0.st) (K j) ∧ TurnsAt (K j) W w') := Lib.hid fun W h => by
          have := markStpsT_any B (q + 2) _ s0.st (K j) W h hz0.1 hz0.2 (by omega) (by omega)
          rw [← hq'] at this
          rwa [show ((q + 2 : Nat) : Int) = (q : Int) + 1 + 1 by omega] at this
        have HQN := Lib.hid hqb
        have HQ' : Hid (0 < q' ∧ q' ≤ 3458764513820540000) := Lib.hid ⟨by have := endStps_ge s0.st (q + 2); omega, by rw [hqb]; exact bdP_ok (HBD.out (j + 1) hl) hlt hn1 hk⟩
        have HJN := Lib.hid hlt
        obtain ⟨⟨e0, e1, e2⟩, f0, f1, f2⟩ := ptCells HM.out.row hL
        rw [etv] at e2
        have HP := Lib.hid (HM.out.put hL HMLJ.out ((q : Int).tmod 3 == 0) ((q : Int) + 1))
        have e0' := HP
        clear hq' hl hML hz0 hqb ht etv eM hs0 e0'
        go_wp2_with (first
          | (go_at_call 24; refine (HC.out _ (OwL.other HTS2.out HP.out.2 (fun b hb e => HM.out.nv j b hL hb e.symm))).mono ?_; rintro e w2 ⟨rfl, hx2, hg2⟩; have HX2 := Lib.hid hx2; have HG2 := Lib.hid hg2; clear hx2 hg2))
        go_roundw
        case rel =>
          have e : (R.set j ⟨(q : Int).tmod 3 == 0, (q : Int) + 1, R[j].sv⟩)[j]'(by simpa using hL) = ⟨(q : Int).tmod 3 == 0, (q : Int) + 1, R[j].sv⟩ := by rw [List.getElem_set_self]
          have h2 := OwnQ.steps (w' := w2) (st := mkStps (q + 2) s0.st) HP.out.1 (j := j) (by simpa using hL) (by simpa using HMLJ.out) (by rw [e]; rw [HTV.out]; exact HX2.out) HG2.out
          rw [List.getElem_set_self, List.set_set] at h2
          have e2 : (⟨(q : Int).tmod 3 == 0, (q : Int) + 1, mkStps (q + 2) s0.st⟩ : Pth) = mkPt (endPts k (l.take j)) (l[j]'HLJ.out) := by rw [← HQ.out]; unfold mkPt; rw [HS0.out HLJ.out]; simp
          dsimp only at h2
          rw [e2, mkPts_next HLJ.out] at h2
          refine ⟨j + 1, q', _, by omega, HQN, HQ'.out, rfl, by go_num, Lib.hid ⟨by rw [List.length_set]; exact HL.out.1, HL.out.2⟩, Lib.hid h2, Lib.hid ((HT.out.trans (grown_turns HP.out.2 (fun b hb => .inl (by rw [← hb]; rfl)))).trans (HG2.out.mono (fun b hb _ => .inr ⟨j, by rw [HL.out.2]; exact HJN.out, hb⟩)))⟩
        case measure => simp [intOf]; omega
      · have e : j = n := by omega
        subst e
        have hd : l.drop j = [] := List.drop_eq_nil_of_le (by rw [← HL0.out]; exact Nat.le_refl _)
        have htk : l.take j = l := List.take_of_length_le (by rw [← HL0.out]; exact Nat.le_refl _)
        have HFIN : Hid (OwnQ B wr (.slice (some ⟨g, 0, none⟩) j cap) R (mkPts k l) K) := Lib.hid (by
          have h := HM.out
          rwa [hd, htk, List.append_nil] at h)
        have HQF : Hid (q = endPts k l) := Lib.hid (by rw [HQ.out, htk])
        clear hd htk
        go_wp2
        go_ret
        rw [HQF.out]
        exact ⟨rfl, ⟨R, HL.out.1, HFIN.out⟩, HT.out⟩
end Go.Proofs.Ythmjffijhlkgcaa

/- CHAPTER 8: marks of lists of paths: what was told is there. -/
namespace Go.Proofs.Ythmjffijhlkgcaa
open Go.RowKit NumP

set_option maxRecDepth 100000 in
set_option maxHeartbeats 1000000 in
theorem heldPts_any (k : Nat) (v : Value) (l : List Pth) (w : World) (hv : HasQ w v (mkPts k l)) (hz : PtsSz l) (hk0 : 0 < k) (hk : k ≤ 1048576) :
    Calls Try.prog 12 #[v, .int .i64 k] w fun e w' => e = .returned (.int .i64 (endPts k l : Nat)) ∧ Below w.heap.size w w' := by
  obtain ⟨A, cap, rfl, hn', hc⟩ := hv.at
  rw [mkPts_len] at hn' ⊢
  have hc1 : ∀ i (hi : i < l.length), ∃ a sv, A = some a ∧ (a.add (i * 3)).block < w.heap.size ∧ Qk w (a.add (i * 3)) ⟨((endPts k (l.take i) : Nat) : Int).tmod 3 == 0, ((endPts k (l.take i) + 1 : Nat) : Int), sv⟩ ∧ HasS w sv (mkStps (endPts k (l.take i) + 2) l[i].st) := fun i hi => by
    obtain ⟨a, r, h1, h2, h3, h4⟩ := hc i (by rw [mkPts_len]; exact hi)
    rw [mkPts_get l k i _ hi] at h4
    obtain ⟨r0, r1, r2⟩ := h4
    obtain ⟨x, u, sv⟩ := r
    dsimp only [mkPt] at r0 r1 r2
    subst r0 r1
    exact ⟨a, sv, h1, h2, h3, r2⟩
  obtain ⟨n, hnn⟩ : ∃ n, n = l.length := ⟨_, rfl⟩
  have HN := Lib.hid hnn
  have HBD := Lib.hid (fun j hj => endPts_bd hz.2 j k hj)
  have HTS := Lib.hid hz.2
  have HC1 := Lib.hid hc1
  have hn1 : n ≤ 1048577 := by rw [HN.out]; exact hz.1
  rw [← hnn] at hn' ⊢
  clear hc hv hc1 hz hnn
  go_enter Try.func12, Try.ntmps12
  go_wp2
  go_loopw [1, 5] (fun x i wr => ∃ j q : Nat, j ≤ n ∧ Hid (q = endPts k (l.take j)) ∧ (0 < q ∧ q ≤ 3458764513820540000) ∧ x = .int .i64 q ∧ i = .int .i64 j ∧ Below w.heap.size w wr) (fun _ i _ => n - (intOf i).toNat)
  case atStart => exact ⟨0, k, Nat.zero_le _, Lib.hid rfl, by omega, rfl, rfl, Below.refl _ _⟩
  case round =>
    obtain ⟨j, q, hj, HQ, ⟨hq0, hq⟩, rfl, rfl, hbel⟩ := hrel
    by_cases hlt : j < n
    · have hl : j < l.length := by rw [← HN.out]; exact hlt
      obtain ⟨a, sv, rfl, hab, hcell, hst⟩ := HC1.out j hl
      rw [← HQ.out] at hcell hst
      have hz0 := HTS.out _ (List.getElem_mem hl)
      obtain ⟨q', hq'⟩ : ∃ q', q' = endStps (q + 2) l[j].st := ⟨_, rfl⟩
      have hqn : q' = endPts k (l.take (j + 1)) := by rw [endPts_next hl, ← HQ.out]; exact hq'
      have HQN := Lib.hid hqn
      have HQ' : Hid (0 < q' ∧ q' ≤ 3458764513820540000) := Lib.hid ⟨by have := endStps_ge l[j].st (q + 2); omega, by rw [hqn]; exact bdP_ok (HBD.out (j + 1) hl) hlt hn1 hk⟩
      obtain ⟨At, mt, ct, rfl⟩ : ∃ A n c, sv = .slice A n c := by obtain ⟨A, c, hv', _⟩ := hst.at; exact ⟨A, _, c, hv'⟩
      have HHT : Hid (∀ W, Below w.heap.size w W → Calls Try.prog 25 #[.slice At mt ct, .int .i64 ((q : Int) + 1 + 1)] W fun e w' => e = .returned (.int .i64 (q' : Int)) ∧ Below W.heap.size W w') := Lib.hid fun W hb => by
        have := heldStpsT_any (q + 2) _ l[j].st W (hst.below hb) hz0.1 hz0.2 (by omega) (by omega)
        rw [← hq'] at this
        rwa [show ((q + 2 : Nat) : Int) = (q : Int) + 1 + 1 by omega] at this
      obtain ⟨c0, c1, c2⟩ := hcell.below hbel hab
      dsimp only at c0 c1 c2
      rw [show ((q + 1 : Nat) : Int) = (q : Int) + 1 by omega] at c1
      have hq3 : decide ((q' : Int) < 0) = false := decide_eq_false (by omega)
      have hq4 : ¬ ((q' : Int) < 0) := by omega
      have hb0 : (((q : Int).tmod 3 == 0) != ((q : Int).tmod 3 == 0)) = false := by simp
      have hb1 : (((q : Int) + 1) != ((q : Int) + 1)) = false := by simp
      clear hcell hst hl hz0 hq' hqn
      go_wp2_with (go_at_call 25; refine (HHT.out _ hbel).mono ?_; rintro e w2 ⟨rfl, hbm⟩; have HB3 := Lib.hid (below_step hbel hbm); clear hbm)
      go_roundw
      case rel => exact ⟨j + 1, q', by omega, HQN, HQ'.out, rfl, by go_num, HB3.out⟩
      case measure => simp [intOf]; omega
    · have e : j = n := by omega
      subst e
      have HQF : Hid (q = endPts k l) := Lib.hid (by rw [HQ.out, List.take_of_length_le (by rw [← HN.out]; exact Nat.le_refl _)])
      go_wp2
      go_ret
      rw [HQF.out]
      exact ⟨rfl, hbel⟩
end Go.Proofs.Ythmjffijhlkgcaa
