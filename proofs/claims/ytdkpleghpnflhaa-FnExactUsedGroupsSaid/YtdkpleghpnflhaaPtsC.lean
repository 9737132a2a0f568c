/- MERGED for a claim: PtsA PtsB PtsC. -/
import Derived.Test.YtdkpleghpnflhaaTreeO
import Derived.Test.YtdkpleghpnflhaaPthE
import Derived.Test.YtdkpleghpnflhaaPthO
set_option linter.unusedVariables false
set_option linter.unusedSimpArgs false
/- CHAPTER 8: LISTS OF PATHS: how they lie, laws.eqPathS. -/
namespace Go.Proofs.Ytdkpleghpnflhaa
open Go.RowKit NumP

def PthV.enc (v : PthV) : List Value := [.bool v.root, .int .i64 v.ups, v.sv]
theorem PthV.enc_len (v : PthV) : v.enc.length = 3 := rfl
abbrev RowQ (B : Nat) (w : World) (v : Value) (R : List PthV) : Prop := RowR PthV.enc 3 109 B w v R
/-- v is a slice that holds the paths l -/
def HasQ (w : World) (v : Value) (l : List Pth) : Prop := ∃ R : List PthV, HasR PthV.enc 3 w v R ∧ R.length = l.length ∧ ∀ i (h : i < R.length) (h' : i < l.length), HasP7 w R[i] l[i]
theorem HasQ.below {w w' : World} {v : Value} {l : List Pth} (h : HasQ w v l) (hb : Below w.heap.size w w') : HasQ w' v l := by
  obtain ⟨R, h1, h2, h3⟩ := h
  exact ⟨R, HasR.below h1 hb, h2, fun i a b => (h3 i a b).below hb⟩
/-- the same, the call's own: R how they lie, K the blocks of each one's steps -/
structure OwnQ (B : Nat) (w : World) (v : Value) (R : List PthV) (l : List Pth) (K : Nat → Nat → Prop) : Prop where
  row : RowQ B w v R
  len : R.length = l.length
  ps : ∀ i (h : i < R.length) (h' : i < l.length), OwnP7 B w R[i] l[i] (K i)
  dis : ∀ i j b, i < R.length → j < R.length → K i b → K j b → i = j
  nv : ∀ i b, i < R.length → K i b → v.ownBlock ≠ some b
/-- the blocks that it takes -/
def OwnQ.S (v : Value) (R : List PthV) (K : Nat → Nat → Prop) (b : Nat) : Prop := v.ownBlock = some b ∨ ∃ i, i < R.length ∧ K i b
theorem OwnQ.has {B : Nat} {w : World} {v : Value} {R : List PthV} {l : List Pth} {K : Nat → Nat → Prop} (h : OwnQ B w v R l K) : HasQ w v l :=
  ⟨R, RowR.has PthV.enc_len h.row, h.len, fun i a b => (h.ps i a b).has⟩
theorem OwnQ.below {B : Nat} {w w' : World} {v : Value} {R : List PthV} {l : List Pth} {K : Nat → Nat → Prop} (h : OwnQ B w v R l K) (hb : Below w.heap.size w w') : OwnQ B w' v R l K :=
  ⟨RowR.below h.row hb, h.len, fun i a b => (h.ps i a b).below hb, h.dis, h.nv⟩
theorem OwnQ.lt {B : Nat} {w : World} {v : Value} {R : List PthV} {l : List Pth} {K : Nat → Nat → Prop} (h : OwnQ B w v R l K) {b : Nat} (hb : OwnQ.S v R K b) : B ≤ b ∧ b < w.heap.size := by
  rcases hb with hb | ⟨i, hi, hb⟩
  · exact RowR.lt h.row hb
  · exact OwL.lt (h.ps i hi (by rw [← h.len]; exact hi)).st b hb
theorem OwnQ.apart {B : Nat} {w w' : World} {v : Value} {R : List PthV} {l : List Pth} {K : Nat → Nat → Prop} {S' : Nat → Prop} (h : OwnQ B w v R l K) (ht : TurnsAt S' w w') (hd : ∀ b, OwnQ.S v R K b → S' b → False) : OwnQ B w' v R l K :=
  ⟨rowR_apart h.row ht (fun b hb hs => hd b (.inl hb) hs), h.len, fun i a b => (h.ps i a b).apart ht (fun b hb hs => hd b (.inr ⟨i, a, hb⟩) hs), h.dis, h.nv⟩
/-- at p lies the path v -/
def Qk (w : World) (p : Addr) (v : PthV) : Prop := w.cell? p = some (.bool v.root) ∧ w.cell? ⟨p.block, p.off + 1, none⟩ = some (.int .i64 v.ups) ∧ w.cell? ⟨p.block, p.off + 2, none⟩ = some v.sv
theorem Qk.below {w w' : World} {p : Addr} {v : PthV} (h : Qk w p v) (hb : Below w.heap.size w w') (hp : p.block < w.heap.size) : Qk w' p v :=
  ⟨by rw [hb.cell hp]; exact h.1, by rw [hb.cell (p := ⟨p.block, p.off + 1, none⟩) hp]; exact h.2.1, by rw [hb.cell (p := ⟨p.block, p.off + 2, none⟩) hp]; exact h.2.2⟩
theorem HasQ.at {w : World} {v : Value} {l : List Pth} (h : HasQ w v l) : ∃ (A : Option Addr) (cap : Nat), v = .slice A l.length cap ∧ l.length ≤ 9223372036854775807 ∧
    ∀ i (hi : i < l.length), ∃ (a : Addr) (r : PthV), A = some a ∧ (a.add (i * 3)).block < w.heap.size ∧ Qk w (a.add (i * 3)) r ∧ HasP7 w r l[i] := by
  obtain ⟨R, ⟨A, cap, hv, hn, hc⟩, h2, h3⟩ := h
  refine ⟨A, cap, by rw [← h2]; exact hv, by rw [← h2]; exact hn, fun i hi => ?_⟩
  have hi' : i < R.length := by rw [h2]; exact hi
  obtain ⟨a, ha, hb, hk⟩ := hc i hi'
  exact ⟨a, R[i], ha, by rw [addr_blk]; exact hb, ⟨hk 0 _ rfl, hk 1 _ rfl, hk 2 _ rfl⟩, h3 i hi' hi⟩
theorem held_three7 {w w1 w2 : World} {p q : Addr} {x y : PthV} (k : Below w1.heap.size w1 w2) (h : Qk w1 p x ∧ Qk w1 q y ∧ Below w.heap.size w w1) (hp : p.block < w.heap.size) (hq : q.block < w.heap.size) : Qk w2 p x ∧ Qk w2 q y ∧ Below w.heap.size w w2 :=
  ⟨h.1.below k (Nat.lt_of_lt_of_le hp h.2.2.size), h.2.1.below k (Nat.lt_of_lt_of_le hq h.2.2.size), below_step h.2.2 k⟩
end Go.Proofs.Ytdkpleghpnflhaa

/- CHAPTER 8: marks written into owned lists of paths, told. -/
namespace Go.Proofs.Ytdkpleghpnflhaa
open Go.RowKit NumP

/-- the paths as they stand once they are marked from k on -/
def mkPt (k : Nat) (p : Pth) : Pth := ⟨(k : Int).tmod 3 == 0, ((k + 1 : Nat) : Int), mkStps (k + 2) p.st⟩
def mkPts : Nat → List Pth → List Pth
  | _, [] => []
  | k, p :: r => mkPt k p :: mkPts (endStps (k + 2) p.st) r
def endPts : Nat → List Pth → Nat
  | k, [] => k
  | k, p :: r => endPts (endStps (k + 2) p.st) r
theorem endPts_snoc : ∀ (k : Nat) (l : List Pth) (p : Pth), endPts k (l ++ [p]) = endStps (endPts k l + 2) p.st
  | k, [], p => rfl
  | k, x :: r, p => endPts_snoc _ r p
theorem mkPts_snoc : ∀ (k : Nat) (l : List Pth) (p : Pth), mkPts k (l ++ [p]) = mkPts k l ++ [mkPt (endPts k l) p]
  | k, [], p => rfl
  | k, x :: r, p => by show mkPt k x :: mkPts _ (r ++ [p]) = _; rw [mkPts_snoc]; rfl
theorem mkPts_len : ∀ (k : Nat) (l : List Pth), (mkPts k l).length = l.length
  | _, [] => rfl
  | k, x :: r => by show (mkPts _ r).length + 1 = _; rw [mkPts_len]; rfl
theorem endPts_next {l : List Pth} {j k : Nat} (hj : j < l.length) : endPts k (l.take (j + 1)) = endStps (endPts k (l.take j) + 2) l[j].st := by rw [take_next hj, endPts_snoc]
theorem mkPts_next {l : List Pth} {j k : Nat} (hj : j < l.length) : (mkPts k (l.take j) ++ l.drop j).set j (mkPt (endPts k (l.take j)) l[j]) = mkPts k (l.take (j + 1)) ++ l.drop (j + 1) := by
  have e : (mkPts k (l.take j)).length = j := by rw [mkPts_len, List.length_take]; omega
  rw [List.set_append_right _ _ (by rw [e]; exact Nat.le_refl _), e, Nat.sub_self, List.drop_eq_getElem_cons hj, List.set_cons_zero, take_next hj, mkPts_snoc, List.append_assoc]; rfl
theorem mkPts_get (l : List Pth) : ∀ (k j : Nat) (h : j < (mkPts k l).length) (h' : j < l.length), (mkPts k l)[j] = mkPt (endPts k (l.take j)) l[j] := by
  induction l with
  | nil => intro k j h h'; simp at h'
  | cons x r ih =>
    intro k j h h'
    cases j with
    | zero => rfl
    | succ j => exact ih (endStps (k + 2) x.st) j (by simpa [mkPts] using h) (by simpa using h')
/-- the sizes that the marks ask for -/
def PtsSz (l : List Pth) : Prop := l.length ≤ 1048577 ∧ ∀ p ∈ l, p.st.length ≤ 1048576 ∧ ∀ s ∈ p.st, s.ts.length ≤ 1048576
theorem endStps_bd' {l : List Stp} (hn : l.length ≤ 1048576) (hs : ∀ s ∈ l, s.ts.length ≤ 1048576) (k : Nat) : endStps (k + 2) l ≤ k + 2199024304130 := by
  have := endStps_bd hs l.length (k + 2) (Nat.le_refl _)
  rw [List.take_length] at this
  omega
theorem mul_step {x y k C j : Nat} (h1 : y ≤ k + C * j) (h3 : x ≤ y + C) : x ≤ k + C * (j + 1) := by
  rw [Nat.mul_succ, ← Nat.add_assoc]
  exact Nat.le_trans h3 (Nat.add_le_add_right h1 _)
theorem endPts_bd {l : List Pth} (hs : ∀ p ∈ l, p.st.length ≤ 1048576 ∧ ∀ s ∈ p.st, s.ts.length ≤ 1048576) : ∀ j k, j ≤ l.length → endPts k (l.take j) ≤ k + 2199024304130 * j
  | 0, k, _ => by rw [List.take_zero]; exact Nat.le_add_right _ _
  | j + 1, k, h => by
    have hj : j < l.length := h
    have h2 := hs _ (List.getElem_mem hj)
    rw [endPts_next hj]
    exact mul_step (endPts_bd hs j k (Nat.le_of_lt hj)) (endStps_bd' h2.1 h2.2 (endPts k (l.take j)))
theorem endPts_ge : ∀ (l : List Pth) (k : Nat), k ≤ endPts k l
  | [], k => Nat.le_refl _
  | p :: r, k => by
    have := endPts_ge r (endStps (k + 2) p.st)
    have := endStps_ge p.st (k + 2)
    show k ≤ endPts (endStps (k + 2) p.st) r
    omega
theorem ptCells {B g n cap : Nat} {w : World} {L : List PthV} (h : RowQ B w (.slice (some ⟨g, 0, none⟩) n cap) L) {i : Nat} (hi : i < L.length) :
    (w.cell? ⟨g, i * 3, none⟩ = some (.bool L[i].root) ∧ w.cell? ⟨g, i * 3 + 1, none⟩ = some (.int .i64 L[i].ups) ∧ w.cell? ⟨g, i * 3 + 2, none⟩ = some L[i].sv) ∧ w.frozen? ⟨g, i * 3, none⟩ = false ∧ w.frozen? ⟨g, i * 3 + 1, none⟩ = false ∧ w.frozen? ⟨g, i * 3 + 2, none⟩ = false :=
  ⟨⟨RowR.cell PthV.enc_len h hi (j := 0) rfl, RowR.cell PthV.enc_len h hi (j := 1) rfl, RowR.cell PthV.enc_len h hi (j := 2) rfl⟩, RowR.frozen h _, RowR.frozen h _, RowR.frozen h _⟩
/-- the j-th path anew: its first two fields stored, then its steps turned -/
theorem OwnQ.put {B g n cap : Nat} {w : World} {R : List PthV} {M : List Pth} {K : Nat → Nat → Prop} (h : OwnQ B w (.slice (some ⟨g, 0, none⟩) n cap) R M K) {j : Nat} (hj : j < R.length) (hj' : j < M.length) (x : Bool) (u : Int) :
    OwnQ B ((w.setCell ⟨g, j * 3, none⟩ (.bool x)).setCell ⟨g, j * 3 + 1, none⟩ (.int .i64 u)) (.slice (some ⟨g, 0, none⟩) n cap) (R.set j ⟨x, u, R[j].sv⟩) (M.set j ⟨x, u, M[j].st⟩) K ∧ w.grownBy ((w.setCell ⟨g, j * 3, none⟩ (.bool x)).setCell ⟨g, j * 3 + 1, none⟩ (.int .i64 u)) (some g) := by
  have h0 := RowR.set1 PthV.enc_len h.row hj 0 (by omega) (.bool x) ⟨x, R[j].ups, R[j].sv⟩ rfl
  have h1 := RowR.set1 PthV.enc_len h0.1 (i := j) (by simpa using hj) 1 (by omega) (.int .i64 u) ⟨x, u, R[j].sv⟩ (by simp [PthV.enc])
  have hr := h1.1
  rw [List.set_set] at hr
  have hg := h0.2.trans h1.2
  refine ⟨⟨hr, by rw [List.length_set, List.length_set]; exact h.len, fun i hi hi' => ?_, fun i k b h1 h2 => h.dis i k b (by simpa using h1) (by simpa using h2), fun i b h1 => h.nv i b (by simpa using h1)⟩, hg⟩
  have hi1 : i < R.length := by simpa using hi
  have hi2 : i < M.length := by simpa using hi'
  have h2 := h.ps i hi1 hi2
  have h3 := OwL.other h2.st hg (fun b hb e => h.nv i b hi1 hb e.symm)
  by_cases e : i = j
  · subst e; rw [List.getElem_set_self, List.getElem_set_self]; exact ⟨rfl, rfl, h3⟩
  · rw [List.getElem_set_ne (by omega), List.getElem_set_ne (by omega)]; exact ⟨h2.root, h2.ups, h3⟩
theorem OwnQ.steps {B g n cap : Nat} {w w' : World} {R : List PthV} {M : List Pth} {K : Nat → Nat → Prop} (h : OwnQ B w (.slice (some ⟨g, 0, none⟩) n cap) R M K) {j : Nat} (hj : j < R.length) (hj' : j < M.length) {st : List Stp} (ht : OwnS B w' R[j].sv st (K j))
    (hg : TurnsAt (K j) w w') : OwnQ B w' (.slice (some ⟨g, 0, none⟩) n cap) R (M.set j ⟨M[j].root, M[j].ups, st⟩) K := by
  have hjj := h.ps j hj hj'
  refine ⟨rowR_apart h.row hg (fun b hb hk => h.nv j b hj hk hb), by rw [List.length_set]; exact h.len, fun i hi hi' => ?_, h.dis, h.nv⟩
  have hi2 : i < M.length := by simpa using hi'
  by_cases e : i = j
  · subst e; rw [List.getElem_set_self]; exact ⟨hjj.root, hjj.ups, ht⟩
  · rw [List.getElem_set_ne (by omega)]
    exact (h.ps i hi hi2).apart hg (fun b hb hb' => e (h.dis i j b hi hj hb hb'))
theorem bdP_ok {x k j n : Nat} (h : x ≤ k + 2199024304130 * j) (hj : j ≤ n) (hn : n ≤ 1048577) (hk : k ≤ 1048576) : x ≤ 3458764513820540000 := by omega
end Go.Proofs.Ytdkpleghpnflhaa

/- CHAPTER 8: marks of lists of paths: what was told is there. -/
namespace Go.Proofs.Ytdkpleghpnflhaa
open Go.RowKit NumP

end Go.Proofs.Ytdkpleghpnflhaa
