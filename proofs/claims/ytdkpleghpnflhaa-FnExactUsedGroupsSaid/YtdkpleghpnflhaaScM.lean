/- CHAPTER 9: marks written into owned schemas (what stands there then is not told): laws.markSchemaS. PRINTED by tools/gen_scM.py. -/
import Derived.Test.YtdkpleghpnflhaaScAb
import Derived.Test.YtdkpleghpnflhaaPtsJ
import Derived.Test.YtdkpleghpnflhaaMark
set_option linter.unusedVariables false
set_option linter.unusedSimpArgs false
namespace Go.Proofs.Ytdkpleghpnflhaa
open Go.RowKit NumP
set_option maxRecDepth 100000

abbrev RowSm (B : Nat) (w : World) (v : Value) (R : List ScR) : Prop := RowR ScR.enc 19 59 B w v R
/-- the fields that are lists are the same -/
def SameF (r r' : ScR) : Prop := r'.tv.vr = r.tv.vr ∧ r'.tv.vn = r.tv.vn ∧ r'.vk = r.vk ∧ r'.vu = r.vu ∧ r'.wv = r.wv ∧ r'.mv = r.mv ∧ r'.kv = r.kv
theorem SameF.refl (r : ScR) : SameF r r := ⟨rfl, rfl, rfl, rfl, rfl, rfl, rfl⟩
theorem SameF.trans {a b c : ScR} (h : SameF a b) (k : SameF b c) : SameF a c := ⟨k.1.trans h.1, k.2.1.trans h.2.1, k.2.2.1.trans h.2.2.1, k.2.2.2.1.trans h.2.2.2.1, k.2.2.2.2.1.trans h.2.2.2.2.1, k.2.2.2.2.2.1.trans h.2.2.2.2.2.1, k.2.2.2.2.2.2.trans h.2.2.2.2.2.2⟩
/-- a row of nodes, from the j-th on with the lists that R0 tells -/
def RowJ (B : Nat) (W : World) (g n cap : Nat) (R0 : List ScR) (j : Nat) : Prop := ∃ R : List ScR, RowSm B W (.slice (some ⟨g, 0, none⟩) n cap) R ∧ R.length = R0.length ∧ ∀ i (h : i < R.length) (h0 : i < R0.length), j ≤ i → SameF R0[i] R[i]
theorem RowJ.next {B : Nat} {W : World} {g n cap j : Nat} {R0 : List ScR} (h : RowJ B W g n cap R0 j) : RowJ B W g n cap R0 (j + 1) := by
  obtain ⟨R, h1, h2, h3⟩ := h
  exact ⟨R, h1, h2, fun i a b c => h3 i a b (by omega)⟩
theorem RowJ.turns {B : Nat} {W W' : World} {g n cap j : Nat} {R0 : List ScR} {S : Nat → Prop} (h : RowJ B W g n cap R0 j) (ht : TurnsAt S W W') (hS : ¬ S g) : RowJ B W' g n cap R0 j := by
  obtain ⟨R, h1, h2, h3⟩ := h
  exact ⟨R, rowR_apart h1 ht (fun b e hs => hS (by cases e; exact hs)), h2, h3⟩
theorem RowJ.below {B : Nat} {W W' : World} {g n cap j : Nat} {R0 : List ScR} (h : RowJ B W g n cap R0 j) (hb : Below W.heap.size W W') : RowJ B W' g n cap R0 j := by
  obtain ⟨R, h1, h2, h3⟩ := h
  exact ⟨R, RowR.below h1 hb, h2, h3⟩
/-- a field that is no list is stored -/
theorem RowJ.put {B : Nat} {W : World} {g n cap j : Nat} {R0 : List ScR} (h : RowJ B W g n cap R0 j) (hj : j < R0.length) (q : Nat) (hq : q < 19) (u : Value) (f : ScR → ScR) (hf : ∀ r : ScR, (f r).enc = r.enc.set q u) (hs : ∀ r, SameF r (f r)) :
    RowJ B (W.setCell ⟨g, j * 19 + q, none⟩ u) g n cap R0 j ∧ W.grownBy (W.setCell ⟨g, j * 19 + q, none⟩ u) (some g) := by
  obtain ⟨R, h1, h2, h3⟩ := h
  have hjR : j < R.length := by rw [h2]; exact hj
  have hp := RowR.set1 ScR.enc_len h1 hjR q hq u (f R[j]) (hf _)
  refine ⟨⟨_, hp.1, by rw [List.length_set]; exact h2, fun i a b c => ?_⟩, hp.2⟩
  have a' : i < R.length := by simpa using a
  by_cases e : i = j
  · subst e; rw [List.getElem_set_self]; exact (h3 i a' b c).trans (hs _)
  · rw [List.getElem_set_ne (by omega)]; exact h3 i a' b c
theorem RowJ.put0 {B : Nat} {W : World} {g n cap j : Nat} {R0 : List ScR} (h : RowJ B W g n cap R0 j) (hj : j < R0.length) (x : Int) : RowJ B (W.setCell ⟨g, j * 19, none⟩ (.int .i64 x)) g n cap R0 j ∧ W.grownBy (W.setCell ⟨g, j * 19, none⟩ (.int .i64 x)) (some g) :=
  h.put hj 0 (by omega) (.int .i64 x) (fun r => { r with kind := x }) (fun _ => rfl) (fun _ => ⟨rfl, rfl, rfl, rfl, rfl, rfl, rfl⟩)
theorem RowJ.put1 {B : Nat} {W : World} {g n cap j : Nat} {R0 : List ScR} (h : RowJ B W g n cap R0 j) (hj : j < R0.length) (x : ByteArray) : RowJ B (W.setCell ⟨g, j * 19 + 1, none⟩ (.string x)) g n cap R0 j ∧ W.grownBy (W.setCell ⟨g, j * 19 + 1, none⟩ (.string x)) (some g) :=
  h.put hj 1 (by omega) (.string x) (fun r => { r with name := x }) (fun _ => rfl) (fun _ => ⟨rfl, rfl, rfl, rfl, rfl, rfl, rfl⟩)
theorem RowJ.put2 {B : Nat} {W : World} {g n cap j : Nat} {R0 : List ScR} (h : RowJ B W g n cap R0 j) (hj : j < R0.length) (x : Int) : RowJ B (W.setCell ⟨g, j * 19 + 2, none⟩ (.int .i64 x)) g n cap R0 j ∧ W.grownBy (W.setCell ⟨g, j * 19 + 2, none⟩ (.int .i64 x)) (some g) :=
  h.put hj 2 (by omega) (.int .i64 x) (fun r => { r with tv := { r.tv with k := x } }) (fun _ => rfl) (fun _ => ⟨rfl, rfl, rfl, rfl, rfl, rfl, rfl⟩)
theorem RowJ.put5 {B : Nat} {W : World} {g n cap j : Nat} {R0 : List ScR} (h : RowJ B W g n cap R0 j) (hj : j < R0.length) (x : ByteArray) : RowJ B (W.setCell ⟨g, j * 19 + 5, none⟩ (.string x)) g n cap R0 j ∧ W.grownBy (W.setCell ⟨g, j * 19 + 5, none⟩ (.string x)) (some g) :=
  h.put hj 5 (by omega) (.string x) (fun r => { r with tv := { r.tv with pt := x } }) (fun _ => rfl) (fun _ => ⟨rfl, rfl, rfl, rfl, rfl, rfl, rfl⟩)
theorem RowJ.put6 {B : Nat} {W : World} {g n cap j : Nat} {R0 : List ScR} (h : RowJ B W g n cap R0 j) (hj : j < R0.length) (x : ByteArray) : RowJ B (W.setCell ⟨g, j * 19 + 6, none⟩ (.string x)) g n cap R0 j ∧ W.grownBy (W.setCell ⟨g, j * 19 + 6, none⟩ (.string x)) (some g) :=
  h.put hj 6 (by omega) (.string x) (fun r => { r with tv := { r.tv with ph := x } }) (fun _ => rfl) (fun _ => ⟨rfl, rfl, rfl, rfl, rfl, rfl, rfl⟩)
theorem RowJ.put9 {B : Nat} {W : World} {g n cap j : Nat} {R0 : List ScR} (h : RowJ B W g n cap R0 j) (hj : j < R0.length) (x : ByteArray) : RowJ B (W.setCell ⟨g, j * 19 + 9, none⟩ (.string x)) g n cap R0 j ∧ W.grownBy (W.setCell ⟨g, j * 19 + 9, none⟩ (.string x)) (some g) :=
  h.put hj 9 (by omega) (.string x) (fun r => { r with dflt := x }) (fun _ => rfl) (fun _ => ⟨rfl, rfl, rfl, rfl, rfl, rfl, rfl⟩)
theorem RowJ.put10 {B : Nat} {W : World} {g n cap j : Nat} {R0 : List ScR} (h : RowJ B W g n cap R0 j) (hj : j < R0.length) (x : Bool) : RowJ B (W.setCell ⟨g, j * 19 + 10, none⟩ (.bool x)) g n cap R0 j ∧ W.grownBy (W.setCell ⟨g, j * 19 + 10, none⟩ (.bool x)) (some g) :=
  h.put hj 10 (by omega) (.bool x) (fun r => { r with given := x }) (fun _ => rfl) (fun _ => ⟨rfl, rfl, rfl, rfl, rfl, rfl, rfl⟩)
theorem RowJ.put11 {B : Nat} {W : World} {g n cap j : Nat} {R0 : List ScR} (h : RowJ B W g n cap R0 j) (hj : j < R0.length) (x : Bool) : RowJ B (W.setCell ⟨g, j * 19 + 11, none⟩ (.bool x)) g n cap R0 j ∧ W.grownBy (W.setCell ⟨g, j * 19 + 11, none⟩ (.bool x)) (some g) :=
  h.put hj 11 (by omega) (.bool x) (fun r => { r with needed := x }) (fun _ => rfl) (fun _ => ⟨rfl, rfl, rfl, rfl, rfl, rfl, rfl⟩)
theorem RowJ.put12 {B : Nat} {W : World} {g n cap j : Nat} {R0 : List ScR} (h : RowJ B W g n cap R0 j) (hj : j < R0.length) (x : Bool) : RowJ B (W.setCell ⟨g, j * 19 + 12, none⟩ (.bool x)) g n cap R0 j ∧ W.grownBy (W.setCell ⟨g, j * 19 + 12, none⟩ (.bool x)) (some g) :=
  h.put hj 12 (by omega) (.bool x) (fun r => { r with present := x }) (fun _ => rfl) (fun _ => ⟨rfl, rfl, rfl, rfl, rfl, rfl, rfl⟩)
theorem RowJ.put13 {B : Nat} {W : World} {g n cap j : Nat} {R0 : List ScR} (h : RowJ B W g n cap R0 j) (hj : j < R0.length) (x : Bool) : RowJ B (W.setCell ⟨g, j * 19 + 13, none⟩ (.bool x)) g n cap R0 j ∧ W.grownBy (W.setCell ⟨g, j * 19 + 13, none⟩ (.bool x)) (some g) :=
  h.put hj 13 (by omega) (.bool x) (fun r => { r with fixed := x }) (fun _ => rfl) (fun _ => ⟨rfl, rfl, rfl, rfl, rfl, rfl, rfl⟩)
theorem RowJ.put14 {B : Nat} {W : World} {g n cap j : Nat} {R0 : List ScR} (h : RowJ B W g n cap R0 j) (hj : j < R0.length) (x : Int) : RowJ B (W.setCell ⟨g, j * 19 + 14, none⟩ (.int .i64 x)) g n cap R0 j ∧ W.grownBy (W.setCell ⟨g, j * 19 + 14, none⟩ (.int .i64 x)) (some g) :=
  h.put hj 14 (by omega) (.int .i64 x) (fun r => { r with min := x }) (fun _ => rfl) (fun _ => ⟨rfl, rfl, rfl, rfl, rfl, rfl, rfl⟩)
theorem RowJ.put15 {B : Nat} {W : World} {g n cap j : Nat} {R0 : List ScR} (h : RowJ B W g n cap R0 j) (hj : j < R0.length) (x : Int) : RowJ B (W.setCell ⟨g, j * 19 + 15, none⟩ (.int .i64 x)) g n cap R0 j ∧ W.grownBy (W.setCell ⟨g, j * 19 + 15, none⟩ (.int .i64 x)) (some g) :=
  h.put hj 15 (by omega) (.int .i64 x) (fun r => { r with max := x }) (fun _ => rfl) (fun _ => ⟨rfl, rfl, rfl, rfl, rfl, rfl, rfl⟩)
theorem RowJ.cells {B : Nat} {W : World} {g n cap j : Nat} {R0 : List ScR} (h : RowJ B W g n cap R0 j) (hj : j < R0.length) : ∃ r : ScR,
    (W.cell? ⟨g, j * 19, none⟩ = some (.int .i64 r.kind) ∧ W.cell? ⟨g, j * 19 + 1, none⟩ = some (.string r.name) ∧ W.cell? ⟨g, j * 19 + 2, none⟩ = some (.int .i64 r.tv.k) ∧ W.cell? ⟨g, j * 19 + 3, none⟩ = some (R0[j].tv.vr) ∧ W.cell? ⟨g, j * 19 + 4, none⟩ = some (R0[j].tv.vn) ∧ W.cell? ⟨g, j * 19 + 5, none⟩ = some (.string r.tv.pt) ∧ W.cell? ⟨g, j * 19 + 6, none⟩ = some (.string r.tv.ph) ∧ W.cell? ⟨g, j * 19 + 7, none⟩ = some (R0[j].vk) ∧ W.cell? ⟨g, j * 19 + 8, none⟩ = some (R0[j].vu) ∧ W.cell? ⟨g, j * 19 + 9, none⟩ = some (.string r.dflt) ∧ W.cell? ⟨g, j * 19 + 10, none⟩ = some (.bool r.given) ∧ W.cell? ⟨g, j * 19 + 11, none⟩ = some (.bool r.needed) ∧ W.cell? ⟨g, j * 19 + 12, none⟩ = some (.bool r.present) ∧ W.cell? ⟨g, j * 19 + 13, none⟩ = some (.bool r.fixed) ∧ W.cell? ⟨g, j * 19 + 14, none⟩ = some (.int .i64 r.min) ∧ W.cell? ⟨g, j * 19 + 15, none⟩ = some (.int .i64 r.max) ∧ W.cell? ⟨g, j * 19 + 16, none⟩ = some (R0[j].wv) ∧ W.cell? ⟨g, j * 19 + 17, none⟩ = some (R0[j].mv) ∧ W.cell? ⟨g, j * 19 + 18, none⟩ = some (R0[j].kv)) ∧
    (W.frozen? ⟨g, j * 19, none⟩ = false ∧ W.frozen? ⟨g, j * 19 + 1, none⟩ = false ∧ W.frozen? ⟨g, j * 19 + 2, none⟩ = false ∧ W.frozen? ⟨g, j * 19 + 5, none⟩ = false ∧ W.frozen? ⟨g, j * 19 + 6, none⟩ = false ∧ W.frozen? ⟨g, j * 19 + 9, none⟩ = false ∧ W.frozen? ⟨g, j * 19 + 10, none⟩ = false ∧ W.frozen? ⟨g, j * 19 + 11, none⟩ = false ∧ W.frozen? ⟨g, j * 19 + 12, none⟩ = false ∧ W.frozen? ⟨g, j * 19 + 13, none⟩ = false ∧ W.frozen? ⟨g, j * 19 + 14, none⟩ = false ∧ W.frozen? ⟨g, j * 19 + 15, none⟩ = false) := by
  obtain ⟨R, h1, h2, h3⟩ := h
  have hjR : j < R.length := by rw [h2]; exact hj
  obtain ⟨e1, e2, e3, e4, e5, e6, e7⟩ := h3 j hjR hj (Nat.le_refl _)
  refine ⟨R[j], ⟨RowR.cell ScR.enc_len h1 hjR (j := 0) rfl, RowR.cell ScR.enc_len h1 hjR (j := 1) rfl, RowR.cell ScR.enc_len h1 hjR (j := 2) rfl, by rw [← e1]; exact RowR.cell ScR.enc_len h1 hjR (j := 3) rfl, by rw [← e2]; exact RowR.cell ScR.enc_len h1 hjR (j := 4) rfl, RowR.cell ScR.enc_len h1 hjR (j := 5) rfl, RowR.cell ScR.enc_len h1 hjR (j := 6) rfl, by rw [← e3]; exact RowR.cell ScR.enc_len h1 hjR (j := 7) rfl, by rw [← e4]; exact RowR.cell ScR.enc_len h1 hjR (j := 8) rfl, RowR.cell ScR.enc_len h1 hjR (j := 9) rfl, RowR.cell ScR.enc_len h1 hjR (j := 10) rfl, RowR.cell ScR.enc_len h1 hjR (j := 11) rfl, RowR.cell ScR.enc_len h1 hjR (j := 12) rfl, RowR.cell ScR.enc_len h1 hjR (j := 13) rfl, RowR.cell ScR.enc_len h1 hjR (j := 14) rfl, RowR.cell ScR.enc_len h1 hjR (j := 15) rfl, by rw [← e5]; exact RowR.cell ScR.enc_len h1 hjR (j := 16) rfl, by rw [← e6]; exact RowR.cell ScR.enc_len h1 hjR (j := 17) rfl, by rw [← e7]; exact RowR.cell ScR.enc_len h1 hjR (j := 18) rfl⟩, RowR.frozen h1 _, RowR.frozen h1 _, RowR.frozen h1 _, RowR.frozen h1 _, RowR.frozen h1 _, RowR.frozen h1 _, RowR.frozen h1 _, RowR.frozen h1 _, RowR.frozen h1 _, RowR.frozen h1 _, RowR.frozen h1 _, RowR.frozen h1 _⟩
/-- what has turned before the m-th list of the j-th node -/
def TT (g j : Nat) (K Kx : Nat → Nat → Prop) : Nat → Nat → Prop
  | 0, b => b = g ∨ ∃ i, i < j ∧ K i b
  | m + 1, b => TT g j K Kx m b ∨ Kx m b
theorem TT_not {g j : Nat} {K Kx : Nat → Nat → Prop} {b : Nat} (h0 : ¬ (b = g ∨ ∃ i, i < j ∧ K i b)) : ∀ m, (∀ i, i < m → ¬ Kx i b) → ¬ TT g j K Kx m b
  | 0, _ => h0
  | m + 1, h => fun ht => ht.elim (TT_not h0 m fun i hi => h i (by omega)) (h m (by omega))
theorem TT_sub {g j : Nat} {K Kx : Nat → Nat → Prop} {b : Nat} : ∀ {m : Nat}, TT g j K Kx m b → (b = g ∨ ∃ i, i < j ∧ K i b) ∨ ∃ i, i < m ∧ Kx i b
  | 0, h => .inl h
  | m + 1, h => by
    rcases h with h | h
    · rcases TT_sub h with h | ⟨i, hi, h⟩
      · exact .inl h
      · exact .inr ⟨i, by omega, h⟩
    · exact .inr ⟨m, by omega, h⟩
theorem TT_step {g j m : Nat} {K Kx : Nat → Nat → Prop} {w W W' : World} (h : TurnsAt (TT g j K Kx m) w W) (k : TurnsAt (Kx m) W W') : TurnsAt (TT g j K Kx (m + 1)) w W' :=
  (h.mono fun _ h _ => .inl h).trans (k.mono fun _ h _ => .inr h)
theorem TT_g {g j m : Nat} {K Kx : Nat → Nat → Prop} : TT g j K Kx m g := by
  induction m with
  | zero => exact .inl rfl
  | succ m ih => exact .inl ih
theorem TT_grow {g j m : Nat} {K Kx : Nat → Nat → Prop} {w W W' : World} (h : TurnsAt (TT g j K Kx m) w W) (k : W.grownBy W' (some g)) : TurnsAt (TT g j K Kx m) w W' :=
  h.trans (grown_turns k fun b e => by cases e; exact TT_g)
theorem TT_below {g j m : Nat} {K Kx : Nat → Nat → Prop} {w W W' : World} (h : TurnsAt (TT g j K Kx m) w W) (k : Below W.heap.size W W') : TurnsAt (TT g j K Kx m) w W' := h.trans (below_turns k)
theorem markStrsTQ (B : Nat) (v : Value) (l : List ByteArray) (k : Nat) (S : Nat → Prop) (w : World) (hv : Row B w v l) (hS : ∀ b, S b ↔ v.ownBlock = some b) (hn : l.length ≤ 1048576) (hk0 : 0 < k) (hk : k ≤ 3458764513820540000) :
    Calls Try.prog 15 #[v, .int .i64 k] w fun e w' => (∃ q : Nat, e = .returned (.int .i64 (q : Int)) ∧ k ≤ q ∧ q ≤ k + 1048576) ∧ TurnsAt S w w' := by
  refine (markStrsB B v l k w hv hn hk0 (by omega)).mono ?_
  rintro e w' ⟨rfl, _, hg⟩
  exact ⟨⟨k + l.length, by rw [Int.natCast_add], by omega, by omega⟩, grown_turns hg fun b e => (hS b).2 e⟩
theorem markRngsTQ (B : Nat) (v : Value) (l : List Rg) (k : Nat) (S : Nat → Prop) (w : World) (hv : RowG B w v l) (hS : ∀ b, S b ↔ v.ownBlock = some b) (hn : l.length ≤ 1048576) (hk : k ≤ 3458764513820540000) :
    Calls Try.prog 31 #[v, .int .i64 k] w fun e w' => (∃ q : Nat, e = .returned (.int .i64 (q : Int)) ∧ k ≤ q ∧ q ≤ k + 2097152) ∧ TurnsAt S w w' := by
  refine (markRngsB B v l k w hv (by omega) (by omega)).mono ?_
  rintro e w' ⟨rfl, _, hg⟩
  exact ⟨⟨_, rfl, by omega, by omega⟩, grown_turns hg fun b e => (hS b).2 e⟩
theorem markExsTQ (B : Nat) (v : Value) (l : List Ex) (k : Nat) (S : Nat → Prop) (w : World) (hv : ∃ d, OwL exK d B w v l S) (hz : ExsSz l) (hk0 : 0 < k) (hk : k + 2199024304133 * sizeS l ≤ 3458764513820540000) :
    Calls Try.prog 32 #[v, .int .i64 k] w fun e w' => (∃ q : Nat, e = .returned (.int .i64 (q : Int)) ∧ k ≤ q ∧ q ≤ k + 2199024304133 * sizeS l) ∧ TurnsAt S w w' := by
  obtain ⟨d, hv⟩ := hv
  refine (mkES_any d B k v l S w hv (hz.1 d) hk0 hk).mono ?_
  rintro e w' ⟨q, rfl, h, ht⟩
  exact ⟨⟨q, rfl, h.1, h.2⟩, ht⟩
def MkSS (d : Nat) : Prop := ∀ (B k : Nat) (v : Value) (l : List Sc) (S : Nat → Prop) (w : World), OwL scK d B w v l S → SizT ScSz d l → 0 < k → k + 2199024304133 * wszS l ≤ 3458764513820540000 →
  Calls Try.prog 14 #[v, .int .i64 k] w fun e w' => (∃ k' : Nat, e = .returned (.int .i64 (k' : Int)) ∧ k ≤ k' ∧ k' ≤ k + 2199024304133 * wszS l) ∧ TurnsAt S w w'
theorem mkSS_nil (k : Nat) (A : Option Addr) (c : Nat) (S : Nat → Prop) (w : World) : Calls Try.prog 14 #[.slice A 0 c, .int .i64 k] w fun e w' => (∃ k' : Nat, e = .returned (.int .i64 (k' : Int)) ∧ k ≤ k' ∧ k' ≤ k + 2199024304133 * wszS ([] : List Sc)) ∧ TurnsAt S w w' := by
  go_enter Try.func14, Try.ntmps14
  go_wp2
  go_loopw [1, 5] (fun x i wr => x = .int .i64 k ∧ i = .int .i64 0 ∧ wr = w) (fun _ _ _ => 0)
  case atStart => exact ⟨rfl, rfl, rfl⟩
  case round =>
    obtain ⟨rfl, rfl, rfl⟩ := hrel
    go_wp2
    go_ret
    exact ⟨⟨k, rfl, Nat.le_refl _, by omega⟩, TurnsAt.refl _ _⟩
theorem three_abc {k q X s1 s2 s3 sj sl : Nat} (h : q ≤ k + 2199024304133 * X) (e : sj = X + (1 + (s1 + s2) + s3)) : q + 2199024304133 + 2199024304133 * s1 + 2199024304133 * s2 + 2199024304133 * s3 ≤ k + 2199024304133 * sj := by
  subst e; omega
set_option maxHeartbeats 16000000 in
theorem mkSS_of (d : Nat) (ih : ∀ e, d = e + 1 → MkSS e) : MkSS d := by
  intro B k v l S w hv hz hk0 hk
  by_cases hl0 : l = []
  · subst hl0
    obtain ⟨A, c, rfl⟩ : ∃ A c, v = .slice A 0 c := by
      rcases hv.form with ⟨h1, _⟩ | ⟨g, cap, h1, _⟩
      · exact ⟨_, _, h1⟩
      · exact ⟨_, _, h1⟩
    exact mkSS_nil k A c S w
  cases d with
  | zero => exact absurd hv.1 hl0
  | succ d =>
  obtain ⟨g, cap, rfl, hgB, hgl⟩ : ∃ g cap, v = .slice (some ⟨g, 0, none⟩) l.length cap ∧ B ≤ g ∧ g < w.heap.size := by
    rcases hv.form with ⟨_, h⟩ | h
    · exact absurd h hl0
    · exact h
  obtain ⟨R0, K, hrow, hlen, hx, hdis, hnv, hS⟩ : ∃ (R0 : List ScR) (K : Nat → Nat → Prop), RowSm B w (.slice (some ⟨g, 0, none⟩) l.length cap) R0 ∧ R0.length = l.length ∧
    (∀ i (h : i < R0.length) (h' : i < l.length), ∃ S1 S2 : Nat → Prop, (∃ Kx, ScOw B w R0[i] l[i].x Kx ∧ ∀ b, S1 b ↔ ∃ i, i < 6 ∧ Kx i b) ∧ OwL scK d B w R0[i].kv l[i].kids S2 ∧ (∀ b, S1 b → S2 b → False) ∧ ∀ b, K i b ↔ S1 b ∨ S2 b) ∧
    (∀ i j b, i < R0.length → j < R0.length → K i b → K j b → i = j) ∧ (∀ i b, i < R0.length → K i b → (Value.slice (some ⟨g, 0, none⟩) l.length cap).ownBlock ≠ some b) ∧ ∀ b, S b ↔ (Value.slice (some ⟨g, 0, none⟩) l.length cap).ownBlock = some b ∨ ∃ i, i < R0.length ∧ K i b := hv
  have ih := ih d rfl
  obtain ⟨n, hn⟩ : ∃ n, n = l.length := ⟨_, rfl⟩
  have hn1 : n ≤ 1048576 := by rw [hn]; exact hz.1
  have HX := Lib.hid hx
  have HZ := Lib.hid hz.2
  have HN := Lib.hid hn
  have HLEN : Hid (R0.length = n) := Lib.hid (by rw [hn]; exact hlen)
  have HDIS := Lib.hid hdis
  have HNV := Lib.hid hnv
  have HSS := Lib.hid hS
  have HK := Lib.hid hk
  have HROW : Hid (RowJ B w g n cap R0 0) := Lib.hid ⟨R0, by rw [hn]; exact hrow, rfl, fun i _ _ _ => SameF.refl _⟩
  have HTAKE := Lib.hid (fun j => wszS_take l j)
  have HIH := Lib.hid ih
  rw [← hn]
  have hn2 : n ≤ 9223372036854775807 := by omega
  have hkk : k ≤ 3458764513820540000 := by omega
  clear hrow hlen hx hdis hnv hS hz hk hn hl0 ih
  go_enter Try.func14, Try.ntmps14
  go_wp2
  go_loopw [1, 5] (fun x i wr => ∃ (j q : Nat), j ≤ n ∧ Hid (k ≤ q ∧ q ≤ k + 2199024304133 * wszS (l.take j)) ∧ (0 < q ∧ q ≤ 3458764513820540000) ∧ x = .int .i64 q ∧ i = .int .i64 j ∧ Hid (RowJ B wr g n cap R0 j) ∧ Hid (TurnsAt (fun b => b = g ∨ ∃ i, i < j ∧ K i b) w wr)) (fun _ i _ => n - (intOf i).toNat)
  case atStart => exact ⟨0, k, Nat.zero_le _, Lib.hid ⟨Nat.le_refl _, Nat.le_add_right _ _⟩, ⟨hk0, hkk⟩, rfl, rfl, HROW, Lib.hid (TurnsAt.refl _ _)⟩
  case round =>
    clear HROW
    obtain ⟨j, q, hj, HQ, ⟨hq0, hq⟩, rfl, rfl, HR, HT⟩ := hrel
    by_cases hlt : j < n
    · have hL0 : j < R0.length := by rw [HLEN.out]; exact hlt
      have hl : j < l.length := by rw [← HN.out]; exact hlt
      obtain ⟨S1, S2, ⟨Kx, hsc, hS1⟩, hko, hd12, hK⟩ := HX.out j hL0 hl
      obtain ⟨hxz, hkz⟩ := HZ.out _ (List.getElem_mem hl)
      obtain ⟨⟨A1, m1, c1, f1⟩, ⟨A2, m2, c2, f2⟩, ⟨A3, m3, c3, f3⟩, ⟨A4, m4, c4, f4⟩, ⟨A5, m5, c5, f5⟩, ⟨A6, m6, c6, f6⟩⟩ := hsc.rd.forms
      obtain ⟨A7, m7, c7, f7⟩ : ∃ A n c, R0[j].kv = .slice A n c := by
        rcases OwL.form (show OwL scK d B w R0[j].kv l[j].kids S2 from hko) with ⟨h1, _⟩ | ⟨g', cap', h1, _⟩
        · exact ⟨_, _, _, h1⟩
        · exact ⟨_, _, _, h1⟩
      have hT0 : ∀ b, S1 b ∨ S2 b → ¬ (b = g ∨ ∃ i, i < j ∧ K i b) := fun b hb h => by
        have hkb : K j b := (hK b).2 hb
        rcases h with rfl | ⟨i, hi, h⟩
        · exact HNV.out j _ hL0 hkb rfl
        · have := HDIS.out i j b (by omega) hL0 h hkb; omega
      have hTT : ∀ m b, m < 6 → Kx m b → ¬ TT g j K Kx m b := fun m b hm hb => TT_not (hT0 b (.inl ((hS1 b).2 ⟨m, hm, hb⟩))) m (fun i hi h => by have := hsc.apart i m b (by omega) hm h hb; omega)
      have hT6 : ∀ b, S2 b → ¬ TT g j K Kx 6 b := fun b hb => TT_not (hT0 b (.inr hb)) 6 (fun i hi h => hd12 b ((hS1 b).2 ⟨i, hi, h⟩) hb)
      have HG : Hid (∀ m, m < 6 → ¬ Kx m g) := Lib.hid fun m hm h => HNV.out j g hL0 ((hK g).2 (.inl ((hS1 g).2 ⟨m, hm, h⟩))) rfl
      have HG2 : Hid (¬ S2 g) := Lib.hid fun h => HNV.out j g hL0 ((hK g).2 (.inr h)) rfl
      have hsz : wszS (l.take (j + 1)) = wszS (l.take j) + wszN l[j] := wszS_step l j hl
      have hqb := three_abc HQ.out.2 (hsz.trans (by rw [wszN_eq])) (sl := 0)
      have hqc : k + 2199024304133 * wszS (l.take (j + 1)) ≤ 3458764513820540000 := Nat.le_trans (Nat.add_le_add_left (Nat.mul_le_mul_left _ (HTAKE.out (j + 1))) _) HK.out
      obtain ⟨Z, hZ⟩ : ∃ Z, Z = k + 2199024304133 * wszS (l.take (j + 1)) := ⟨_, rfl⟩
      obtain ⟨s1, hs1⟩ : ∃ s, s = 2199024304133 * sizeS l[j].x.when := ⟨_, rfl⟩
      obtain ⟨s2, hs2⟩ : ∃ s, s = 2199024304133 * sizeS l[j].x.must := ⟨_, rfl⟩
      obtain ⟨s3, hs3⟩ : ∃ s, s = 2199024304133 * wszS l[j].kids := ⟨_, rfl⟩
      rw [← hZ, ← hs1, ← hs2, ← hs3] at hqb
      rw [← hZ] at hqc
      have C1 := Lib.hid (fun W (x : Nat) (ht : TurnsAt (TT g j K Kx 0) w W) (h : x ≤ 3458764513820540000) => markRngsTQ B R0[j].tv.vr l[j].x.ty.rg x (Kx 0) W (rowR_apart hsc.rg ht (fun b e => hTT 0 b (by omega) ((hsc.k0 b).2 e))) hsc.k0 hxz.ty.1 h)
      have C2 := Lib.hid (fun W (x : Nat) (ht : TurnsAt (TT g j K Kx 1) w W) (h0 : 0 < x) (h : x ≤ 3458764513820540000) => markStrsTQ B R0[j].tv.vn l[j].x.ty.nm x (Kx 1) W (row_frame hsc.nm (fun b e => ht.block b (hsc.nm.lt e).2 (hTT 1 b (by omega) ((hsc.k1 b).2 e)))) hsc.k1 hxz.ty.2.1 h0 h)
      have C3 := Lib.hid (fun W (x : Nat) (ht : TurnsAt (TT g j K Kx 2) w W) (h0 : 0 < x) (h : x ≤ 3458764513820540000) => markStrsTQ B R0[j].vk l[j].x.keys x (Kx 2) W (row_frame hsc.keys (fun b e => ht.block b (hsc.keys.lt e).2 (hTT 2 b (by omega) ((hsc.k2 b).2 e)))) hsc.k2 hxz.keys.1 h0 h)
      have C4 := Lib.hid (fun W (x : Nat) (ht : TurnsAt (TT g j K Kx 3) w W) (h0 : 0 < x) (h : x ≤ 3458764513820540000) => markStrsTQ B R0[j].vu l[j].x.uniq x (Kx 3) W (row_frame hsc.uniq (fun b e => ht.block b (hsc.uniq.lt e).2 (hTT 3 b (by omega) ((hsc.k3 b).2 e)))) hsc.k3 hxz.uniq.1 h0 h)
      have C5 := Lib.hid (fun W (x : Nat) (ht : TurnsAt (TT g j K Kx 4) w W) (h0 : 0 < x) (h : x + s1 ≤ 3458764513820540000) => markExsTQ B R0[j].wv l[j].x.when x (Kx 4) W (hsc.when.imp fun _ h => OwL.apart h ht (fun b e => hTT 4 b (by omega) e)) hxz.when h0 (by rw [← hs1]; exact h))
      have C6 := Lib.hid (fun W (x : Nat) (ht : TurnsAt (TT g j K Kx 5) w W) (h0 : 0 < x) (h : x + s2 ≤ 3458764513820540000) => markExsTQ B R0[j].mv l[j].x.must x (Kx 5) W (hsc.must.imp fun _ h => OwL.apart h ht (fun b e => hTT 5 b (by omega) e)) hxz.must h0 (by rw [← hs2]; exact h))
      have C7 := Lib.hid (fun W (x : Nat) (ht : TurnsAt (TT g j K Kx 6) w W) (h0 : 0 < x) (h : x + s3 ≤ 3458764513820540000) => HIH.out B x R0[j].kv l[j].kids S2 W (OwL.apart hko ht (fun b e => hT6 b e)) hkz h0 (by rw [← hs3]; exact h))
      rw [f1] at C1
      rw [f2] at C2
      rw [f3] at C3
      rw [f4] at C4
      rw [f5, ← hs1] at C5
      rw [f6, ← hs2] at C6
      rw [f7, ← hs3] at C7
      have HFF := Lib.hid (And.intro f1 (And.intro f2 (And.intro f3 (And.intro f4 (And.intro f5 (And.intro f6 f7))))))
      have HKJ : Hid (∀ b, (∃ i, i < 6 ∧ Kx i b) ∨ S2 b → K j b) := Lib.hid fun b h => (hK b).2 (h.elim (fun h => .inl ((hS1 b).2 h)) .inr)
      have HZZ := Lib.hid hZ
      have HL0 := Lib.hid hL0
      have HT : Hid (TurnsAt (TT g j K Kx 0) w wr) := HT
      clear hsc hko hd12 hK hxz hkz f1 f2 f3 f4 f5 f6 f7 hT0 hTT hT6 hsz hS1 hZ hs1 hs2 hs3 hl
      have HMT := Lib.hid (fun W => mark_any (q + 1) (by omega) (by omega) W)
      rw [show ((q + 1 : Nat) : Int) = (q : Int) + 1 by omega] at HMT
      obtain ⟨tx1, htx1⟩ : ∃ t, t = markS (q + 1) := ⟨_, rfl⟩
      rw [← htx1] at HMT
      clear htx1
      obtain ⟨_, ⟨e0, -, -, -, -, -, -, -, -, -, -, -, -, -, -, -, -, -, -⟩, ⟨p0, -, -, -, -, -, -, -, -, -, -, -⟩⟩ := RowJ.cells HR.out HL0.out
      have HP2 := Lib.hid (RowJ.put0 HR.out HL0.out (q : Int))
      have HT3 := Lib.hid (TT_grow HT.out HP2.out.2)
      go_wp2_with fail
      refine (HMT.out _).mono ?_
      rintro e w4 ⟨rfl, hb⟩
      have HR5 := Lib.hid (RowJ.below (HP2.out.1) hb)
      have HT6 := Lib.hid (TT_below HT3.out hb)
      clear hb HMT e0 p0
      obtain ⟨_, ⟨-, e1, e2, e3, -, -, -, -, -, -, -, -, -, -, -, -, -, -, -⟩, ⟨-, p1, p2, -, -, -, -, -, -, -, -, -⟩⟩ := RowJ.cells HR5.out HL0.out
      simp only [HFF.out.1] at e3
      have HP7 := Lib.hid (RowJ.put1 HR5.out HL0.out tx1)
      have HT8 := Lib.hid (TT_grow HT6.out HP7.out.2)
      have HP9 := Lib.hid (RowJ.put2 HP7.out.1 HL0.out ((q : Int) + 1 + 1))
      have HT10 := Lib.hid (TT_grow HT8.out HP9.out.2)
      have C1 := C1.out _ (q + 3) HT10.out (by omega)
      rw [show ((q + 3 : Nat) : Int) = (q : Int) + 1 + 1 + 1 by omega] at C1
      go_wp2_with fail
      refine (C1).mono ?_
      rintro e w11 ⟨⟨q14, rfl, gq14, lq14⟩, ht⟩
      have HR12 := Lib.hid (RowJ.turns (HP9.out.1) ht (HG.out 0 (by omega)))
      have HT13 := Lib.hid (TT_step HT10.out ht)
      clear ht e1 e2 p1 p2 e3 C1
      obtain ⟨_, ⟨-, -, -, -, e4, -, -, -, -, -, -, -, -, -, -, -, -, -, -⟩, ⟨-, -, -, -, -, -, -, -, -, -, -, -⟩⟩ := RowJ.cells HR12.out HL0.out
      simp only [HFF.out.2.1] at e4
      go_wp2_with fail
      refine (C2.out _ q14 HT13.out (by omega) (by omega)).mono ?_
      rintro e w15 ⟨⟨q18, rfl, gq18, lq18⟩, ht⟩
      have HR16 := Lib.hid (RowJ.turns (HR12.out) ht (HG.out 1 (by omega)))
      have HT17 := Lib.hid (TT_step HT13.out ht)
      clear ht e4
      have HMT := Lib.hid (fun W => mark_any (q18) (by omega) (by omega) W)
      rw [show ((q18 : Nat) : Int) = (q18 : Int) by omega] at HMT
      obtain ⟨tx19, htx19⟩ : ∃ t, t = markS (q18) := ⟨_, rfl⟩
      rw [← htx19] at HMT
      clear htx19
      obtain ⟨_, ⟨-, -, -, -, -, -, -, -, -, -, -, -, -, -, -, -, -, -, -⟩, ⟨-, -, -, -, -, -, -, -, -, -, -, -⟩⟩ := RowJ.cells HR16.out HL0.out
      go_wp2_with fail
      refine (HMT.out _).mono ?_
      rintro e w20 ⟨rfl, hb⟩
      have HR21 := Lib.hid (RowJ.below (HR16.out) hb)
      have HT22 := Lib.hid (TT_below HT17.out hb)
      clear hb HMT 
      have HMT := Lib.hid (fun W => mark_any (q18 + 1) (by omega) (by omega) W)
      rw [show ((q18 + 1 : Nat) : Int) = (q18 : Int) + 1 by omega] at HMT
      obtain ⟨tx23, htx23⟩ : ∃ t, t = markS (q18 + 1) := ⟨_, rfl⟩
      rw [← htx23] at HMT
      clear htx23
      obtain ⟨_, ⟨-, -, -, -, -, e5, -, -, -, -, -, -, -, -, -, -, -, -, -⟩, ⟨-, -, -, p5, -, -, -, -, -, -, -, -⟩⟩ := RowJ.cells HR21.out HL0.out
      have HP24 := Lib.hid (RowJ.put5 HR21.out HL0.out tx19)
      have HT25 := Lib.hid (TT_grow HT22.out HP24.out.2)
      go_wp2_with fail
      refine (HMT.out _).mono ?_
      rintro e w26 ⟨rfl, hb⟩
      have HR27 := Lib.hid (RowJ.below (HP24.out.1) hb)
      have HT28 := Lib.hid (TT_below HT25.out hb)
      clear hb HMT e5 p5
      obtain ⟨_, ⟨-, -, -, -, -, -, e6, e7, -, -, -, -, -, -, -, -, -, -, -⟩, ⟨-, -, -, -, p6, -, -, -, -, -, -, -⟩⟩ := RowJ.cells HR27.out HL0.out
      simp only [HFF.out.2.2.1] at e7
      have HP29 := Lib.hid (RowJ.put6 HR27.out HL0.out tx23)
      have HT30 := Lib.hid (TT_grow HT28.out HP29.out.2)
      have C3 := C3.out _ (q18 + 2) HT30.out (by omega) (by omega)
      rw [show ((q18 + 2 : Nat) : Int) = (q18 : Int) + 1 + 1 by omega] at C3
      go_wp2_with fail
      refine (C3).mono ?_
      rintro e w31 ⟨⟨q34, rfl, gq34, lq34⟩, ht⟩
      have HR32 := Lib.hid (RowJ.turns (HP29.out.1) ht (HG.out 2 (by omega)))
      have HT33 := Lib.hid (TT_step HT30.out ht)
      clear ht e6 p6 e7 C3
      obtain ⟨_, ⟨-, -, -, -, -, -, -, -, e8, -, -, -, -, -, -, -, -, -, -⟩, ⟨-, -, -, -, -, -, -, -, -, -, -, -⟩⟩ := RowJ.cells HR32.out HL0.out
      simp only [HFF.out.2.2.2.1] at e8
      go_wp2_with fail
      refine (C4.out _ q34 HT33.out (by omega) (by omega)).mono ?_
      rintro e w35 ⟨⟨q38, rfl, gq38, lq38⟩, ht⟩
      have HR36 := Lib.hid (RowJ.turns (HR32.out) ht (HG.out 3 (by omega)))
      have HT37 := Lib.hid (TT_step HT33.out ht)
      clear ht e8
      have HMT := Lib.hid (fun W => mark_any (q38) (by omega) (by omega) W)
      rw [show ((q38 : Nat) : Int) = (q38 : Int) by omega] at HMT
      obtain ⟨tx39, htx39⟩ : ∃ t, t = markS (q38) := ⟨_, rfl⟩
      rw [← htx39] at HMT
      clear htx39
      obtain ⟨_, ⟨-, -, -, -, -, -, -, -, -, -, -, -, -, -, -, -, -, -, -⟩, ⟨-, -, -, -, -, -, -, -, -, -, -, -⟩⟩ := RowJ.cells HR36.out HL0.out
      go_wp2_with fail
      refine (HMT.out _).mono ?_
      rintro e w40 ⟨rfl, hb⟩
      have HR41 := Lib.hid (RowJ.below (HR36.out) hb)
      have HT42 := Lib.hid (TT_below HT37.out hb)
      clear hb HMT 
      obtain ⟨_, ⟨-, -, -, -, -, -, -, -, -, e9, e10, e11, e12, e13, e14, e15, e16, -, -⟩, ⟨-, -, -, -, -, p9, p10, p11, p12, p13, p14, p15⟩⟩ := RowJ.cells HR41.out HL0.out
      simp only [HFF.out.2.2.2.2.1] at e16
      have HP43 := Lib.hid (RowJ.put9 HR41.out HL0.out tx39)
      have HT44 := Lib.hid (TT_grow HT42.out HP43.out.2)
      have HP45 := Lib.hid (RowJ.put10 HP43.out.1 HL0.out (((q38 : Int) + 1).tmod 3 == 0))
      have HT46 := Lib.hid (TT_grow HT44.out HP45.out.2)
      have HP47 := Lib.hid (RowJ.put11 HP45.out.1 HL0.out (((q38 : Int) + 1 + 1).tmod 3 == 0))
      have HT48 := Lib.hid (TT_grow HT46.out HP47.out.2)
      have HP49 := Lib.hid (RowJ.put12 HP47.out.1 HL0.out (((q38 : Int) + 1 + 1 + 1).tmod 3 == 0))
      have HT50 := Lib.hid (TT_grow HT48.out HP49.out.2)
      have HP51 := Lib.hid (RowJ.put13 HP49.out.1 HL0.out (((q38 : Int) + 1 + 1 + 1 + 1).tmod 3 == 0))
      have HT52 := Lib.hid (TT_grow HT50.out HP51.out.2)
      have HP53 := Lib.hid (RowJ.put14 HP51.out.1 HL0.out ((q38 : Int) + 1 + 1 + 1 + 1 + 1))
      have HT54 := Lib.hid (TT_grow HT52.out HP53.out.2)
      have HP55 := Lib.hid (RowJ.put15 HP53.out.1 HL0.out ((q38 : Int) + 1 + 1 + 1 + 1 + 1 + 1))
      have HT56 := Lib.hid (TT_grow HT54.out HP55.out.2)
      have C5 := C5.out _ (q38 + 7) HT56.out (by omega) (by omega)
      rw [show ((q38 + 7 : Nat) : Int) = ((q38 : Int) + 1 + 1 + 1 + 1 + 1 + 1 + 1) by omega] at C5
      go_wp2_with fail
      refine (C5).mono ?_
      rintro e w57 ⟨⟨q60, rfl, gq60, lq60⟩, ht⟩
      have HR58 := Lib.hid (RowJ.turns (HP55.out.1) ht (HG.out 4 (by omega)))
      have HT59 := Lib.hid (TT_step HT56.out ht)
      clear ht e9 e10 e11 e12 e13 e14 e15 p9 p10 p11 p12 p13 p14 p15 e16 C5
      obtain ⟨_, ⟨-, -, -, -, -, -, -, -, -, -, -, -, -, -, -, -, -, e17, -⟩, ⟨-, -, -, -, -, -, -, -, -, -, -, -⟩⟩ := RowJ.cells HR58.out HL0.out
      simp only [HFF.out.2.2.2.2.2.1] at e17
      go_wp2_with fail
      refine (C6.out _ q60 HT59.out (by omega) (by omega)).mono ?_
      rintro e w61 ⟨⟨q64, rfl, gq64, lq64⟩, ht⟩
      have HR62 := Lib.hid (RowJ.turns (HR58.out) ht (HG.out 5 (by omega)))
      have HT63 := Lib.hid (TT_step HT59.out ht)
      clear ht e17
      obtain ⟨_, ⟨-, -, -, -, -, -, -, -, -, -, -, -, -, -, -, -, -, -, e18⟩, ⟨-, -, -, -, -, -, -, -, -, -, -, -⟩⟩ := RowJ.cells HR62.out HL0.out
      simp only [HFF.out.2.2.2.2.2.2] at e18
      go_wp2_with fail
      refine (C7.out _ q64 HT63.out (by omega) (by omega)).mono ?_
      rintro e w9 ⟨⟨q9, rfl, gq9, lq9⟩, ht⟩
      have HR9 := Lib.hid (RowJ.next (RowJ.turns (HR62.out) ht HG2.out))
      have HT9 : Hid (TurnsAt (fun b => b = g ∨ ∃ i, i < j + 1 ∧ K i b) w w9) := Lib.hid ((HT63.out.mono (fun b h _ => by
        rcases TT_sub h with (h | ⟨i, hi, h⟩) | h
        · exact .inl h
        · exact .inr ⟨i, by omega, h⟩
        · exact .inr ⟨j, by omega, HKJ.out b (.inl h)⟩)).trans (ht.mono fun b h _ => .inr ⟨j, by omega, HKJ.out b (.inr h)⟩))
      have HQ9 : Hid (k ≤ q9 ∧ q9 ≤ k + 2199024304133 * wszS (l.take (j + 1))) := Lib.hid ⟨by have := HQ.out.1; omega, by rw [← HZZ.out]; omega⟩
      have hq9 : 0 < q9 ∧ q9 ≤ 3458764513820540000 := by omega
      clear ht e18
      go_wp2
      go_roundw
      case rel => exact ⟨j + 1, q9, by omega, HQ9, hq9, rfl, by go_num, HR9, HT9⟩
      case measure => simp [intOf]; omega
    · have e : j = n := by omega
      subst e
      have HF : Hid ((k ≤ q ∧ q ≤ k + 2199024304133 * wszS l) ∧ TurnsAt S w wr) := Lib.hid ⟨by have := HQ.out; rwa [List.take_of_length_le (by rw [← HN.out]; exact Nat.le_refl _)] at this, HT.out.mono (fun b h _ => (HSS.out b).2 (by
        rcases h with h | ⟨i, hi, h⟩
        · left; rw [h]; rfl
        · exact .inr ⟨i, by rw [HLEN.out]; exact hi, h⟩))⟩
      go_wp2
      go_ret
      exact ⟨⟨q, rfl, HF.out.1.1, HF.out.1.2⟩, HF.out.2⟩
theorem mkSS_any : ∀ d, MkSS d
  | 0 => mkSS_of 0 (fun e h => absurd h (by omega))
  | d + 1 => mkSS_of (d + 1) (fun e h => (show d = e by omega) ▸ mkSS_any d)
end Go.Proofs.Ytdkpleghpnflhaa
