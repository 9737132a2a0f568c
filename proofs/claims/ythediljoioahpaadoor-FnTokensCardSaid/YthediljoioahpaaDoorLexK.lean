/- CHAPTER 3, PLAIN MATHEMATICS: joined tokens read again, a remark behind them. No function is spoken of. -/
import Derived.Test.YthediljoioahpaaDoorLexJ
namespace Go.Proofs.YthediljoioahpaaDoor
open Go.RowKit

def joinL (T : List Tok) : List UInt8 := Lib.join (T.map tokB) [32]
theorem joinL_data (T : List Tok) : (joinB (toksS T)).data.toList = joinL T := by
  unfold joinB toksS joinL
  rw [List.map_map]; rfl
theorem joinL_one (x : Tok) : joinL [x] = tokB x := by unfold joinL; rw [List.map_cons, List.map_nil, Lib.join_one]
theorem joinL_cons (x y : Tok) (r : List Tok) : joinL (x :: y :: r) = tokB x ++ 32 :: joinL (y :: r) := by
  unfold joinL
  rw [List.map_cons, Lib.join_cons]
  congr 1
  rw [List.map_cons, Lib.join_cons]
  simp [Lib.joinTail]
/-- the tokens X are those of T, at the places at which their texts begin -/
def Like (N : Nat) (L : List UInt8) (X T : List Tok) : Prop :=
  X.length = T.length ∧ ∀ i (h : i < T.length) (h' : i < X.length), X[i].k = T[i].k ∧ X[i].t = T[i].t ∧ ∃ m, 0 < m ∧ m ≤ L.length ∧ X[i].p = ((N - m : Nat) : Int) ∧ (L.drop (L.length - m)).head? = (tokB T[i]).head?
theorem drop_shift (P L : List UInt8) {m : Nat} (h : m ≤ L.length) : (P ++ L).drop ((P ++ L).length - m) = L.drop (L.length - m) := by
  rw [List.length_append, show P.length + L.length - m = P.length + (L.length - m) by omega, ← List.drop_drop, List.drop_left]
theorem like_cons {N : Nat} {x : Tok} {R L' : List UInt8} {X T : List Tok} (hR : ∃ P, R = P ++ L') (h : Like N L' X T) (hx : ∃ c u, tokB x = c :: u ∧ c ≠ 32 ∧ c ≠ 10 ∧ c ≠ 35) :
    Like N (tokB x ++ R) (⟨x.k, ⟨x.t.data.toList.toArray⟩, (N - (tokB x ++ R).length : Nat)⟩ :: X) (x :: T) := by
  obtain ⟨P, rfl⟩ := hR
  obtain ⟨h1, h2⟩ := h
  obtain ⟨c, u, hc, _⟩ := hx
  refine ⟨by simp [h1], fun i hi hi' => ?_⟩
  cases i with
  | zero =>
    refine ⟨rfl, rfl, (tokB x ++ (P ++ L')).length, by rw [hc]; simp, Nat.le_refl _, rfl, ?_⟩
    rw [Nat.sub_self, List.drop_zero]
    show (tokB x ++ (P ++ L')).head? = (tokB x).head?
    rw [hc]; rfl
  | succ i =>
    obtain ⟨e1, e2, m, hm0, hm, hp, hh⟩ := h2 i (by simpa using hi) (by simpa using hi')
    refine ⟨e1, e2, m, hm0, by rw [List.length_append, List.length_append]; omega, hp, ?_⟩
    rw [← List.append_assoc, drop_shift _ _ hm]
    exact hh
theorem lex_cons {N : Nat} {x : Tok} {R : List UInt8} {X : List Tok} (hx : Good x) (hR : R = [] ∨ ∃ R', R = 32 :: R') (h : Lx N R X none) :
    Lx N (tokB x ++ R) (⟨x.k, ⟨x.t.data.toList.toArray⟩, (N - (tokB x ++ R).length : Nat)⟩ :: X) none := by
  obtain ⟨⟨c, u, hc, h32, h10, h35⟩, ht⟩ := hx
  have ht := ht R hR
  have hd : (tokB x ++ R).drop (tokB x).length = R := List.drop_left
  have hs : skip false (tokB x ++ R) = tokB x ++ R := by rw [hc, List.cons_append]; exact skip_stop h32 h10 h35
  have hl : (tokB x ++ R).length = (u ++ R).length + 1 := by rw [hc]; rfl
  rw [hl]
  rw [← hd] at h
  rw [hc, List.cons_append] at hs ht h ⊢
  exact .tok hs ht h
theorem join_lex (N : Nat) (E : List UInt8) (hE : skip false E = []) (hE' : E = [] ∨ ∃ R', E = 32 :: R') : ∀ T : List Tok, (∀ x ∈ T, Good x) → ∃ X, Lx N (joinL T ++ E) X none ∧ Like N (joinL T ++ E) X T := by
  intro T
  induction T with
  | nil => intro _; exact ⟨[], .fin (by rw [show joinL [] = [] from rfl, List.nil_append]; exact hE), rfl, fun i h => by cases h⟩
  | cons x r ih =>
    intro hg
    have hx := hg x (List.mem_cons_self ..)
    obtain ⟨X, hX, hl⟩ := ih fun y hy => hg y (List.mem_cons_of_mem _ hy)
    cases r with
    | nil =>
      rw [joinL_one]
      have hX0 : Lx N E [] none := .fin hE
      have hl0 : Like N E [] [] := ⟨rfl, fun i h => by cases h⟩
      exact ⟨_, lex_cons hx hE' hX0, like_cons ⟨[], rfl⟩ hl0 hx.1⟩
    | cons y r' =>
      rw [joinL_cons, List.append_assoc, List.cons_append]
      have hX' : Lx N (32 :: (joinL (y :: r') ++ E)) X none := hX.skip (skip_blank (.inl rfl)).symm
      exact ⟨_, lex_cons hx (.inr ⟨_, rfl⟩) hX', like_cons ⟨[32], rfl⟩ hl hx.1⟩
/-- what the law asks of the tokens that are read again -/
def Back (s : ByteArray) (X T : List Tok) : Prop :=
  X.length = T.length ∧ ∀ i (h : i < T.length) (h' : i < X.length), X[i].k = T[i].k ∧ X[i].t = T[i].t ∧ ∃ P : Nat, X[i].p = (P : Int) ∧ P < s.size ∧ s.extract P (P + 1) = (tokS T[i].k T[i].t).extract 0 1
theorem take_one {L M : List UInt8} (h : L.head? = M.head?) : L.take 1 = M.take 1 := by
  cases L <;> cases M <;> simp_all
theorem back_of {s : ByteArray} {L : List UInt8} {X T : List Tok} (hs : s.data.toList = L) (h : Like s.size L X T) : Back s X T := by
  have hl : L.length = s.size := by rw [← hs]; simp
  refine ⟨h.1, fun i hi hi' => ?_⟩
  obtain ⟨e1, e2, m, hm0, hm, hp, hh⟩ := h.2 i hi hi'
  refine ⟨e1, e2, s.size - m, hp, by omega, ?_⟩
  rw [ex_take' s, show (tokS T[i].k T[i].t).extract 0 1 = (tokS T[i].k T[i].t).extract 0 (0 + 1) from rfl, ex_take', hs, List.drop_zero]
  rw [hl] at hh
  rw [take_one hh]; rfl
theorem join_back {T : List Tok} (hg : ∀ x ∈ T, Good x) : ∃ X, Lx (joinB (toksS T)).size (joinB (toksS T)).data.toList X none ∧ Back (joinB (toksS T)) X T := by
  obtain ⟨X, h1, h2⟩ := join_lex (joinB (toksS T)).size [] (skip_nil _) (.inl rfl) T hg
  rw [List.append_nil] at h1 h2
  exact ⟨X, by rw [joinL_data]; exact h1, back_of (joinL_data T) h2⟩
/-- " # remark {" -/
def rem : ByteArray := ⟨#[32, 35, 32, 114, 101, 109, 97, 114, 107, 32, 123]⟩
theorem join_rem {T : List Tok} (hg : ∀ x ∈ T, Good x) : ∃ X, Lx (joinB (toksS T) ++ rem).size (joinB (toksS T) ++ rem).data.toList X none ∧ X.length = T.length ∧ ∀ i (h : i < T.length) (h' : i < X.length), X[i].t = T[i].t := by
  obtain ⟨X, h1, h2⟩ := join_lex (joinB (toksS T) ++ rem).size rem.data.toList (by decide) (.inr ⟨[35, 32, 114, 101, 109, 97, 114, 107, 32, 123], rfl⟩) T hg
  refine ⟨X, ?_, h2.1, fun i h h' => (h2.2 i h h').2.1⟩
  have e : (joinB (toksS T) ++ rem).data.toList = joinL T ++ rem.data.toList := by rw [ByteArray.data_append, Array.toList_append, joinL_data]
  rw [e]; exact h1
theorem joinL_len (T : List Tok) : (joinL T).length ≤ 3 * sumT T := by
  induction T with
  | nil => simp [joinL, Lib.join_nil]
  | cons x r ih =>
    have hx : (tokB x).length ≤ 2 * x.t.size + 2 := by
      have := tokS_size x.k x.t
      have e : (tokB x).length = (tokS x.k x.t).size := by unfold tokB; simp
      omega
    have hs : sumT (x :: r) = x.t.size + 1 + sumT r := by unfold sumT; rw [List.map_cons, List.sum_cons]
    cases r with
    | nil => rw [joinL_one]; omega
    | cons y r' =>
      rw [joinL_cons, List.length_append, List.length_cons]
      omega
theorem join_small {T : List Tok} {k : Nat} (h : sumT T ≤ k) : (joinB (toksS T)).size ≤ 3 * k := by
  have h1 := joinL_len T
  have e : (joinB (toksS T)).size = (joinL T).length := by rw [← joinL_data]; simp
  omega
theorem sumT_len (T : List Tok) : T.length ≤ sumT T := by
  induction T with
  | nil => simp
  | cons x r ih => unfold sumT at ih ⊢; rw [List.map_cons, List.sum_cons, List.length_cons]; omega
theorem sumT_mem {T : List Tok} {x : Tok} (h : x ∈ T) : x.t.size ≤ sumT T := by
  induction T with
  | nil => cases h
  | cons y r ih =>
    have e : sumT (y :: r) = y.t.size + 1 + sumT r := by unfold sumT; rw [List.map_cons, List.sum_cons]
    rcases List.mem_cons.1 h with rfl | h
    · omega
    · have := ih h; omega
end Go.Proofs.YthediljoioahpaaDoor
