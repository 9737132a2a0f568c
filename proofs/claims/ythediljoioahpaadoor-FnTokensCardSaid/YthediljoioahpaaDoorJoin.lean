/- JoinTokens. -/
import Derived.Test.YthediljoioahpaaDoorToks
import Derived.Test.YthediljoioahpaaDoorStrs
import Derived.Test.YthediljoioahpaaDoorShelf
namespace Go.Proofs.YthediljoioahpaaDoor
open Go.RowKit

/-- the texts, a blank between two -/
def joinB (xs : List ByteArray) : ByteArray := ⟨(Lib.join (xs.map (·.data.toList)) [32]).toArray⟩
def toksS (l : List Tok) : List ByteArray := l.map fun x => tokS x.k x.t
theorem joinB_nil : joinB [] = ⟨#[]⟩ := rfl
theorem join_snoc {xs : List (List UInt8)} (h : xs ≠ []) (y sep : List UInt8) : Lib.join (xs ++ [y]) sep = Lib.join xs sep ++ sep ++ y := by
  cases xs with
  | nil => exact absurd rfl h
  | cons x r => rw [List.cons_append, Lib.join_cons, Lib.join_cons]; simp [Lib.joinTail]
theorem joinB_one (y : ByteArray) : joinB ([] ++ [y]) = ⟨#[]⟩ ++ y := by
  unfold joinB
  rw [List.nil_append, List.map_cons, List.map_nil, Lib.join_one]
  apply ByteArray.ext; simp
theorem joinB_snoc {xs : List ByteArray} (h : xs ≠ []) (y : ByteArray) : joinB (xs ++ [y]) = joinB xs ++ ⟨#[32]⟩ ++ y := by
  unfold joinB
  rw [List.map_append, List.map_cons, List.map_nil, join_snoc (by simpa using h)]
  apply ByteArray.ext; simp
theorem toks_take {l : List Tok} {k : Nat} (hk : k < l.length) : toksS (l.take (k + 1)) = toksS (l.take k) ++ [tokS l[k].k l[k].t] := by
  unfold toksS
  rw [List.take_succ_eq_append_getElem hk, List.map_append]; rfl
theorem toks_ne {l : List Tok} {k : Nat} (h0 : 0 < k) (hk : k < l.length) : toksS (l.take k) ≠ [] := by
  unfold toksS; intro h
  have := congrArg List.length h
  simp only [List.length_map, List.length_take, List.length_nil] at this; omega
theorem quoteS_size (s : ByteArray) : (quoteS s).size ≤ 2 * s.size + 2 := by
  have h : ∀ l : List UInt8, (escL l).length ≤ 2 * l.length := by
    intro l
    induction l with
    | nil => simp [escL]
    | cons c l ih => rw [escL]; split <;> simp only [List.length_cons] <;> omega
  have h := h s.data.toList
  have e : (quoteS s).size = (quoteL s.data.toList).length := by unfold quoteS; rfl
  have e2 : s.data.toList.length = s.size := by simp
  rw [e]; unfold quoteL; simp only [List.length_cons, List.length_append, List.length_nil]; omega
theorem tokS_size (k : Int) (t : ByteArray) : (tokS k t).size ≤ 2 * t.size + 2 := by
  unfold tokS; split
  · exact quoteS_size t
  · omega
theorem join_len {xs : List (List UInt8)} {m : Nat} (h : ∀ x ∈ xs, x.length ≤ m) : (Lib.join xs [32]).length ≤ xs.length * (m + 1) := by
  cases xs with
  | nil => simp [Lib.join_nil]
  | cons x r =>
    rw [Lib.join_cons, List.length_append]
    have h2 : (Lib.joinTail [32] r).length ≤ r.length * (m + 1) := by
      have hr : ∀ x ∈ r, x.length ≤ m := fun y hy => h y (List.mem_cons_of_mem _ hy)
      clear h
      induction r with
      | nil => simp [Lib.joinTail]
      | cons y r ih =>
        have h1 := ih (fun z hz => hr z (List.mem_cons_of_mem _ hz))
        have h3 := hr y (List.mem_cons_self ..)
        unfold Lib.joinTail at h1 ⊢
        rw [List.map_cons, List.flatten_cons, List.length_append, List.length_append, List.length_cons, List.length_cons, List.length_nil, Nat.succ_mul]
        omega
    have h1 := h x (List.mem_cons_self ..)
    rw [List.length_cons, Nat.succ_mul]; omega
theorem toks_join_len {l : List Tok} (hn : l.length ≤ 1048576) (hs : ∀ x ∈ l, x.t.size ≤ 1048576) : (Lib.join ((toksS l).map (·.data.toList)) [32]).length ≤ 140737488355328 := by
  have h := join_len (xs := (toksS l).map (·.data.toList)) (m := 2097154) (fun y hy => by
    unfold toksS at hy
    simp only [List.map_map, List.mem_map, Function.comp] at hy
    obtain ⟨x, hx, rfl⟩ := hy
    have h1 := tokS_size x.k x.t
    have h2 := hs x hx
    have e : (tokS x.k x.t).data.toList.length = (tokS x.k x.t).size := by simp
    rw [e]; omega)
  have e : ((toksS l).map (·.data.toList)).length = l.length := by simp [toksS]
  rw [e] at h
  refine Nat.le_trans h (Nat.le_trans (Nat.mul_le_mul_right _ hn) (by decide))
theorem joinB_size (xs : List ByteArray) : (joinB xs).size = (Lib.join (xs.map (·.data.toList)) [32]).length := rfl
theorem join_take_len {l : List Tok} (hn : l.length ≤ 1048576) (hs : ∀ x ∈ l, x.t.size ≤ 1048576) (k : Nat) : (joinB (toksS (l.take k))).size ≤ 140737488355328 := by
  rw [joinB_size]
  exact toks_join_len (by rw [List.length_take]; omega) (fun x hx => hs x (List.mem_of_mem_take hx))
set_option maxHeartbeats 1000000 in
theorem iJoin_any (v : Value) (l : List Tok) (w : World) (hv : HasT w v l) (hn : l.length ≤ 1048576) (hs : ∀ x ∈ l, x.t.size ≤ 1048576) :
    Calls Tryd.prog 7 #[v] w fun e w' => e = .returned (.string (joinB (toksS l))) ∧ Below w.heap.size w w' := by
  have HJ := Lib.hid (toks_join_len hn hs)
  obtain ⟨A, cap, rfl, hn', hc⟩ := hv
  obtain ⟨n, hnn⟩ : ∃ n, n = l.length := ⟨_, rfl⟩
  have HN : Hid (n = l.length) := Lib.hid hnn
  rw [← hnn] at hn hn' ⊢
  clear hnn
  go_enter Tryd.func7, Tryd.ntmps7
  go_wp2
  go_loopw [3, 9] (fun v i wr => ∃ (k g c : Nat), k ≤ n ∧ i = .int .i64 k ∧ v = .slice (some ⟨g, 0, none⟩) k c ∧ Row w.heap.size wr (.slice (some ⟨g, 0, none⟩) k c) (toksS (l.take k)) ∧ Below w.heap.size w wr) (fun _ i _ => n - (intOf i).toNat)
  case atStart => exact ⟨0, w.heap.size, 0, Nat.zero_le _, rfl, rfl, row_empty (heap_alloc_new w _) (Nat.le_refl _), below_al (Below.refl _ _) _⟩
  case round =>
    obtain ⟨k, g, c, hk, rfl, rfl, hrow, hbel⟩ := hrel
    by_cases hlt : k < n
    · obtain ⟨a, rfl, hab, hcell⟩ := HasT.tk hc k (by rw [← HN.out]; exact hlt)
      have hsz := hs _ (List.getElem_mem (by rw [← HN.out]; exact hlt : k < l.length))
      have ht := Lib.hid (toks_take (l := l) (k := k) (by rw [← HN.out]; exact hlt))
      obtain ⟨x, hx⟩ : ∃ x, x = l[k]'(by rw [← HN.out]; exact hlt) := ⟨_, rfl⟩
      rw [← hx] at hcell hsz ht
      obtain ⟨c0, c1, c2⟩ := hcell.below hbel hab
      have hgB := (hrow.lt rfl).1
      clear hcell hx
      go_wp2_with (first
        | (go_at_call 9; refine (iTokText_any _ _ _ hsz _).mono ?_; rintro e w1 ⟨rfl, hb1⟩; have hrow1 := (hrow.alloc _).below hb1; have hbel1 := below_step (below_al hbel _) hb1; clear hrow hb1)
        | (at_builtin; refine wpList_row_append rfl _ _ rfl w.heap.size g k c _ rfl hrow1 _ rfl (by omega) hbel1.size (k + 1) rfl ?_; clear hrow1; intro g' c'' w2 hrow2 hg2))
      go_roundw
      case rel => exact ⟨k + 1, g', c'', by omega, by go_num, rfl, by rw [ht.out]; exact hrow2, (below_al hbel1 _).grown hg2 (below_al hbel1 _).size (fun _ h => by cases h; exact hgB)⟩
      case measure => simp [intOf]; omega
    · obtain rfl : k = n := by omega
      rw [List.take_of_length_le (by have := HN.out; omega)] at hrow
      have hlen : (toksS l).length = k := by have := HN.out; simp [toksS]; omega
      have hcc : ∀ (j : Nat) x, (toksS l)[j]? = some x → wr.cell? ⟨g, 0 + j, none⟩ = some (.string x) := fun j x hx => by
        obtain ⟨hj, rfl⟩ := List.getElem?_eq_some_iff.1 hx
        rw [Nat.zero_add]; exact hrow.cell hj
      have hgl := (hrow.lt rfl).2
      have hcp := hrow.cap.2
      have hJ := Tryd.strings_Join g 0 c (toksS l) ⟨#[32]⟩ wr hcc hgl (by omega) (by omega) HJ.out
      rw [hlen] at hJ
      clear hcc hlen hgl hrow
      go_wp2_with (go_at_call 16; refine hJ.mono ?_; rintro e w1 ⟨rfl, hb1⟩)
      go_ret
      exact ⟨rfl, below_step hbel hb1⟩
end Go.Proofs.YthediljoioahpaaDoor
