/- CHAPTER 8: the paths of an expression; lists of paths that grow. -/
import Derived.Test.YtdkpleghpnflhaaPtsF
import Derived.Test.YtdkpleghpnflhaaCpyC
import Derived.Test.YtdkpleghpnflhaaExA
set_option linter.unusedVariables false
set_option linter.unusedSimpArgs false
namespace Go.Proofs.Ytdkpleghpnflhaa
open Go.RowKit NumP

/-- the paths of an expression, as they stand -/
def hdE (x : ExX) : List Pth := if x.op = 3 ∨ x.op = 4 then [x.p] else []
mutual
def ptsN : Ex → List Pth
  | .mk x l => hdE x ++ ptsL l
def ptsL : List Ex → List Pth
  | [] => []
  | t :: l => ptsN t ++ ptsL l
end
theorem ptsN_eq (t : Ex) : ptsN t = hdE t.x ++ ptsL t.kids := by cases t; simp [ptsN, Tr.x, Tr.kids]
theorem ptsL_snoc : ∀ (l : List Ex) (t : Ex), ptsL (l ++ [t]) = ptsL l ++ ptsN t
  | [], t => by simp [ptsL]
  | x :: l, t => by simp only [List.cons_append, ptsL]; rw [ptsL_snoc l t, List.append_assoc]
theorem ptsL_step {l : List Ex} {k : Nat} (hk : k < l.length) : ptsL (l.take (k + 1)) = ptsL (l.take k) ++ ptsN l[k] := by rw [take_next hk, ptsL_snoc]
mutual
theorem ptsN_len : ∀ t : Ex, (ptsN t).length ≤ sizeN t
  | .mk x l => by
    have := ptsL_len l
    have h : (hdE x).length ≤ 1 := by unfold hdE; split <;> simp
    simp only [ptsN, sizeN, List.length_append]; omega
theorem ptsL_len : ∀ l : List Ex, (ptsL l).length ≤ sizeS l
  | [] => by simp [ptsL]
  | t :: l => by
    have := ptsN_len t
    have := ptsL_len l
    simp only [ptsL, sizeS, List.length_append]; omega
end
theorem sizeS_take {α : Type} : ∀ (l : List (Tr α)) (k : Nat), sizeS (l.take k) ≤ sizeS l
  | [], k => by simp
  | t :: l, 0 => by simp [sizeS]
  | t :: l, k + 1 => by have := sizeS_take l k; simp only [List.take_succ_cons, sizeS]; omega
theorem sizeN_mem {α : Type} : ∀ (l : List (Tr α)) (t : Tr α), t ∈ l → sizeN t ≤ sizeS l
  | [], t, h => by cases h
  | x :: l, t, h => by
    rcases List.mem_cons.1 h with rfl | h
    · simp only [sizeS]; omega
    · have := sizeN_mem l t h; simp only [sizeS]; omega
/-- expressions as they are read, no slice in a path without an array but with room -/
def exN : Kd ExX := { exK with
  rd := fun w r x => exK.rd w r x ∧ HasSN w r.sv x.p.st
  rd_below := fun h hb => ⟨exK.rd_below h.1 hb, h.2.below hb⟩
  own_rd := fun h => ⟨exK.own_rd h, OwnS.hasN h.2.st⟩ }
theorem rdN_of : ∀ {d B : Nat} {w : World} {v : Value} {l : List Ex} {S : Nat → Prop}, OwL exK d B w v l S → RdL exN d w v l
  | 0, _, _, _, _, _, ⟨h1, h2, _⟩ => ⟨h1, h2.has exK.hz⟩
  | _ + 1, _, _, _, _, _, ⟨R, _, h1, h2, h3, _⟩ => ⟨R, h1.has exK.hz, h2, fun i h h' => by
      obtain ⟨S1, S2, a, b, _⟩ := h3 i h h'
      exact ⟨⟨exK.own_rd a, OwnS.hasN a.2.st⟩, rdN_of b⟩⟩
theorem rdNN_of {d B : Nat} {w : World} {r : ExR} {t : Ex} {S : Nat → Prop} (h : OwN exK d B w r t S) : RdN exN d w r t := by
  obtain ⟨S1, S2, a, b, _⟩ := h
  exact ⟨⟨exK.own_rd a, OwnS.hasN a.2.st⟩, rdN_of b⟩
theorem exN_at {d : Nat} {w : World} {v : Value} {l : List Ex} (h : RdL exN d w v l) : ∃ (A : Option Addr) (cap : Nat), v = .slice A l.length cap ∧ l.length ≤ 9223372036854775807 ∧
    ∀ i (hi : i < l.length), ∃ (a : Addr) (r : ExR) (d' : Nat), A = some a ∧ d = d' + 1 ∧ (a.add (i * 7)).block < w.heap.size ∧ Ek w (a.add (i * 7)) r ∧ RdN exN d' w r l[i] := by
  cases d with
  | zero =>
    obtain ⟨rfl, A, cap, hv, hn, _⟩ := h
    exact ⟨A, cap, hv, hn, fun i hi => absurd hi (Nat.not_lt_zero i)⟩
  | succ d =>
    obtain ⟨R, ⟨A, cap, hv, hn, hc⟩, hRl, hRk⟩ := h
    refine ⟨A, cap, by rw [← hRl]; exact hv, by rw [← hRl]; exact hn, fun i hi => ?_⟩
    have h1 : i < R.length := by rw [hRl]; exact hi
    obtain ⟨a, e1, e2, e3⟩ := HasE.ek hc i h1
    exact ⟨a, R[i], d, e1, rfl, e2, e3, hRk i h1 hi⟩
/-- a new empty list of paths -/
theorem ownQ_new (B : Nat) (w : World) (hB : B ≤ w.heap.size) (K : Nat → Nat → Prop) : OwnQ B (w.alloc (.cells #[] 109)) (.slice (some ⟨w.heap.size, 0, none⟩) 0 0) [] [] K :=
  ⟨rowR_empty (heap_alloc_new w _) hB, rfl, fun i h => absurd h (Nat.not_lt_zero i), fun i j b h => absurd h (Nat.not_lt_zero i), fun i b h => absurd h (Nat.not_lt_zero i)⟩
theorem OwnP7.frame {B : Nat} {w w' : World} {v : PthV} {p : Pth} {S : Nat → Prop} (h : OwnP7 B w v p S) (hf : ∀ b, S b → w'.heap[b]? = w.heap[b]?) : OwnP7 B w' v p S := ⟨h.root, h.ups, OwL.frame h.st hf⟩
theorem OwnP7.mono {B B' : Nat} {w : World} {v : PthV} {p : Pth} {S : Nat → Prop} (h : OwnP7 B w v p S) (hb : B' ≤ B) : OwnP7 B' w v p S := ⟨h.root, h.ups, OwL.mono h.st hb⟩
theorem OwnQ.frame {B : Nat} {w w' : World} {v : Value} {R : List PthV} {l : List Pth} {K : Nat → Nat → Prop} (h : OwnQ B w v R l K) (hf : ∀ b, OwnQ.S v R K b → w'.heap[b]? = w.heap[b]?) : OwnQ B w' v R l K :=
  ⟨rowR_frame h.row fun b hb => hf b (.inl hb), h.len, fun i a b => (h.ps i a b).frame fun q hq => hf q (.inr ⟨i, a, hq⟩), h.dis, h.nv⟩
theorem OwnQ.mono {B B' : Nat} {w : World} {v : Value} {R : List PthV} {l : List Pth} {K : Nat → Nat → Prop} (h : OwnQ B w v R l K) (hb : B' ≤ B) : OwnQ B' w v R l K :=
  ⟨RowR.mono h.row hb, h.len, fun i a b => (h.ps i a b).mono hb, h.dis, h.nv⟩
/-- the list with some more paths behind -/
theorem OwnQ.join {B : Nat} {w w' : World} {v v' : Value} {R R2 : List PthV} {l l2 : List Pth} {K K2 : Nat → Nat → Prop} (h : OwnQ B w v R l K) (hlen : R2.length = l2.length)
    (hps : ∀ i (h : i < R2.length) (h' : i < l2.length), OwnP7 B w R2[i] l2[i] (K2 i)) (hdis : ∀ i j b, i < R2.length → j < R2.length → K2 i b → K2 j b → i = j)
    (hd : ∀ i b, i < R2.length → K2 i b → ¬ OwnQ.S v R K b) (hrow : RowQ B w' v' (R ++ R2)) (hg : w.grownBy w' v.ownBlock) (hv : v'.ownBlock = v.ownBlock ∨ v'.ownBlock = some w.heap.size) :
    OwnQ B w' v' (R ++ R2) (l ++ l2) (fun i b => if i < R.length then K i b else K2 (i - R.length) b) := by
  have hK2 : ∀ i b, i < R2.length → K2 i b → b < w.heap.size := fun i b hi hb => (OwL.lt (hps i hi (by rw [← hlen]; exact hi)).st b hb).2
  refine ⟨hrow, by rw [List.length_append, List.length_append, h.len, hlen], fun i hi hi' => ?_, fun i j b hi hj hki hkj => ?_, fun i b hi hk => ?_⟩
  · by_cases hlt : i < R.length
    · rw [List.getElem_append_left hlt, List.getElem_append_left (by rw [← h.len]; exact hlt)]
      simp only [hlt, if_true]
      exact (h.ps i hlt (by rw [← h.len]; exact hlt)).frame fun b hb => hg.block b (h.lt (.inr ⟨i, hlt, hb⟩)).2 fun e => h.nv i b hlt hb e.symm
    · have h1 : i - R.length < R2.length := by rw [List.length_append] at hi; omega
      have e1 : i - l.length = i - R.length := by rw [h.len]
      rw [List.getElem_append_right (by omega), List.getElem_append_right (by rw [← h.len]; omega)]
      simp only [hlt, if_false, e1]
      exact (hps _ h1 (by rw [← hlen]; exact h1)).frame fun b hb => hg.block b (hK2 _ b h1 hb) fun e => hd _ b h1 hb (.inl e.symm)
  · rw [List.length_append] at hi hj
    by_cases h1 : i < R.length
    · by_cases h2 : j < R.length
      · simp only [h1, h2, if_true] at hki hkj; exact h.dis i j b h1 h2 hki hkj
      · simp only [h1, h2, if_true, if_false] at hki hkj
        exact absurd (.inr ⟨i, h1, hki⟩) (hd _ b (by omega) hkj)
    · by_cases h2 : j < R.length
      · simp only [h1, h2, if_true, if_false] at hki hkj
        exact absurd (.inr ⟨j, h2, hkj⟩) (hd _ b (by omega) hki)
      · simp only [h1, h2, if_false] at hki hkj
        have := hdis _ _ b (by omega) (by omega) hki hkj
        omega
  · rw [List.length_append] at hi
    intro e
    by_cases h1 : i < R.length
    · simp only [h1, if_true] at hk
      rcases hv with h2 | h2
      · exact h.nv i b h1 hk (h2.symm.trans e)
      · have h3 := (h.lt (.inr ⟨i, h1, hk⟩)).2
        rw [h2] at e; cases e; omega
    · simp only [h1, if_false] at hk
      rcases hv with h2 | h2
      · exact hd _ b (by omega) hk (.inl (h2.symm.trans e))
      · have h3 := hK2 _ b (by omega) hk
        rw [h2] at e; cases e; omega
/-- with one path more -/
theorem OwnQ.snoc {B : Nat} {w w' : World} {v v' : Value} {R : List PthV} {l : List Pth} {K : Nat → Nat → Prop} {r : PthV} {p : Pth} {Sr : Nat → Prop} (h : OwnQ B w v R l K) (hp : OwnP7 B w r p Sr)
    (hd : ∀ b, Sr b → ¬ OwnQ.S v R K b) (hrow : RowQ B w' v' (R ++ [r])) (hg : w.grownBy w' v.ownBlock) (hv : v'.ownBlock = v.ownBlock ∨ v'.ownBlock = some w.heap.size) :
    OwnQ B w' v' (R ++ [r]) (l ++ [p]) (fun i b => if i < R.length then K i b else Sr b) :=
  h.join (R2 := [r]) (l2 := [p]) (K2 := fun _ => Sr) rfl (fun i h1 h2 => by
    obtain rfl : i = 0 := by simp at h1; omega
    exact hp) (fun i j b h1 h2 _ _ => by simp at h1 h2; omega) (fun i b _ hb => hd b hb) hrow hg hv
theorem pthV_one {B : Nat} {w : World} {v : PthV} {p : Pth} {S : Nat → Prop} (h : OwnP7 B w v p S) : ∀ u ∈ PthV.enc v, u.oneCell' = true := fun u hu => by
  obtain ⟨A, c, hv, _⟩ := h.has.st.at
  simp [PthV.enc] at hu
  rcases hu with rfl | rfl | rfl
  · rfl
  · rfl
  · rw [hv]; rfl
theorem infoPth : (Try.prog.info? 109).map (fun i => (i.zero, i.size, i.bytes)) = some (some (.agg #[.bool false, .int .i64 0, .slice none 0 0]), 3, 40) := by kernel_rfl
end Go.Proofs.Ytdkpleghpnflhaa
