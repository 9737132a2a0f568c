/- CHAPTER 9, impl: CountSchema. -/
import Derived.Test.YtlgooejoohcmfaaWkW
import Derived.Test.YtlgooejoohcmfaaScAb
import Derived.Test.YtlgooejoohcmfaaScC
set_option linter.unusedVariables false
set_option linter.unusedSimpArgs false
namespace Go.Proofs.Ytlgooejoohcmfaa
open Go.RowKit Go.Shelf
attribute [local go_sem] Oper.semAt_some
set_option maxRecDepth 100000

/-- the two ways to count -/
theorem cnt_size : ∀ (d : Nat) (l : List Sc), DeepT d l → cntS d l = (sizeS l : Int)
  | 0, l, h => by rw [show l = [] from h]; rfl
  | d + 1, l, h => by
    show (l.length : Int) + sumI (fun t => cntS d t.kids) l = _
    have key : ∀ m : List Sc, (∀ t ∈ m, DeepT d t.kids) → (m.length : Int) + sumI (fun t => cntS d t.kids) m = (sizeS m : Int) := by
      intro m
      induction m with
      | nil => intro _; rfl
      | cons x m ih =>
        intro hm
        have h1 := ih (fun t ht => hm t (List.mem_cons_of_mem _ ht))
        have h2 := cnt_size d x.kids (hm x (by simp))
        have h3 := sizeN_eq x
        simp only [sumI, sizeS, List.length_cons]
        omega
    exact key l h
theorem kidsOf_in (F : Fence) (n : Nat) (hF : F.fn 27) (hro : F.round = none) (a : Addr) (r : ScR) (W : World) (h : Nl W a r) :
    CallsIn F n Try.prog 27 #[.pointer (some a)] W fun e w' => e = .returned r.kv ∧ w' = W := by
  have hc : W.cell? ⟨a.block, a.off + 18, none⟩ = some r.kv := h 18 _ rfl
  refine callsIn_of_wp Try.func27 rfl hF ?_ hro
  simp only [Try.ntmps27, List.size_toArray, List.length_cons, List.length_nil, Nat.reduceAdd, Nat.reduceSub, Array.replicate_succ, Array.replicate_zero, List.push_toArray, List.append_toArray, List.nil_append, List.cons_append]
  gi_wp2
  go_ret
  exact ⟨rfl, rfl⟩
theorem walk_in (F : Fence) (n : Nat) (hF : F.fn 26) (hro : F.round = none) (A : Option Addr) (len cap kf : Nat) (w : World) :
    CallsIn F n Try.prog 26 #[.slice A len cap, .func (.func kf) #[] #[]] w fun e w' => e = .returned (.func (.func 49) #[] #[.pointer (some ⟨w.heap.size, 0, none⟩), .pointer (some ⟨w.heap.size + 1, 0, none⟩)]) ∧ w' = (w.alloc (.cells #[.slice A len cap] 25)).alloc (.cells #[.func (.func kf) #[] #[]] 57) := by
  refine callsIn_of_wp Try.func26 rfl hF ?_ hro
  simp only [Try.ntmps26, List.size_toArray, List.length_cons, List.length_nil, Nat.reduceAdd, Nat.reduceSub, Array.replicate_succ, Array.replicate_zero, List.push_toArray, List.append_toArray, List.nil_append, List.cons_append]
  gi_wp2
  go_ret
  exact ⟨rfl, rfl⟩
/-- an item of the stack whose lists are owned, all of whose kids are told -/
def KidsC (d B : Nat) (w0 : World) (p : ItS) (ks : List ItS) : Prop :=
  ∃ r : ScR, Nl w0 p.a r ∧ KidsV w0.heap.size w0 r.kv ks ∧ (∀ i ∈ ks, i.op = false ∧ MemI scK d B w0 i) ∧ ks.map (·.t) = p.t.kids ∧ ∀ rest, WInv (p :: rest) → WInv (ks ++ p.open :: rest)
/-- an owned list as items -/
theorem items_of {d B : Nat} {w0 : World} {p : ItS} {v : Value} {l : List Sc} {S2 : Nat → Prop} (h : OwL scK d B w0 v l S2) (hS : ∀ b, S2 b → p.S b) (hp : p.op = false) :
    ∃ ks : List ItS, KidsV w0.heap.size w0 v ks ∧ (∀ i ∈ ks, i.op = false ∧ MemI scK d B w0 i) ∧ ks.map (·.t) = l ∧ (∀ rest, WInv (p :: rest) → WInv (ks ++ p.open :: rest)) ∧ WInv ks := by
  rcases kids_items (by show 0 < 19; omega) h hS with ⟨rfl, rfl⟩ | ⟨g, cap, ks, rfl, h1, h2, h3, h4, h5, h6, h7, h8⟩
  · exact ⟨[], ⟨none, 0, rfl, fun j hj => absurd hj (by simp)⟩, (fun i hi => by cases hi), rfl, fun rest hw => hw.opened, ⟨List.Pairwise.nil, (fun i hi => by cases hi), List.Pairwise.nil⟩⟩
  · have hk := h7 h8
    have hcl := hk.cl
    refine ⟨ks, ⟨some ⟨g, 0, none⟩, cap, by rw [h4], fun j hj => ?_⟩, fun i hi => ⟨hcl i hi, h6 i hi⟩, h3, fun rest hw => KidsOf.grow hw hp hk, ⟨hk.nd, fun i hi ho j hj hs => ?_, hk.ap.imp fun h _ _ => h⟩⟩
    · obtain ⟨hb, hr⟩ := h6 _ (List.getElem_mem hj)
      obtain ⟨r, h9, _⟩ := hr (hcl _ (List.getElem_mem hj))
      exact ⟨⟨g, 0, none⟩, r, rfl, h2, by rw [h5 j hj, addr_at, Nat.zero_add]; rfl, h9, hb⟩
    · rw [hk.bl j hj] at hs
      exact (hk.sub i hi _ hs).2 rfl
theorem kidsC_ex {d B : Nat} {w0 : World} {p : ItS} (h : MemI scK d B w0 p) (hp : p.op = false) : ∃ ks, KidsC d B w0 p ks ∧ ∀ i ∈ ks, MemI scK d B w0 i := by
  obtain ⟨r, h1, S1, S2, h2, h3, h4, h5⟩ := h.2 hp
  obtain ⟨ks, k1, k2, k3, k4, _⟩ := items_of h3 (fun b hb => (h5 b).2 (.inr hb)) hp
  exact ⟨ks, ⟨r, h1, k1, k2, k3, k4⟩, fun i hi => (k2 i hi).2⟩
theorem kidsC_ok {d B : Nat} {w0 : World} : KidsOk (KidsC d B w0) := fun p ks ⟨r, _, _, h3, h4, _⟩ => ⟨fun i hi => (h3 i hi).1, .inr h4⟩
theorem sum_sizeN (m : List ItS) : (m.map fun i => sizeN i.t).sum = sizeS (m.map (·.t)) := by
  induction m with
  | nil => rfl
  | cons x m ih => simp only [List.map_cons, List.sum_cons, sizeS, ih]
/-- how many of the first i visits are first ones -/
def cntV (L : List (ItS × Bool)) (i : Nat) : Nat := ((L.take i).filter (·.2)).length
theorem cntV_step (L : List (ItS × Bool)) (i : Nat) (hi : i < L.length) : cntV L (i + 1) = cntV L i + (if L[i].2 = true then 1 else 0) := by
  unfold cntV
  rw [List.take_add_one, List.getElem?_eq_getElem hi, List.filter_append, List.length_append]
  congr 1
  cases h : L[i].2 <;> simp [h]
theorem cntV_le (L : List (ItS × Bool)) (i : Nat) : cntV L i ≤ (L.filter (·.2)).length := by
  unfold cntV
  exact ((List.take_sublist i L).filter _).length_le
/-- a visit, by its number -/
def visAt (L : List (ItS × Bool)) (i : Nat) : Addr × Bool := ((L.map fun x => (x.1.a, x.2))[i]?).getD (⟨0, 0, none⟩, false)
theorem visAt_eq (L : List (ItS × Bool)) (i : Nat) (hi : i < L.length) : visAt L i = (L[i].1.a, L[i].2) := by
  unfold visAt; simp [hi]
set_option maxHeartbeats 4000000 in
theorem iCnt_any (d B : Nat) (v : Value) (l : List Sc) (w : World) (S : Nat → Prop) (hv : OwL scK d B w v l S) (hsz : sizeS l ≤ 549755813888) :
    Calls Try.prog 9 #[v] w fun e w' => e = .returned (.int .i64 (sizeS l)) ∧ Below w.heap.size w w' := by
  obtain ⟨ks, k1, k2, k3, k4, k5⟩ := items_of (p := ⟨⟨0, 0, none⟩, .mk ⟨0, ⟨#[]⟩, ⟨0, [], [], ⟨#[]⟩, ⟨#[]⟩⟩, [], [], ⟨#[]⟩, false, false, false, false, 0, 0, [], []⟩ l, fun _ => True, false⟩) hv (fun _ _ => trivial) rfl
  have hcl : ∀ i ∈ ks, i.op = false := fun i hi => (k2 i hi).1
  have hwt : weight ks ≤ 1099511627776 := by rw [weight_kids ks hcl, k3]; omega
  obtain ⟨L, hL⟩ := Tells.exists (kids := KidsC d B w) kidsC_ok (fun p => MemI scK d B w p) (fun p hp ho => kidsC_ex hp ho) (fun p hp => hp.open) (weight ks) ks (Nat.le_refl _) (fun i hi => (k2 i hi).2)
  have hcount : (L.filter (·.2)).length = sizeS l := by
    have h1 := hL.count sizeN (fun p ks h => by
      obtain ⟨r, _, _, _, h4, _⟩ := h
      rw [sizeN_eq, ← h4, sum_sizeN]) kidsC_ok
    rw [h1, ← k3, ← sum_sizeN]
    congr 1
    exact List.map_congr_left fun i hi => by rw [hcl i hi]; simp
  obtain ⟨A, cap, rfl, hR⟩ := id k1
  refine (callsIn_wide (n := 8)).1 ?_
  refine callsIn_of_wp_marks Try.func9 rfl trivial ?_ rfl
  simp only [Try.ntmps9, List.size_toArray, List.length_cons, List.length_nil, Nat.reduceAdd, Nat.reduceSub, Array.replicate_succ, Array.replicate_zero, List.push_toArray, List.append_toArray, List.nil_append, List.cons_append]
  have HK1 := Lib.hid k1
  have HK2 := Lib.hid k2
  have HK5 := Lib.hid k5
  have HWT := Lib.hid hwt
  have HL := Lib.hid hL
  have HCT := Lib.hid hcount
  have HCL := Lib.hid hcl
  have HSZ := Lib.hid hsz
  clear k1 k2 k3 k4 k5 hwt hL hcount hcl hR hv hsz
  gi_wp2_with fail
  refine ⟨trivial, (walk_in Fence.wide _ trivial rfl _ _ _ _ _).mono ?_⟩
  rintro e w' ⟨rfl, rfl⟩
  gi_wp2
  obtain ⟨W0, hW0⟩ : ∃ W0, W0 = ((w.alloc (.cells #[.int .i64 0] 3)).alloc (.cells #[.slice A ks.length cap] 25)).alloc (.cells #[.func (.func 27) #[] #[]] 57) := ⟨_, rfl⟩
  have hz0 : W0.heap.size = w.heap.size + 3 := by rw [hW0]; simp
  have hb0 : Below w.heap.size w W0 := by rw [hW0]; exact ((Below.refl _ w).alloc (Nat.le_refl _) _ |>.alloc (by simp) _).alloc (by simp; omega) _
  have hbc : Boxed W0 w.heap.size 3 (.int .i64 0) := by rw [hW0]; exact ((Boxed.new w _ _).alloc _).alloc _
  have hbl : Boxed W0 (w.heap.size + 1) 25 (.slice A ks.length cap) := by
    have := Boxed.new (w.alloc (.cells #[.int .i64 0] 3)) 25 (.slice A ks.length cap)
    rw [World.size_alloc] at this
    rw [hW0]; exact this.alloc _
  have hbk : Boxed W0 (w.heap.size + 1 + 1) 57 (.func (.func 27) #[] #[]) := by
    have := Boxed.new ((w.alloc (.cells #[.int .i64 0] 3)).alloc (.cells #[.slice A ks.length cap] 25)) 57 (.func (.func 27) #[] #[])
    rw [World.size_alloc, World.size_alloc] at this
    rw [hW0]; exact this
  rw [← hW0]
  clear hW0
  have hseq := walk1_seq Fence.wide 7 trivial trivial trivial trivial rfl (by omega) 27 trivial (enters_of Try.func27 (by kernel_rfl) rfl) W0 w w.heap.size (w.heap.size + 1) (w.heap.size + 1 + 1) (.slice A ks.length cap) ks (KidsC d B w) L
    (by omega) (fun b hb => hb0.block b hb) hbl hbk HK1.out HK5.out (fun i hi => ⟨HCL.out i hi, (HK2.out i hi).2.lt, (HK2.out i hi).2.1⟩) kidsC_ok
    (fun p ks' rest h _ hw => by obtain ⟨r, _, _, _, _, h5⟩ := h; exact h5 rest hw) (fun p ks' h i hi => by obtain ⟨r, _, _, h3, _⟩ := h; exact ⟨(h3 i hi).2.lt, (h3 i hi).2.1⟩)
    (fun p ks' h _ W hW _ => by
      obtain ⟨r, h1, h2, _⟩ := h
      have hlt : p.a.block < w.heap.size := by have := lt_of_cell (h1 18 _ rfl); rwa [addr_blk] at this
      refine (kidsOf_in Fence.wide _ trivial rfl p.a r W (h1.at (hW _ hlt))).mono ?_
      rintro e w' ⟨rfl, rfl⟩
      exact ⟨_, rfl, rfl, h2⟩) HL.out HWT.out
  refine wpIn_rangeFunc_ownM (n := 8) rfl (by omega) (gf := 49) (lb := #[.pointer (some ⟨w.heap.size + 1, 0, none⟩), .pointer (some ⟨w.heap.size + 1 + 1, 0, none⟩)]) rfl trivial (enters_of Try.func49 (by kernel_rfl) rfl)
    hseq (fun b hb => by omega) (Below.refl _ _) ?sizes
    (fun i M W => (∀ b, M b ↔ b = w.heap.size) ∧ Boxed W w.heap.size 3 (.int .i64 (cntV L i)) ∧ Below w.heap.size w W) (fun _ _ _ _ => False) ?stab (fun _ _ _ _ _ _ h _ _ _ => h)
    (fun b => b = w.heap.size) (fun b hb => ⟨by omega, fun h => by omega⟩) ⟨fun b => Iff.rfl, hbc, hb0⟩
    (fun i => { tmps := #[.slice A ks.length cap, undef, .int .i64 0, .pointer (some ⟨w.heap.size, 0, none⟩), undef, .bool (visAt L i).2, .slice A ks.length cap, .func (.func 49) #[] #[.pointer (some ⟨w.heap.size + 1, 0, none⟩), .pointer (some ⟨w.heap.size + 1 + 1, 0, none⟩)], .pointer (some (visAt L i).1), .bool (visAt L i).2, undef, undef, undef, undef], defers := [] }) ?assign ?body ?done ?stop
  case stop => intro D c i M W _ _ h _; exact h.elim
  case sizes =>
    intro x hx
    obtain ⟨j, _, rfl⟩ := List.mem_map.1 hx
    rfl
  case stab =>
    rintro i M K X Y ⟨hM, hc, hb⟩ hlt ht hK
    exact ⟨hM, (ht.block _ hc.lt (fun h => (hK _ h).2 ((hM _).2 rfl))).trans hc, hb.trans (ht.below (by have := hb.size; omega) (fun b h => by have := (hK b h).1; omega))⟩
  case assign =>
    intro l' i hi W K hK
    have hi' : i < L.length := by simpa using hi
    rw [List.getElem_map]
    rw [visAt_eq L i hi'] at hK
    unfold encV
    gi_wp2
    exact hK
  case body =>
    rintro l' i hi M W ⟨hM, hc, hb⟩ hMlt hsz
    have hi' : i < L.length := by simpa using hi
    have hst := cntV_step L i hi'
    rw [visAt_eq L i hi']
    have hle := cntV_le L (i + 1)
    have hc0 := hc.cell
    have hf0 := hc.frozen
    have HM := Lib.hid hM
    have HC := Lib.hid hc
    have HB := Lib.hid hb
    have hbnd0 : cntV L i ≤ sizeS l := by rw [← HCT.out]; exact cntV_le L i
    have hbnd : (cntV L i : Int) ≤ 549755813888 := by have := HSZ.out; omega
    clear hbnd0 hle
    generalize L[i] = x at hst ⊢
    obtain ⟨px, bx⟩ := x
    obtain ⟨y, hy⟩ : ∃ y, y = cntV L i := ⟨_, rfl⟩
    have HY := Lib.hid hy
    rw [← hy] at hc0 hbnd hst HC
    clear hy hc hb hM
    cases bx
    · gi_wp2
      exact ⟨M, StepM.refl hMlt, HM.out, by rw [show cntV L (i + 1) = y by simpa using hst]; exact HC.out, HB.out⟩
    · have HST := Lib.hid hst
      clear hst
      gi_wp2
      refine ⟨M, ⟨grown_turns (grownBy_setCell' W w.heap.size _) (fun b e => by cases e; exact (HM.out _).2 rfl), fun b h => .inl h, fun b h => Nat.lt_of_lt_of_le (hMlt b h) (grownBy_setCell' W w.heap.size _).size⟩, HM.out, ?_, HB.out.setCell (p := ⟨w.heap.size, 0, none⟩) (Nat.le_refl _) _⟩
      have := HC.out.set (.int .i64 ((y : Int) + 1))
      rw [show (cntV L (i + 1) : Int) = (y : Int) + 1 by have := HST.out; simp at this; omega]
      exact this
  case done =>
    rintro D M W hD hnM ⟨hM, hc, hb⟩ hK
    have hc0 := hc.cell
    have HB := Lib.hid hb
    have HLE : Hid (cntV L (L.map encV).length = sizeS l) := Lib.hid (by
      rw [← HCT.out]; unfold cntV; rw [List.take_of_length_le (by simp)])
    obtain ⟨y, hy⟩ : ∃ y, y = cntV L (L.map encV).length := ⟨_, rfl⟩
    have HY := Lib.hid hy
    rw [← hy] at hc0
    clear hy hc hM hb
    gi_wp2
    refine ⟨by simp, .inl ⟨_, _, rfl, run_takeDeferred hK, ?_⟩⟩
    refine ⟨_, results_tmp rfl _ _ _, ?_, HB.out.trans (belowK_b (w := W0) (by omega) W D _ _ hD hK rfl rfl)⟩
    show Ending.returned (.int .i64 (y : Int)) = _
    rw [HY.out, HLE.out]
end Go.Proofs.Ytlgooejoohcmfaa
