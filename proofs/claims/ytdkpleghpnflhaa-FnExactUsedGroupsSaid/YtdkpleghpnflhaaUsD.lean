/- MERGED for a claim: UsC UsD. -/
import Derived.Test.YtdkpleghpnflhaaRgZ
import Derived.Test.YtdkpleghpnflhaaWkC
import Derived.Test.YtdkpleghpnflhaaExA
set_option linter.unusedVariables false
set_option linter.unusedSimpArgs false
/- CHAPTER 11, impl: UsedGroups. PRINTED by tools/gen_us.py. -/
namespace Go.Proofs.Ytdkpleghpnflhaa
open Go.RowKit Go.Shelf
attribute [local go_sem] Oper.semAt_some
set_option maxRecDepth 100000

/-- what is told at the visits, and of whom -/
theorem tells_good {α : Type} {kids : It α → List (It α) → Prop} (G : It α → Prop) (hG : ∀ p ks, kids p ks → ∀ i ∈ ks, G i) (hO : ∀ p, G p → G p.open) {st : List (It α)} {L : List (It α × Bool)} (h : Tells kids st L) : (∀ i ∈ st, G i) → ∀ v ∈ L, G v.1 ∧ (v.2 = true → v.1.op = false) := by
  induction h with
  | nil => intro _ v hv; cases hv
  | @close p rest L hp _ ih =>
    intro hs v hv
    rcases List.mem_cons.1 hv with rfl | hv
    · exact ⟨hs p (by simp), fun e => by cases e⟩
    · exact ih (fun i hi => hs i (List.mem_cons_of_mem _ hi)) v hv
  | @op p rest ks L hp hks _ ih =>
    intro hs v hv
    rcases List.mem_cons.1 hv with rfl | hv
    · exact ⟨hs p (by simp), fun _ => hp⟩
    · refine ih (fun i hi => ?_) v hv
      rcases List.mem_append.1 hi with hi | hi
      · exact hG p ks hks i hi
      · rcases List.mem_cons.1 hi with rfl | hi
        · exact hO p (hs p (by simp))
        · exact hs i (List.mem_cons_of_mem _ hi)
/-- what has been gathered at the first i visits -/
def gatU (L : List (ItS × Bool)) (i : Nat) : List ByteArray := (L.take i).flatMap fun v => if v.2 = true then hdU v.1.t.x else []
theorem gatU_step (L : List (ItS × Bool)) (i : Nat) (hi : i < L.length) : gatU L (i + 1) = gatU L i ++ (if L[i].2 = true then hdU L[i].1.t.x else []) := by
  unfold gatU
  rw [List.take_succ_eq_append_getElem hi, List.flatMap_append, List.flatMap_singleton]
theorem gatU_le (L : List (ItS × Bool)) (i : Nat) : (gatU L i).length ≤ (gatU L L.length).length := by
  unfold gatU
  rw [List.take_of_length_le (Nat.le_refl L.length)]
  generalize (fun v : ItS × Bool => if v.2 = true then hdU v.1.t.x else []) = f
  have h := congrArg (fun l => (l.flatMap f).length) (List.take_append_drop i L)
  simp only [List.flatMap_append, List.length_append] at h
  omega
theorem usL_items : ∀ ks : List ItS, usL (ks.map (·.t)) = ks.flatMap fun i => usN i.t
  | [] => rfl
  | i :: ks => by rw [List.map_cons, usL, usL_items ks, List.flatMap_cons]
set_option maxHeartbeats 1000000 in
theorem wpIn_rangeFunc_ownC {F : Fence} {n : Nat} {P : Program} {g : Operand} {ps : Array Tmp} {assign body : Code} {Q : Exit → Act → World → Prop} {a : Act} {w : World} (f : Nat → Array Value → Array Value)
    (hro : F.round = none) (h1 : 1 ≤ n) {gf : Nat} {lb : Array Value} (hg : a.eval g = .func (.func gf) #[] lb) (hFg : F.fn gf) (eg : ∀ args w, (callFunc gf args).run P w = .ok (.enter gf args) w)
    {L : List (Array Value)} {Z : Nat → Prop} {w0 : World} (hseq : SeqL F (n - 1) P gf lb L Z w0) (hZ : ∀ b, Z b → b < w.heap.size) (hb0 : Below w0.heap.size w0 w) (hps : ∀ x ∈ L, x.size = ps.size)
    (I : Nat → (Nat → Prop) → World → Prop) (Ix : Code → Nat → (Nat → Prop) → World → Prop) (hI : Abm w.heap.size I) (hIx : ∀ c, Abm w.heap.size (Ix c)) (M0 : Nat → Prop) (hM0' : ∀ b, M0 b → b < w.heap.size ∧ ¬ Z b) (h0 : I 0 M0 w)
    (hassign : ∀ (l i : Nat) (hi : i < L.length) (W : World) (K : Act → World → Prop), K { tmps := f i a.tmps, defers := [] } W →
      assign.wpIn (F.inRound l) (n - 1 - 1) P (Exit.then K (fun _ _ _ => False)) { tmps := (ps.zip L[i]).foldl (fun t (p, v) => t.setIfInBounds p v) a.tmps, defers := [] } W)
    (hbody : ∀ (l i : Nat) (hi : i < L.length) (M : Nat → Prop) (W : World), I i M W → (∀ b, M b → b < W.heap.size) → w.heap.size ≤ W.heap.size → body.wpIn (F.inRound l) (n - 1 - 1) P (postM I Ix (i + 1) M W) { tmps := f i a.tmps, defers := [] } W)
    (hdone : ∀ (D : Nat) (M : Nat → Prop) (W : World), w.heap.size ≤ D → ¬ M D → I L.length M W → W.heap[D]? = some (.deferred (some [])) → Q .normal { a with defers := { target := .collected D, args := #[] } :: a.defers } W)
    (hstop : ∀ (D : Nat) (c : Code) (i : Nat) (M : Nat → Prop) (W : World), w.heap.size ≤ D → ¬ M D → Ix c i M W → W.heap[D]? = some (.deferred (some [])) → c.wpIn F n P Q { a with defers := { target := .collected D, args := #[] } :: a.defers } W) :
    (Code.rangeFunc g ps assign body).wpIn F n P Q a w :=
  wpIn_rangeFunc_ownM hro h1 hg hFg eg hseq hZ hb0 hps I Ix hI hIx M0 hM0' h0 _ hassign hbody hdone hstop
/-- a drawn region without calls, in a round, walked in one order -/
def mildC (o : Oper) : Bool := mildB o.op || (match o.op with | .nilCheck _ => true | _ => false)
def allMildC (ops : Array Oper) : Bool := ops.toList.all mildC
theorem quiet_b {P : Program} {α : Type} (s : Sem α) (f : α → Sem Next) (w : World) (h : ∀ a w, quietR ((f a).run P w)) : quietR ((s >>= f).run P w) := by
  rw [Sem.run_bind]
  cases s.run P w with
  | ok a w' => exact h a w'
  | halt h w' => trivial
theorem quiet_rp {P : Program} (e : RuntimeError) (w : World) : quietR ((runtimePanic e : Sem Next).run P w) := by
  unfold runtimePanic
  refine quiet_b _ _ _ fun _ _ => ?_
  repeat' split
  all_goals first
    | trivial
    | exact quiet_b _ _ _ fun _ _ => trivial
theorem mildC_of {P : Program} {o : Oper} (h : mildC o = true) : Mild P o := by
  unfold mildC at h
  rw [Bool.or_eq_true] at h
  rcases h with h | h
  · exact mild_of h
  · obtain ⟨dst, op, ty, ps, af, gd⟩ := o
    cases op <;> simp at h
    refine ⟨fun w ρ => rfl, (fun c e => by cases e), fun ρ w => ?_⟩
    simp only [execOp]
    repeat' split
    all_goals (try first | trivial | exact quiet_rp _ _)
    all_goals (refine quiet_b _ _ _ fun _ _ => ?_; try refine quiet_b _ _ _ fun _ _ => ?_)
    all_goals (try split)
    all_goals first
      | trivial
      | exact quiet_b _ _ _ fun _ _ => trivial
theorem wpIn_region_Z {P : Program} {F : Fence} {n : Nat} {ops : Array Oper} {Q : Exit → Act → World → Prop} (S : World → Prop) (z : Nat) {id : Nat} {a : Act} {w : World} (hM : allMildC ops = true) (hL : ¬ LetsOut Q) (hm : P.follows .mixedOrders = true) (hS : S w.drew)
    (h : S w.drew → wpAnyZ P .any ops Q S z ops.size (Array.replicate ops.size false) a w.drew) : (Code.region id ops true).wpIn F n P Q a w :=
  wpIn_region_any hm (wpAnyIn_of_wpAny (fun i o ho => mildC_of (by
    unfold allMildC at hM
    rw [List.all_eq_true] at hM
    exact hM o (by rw [← Array.getElem?_toList] at ho; exact List.mem_of_getElem? ho))) hL _ _ _ _ (wpAny_ofZ _ _ _ _ (h hS)))
theorem step_rec_append1 {α : Type} {P : Program} {enc : α → List Value} {z bytes E L : Nat} {zero : Value} (hz : ∀ x, (enc x).length = z) (h0 : 0 < z) (hL : P.underlying L = some (.slice E))
    (hi : (P.info? E).map (fun i => (i.zero, i.size, i.bytes)) = some (some zero, z, bytes)) (hzs : zero.cells.size = z) (hby : bytes ≤ 1024)
    {w : World} {ops : Array Oper} {o : Oper} {a : Act} {K : Act → World → Prop} {Q : Exit → Act → World → Prop} {X : Prop} (hgd : o.guard = none) (s x : Operand)
    (ho : o.op = .call { callee := .builtin .append, args := #[s, x], argTypes := #[L, L] })
    (B n : Nat) (v : Value) (l : List α) (hs : a.eval s = v) (hrow : RowR enc z E B w v l) (hn : n = l.length)
    (y : α) (ad : Addr) (c' : Nat) (hx : a.eval x = .slice (some ad) 1 c') (hnews : ∀ j u, (enc y)[j]? = some u → w.cell? (ad.add j) = some u) (hone : ∀ u ∈ enc y, u.oneCell' = true)
    (hlen : n + 1 ≤ 4194304) (hbase : B ≤ w.heap.size)
    (h : ∀ v' w', RowR enc z E B w' v' (l ++ [y]) → w.grownBy w' v.ownBlock → (v'.ownBlock = v.ownBlock ∨ v'.ownBlock = some w.heap.size) → K (a.put o.dst v') w') :
    if Region.wanted o (yielded ops a.tmps) = true then Oper.wp P o a w K Q else X := by
  have hw : Region.wanted o (yielded ops a.tmps) = true := by simp [Region.wanted, hgd]
  rw [if_pos hw]
  obtain ⟨i0, hi, hz0, hz1, hz2⟩ := info_of hi
  subst hn
  obtain ⟨v', w', hr, h2, h3, h4, h5⟩ := run_append_own_at (P := P) w B L o.type E i0 zero z bytes hL hi hz0 hz1 hz2 hzs h0 v l.length (l.flatMap enc) hrow ad 1 c' (enc y) (by rw [hz]; omega) hnews hone (by unfold maxLen; omega) (Nat.le_trans (Nat.mul_le_mul hlen hby) (by omega)) hbase
  unfold Oper.wp execOp
  simp only [ho, resolve, invoke, builtin, Sem.run_bind, Sem.run_pure, Result.andThen_ok, List.map_toArray, List.map_cons, List.map_nil, hs, hx, hr]
  refine h v' w' ?_ h3 h5
  unfold RowR
  rw [List.length_append, List.flatMap_append, List.flatMap_singleton]
  exact h2
set_option maxHeartbeats 8000000 in
theorem iUs_any (d B : Nat) (mv : MoV) (v : Value) (l : List Sc) (w : World) (S : Nat → Prop) (hmf : MoForm mv) (hv : OwL scK d B w v l S) (hsz : sizeS l ≤ 1048576) :
    Calls Try.prog 9 #[mv.val, v] w fun e w' => ∃ v' : Value, e = .returned v' ∧ Row w.heap.size w' v' (usL l) ∧ Below w.heap.size w w' := by
  obtain ⟨ks, k1, k2, k3, k4, k5⟩ := items_of (p := ⟨⟨0, 0, none⟩, .mk ⟨0, ⟨#[]⟩, ⟨0, [], [], ⟨#[]⟩, ⟨#[]⟩⟩, [], [], ⟨#[]⟩, false, false, false, false, 0, 0, [], []⟩ l, fun _ => True, false⟩) hv (fun _ _ => trivial) rfl
  have hcl : ∀ i ∈ ks, i.op = false := fun i hi => (k2 i hi).1
  have hwt : weight ks ≤ 1099511627776 := by rw [weight_kids ks hcl, k3]; omega
  obtain ⟨L, hL⟩ := Tells.exists (kids := KidsC d B w) kidsC_ok (fun p => MemI scK d B w p) (fun p hp ho => kidsC_ex hp ho) (fun p hp => hp.open) (weight ks) ks (Nat.le_refl _) (fun i hi => (k2 i hi).2)
  have hgd := tells_good (fun p => MemI scK d B w p) (fun p ks h => by obtain ⟨r, _, _, h3, _⟩ := h; exact fun i hi => (h3 i hi).2) (fun p hp => hp.open) hL (fun i hi => (k2 i hi).2)
  have hlist : gatU L L.length = usL l := by
    unfold gatU
    rw [List.take_of_length_le (Nat.le_refl _), tells_list hdU usN (fun p ks h => by obtain ⟨r, _, _, _, h4, _⟩ := h; rw [usN_eq, ← h4, usL_items]) (fun p ks h => by obtain ⟨r, _, _, h3, _⟩ := h; exact fun i hi => (h3 i hi).1) hL, ← k3, usL_items]
    have : ∀ m : List ItS, (∀ i ∈ m, i.op = false) → (m.flatMap fun i => if i.op = true then [] else usN i.t) = m.flatMap fun i => usN i.t := fun m => by
      induction m with
      | nil => intro _; rfl
      | cons x m ihm => intro hm; rw [List.flatMap_cons, List.flatMap_cons, ihm fun i hi => hm i (List.mem_cons_of_mem _ hi), hm x (by simp)]; simp
    exact this ks hcl
  have hlen : ∀ i, (gatU L i).length ≤ 1048576 := fun i => by
    have h1 := gatU_le L i
    rw [hlist] at h1
    have := usL_len l
    omega
  obtain ⟨A, cap, rfl, hR⟩ := id k1
  obtain ⟨na, g1, g2, g3⟩ := mv
  obtain ⟨⟨A1, n1, c1, f1⟩, ⟨A2, n2, c2, f2⟩, ⟨A3, n3, c3, f3⟩⟩ := hmf
  dsimp only at f1 f2 f3
  subst f1 f2 f3
  refine (callsIn_wide (n := 8)).1 ?_
  refine callsIn_of_wp_marks Try.func9 rfl trivial ?_ rfl
  simp only [Try.ntmps9, List.size_toArray, List.length_cons, List.length_nil, Nat.reduceAdd, Nat.reduceSub, Array.replicate_succ, Array.replicate_zero, List.push_toArray, List.append_toArray, List.nil_append, List.cons_append]
  have HK1 := Lib.hid k1
  have HK2 := Lib.hid k2
  have HK5 := Lib.hid k5
  have HWT := Lib.hid hwt
  have HL := Lib.hid hL
  have HGD := Lib.hid hgd
  have HLI := Lib.hid hlist
  have HLE := Lib.hid hlen
  have HCL := Lib.hid hcl
  clear k1 k2 k3 k4 k5 hwt hL hgd hlist hlen hcl hR hv hsz
  gi_wp2_with fail
  refine ⟨trivial, (walk_in Fence.wide _ trivial rfl _ _ _ _ _).mono ?_⟩
  rintro e w' ⟨rfl, rfl⟩
  gi_wp2
  obtain ⟨W0, hW0⟩ : ∃ W0, W0 = ((((w.alloc (.cells #[.string na, .slice A1 n1 c1, .slice A2 n2 c2, .slice A3 n3 c3] 35)).alloc (.cells #[] 9)).alloc (.cells #[.slice (some ⟨w.heap.size + 1, 0, none⟩) 0 0] 29)).alloc (.cells #[.slice A ks.length cap] 32)).alloc (.cells #[.func (.func 24) #[] #[]] 66) := ⟨_, rfl⟩
  have hz0 : W0.heap.size = w.heap.size + 5 := by rw [hW0]; simp
  have hb0 : Below w.heap.size w W0 := by rw [hW0]; exact below_al (below_al (below_al (below_al (below_al (Below.refl _ _) _) _) _) _) _
  have hr0 : RowT (w.heap.size + 1) W0 (.slice (some ⟨w.heap.size + 1, 0, none⟩) 0 0) [] := by
    have h : RowT (w.heap.size + 1) ((w.alloc (.cells #[.string na, .slice A1 n1 c1, .slice A2 n2 c2, .slice A3 n3 c3] 35)).alloc (.cells #[] 9)) (.slice (some ⟨(w.alloc (.cells #[.string na, .slice A1 n1 c1, .slice A2 n2 c2, .slice A3 n3 c3] 35)).heap.size, 0, none⟩) 0 0) [] := rowR_empty (heap_alloc_new _ _) (by simp)
    rw [World.size_alloc] at h
    rw [hW0]
    exact RowR.below h (below_al (below_al (below_al (Below.refl _ _) _) _) _)
  have hbn : Boxed W0 (w.heap.size + 2) 29 (.slice (some ⟨w.heap.size + 1, 0, none⟩) 0 0) := by
    have h := Boxed.new ((w.alloc (.cells #[.string na, .slice A1 n1 c1, .slice A2 n2 c2, .slice A3 n3 c3] 35)).alloc (.cells #[] 9)) 29 (.slice (some ⟨w.heap.size + 1, 0, none⟩) 0 0)
    simp only [World.size_alloc] at h
    rw [hW0]; exact (h.alloc _).alloc _
  have hbl : Boxed W0 (w.heap.size + 3) 32 (.slice A ks.length cap) := by
    have h := Boxed.new (((w.alloc (.cells #[.string na, .slice A1 n1 c1, .slice A2 n2 c2, .slice A3 n3 c3] 35)).alloc (.cells #[] 9)).alloc (.cells #[.slice (some ⟨w.heap.size + 1, 0, none⟩) 0 0] 29)) 32 (.slice A ks.length cap)
    simp only [World.size_alloc] at h
    rw [hW0]; exact h.alloc _
  have hbk : Boxed W0 (w.heap.size + 4) 66 (.func (.func 24) #[] #[]) := by
    have h := Boxed.new ((((w.alloc (.cells #[.string na, .slice A1 n1 c1, .slice A2 n2 c2, .slice A3 n3 c3] 35)).alloc (.cells #[] 9)).alloc (.cells #[.slice (some ⟨w.heap.size + 1, 0, none⟩) 0 0] 29)).alloc (.cells #[.slice A ks.length cap] 32)) 66 (.func (.func 24) #[] #[])
    simp only [World.size_alloc] at h
    rw [hW0]; exact h
  rw [← hW0]
  clear hW0
  have hseq := walk1_seq Fence.wide 7 trivial trivial trivial trivial rfl (by omega) 24 trivial (enters_of Try.func24 (by kernel_rfl) rfl) W0 w w.heap.size (w.heap.size + 3) (w.heap.size + 4) (.slice A ks.length cap) ks (KidsC d B w) L
    (by omega) (fun b hb => hb0.block b hb) hbl hbk HK1.out HK5.out (fun i hi => ⟨HCL.out i hi, (HK2.out i hi).2.lt, (HK2.out i hi).2.1⟩) kidsC_ok
    (fun p ks' rest h _ hw => by obtain ⟨r, _, _, _, _, h5⟩ := h; exact h5 rest hw) (fun p ks' h i hi => by obtain ⟨r, _, _, h3, _⟩ := h; exact ⟨(h3 i hi).2.lt, (h3 i hi).2.1⟩)
    (fun p ks' h _ W hW _ => by
      obtain ⟨r, h1, h2, _⟩ := h
      have hlt : p.a.block < w.heap.size := by have := lt_of_cell (h1 18 _ rfl); rwa [addr_blk] at this
      refine (kidsOf_in Fence.wide _ trivial rfl p.a r W (h1.at (hW _ hlt))).mono ?_
      rintro e w' ⟨rfl, rfl⟩
      exact ⟨_, rfl, rfl, h2⟩) HL.out HWT.out
  obtain ⟨nb, hnb⟩ : ∃ x, x = w.heap.size + 2 := ⟨_, rfl⟩
  have hnb2 : w.heap.size + 1 + 1 = nb := by omega
  rw [← hnb] at hbn
  have hnb3 : nb + 1 = w.heap.size + 3 := by omega
  have hnb4 : w.heap.size + 3 + 1 = w.heap.size + 4 := rfl
  simp only [hnb2, hnb3, hnb4]
  have HNB := Lib.hid hnb
  clear hnb hnb2 hnb3 hnb4
  refine wpIn_rangeFunc_ownC (n := 8) (fun i t => (((t.setIfInBounds 11 (.pointer (some (visAt L i).1))).setIfInBounds 12 (.bool (visAt L i).2)).setIfInBounds 6 (.pointer (some (visAt L i).1))).setIfInBounds 7 (.bool (visAt L i).2)) rfl (by omega) (gf := 43) (lb := #[.pointer (some ⟨w.heap.size + 3, 0, none⟩), .pointer (some ⟨w.heap.size + 4, 0, none⟩)]) rfl trivial (enters_of Try.func43 (by kernel_rfl) rfl)
    hseq (fun b hb => by omega) (Below.refl _ _) ?sizes
    (fun i M W => ∃ v', Boxed W nb 29 v' ∧ RowT (w.heap.size + 1) W v' (gatU L i) ∧ (v'.ownBlock = some (w.heap.size + 1) ∨ ∃ g, v'.ownBlock = some g ∧ w.heap.size + 5 ≤ g) ∧ (∀ b, M b ↔ b = nb ∨ v'.ownBlock = some b) ∧ TurnsAt (fun b => b = nb ∨ b = w.heap.size + 1) W0 W) (fun _ _ _ _ => False) ?stab (fun _ _ _ _ _ _ h _ _ _ => h)
    (fun b => b = nb ∨ b = w.heap.size + 1) ?low ?start ?assign ?body ?done ?stop
  case stop => intro D c i M W _ _ h _; exact h.elim
  case sizes =>
    intro x hx
    obtain ⟨j, _, rfl⟩ := List.mem_map.1 hx
    rfl
  case low => have := HNB.out; rintro b (h1 | rfl) <;> exact ⟨by omega, fun h => by omega⟩
  case start => exact ⟨_, hbn, by simpa [gatU] using hr0, .inl rfl, fun b => by simp [Value.ownBlock, eq_comm], TurnsAt.refl _ _⟩
  case stab =>
    rintro i M K A C ⟨v', h4', hrow', hv', hM, ht⟩ hlt ht' hK
    have keep : ∀ b, M b → C.heap[b]? = A.heap[b]? := fun b hb => ht'.block b (hlt b hb) (fun h => (hK b h).2 hb)
    exact ⟨v', (keep nb ((hM nb).2 (.inl rfl))).trans h4', rowR_frame hrow' (fun b e => keep b ((hM b).2 (.inr e))), hv', hM, ht.then ht' (fun b h hb => by have := (hK b h).1; omega)⟩
  case assign =>
    intro l' i hi W K hK
    have hi' : i < L.length := by simpa using hi
    rw [List.getElem_map]
    simp only [visAt_eq L i hi', List.setIfInBounds_toArray, List.set_cons_zero, List.set_cons_succ] at hK
    unfold encV
    generalize L[i] = x at hK ⊢
    obtain ⟨px, bx⟩ := x
    dsimp only at hK ⊢
    gi_wp2
    exact hK
  case body => 
    rintro l' i hi M W ⟨v', h4', hrow', hv', hM, ht⟩ hMlt hsz
    have hi' : i < L.length := by simpa using hi
    simp only [visAt_eq L i hi', List.setIfInBounds_toArray, List.set_cons_zero, List.set_cons_succ]
    have hst := gatU_step L i hi'
    have hgi := HGD.out _ (List.getElem_mem hi')
    have HLN : Hid ((gatU L i).length + 1 ≤ 4194304) := Lib.hid (by have := HLE.out i; omega)
    have HM := Lib.hid hM
    have HT := Lib.hid ht
    have HROW := Lib.hid hrow'
    have HV := Lib.hid hv'
    have HBN := Lib.hid h4'
    have HML := Lib.hid hMlt
    have HST := Lib.hid hst
    have hc0 := h4'.cell
    have hf0 := h4'.frozen
    have hbw : Below w.heap.size w W := hb0.trans (ht.below (by omega) (fun b h => by have := HNB.out; omega))
    clear hM ht hrow' hv' hMlt h4' hst
    generalize hLi : L[i] = x at hgi HST ⊢
    obtain ⟨px, bx⟩ := x
    cases bx <;> dsimp only
    · have HS2 : Hid (gatU L (i + 1) = gatU L i) := Lib.hid (by rw [HST.out]; simp)
      gi_wp2
      exact ⟨M, StepM.refl HML.out, v', HBN.out, by rw [HS2.out]; exact HROW.out, HV.out, HM.out, HT.out⟩
    · have hop := hgi.2 rfl
      obtain ⟨r, hcells, S1, S2, ⟨Kx, hsc, -⟩, -⟩ := hgi.1.2 hop
      have hpl : px.a.block < w.heap.size := hgi.1.lt
      have hN : Nl W px.a r := Nl.at (w := w) hcells (hbw.block _ hpl)
      have q0 : W.cell? px.a = some (.int .i64 r.kind) := hN 0 _ rfl
      have q1 : W.cell? ⟨px.a.block, px.a.off + 1, none⟩ = some (.string r.name) := hN 1 _ rfl
      have HNN := Lib.hid hN
      have HEQ := Lib.hid hsc.eq
      have HPL := Lib.hid hpl
      have HBW := Lib.hid hbw
      clear hgi hop hcells hsc hpl hN hbw hLi
      obtain ⟨kind, name, tv, vk, vu, dflt, given, needed, present, fixed, mn, mx, wv, mv', kv⟩ := r
      dsimp only at q0 q1
      by_cases o7 : kind = 7
      · subst o7
        have HS2 : Hid (gatU L (i + 1) = gatU L i ++ [name]) := Lib.hid (by
          have h1 : (7 : Int) = px.t.x.kind := HEQ.out.kind
          have h2 : name = px.t.x.name := HEQ.out.name
          rw [HST.out]; unfold hdU; rw [if_pos rfl, if_pos h1.symm, h2])
        gi_wp2
        have HBA2 : Hid (Boxed (W.drew.alloc (.cells #[.string name] 9)) nb 29 v') := Lib.hid (Boxed.alloc (W := W.drew) HBN.out _)
        have HNR := Lib.hid (Boxed.not_row HBN.out (by decide) HROW.out)
        have HRA : Hid (RowT (w.heap.size + 1) (W.drew.alloc (.cells #[.string name] 9)) v' (gatU L i)) := Lib.hid (RowR.alloc (RowR.below HROW.out (Below.refl _ _).drew) _)
        have hsA : (W.drew.alloc (.cells #[.string name] 9)).heap.size = W.heap.size + 1 := by simp
        have HBA : Hid (w.heap.size + 1 ≤ (W.drew.alloc (.cells #[.string name] 9)).heap.size) := Lib.hid (by rw [hsA]; omega)
        have KW0 : Hid (Below W.heap.size W W.drew) := Lib.hid (Below.refl _ _).drew
        have KW1 : Hid (Below W.heap.size W (W.drew.alloc (.cells #[.string name] 9))) := Lib.hid ((Below.refl _ _).drew.alloc (Nat.le_refl _) _)
        have HSS : Hid (∀ X, Below W.heap.size W X → X.cell? ⟨nb, 0, none⟩ = some v' ∧ X.cell? ⟨px.a.block, px.a.off + 1, none⟩ = some (.string name)) := Lib.hid fun X hX => ⟨((hX.block nb HBN.out.lt).trans HBN.out |> fun (h : Boxed X nb 29 v') => h.cell), Nl.at (w := W) HNN.out (hX.block _ (by have := HPL.out; have := HBW.out.size; omega)) 1 _ rfl⟩
        have HSS9 : Hid (∀ X, (W.drew.alloc (.cells #[.string name] 9)).grownBy X v'.ownBlock → X.cell? ⟨nb, 0, none⟩ = some v' ∧ X.cell? ⟨px.a.block, px.a.off + 1, none⟩ = some (.string name)) := Lib.hid fun X hX => ⟨(HBA2.out.kept hX HNR.out).cell, Nl.at (w := W) HNN.out ((hX.block _ (by rw [hsA]; have := HPL.out; have := HBW.out.size; omega) (fun e => by have := (RowR.lt HROW.out e.symm).1; have := HPL.out; omega)).trans (KW1.out.block _ (by have := HPL.out; have := HBW.out.size; omega))) 1 _ rfl⟩
        refine wpIn_region_Z (fun w' => w'.cell? ⟨nb, 0, none⟩ = some v' ∧ w'.cell? ⟨px.a.block, px.a.off + 1, none⟩ = some (.string name)) 7 (by rfl) (fun ⟨_, _, h⟩ => h) (by kernel_rfl) (HSS.out _ KW0.out) (fun hHeld => ?_)
        refine wpAnyZ_take (i := 0) (oi := { dst := some 21, op := Op.load 29 (Operand.tmp 5), type := 29, pos := _, after := #[], guard := none }) (v := ?va0) rfl (by kernel_rfl) (fun _ _ _ h => h) (Or.inl ⟨by rfl, ?hya0⟩) (by assumption) ?resta0
        case hya0 => ((intro w hSw; (try dsimp only at hSw); go_simp); try with_reducible rfl)
        case' resta0 => (try simp only [Act.put, List.setIfInBounds_toArray, List.set_cons_zero, List.set_cons_succ])
        refine wpAnyZ_take (i := 1) (oi := { dst := some 22, op := Op.move (Operand.tmp 6), type := 67, pos := _, after := #[], guard := none }) (v := ?va1) rfl (by kernel_rfl) (fun _ _ _ h => h) (Or.inl ⟨by rfl, ?hya1⟩) (by assumption) ?resta1
        case hya1 => ((intro w hSw; (try dsimp only at hSw); go_simp); try with_reducible rfl)
        case' resta1 => (try simp only [Act.put, List.setIfInBounds_toArray, List.set_cons_zero, List.set_cons_succ])
        refine wpAnyZ_take (i := 2) (oi := { dst := some 23, op := Op.nilCheck (Operand.tmp 22), type := 0, pos := _, after := #[{ on := 1, ground := Ground.data }], guard := none }) (v := ?va2) rfl (by kernel_rfl) (fun _ _ _ h => h) (Or.inl ⟨by rfl, ?hya2⟩) (by assumption) ?resta2
        case hya2 => ((intro w hSw; (try dsimp only at hSw); go_simp); try with_reducible rfl)
        case' resta2 => (try simp only [Act.put, List.setIfInBounds_toArray, List.set_cons_zero, List.set_cons_succ])
        refine wpAnyZ_take (i := 3) (oi := { dst := some 24, op := Op.fieldAddr 59 (Operand.tmp 23) 1, type := 0, pos := _, after := #[{ on := 2, ground := Ground.data }], guard := none }) (v := ?va3) rfl (by kernel_rfl) (fun _ _ _ h => h) (Or.inl ⟨by rfl, ?hya3⟩) (by assumption) ?resta3
        case hya3 => ((intro w hSw; (try dsimp only at hSw); go_simp); try with_reducible rfl)
        case' resta3 => (try simp only [Act.put, List.setIfInBounds_toArray, List.set_cons_zero, List.set_cons_succ])
        refine wpAnyZ_take (i := 4) (oi := { dst := some 25, op := Op.load 9 (Operand.tmp 24), type := 9, pos := _, after := #[{ on := 3, ground := Ground.data }], guard := none }) (v := ?va4) rfl (by kernel_rfl) (fun _ _ _ h => h) (Or.inl ⟨by rfl, ?hya4⟩) (by assumption) ?resta4
        case hya4 => ((intro w hSw; (try dsimp only at hSw); go_simp); try with_reducible rfl)
        case' resta4 => (try simp only [Act.put, List.setIfInBounds_toArray, List.set_cons_zero, List.set_cons_succ])
        refine wpAnyZ_next (i := 5) (o := { dst := some 26, op := Op.buildSlice 29 1 #[(0, Operand.tmp 25)], type := 29, pos := _, after := #[{ on := 4, ground := Ground.data }], guard := none }) (by kernel_rfl) rfl (fun K hK => ?_)
        go_simp
        refine hK.out _ _ (HSS.out _ KW1.out) (fun hHeld2 => ?_)
        clear hK K hHeld; have hHeld := hHeld2; clear hHeld2
        try simp only [Act.put, List.setIfInBounds_toArray, List.set_cons_zero, List.set_cons_succ]
        refine wpAnyZ_next (i := 6) (o := { dst := some 27, op := Op.call { callee := Callee.builtin Builtin.append, args := #[Operand.tmp 21, Operand.tmp 26], argTypes := #[29, 29] }, type := 29, pos := _, after := #[{ on := 0, ground := Ground.data }, { on := 5, ground := Ground.data }], guard := none }) (by kernel_rfl) rfl (fun K hK => ?_)
        refine step_rec_append1 encS_len (by omega) Try.underlying29 infoStr (by rfl) (by omega) (by rfl) _ _ (by rfl) (w.heap.size + 1) (gatU L i).length v' (gatU L i) (by rfl) HRA.out rfl name ⟨W.drew.heap.size, 0, none⟩ 1 (by rfl) (World.news_of_block (heap_alloc_new _ _)) (fun u hu => by rw [List.mem_singleton.1 hu]; rfl) HLN.out HBA.out ?_
        intro v9 w9 hrow9 hg9 hv9
        obtain ⟨A9, n9, c9, rfl⟩ : ∃ A n c, v9 = .slice A n c := by obtain ⟨A, c, hv, _⟩ := RowR.has encS_len hrow9; exact ⟨A, _, c, hv⟩
        have h49 : Boxed w9 nb 29 v' := (HBA2.out).kept hg9 HNR.out
        have e49 := h49.cell
        have f49 := h49.frozen
        have HROW9 := Lib.hid hrow9
        have HG9 := Lib.hid hg9
        have HV9 := Lib.hid hv9
        have HA9 := Lib.hid h49
        clear hrow9 hg9 hv9 h49
        refine hK.out _ _ (HSS9.out _ HG9.out) (fun hHeld2 => ?_)
        clear hK K hHeld; have hHeld := hHeld2; clear hHeld2
        try simp only [Act.put, List.setIfInBounds_toArray, List.set_cons_zero, List.set_cons_succ]
        refine wpAnyZ_last (o := { dst := none, op := Op.store 29 (Operand.tmp 5) (Operand.tmp 27), type := 0, pos := _, after := #[{ on := 6, ground := Ground.data }, { on := 6, ground := Ground.chain }, { on := 0, ground := Ground.phase }, { on := 1, ground := Ground.phase }, { on := 2, ground := Ground.phase }, { on := 3, ground := Ground.phase }, { on := 4, ground := Ground.phase }, { on := 5, ground := Ground.phase }, { on := 6, ground := Ground.phase }], guard := none }) (by kernel_rfl) rfl (fun K hK => ?_)
        go_simp
        refine hK.out _ _ ?_
        clear hK K hHeld
        try simp only [Act.put, List.setIfInBounds_toArray, List.set_cons_zero, List.set_cons_succ]
        refine wpAnyZ_done (by kernel_rfl) ?_ _
        have hs9 : w9.heap.size ≤ (w9.setCell ⟨nb, 0, none⟩ (Value.slice A9 n9 c9)).heap.size := (grownBy_setCell' w9 nb _).size
        have hg9s := HG9.out.size
        have hdz : (W.alloc (.cells #[.string name] 9)).drew.heap.size = W.heap.size + 1 := by simp
        have hne9 : some nb ≠ (Value.slice A9 n9 c9).ownBlock := Boxed.not_row HA9.out (by decide) HROW9.out
        have hst9 : TurnsAt M W (w9.setCell ⟨nb, 0, none⟩ (Value.slice A9 n9 c9)) := ((below_turns KW1.out).trans (grown_turns HG9.out (fun b e => (HM.out b).2 (.inr e)))).trans (grown_turns (grownBy_setCell' w9 nb _) (fun b e => by cases e; exact (HM.out nb).2 (.inl rfl)))
        refine ⟨fun b => b = nb ∨ (Value.slice A9 n9 c9).ownBlock = some b, ⟨hst9, fun b hb => ?_, fun b hb => ?_⟩, (Value.slice A9 n9 c9), HA9.out.set _, ?_, ?_, fun b => Iff.rfl, HT.out.then hst9 fun b hb hlt => ?_⟩
        · rcases hb with rfl | hb
          · exact .inl ((HM.out _).2 (.inl rfl))
          · rcases HV9.out with h | h
            · exact .inl ((HM.out _).2 (.inr (h.symm.trans hb)))
            · right; rw [h] at hb; cases hb; omega
        · rcases hb with rfl | hb
          · exact Nat.lt_of_lt_of_le HA9.out.lt hs9
          · exact Nat.lt_of_lt_of_le (RowR.lt HROW9.out hb).2 hs9
        · rw [HS2.out]
          exact ownsRow_setCell_other HROW9.out (a := ⟨nb, 0, none⟩) (fun e => hne9 e.symm) _
        · rcases HV9.out with h | h
          · rcases HV.out with h2 | ⟨g', h2, h3⟩
            · exact .inl (h.trans h2)
            · exact .inr ⟨g', h.trans h2, h3⟩
          · exact .inr ⟨_, h, by omega⟩
        · rcases (HM.out b).1 hb with h | h
          · exact .inl h
          · rcases HV.out with h2 | ⟨g', h2, h3⟩
            · rw [h2] at h; cases h; exact .inr rfl
            · rw [h2] at h; cases h; omega
      · have HS2 : Hid (gatU L (i + 1) = gatU L i) := Lib.hid (by
          have h1 : kind = px.t.x.kind := HEQ.out.kind
          rw [HST.out]; unfold hdU; rw [if_pos rfl, if_neg (by rw [← h1]; exact o7), List.append_nil])
        have f7 : (kind == 7) = false := by simp [o7]
        gi_wp2
        exact ⟨M, StepM.refl HML.out, v', HBN.out, by rw [HS2.out]; exact HROW.out, HV.out, HM.out, HT.out⟩

  case done =>
    rintro D M W hD hnM ⟨v', h4', hrow', hv', hM, ht⟩ hK
    rw [List.length_map, HLI.out] at hrow'
    have hc0 := h4'.cell
    have hWs := ht.size
    have hnbx := HNB.out
    have HF : Hid (Row w.heap.size (W.putObj D (.deferred none)) v' (usL l) ∧ Below w.heap.size w (W.putObj D (.deferred none))) := Lib.hid ⟨(rowT_iff.1 (ownsRow_putObj hrow' _ hK rfl)).mono (by omega), (hb0.trans (ht.below (by omega) (fun b h => by omega))).trans ((turns_putObj W D _).below (by omega) (fun b e => by omega))⟩
    clear h4' hrow' hv' hM ht hnbx
    gi_wp2
    refine ⟨by simp, .inl ⟨_, _, rfl, run_takeDeferred hK, ?_⟩⟩
    exact ⟨_, results_tmp rfl _ _ _, v', rfl, HF.out.1, HF.out.2⟩
end Go.Proofs.Ytdkpleghpnflhaa

/- CHAPTER 11, UsedGroups: what its law needs besides. PRINTED by tools/gen_uslaw.py. -/
namespace Go.Proofs.Ytdkpleghpnflhaa
open Go.RowKit
set_option maxRecDepth 100000

/-- a boxed module -/
def MBox (T : TypeId) (w : World) (b : Nat) (v : MoV) : Prop := w.heap[b]? = some (.cells #[.string v.n, v.gv, v.bv, v.av] T (0, 0))
theorem MBox.below {T : TypeId} {w w' : World} {b : Nat} {r : MoV} (h : MBox T w b r) (hb : Below w.heap.size w w') : MBox T w' b r := (hb.block b (Array.getElem?_eq_some_iff.1 h).1).trans h
theorem MBox.lt {T : TypeId} {w : World} {b : Nat} {r : MoV} (h : MBox T w b r) : b < w.heap.size := (Array.getElem?_eq_some_iff.1 h).1
theorem MBox.tell {T : TypeId} {w : World} {b : Nat} {r : MoV} (h : MBox T w b r) : w.cell? ⟨b, 0, none⟩ = some (.string r.n) ∧ w.cell? ⟨b, 1, none⟩ = some r.gv ∧ w.cell? ⟨b, 2, none⟩ = some r.bv ∧ w.cell? ⟨b, 3, none⟩ = some r.av :=
  ⟨cellsAt h 0 _ rfl, cellsAt h 1 _ rfl, cellsAt h 2 _ rfl, cellsAt h 3 _ rfl⟩
theorem MBox.new (T : TypeId) (w : World) (r : MoV) : MBox T (w.alloc (.cells #[.string r.n, r.gv, r.bv, r.av] T)) w.heap.size r := heap_alloc_new w _
theorem bud9 {k U V : Nat} (h : k ≤ 1099512676354 + 2199024304133 * U) (h2 : U + V ≤ 1048576) : k + 2199024304133 * V ≤ 3458764513820540000 := by omega
theorem row_apart9 {B : Nat} {w w' : World} {v : Value} {l : List ByteArray} {S' : Nat → Prop} (h : Row B w v l) (ht : TurnsAt S' w w') (hd : ∀ b, v.ownBlock = some b → S' b → False) : Row B w' v l :=
  rowT_iff.1 (rowR_apart (rowT_iff.2 h) ht hd)
end Go.Proofs.Ytdkpleghpnflhaa
