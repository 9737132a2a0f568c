/- MERGED for a claim: UsA RgZ. -/
import Derived.Test.YtdkpleghpnflhaaMo
import Derived.Test.YtdkpleghpnflhaaCpyC
import Derived.Test.YtdkpleghpnflhaaWkV
import Derived.Test.YtdkpleghpnflhaaBase
import Derived.OrdersHeld
import Derived.Deep.RegionHeld
set_option linter.unusedVariables false
set_option linter.unusedSimpArgs false
/- CHAPTER 11: the groups that are used; rows of texts as rows of records. PRINTED by tools/gen_us.py. -/
namespace Go.Proofs.Ytdkpleghpnflhaa
open Go.RowKit
set_option maxRecDepth 100000

def encS (s : ByteArray) : List Value := [.string s]
theorem encS_len (s : ByteArray) : (encS s).length = 1 := rfl
theorem encS_flat : ∀ l : List ByteArray, l.flatMap encS = l.map Value.string
  | [] => rfl
  | x :: l => by rw [List.flatMap_cons, encS_flat l]; rfl
abbrev RowT (B : Nat) (w : World) (v : Value) (l : List ByteArray) : Prop := RowR encS 1 9 B w v l
theorem rowT_iff {B : Nat} {w : World} {v : Value} {l : List ByteArray} : RowT B w v l ↔ Row B w v l := by
  unfold RowT RowR Row
  rw [encS_flat]
theorem encS_one (l : List ByteArray) : ∀ x ∈ l, ∀ u ∈ encS x, u.oneCell' = true := fun x _ u hu => by rw [List.mem_singleton.1 hu]; rfl
/-- the names of the uses, as they stand -/
def hdU (x : ScX) : List ByteArray := if x.kind = 7 then [x.name] else []
mutual
def usN : Sc → List ByteArray
  | .mk x l => hdU x ++ usL l
def usL : List Sc → List ByteArray
  | [] => []
  | t :: l => usN t ++ usL l
end
theorem usN_eq (t : Sc) : usN t = hdU t.x ++ usL t.kids := by cases t; simp [usN, Tr.x, Tr.kids]
theorem usL_snoc : ∀ (l : List Sc) (t : Sc), usL (l ++ [t]) = usL l ++ usN t
  | [], t => by simp [usL]
  | x :: l, t => by simp only [List.cons_append, usL]; rw [usL_snoc l t, List.append_assoc]
theorem usL_step {l : List Sc} {k : Nat} (hk : k < l.length) : usL (l.take (k + 1)) = usL (l.take k) ++ usN l[k] := by rw [List.take_succ_eq_append_getElem hk, usL_snoc]
mutual
theorem usN_len : ∀ t : Sc, (usN t).length ≤ sizeN t
  | .mk x l => by
    have := usL_len l
    have h : (hdU x).length ≤ 1 := by unfold hdU; split <;> simp
    simp only [usN, sizeN, List.length_append]; omega
theorem usL_len : ∀ l : List Sc, (usL l).length ≤ sizeS l
  | [] => by simp [usL]
  | t :: l => by
    have := usN_len t
    have := usL_len l
    simp only [usL, sizeS, List.length_append]; omega
end
theorem sizeS_take9 {α : Type} : ∀ (l : List (Tr α)) (k : Nat), sizeS (l.take k) ≤ sizeS l
  | [], k => by simp
  | t :: l, 0 => by simp [sizeS]
  | t :: l, k + 1 => by have := sizeS_take9 l k; simp only [List.take_succ_cons, sizeS]; omega
theorem sizeN_mem9 {α : Type} : ∀ (l : List (Tr α)) (t : Tr α), t ∈ l → sizeN t ≤ sizeS l
  | [], t, h => by cases h
  | x :: l, t, h => by
    rcases List.mem_cons.1 h with rfl | h
    · simp only [sizeS]; omega
    · have := sizeN_mem9 l t h; simp only [sizeS]; omega
/-- what a walk gathers at its first visits -/
theorem tells_list {α β : Type} {kids : It α → List (It α) → Prop} (g : α → List β) (G : Tr α → List β) (hG : ∀ p ks, kids p ks → G p.t = g p.t.x ++ (ks.flatMap fun i => G i.t)) (hk : ∀ p ks, kids p ks → ∀ i ∈ ks, i.op = false) {st : List (It α)} {L : List (It α × Bool)} (h : Tells kids st L) :
    (L.flatMap fun v => if v.2 = true then g v.1.t.x else []) = st.flatMap fun i => if i.op = true then [] else G i.t := by
  induction h with
  | nil => rfl
  | close hp _ ih => simp [hp, ih]
  | @op p rest ks L hp hks _ ih =>
    have hc : (ks.flatMap fun i => if i.op = true then [] else G i.t) = ks.flatMap fun i => G i.t := by
      have : ∀ m : List (It α), (∀ i ∈ m, i.op = false) → (m.flatMap fun i => if i.op = true then [] else G i.t) = m.flatMap fun i => G i.t := fun m => by
        induction m with
        | nil => intro _; rfl
        | cons x m ihm => intro hm; rw [List.flatMap_cons, List.flatMap_cons, ihm fun i hi => hm i (List.mem_cons_of_mem _ hi), hm x (by simp)]; simp
      exact this ks (hk p ks hks)
    rw [List.flatMap_append, hc, List.flatMap_cons] at ih
    have hop : p.open.op = true := rfl
    rw [List.flatMap_cons, ih, List.flatMap_cons]
    simp [hp, hop, hG p ks hks]
def MoForm (v : MoV) : Prop := (∃ A n c, v.gv = .slice A n c) ∧ (∃ A n c, v.bv = .slice A n c) ∧ ∃ A n c, v.av = .slice A n c
theorem HasMo.forms {w : World} {v : MoV} {m : Mod} (h : HasMo w v m) : MoForm v :=
  ⟨by obtain ⟨A, c, h, _⟩ := h.gs.at; exact ⟨A, _, c, h⟩, by obtain ⟨d, h⟩ := h.b; obtain ⟨A, c, h⟩ := h.form; exact ⟨A, _, c, h⟩, by obtain ⟨A, c, h, _⟩ := h.us.at; exact ⟨A, _, c, h⟩⟩
end Go.Proofs.Ytdkpleghpnflhaa

/- REGIONS THAT DRAW THEIR ORDER, WALKED IN ONE ORDER: one condition S on the world, that holds behind every operation but the last one (number z), which waits for all the others: so what that one writes may be read by the region. Generic; no function is spoken of. -/
namespace Go.Proofs.Ytdkpleghpnflhaa
open Go Go.RowKit
section
variable {P : Program} {ops : Array Oper} {Q : Exit → Act → World → Prop} {md : Region.Mode} {S : World → Prop} {z : Nat}
/-- whatever order is picked from here on, and S holds behind every operation that is carried out, but number z -/
def wpAnyZ (P : Program) (md : Region.Mode) (ops : Array Oper) (Q : Exit → Act → World → Prop) (S : World → Prop) (z : Nat) : Nat → Array Bool → Act → World → Prop
  | 0, listed, a, w => Region.ready md ops listed = [] ∧ Q .normal a w
  | fuel + 1, listed, a, w =>
    (Region.ready md ops listed = [] → Q .normal a w) ∧
    ∀ i ∈ Region.ready md ops listed, wpOp P ops Q i (fun a' w' => (i ≠ z → S w') ∧ wpAnyZ P md ops Q S z fuel (listed.setIfInBounds i true) a' w') a w
theorem wpAny_ofZ : ∀ (fuel : Nat) (listed : Array Bool) (a : Act) (w : World), wpAnyZ P md ops Q S z fuel listed a w → wpAny P md ops Q fuel listed a w
  | 0, _, _, _, h => h
  | fuel + 1, _, _, _, h => ⟨h.1, fun i hi => wpOp_mono (fun a' w' h' => wpAny_ofZ fuel _ a' w' h'.2) (h.2 i hi)⟩
/-- number z waits for number i -/
def waitsZ (md : Region.Mode) (ops : Array Oper) (z i : Nat) : Bool := (ops[z]?.map fun o => o.after.toList.any fun e => e.on == i && Region.binds md e).getD true
theorem waitsZ_spec {i : Nat} (h : waitsZ md ops z i = true) {oz : Oper} (hz : ops[z]? = some oz) : ∃ e ∈ oz.after, Region.binds md e = true ∧ e.on = i := by
  unfold waitsZ at h
  rw [hz] at h
  simp only [Option.map_some, Option.getD_some, List.any_eq_true, Bool.and_eq_true, beq_iff_eq] at h
  obtain ⟨e, h1, h2, h3⟩ := h
  exact ⟨e, by simpa using h1, h3, h2⟩
theorem wpAnyZ_first {i : Nat} {oi : Oper} {v : Value} (hi : ops[i]? = some oi) (hsel : ∀ (j : Nat) (o : Oper) cs b, ops[j]? = some o → o.op ≠ .select cs b)
    (hQ : ∀ c a w, Q (.panic c) (a.put oi.dst v) w → Q (.panic c) a w) (hz : waitsZ md ops z i = true) :
    ∀ (fuel : Nat) (listed : Array Bool) (a : Act) (w : World),
      (∀ j oj, ops[j]? = some oj → j ≠ i → listed.getD j true = false → (∀ e ∈ oj.after, Region.binds md e = true → e.on ≠ i) → oi.apart ops oj = true) →
      i ∈ Region.ready md ops listed → YieldsIf P ops S oi v a → S w →
      wpAnyZ P md ops Q S z fuel (listed.setIfInBounds i true) (a.put oi.dst v) w → wpAnyZ P md ops Q S z (fuel + 1) listed a w := by
  intro fuel
  induction fuel with
  | zero =>
    intro listed a w _ hr hy hS H
    refine ⟨fun h => (by rw [h] at hr; cases hr), fun j hj => ?_⟩
    by_cases hji : j = i
    · subst hji; exact hy.wpOp hi hS ⟨fun _ => hS, H⟩
    · have := ready_mono hj hji
      rw [H.1] at this
      cases this
  | succ fuel ih =>
    intro listed a w hfree hr hy hS H
    refine ⟨fun h => (by rw [h] at hr; cases hr), fun j hj => ?_⟩
    by_cases hji : j = i
    · subst hji; exact hy.wpOp hi hS ⟨fun _ => hS, H⟩
    · have h1 := H.2 j (ready_mono hj hji)
      obtain ⟨hjun, oj, hoj, hall⟩ := mem_ready.1 hj
      have hnot : ∀ e ∈ oj.after, Region.binds md e = true → e.on ≠ i := fun e he hb heq => by
        have h1 := hall e he hb
        have h0 := (mem_ready.1 hr).1
        rw [heq] at h1
        rcases Nat.lt_or_ge i listed.size with h' | h'
        · simp [h'] at h0 h1; rw [h0] at h1; cases h1
        · simp [Array.getElem?_eq_none h'] at h1
      have hjz : j ≠ z := fun e => by
        subst e
        obtain ⟨e, h3, h4, h5⟩ := waitsZ_spec hz hoj
        exact hnot e h3 h4 h5
      have h2 := wpOp_putIf hoj (hfree j oj hoj hji hjun hnot) (fun cs b => hsel i oi cs b hi) (fun cs b => hsel j oj cs b hoj) hQ hy h1
      have hfree' : ∀ k ok, ops[k]? = some ok → k ≠ i → (listed.setIfInBounds j true).getD k true = false →
          (∀ e ∈ ok.after, Region.binds md e = true → e.on ≠ i) → oi.apart ops ok = true := fun k ok hk hki hun hno => by
        refine hfree k ok hk hki ?_ hno
        by_cases hjk : j = k
        · subst hjk; exact hjun
        · rw [getD_set_ne true hjk] at hun; exact hun
      refine wpOp_mono (fun a' w' h3 => ⟨fun _ => h3.2.1 hjz, ih (listed.setIfInBounds j true) a' w' hfree' (ready_mono hr (Ne.symm hji)) h3.1 (h3.2.1 hjz) ?_⟩) h2
      rw [Array.setIfInBounds_comm _ _ hji]
      exact h3.2.2
/-- take number i first -/
theorem wpAnyZ_take {i : Nat} {oi : Oper} {v : Value} {fuel : Nat} {listed : Array Bool} {a : Act} {w : World} (hi : ops[i]? = some oi)
    (hs : (Region.noSelect ops && Region.free md ops listed i && (Region.ready md ops listed).contains i && waitsZ md ops z i) = true)
    (hQ : ∀ c a w, Q (.panic c) (a.put oi.dst v) w → Q (.panic c) a w) (hy : YieldsIf P ops S oi v a) (hS : S w)
    (h : wpAnyZ P md ops Q S z fuel (listed.setIfInBounds i true) (a.put oi.dst v) w) : wpAnyZ P md ops Q S z (fuel + 1) listed a w := by
  simp only [Bool.and_eq_true] at hs
  obtain ⟨⟨⟨h1, h2⟩, h3⟩, h4⟩ := hs
  exact wpAnyZ_first hi (Region.noSelect_spec h1) hQ h4 fuel listed a w (Region.free_spec hi h2) (by simpa using h3) hy hS h
/-- number i comes up, and nothing else may; behind it S holds -/
theorem wpAnyZ_next {i : Nat} {o : Oper} {fuel : Nat} {listed : Array Bool} {a : Act} {w : World} (hr : Region.ready md ops listed = [i]) (ho : ops[i]? = some o)
    (h : ∀ K' : Act → World → Prop, Shut (∀ a w, S w → (S w → wpAnyZ P md ops Q S z fuel (listed.setIfInBounds i true) a w) → K' a w) → if Region.wanted o (yielded ops a.tmps) = true then Oper.wp P o a w K' Q else K' (a.put o.dst undef) w) : wpAnyZ P md ops Q S z (fuel + 1) listed a w :=
  ⟨fun h0 => absurd (hr ▸ h0) (by simp), fun j hj => by
    rw [hr] at hj
    obtain rfl := List.mem_singleton.1 hj
    exact wpOp_step ho (fun K' hK => h K' (fun a w hS hW => hK a w ⟨fun _ => hS, hW hS⟩))⟩
/-- number z comes up -/
theorem wpAnyZ_last {o : Oper} {fuel : Nat} {listed : Array Bool} {a : Act} {w : World} (hr : Region.ready md ops listed = [z]) (ho : ops[z]? = some o)
    (h : ∀ K' : Act → World → Prop, Shut (∀ a w, wpAnyZ P md ops Q S z fuel (listed.setIfInBounds z true) a w → K' a w) → if Region.wanted o (yielded ops a.tmps) = true then Oper.wp P o a w K' Q else K' (a.put o.dst undef) w) : wpAnyZ P md ops Q S z (fuel + 1) listed a w :=
  ⟨fun h0 => absurd (hr ▸ h0) (by simp), fun j hj => by
    rw [hr] at hj
    obtain rfl := List.mem_singleton.1 hj
    exact wpOp_step ho (fun K' hK => h K' (fun a w hW => hK a w ⟨fun e => absurd rfl e, hW⟩))⟩
theorem wpAnyZ_done {listed : Array Bool} {a : Act} {w : World} (hr : Region.ready md ops listed = []) (h : Q .normal a w) :
    ∀ fuel, wpAnyZ P md ops Q S z fuel listed a w
  | 0 => ⟨hr, h⟩
  | _ + 1 => ⟨fun _ => h, by rw [hr]; simp⟩
theorem wp_region_Z (S : World → Prop) (z : Nat) {id : Nat} {a : Act} {w : World} (hm : P.follows .mixedOrders = true) (hS : S w.drew)
    (h : S w.drew → wpAnyZ P .any ops Q S z ops.size (Array.replicate ops.size false) a w.drew) : (Code.region id ops true).wp P Q a w :=
  wp_region_any hm (wpAny_ofZ _ _ _ _ (h hS))
end
end Go.Proofs.Ytdkpleghpnflhaa
