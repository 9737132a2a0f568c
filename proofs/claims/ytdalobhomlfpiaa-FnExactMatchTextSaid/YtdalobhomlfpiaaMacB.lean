/- CHAPTER 5, PLAIN MATHEMATICS: the machine: what is called, visited, waited for; what holds all the way, and what it says at the end. No function is spoken of. -/
import Derived.Test.YtdalobhomlfpiaaMacA
import Derived.Test.YtdalobhomlfpiaaPatF
namespace Go.Proofs.Ytdalobhomlfpiaa
open Go.RowKit

structure Mc where
  pl : List Pl
  reached : List Nat
  waiting : List Nat
  pos : Nat
  en : Int
namespace Mac
/-- the ref r is called -/
def call (S : Mc) : Nat → Mc
  | 0 => { S with en := S.pos }
  | i + 1 => match S.pl[i]? with
    | some p => if p.vis < S.pos then { S with pl := S.pl.set i { p with vis := S.pos }, reached := S.reached ++ [i] } else S
    | none => S
def Called (S : Mc) : Nat → Prop
  | 0 => S.en = S.pos
  | i + 1 => ∃ p, S.pl[i]? = some p ∧ p.vis = S.pos
def Done (S : Mc) (i : Nat) (p : Pl) : Prop := ∃ sh, p.sh = some sh ∧ (sh = .wait → i ∈ S.waiting) ∧ (∀ l, sh = .ways l → ∀ r, r ∈ l → Called S r)
def sumL (f : Pl → Nat) (l : List Pl) : Nat := (l.map f).sum
theorem sumL_set {f : Pl → Nat} : ∀ {l : List Pl} {i : Nat} {p : Pl}, l[i]? = some p → ∀ q, sumL f (l.set i q) + f p = sumL f l + f q
  | [], _, _, h, _ => by simp at h
  | x :: l, 0, p, h, q => by
    have h' : x = p := by simpa using h
    subst h'
    simp [sumL]; omega
  | x :: l, i + 1, p, h, q => by
    have ih := sumL_set (f := f) (l := l) (i := i) (p := p) (by simpa using h) q
    simp only [sumL, List.set_cons_succ, List.map_cons, List.sum_cons] at ih ⊢
    omega
theorem sumL_app (f : Pl → Nat) (l m : List Pl) : sumL f (l ++ m) = sumL f l + sumL f m := by simp [sumL]
theorem sumL_le {f g : Pl → Nat} : ∀ {l : List Pl}, (∀ p, p ∈ l → f p ≤ g p) → sumL f l ≤ sumL g l
  | [], _ => Nat.le_refl _
  | x :: l, h => by
    have ih := sumL_le (f := f) (g := g) (l := l) (fun p hp => h p (by simp [hp]))
    have := h x (by simp)
    simp only [sumL, List.map_cons, List.sum_cons] at ih ⊢
    omega
def uw (k : Nat) (p : Pl) : Nat := if p.vis < k then 1 else 0
def rw' (p : Pl) : Nat := if p.sh.isNone then cntL p.e p.t.kids else 0
def nw (p : Pl) : Nat := 1 + cntL p.e p.t.kids
def unv (S : Mc) : Nat := sumL (uw S.pos) S.pl
def mu (S : Mc) : Nat := 2 * (unv S + sumL rw' S.pl) + S.reached.length
theorem sumL_one : ∀ l : List Pl, sumL (fun _ => 1) l = l.length
  | [] => rfl
  | x :: l => by
    have ih := sumL_one l
    simp only [sumL, List.map_cons, List.sum_cons, List.length_cons] at ih ⊢
    omega
theorem sumL_nw : ∀ l : List Pl, l.length + sumL (fun q => cntL q.e q.t.kids) l = sumL nw l
  | [] => rfl
  | x :: l => by
    have ih := sumL_nw l
    have e : nw x = 1 + cntL x.e x.t.kids := rfl
    simp only [sumL, List.map_cons, List.sum_cons, List.length_cons] at ih ⊢
    omega
theorem unv_le (S : Mc) : unv S ≤ S.pl.length := by
  have h : sumL (uw S.pos) S.pl ≤ sumL (fun _ => 1) S.pl := sumL_le fun p _ => by unfold uw; split <;> omega
  have h2 : sumL (fun _ => 1) S.pl = S.pl.length := sumL_one _
  unfold unv; omega
structure Inv (s : ByteArray) (D N : Nat) (T : Pat) (H : Nat → Nat → Prop) (X : Option Nat) (Wq : List Nat) (S : Mc) : Prop where
  ord : Ord S.pl
  deep : ∀ (i : Nat) (p : Pl), S.pl[i]? = some p → p.e ≤ D ∧ DeepL p.e p.t.kids
  shp : ∀ (i : Nat) (p : Pl) (sh : Vs), S.pl[i]? = some p → p.sh = some sh → Shaped S.pl i p sh
  vle : ∀ (i : Nat) (p : Pl), S.pl[i]? = some p → -1 ≤ p.vis ∧ p.vis ≤ S.pos
  ele : -1 ≤ S.en ∧ S.en ≤ S.pos
  ple : S.pos ≤ s.size
  hlt : ∀ r q, H r q → q < S.pos ∧ r ≤ S.pl.length
  past : ∀ (i : Nat) (p : Pl) (q : Nat), S.pl[i]? = some p → H (i + 1) q → ∃ sh, p.sh = some sh ∧ (sh = .wait → ChAt s p.t.x.text q → H p.nx (q + 1) ∨ (q + 1 = S.pos ∧ (Called S p.nx ∨ i ∈ Wq))) ∧ (∀ l, sh = .ways l → ∀ r, r ∈ l → H r q)
  now : ∀ (i : Nat) (p : Pl), S.pl[i]? = some p → p.vis = S.pos → X = some i ∨ i ∈ S.reached ∨ Done S i p
  rch : ∀ i, i ∈ S.reached → ∃ p, S.pl[i]? = some p ∧ p.vis = S.pos
  wt : ∀ i, i ∈ S.waiting → ∃ p, S.pl[i]? = some p ∧ p.t.x.op = 1 ∧ Good s D T S.pl (i + 1) S.pos
  good : ∀ r, Called S r → Good s D T S.pl r S.pos
  cnt : S.waiting.length + S.reached.length + unv S + (if X.isSome then 1 else 0) ≤ S.pl.length
  tot : S.pl.length + sumL rw' S.pl ≤ N
section
variable {s : ByteArray} {D N : Nat} {T : Pat} {H : Nat → Nat → Prop} {X : Option Nat} {Wq : List Nat} {S : Mc}
theorem called_le {r : Nat} (h : Called S r) : r ≤ S.pl.length := by
  cases r with
  | zero => exact Nat.zero_le _
  | succ i => obtain ⟨p, hp, _⟩ := h; have := (List.getElem?_eq_some_iff.1 hp).1; omega
/-- what a place turned to is, but for when it was visited and what its visit does -/
theorem set_back {L : List Pl} {i j : Nat} {p p' q' : Pl} (hp : L[i]? = some p) (h : (L.set i p')[j]? = some q') : (j = i ∧ q' = p') ∨ (j ≠ i ∧ L[j]? = some q') := by
  by_cases e : i = j
  · subst e
    rw [List.getElem?_set_self (List.getElem?_eq_some_iff.1 hp).1] at h
    cases h; exact .inl ⟨rfl, rfl⟩
  · rw [List.getElem?_set_ne e] at h
    exact .inr ⟨fun e' => e e'.symm, h⟩
theorem call_spec (S : Mc) (r : Nat) (hr : r ≤ S.pl.length) (hv : ∀ (i : Nat) (p : Pl), S.pl[i]? = some p → p.vis ≤ S.pos) :
    (Called S r ∧ call S r = S) ∨ (r = 0 ∧ call S r = { S with en := S.pos }) ∨
    ∃ i p, r = i + 1 ∧ S.pl[i]? = some p ∧ p.vis < S.pos ∧ call S r = { S with pl := S.pl.set i { p with vis := S.pos }, reached := S.reached ++ [i] } := by
  cases r with
  | zero => exact .inr (.inl ⟨rfl, rfl⟩)
  | succ i =>
    have hp : S.pl[i]? = some S.pl[i] := List.getElem?_eq_getElem (by omega)
    generalize S.pl[i] = p at hp
    by_cases h : p.vis < S.pos
    · exact .inr (.inr ⟨i, p, rfl, hp, h, by simp only [call, hp]; rw [if_pos h]⟩)
    · exact .inl ⟨⟨p, hp, by have := hv i p hp; omega⟩, by simp only [call, hp]; rw [if_neg h]⟩
/-- what a call changes -/
structure Stp (S S' : Mc) : Prop where
  ext : Ext S.pl S'.pl
  len : S'.pl.length = S.pl.length
  pos : S'.pos = S.pos
  wait : S'.waiting = S.waiting
  kept : ∀ r, Called S r → Called S' r
  mu : mu S' ≤ mu S
theorem Stp.refl (S : Mc) : Stp S S := ⟨Ext.refl _, rfl, rfl, rfl, fun _ h => h, Nat.le_refl _⟩
theorem Stp.trans {S S' S'' : Mc} (h : Stp S S') (h' : Stp S' S'') : Stp S S'' := ⟨h.ext.trans h'.ext, h'.len.trans h.len, h'.pos.trans h.pos, h'.wait.trans h.wait, fun r hr => h'.kept r (h.kept r hr), Nat.le_trans h'.mu h.mu⟩
theorem inv_call (I : Inv s D N T H X Wq S) {r : Nat} (hr : r ≤ S.pl.length) (hg : Good s D T S.pl r S.pos) : Inv s D N T H X Wq (call S r) ∧ Called (call S r) r ∧ Stp S (call S r) := by
  rcases call_spec S r hr (fun i p hp => (I.vle i p hp).2) with ⟨h1, h2⟩ | ⟨rfl, h2⟩ | ⟨i, p, rfl, hp, hv, h2⟩
  · rw [h2]; exact ⟨I, h1, Stp.refl S⟩
  · rw [h2]
    have hk : ∀ r, Called S r → Called { S with en := S.pos } r := fun r hr => by
      cases r with
      | zero => rfl
      | succ i => exact hr
    have hD : ∀ i p, Done S i p → Done { S with en := S.pos } i p := fun i p ⟨sh, a, b, c⟩ => ⟨sh, a, b, fun l e r hr => hk r (c l e r hr)⟩
    refine ⟨⟨I.ord, I.deep, I.shp, I.vle, ⟨by show (-1 : Int) ≤ (S.pos : Int); omega, Int.le_refl _⟩, I.ple, I.hlt, fun i p q hp hh => ?_, fun i p hp hv => ?_, I.rch, I.wt, fun r hr => ?_, I.cnt, I.tot⟩, rfl, ⟨Ext.refl _, rfl, rfl, rfl, hk, Nat.le_refl _⟩⟩
    · obtain ⟨sh, a, b, c⟩ := I.past i p q hp hh
      refine ⟨sh, a, fun e h => ?_, c⟩
      rcases b e h with h1 | ⟨h1, h1' | h1'⟩
      · exact .inl h1
      · exact .inr ⟨h1, .inl (hk _ h1')⟩
      · exact .inr ⟨h1, .inr h1'⟩
    · rcases I.now i p hp hv with h1 | h1 | h1
      · exact .inl h1
      · exact .inr (.inl h1)
      · exact .inr (.inr (hD i p h1))
    · cases r with
      | zero => exact hg
      | succ i => exact I.good (i + 1) hr
  · rw [h2]
    have he : Ext S.pl (S.pl.set i { p with vis := S.pos }) := ext_set hp rfl rfl
    have hlen : (S.pl.set i { p with vis := S.pos }).length = S.pl.length := List.length_set
    have hil := (List.getElem?_eq_some_iff.1 hp).1
    have hk : ∀ r, Called S r → Called { S with pl := S.pl.set i { p with vis := S.pos }, reached := S.reached ++ [i] } r := fun r hr => by
      cases r with
      | zero => exact hr
      | succ j =>
        obtain ⟨q, hq, hqv⟩ := hr
        by_cases e : i = j
        · subst e
          exact ⟨{ p with vis := S.pos }, by show (S.pl.set i _)[i]? = _; rw [List.getElem?_set_self hil], rfl⟩
        · exact ⟨q, by show (S.pl.set i _)[j]? = _; rw [List.getElem?_set_ne e]; exact hq, hqv⟩
    have hD : ∀ j q q', q'.sh = q.sh → Done S j q → Done { S with pl := S.pl.set i { p with vis := S.pos }, reached := S.reached ++ [i] } j q' := fun j q q' e ⟨sh, a, b, c⟩ => ⟨sh, e.trans a, b, fun l e r hr => hk r (c l e r hr)⟩
    have hgood : ∀ r, r ≤ S.pl.length → Good s D T S.pl r S.pos → Good s D T (S.pl.set i { p with vis := S.pos }) r S.pos := fun r hr hg => fun j hj => hg j (hj.back I.ord he hr)
    have hu : unv { S with pl := S.pl.set i { p with vis := S.pos }, reached := S.reached ++ [i] } + 1 = unv S := by
      have := sumL_set (f := uw S.pos) hp { p with vis := S.pos }
      have h1 : uw S.pos p = 1 := by unfold uw; rw [if_pos hv]
      have h2 : uw S.pos { p with vis := S.pos } = 0 := by unfold uw; rw [if_neg (Int.lt_irrefl _)]
      unfold unv
      show sumL (uw S.pos) (S.pl.set i { p with vis := S.pos }) + 1 = _
      omega
    have hrw : sumL rw' (S.pl.set i { p with vis := S.pos }) = sumL rw' S.pl := by
      have := sumL_set (f := rw') hp { p with vis := S.pos }
      have h1 : rw' { p with vis := S.pos } = rw' p := rfl
      omega
    refine ⟨⟨fun j q hq => ?_, fun j q hq => ?_, fun j q sh hq hs => ?_, fun j q hq => ?_, I.ele, I.ple, fun r q hh => ?_, fun j q k hq hh => ?_, fun j q hq hvq => ?_, fun j hj => ?_, fun j hj => ?_, fun r hr => ?_, ?_, ?_⟩, ?_, ⟨he, hlen, rfl, rfl, hk, ?_⟩⟩
    · rcases set_back hp hq with ⟨rfl, rfl⟩ | ⟨_, hq⟩
      · exact I.ord j p hp
      · exact I.ord j q hq
    · rcases set_back hp hq with ⟨rfl, rfl⟩ | ⟨_, hq⟩
      · exact I.deep j p hp
      · exact I.deep j q hq
    · rcases set_back hp hq with ⟨rfl, rfl⟩ | ⟨_, hq⟩
      · exact (I.shp j p sh hp hs).ext he rfl rfl
      · exact (I.shp j q sh hq hs).ext he rfl rfl
    · rcases set_back hp hq with ⟨rfl, rfl⟩ | ⟨_, hq⟩
      · exact ⟨by show (-1 : Int) ≤ (S.pos : Int); omega, Int.le_refl _⟩
      · exact I.vle j q hq
    · rw [hlen]; exact I.hlt r q hh
    · have key : ∀ q0 : Pl, S.pl[j]? = some q0 → q.sh = q0.sh → q.t = q0.t → q.nx = q0.nx → ∃ sh, q.sh = some sh ∧ (sh = .wait → ChAt s q.t.x.text k → H q.nx (k + 1) ∨ (k + 1 = S.pos ∧ (Called { S with pl := S.pl.set i { p with vis := S.pos }, reached := S.reached ++ [i] } q.nx ∨ j ∈ Wq))) ∧ (∀ l, sh = .ways l → ∀ r, r ∈ l → H r k) := fun q0 h0 e1 e2 e3 => by
        obtain ⟨sh, a, b, c⟩ := I.past j q0 k h0 hh
        refine (⟨sh, e1.trans a, fun e h => ?_, c⟩ : ∃ sh, q.sh = some sh ∧ (sh = .wait → ChAt s q.t.x.text k → H q.nx (k + 1) ∨ (k + 1 = S.pos ∧ (Called { S with pl := S.pl.set i { p with vis := S.pos }, reached := S.reached ++ [i] } q.nx ∨ j ∈ Wq))) ∧ (∀ l, sh = .ways l → ∀ r, r ∈ l → H r k))
        rw [e2] at h
        rw [e3]
        rcases b e h with h1 | ⟨h1, h1' | h1'⟩
        · exact .inl h1
        · exact .inr ⟨h1, .inl (hk _ h1')⟩
        · exact .inr ⟨h1, .inr h1'⟩
      rcases set_back hp hq with ⟨rfl, rfl⟩ | ⟨_, hq⟩
      · exact key p hp rfl rfl rfl
      · exact key q hq rfl rfl rfl
    · rcases set_back hp hq with ⟨rfl, rfl⟩ | ⟨_, hq⟩
      · exact .inr (.inl (by simp))
      · rcases I.now j q hq hvq with h1 | h1 | h1
        · exact .inl h1
        · exact .inr (.inl (by simp [h1]))
        · exact .inr (.inr (hD j q q rfl h1))
    · have hj' : j ∈ S.reached ++ [i] := hj
      rcases List.mem_append.1 hj' with h | h
      · exact hk (j + 1) (I.rch j h)
      · rw [List.mem_singleton.1 h]
        exact ⟨{ p with vis := S.pos }, by show (S.pl.set i _)[i]? = _; rw [List.getElem?_set_self hil], rfl⟩
    · obtain ⟨q, hq, ho, hg'⟩ := I.wt j hj
      obtain ⟨q', g1, g2, g3⟩ := he j q hq
      exact ⟨q', g1, by rw [g2]; exact ho, hgood _ (by have := (List.getElem?_eq_some_iff.1 hq).1; omega) hg'⟩
    · cases r with
      | zero => exact hgood 0 (Nat.zero_le _) (I.good 0 hr)
      | succ j =>
        obtain ⟨q, hq, hqv⟩ := hr
        rcases set_back hp hq with ⟨rfl, rfl⟩ | ⟨_, hq⟩
        · exact hgood (j + 1) (by omega) hg
        · exact hgood (j + 1) (by have := (List.getElem?_eq_some_iff.1 hq).1; omega) (I.good (j + 1) ⟨q, hq, hqv⟩)
    · have := I.cnt
      show S.waiting.length + (S.reached ++ [i]).length + unv _ + _ ≤ (S.pl.set i _).length
      rw [hlen, List.length_append, List.length_singleton]; omega
    · show (S.pl.set i _).length + sumL rw' (S.pl.set i _) ≤ N
      rw [hlen, hrw]; exact I.tot
    · exact ⟨{ p with vis := S.pos }, by show (S.pl.set i _)[i]? = _; rw [List.getElem?_set_self hil], rfl⟩
    · unfold mu
      show 2 * (unv _ + sumL rw' (S.pl.set i _)) + (S.reached ++ [i]).length ≤ _
      rw [hrw, List.length_append, List.length_singleton]; omega
theorem inv_calls : ∀ {l : List Nat} {S : Mc}, Inv s D N T H X Wq S → (∀ r, r ∈ l → r ≤ S.pl.length ∧ Good s D T S.pl r S.pos) → Inv s D N T H X Wq (l.foldl call S) ∧ (∀ r, r ∈ l → Called (l.foldl call S) r) ∧ Stp S (l.foldl call S)
  | [], S, I, _ => ⟨I, fun r hr => (List.not_mem_nil hr).elim, Stp.refl S⟩
  | r :: l, S, I, h => by
    obtain ⟨I1, c1, st⟩ := inv_call I (h r (by simp)).1 (h r (by simp)).2
    have h' : ∀ r', r' ∈ l → r' ≤ (call S r).pl.length ∧ Good s D T (call S r).pl r' (call S r).pos := fun r' hr' => by
      have h0 := h r' (by simp [hr'])
      exact ⟨by rw [st.len]; exact h0.1, by rw [st.pos]; exact fun j hj => h0.2 j (hj.back I.ord st.ext h0.1)⟩
    obtain ⟨I2, c2, st2⟩ := inv_calls (l := l) I1 h'
    refine ⟨I2, fun r' hr' => ?_, st.trans st2⟩
    rcases List.mem_cons.1 hr' with rfl | hr'
    · exact st2.kept _ c1
    · exact c2 r' hr'
/-- the last one that is reached is taken out -/
theorem inv_pop {R : List Nat} {i : Nat} (I : Inv s D N T H none Wq S) (hR : S.reached = R ++ [i]) : Inv s D N T H (some i) Wq { S with reached := R } ∧ Called { S with reached := R } (i + 1) ∧ mu { S with reached := R } + 1 = mu S := by
  obtain ⟨p, hp, hv⟩ := I.rch i (by rw [hR]; simp)
  have hl : S.reached.length = R.length + 1 := by rw [hR]; simp
  refine ⟨⟨I.ord, I.deep, I.shp, I.vle, I.ele, I.ple, I.hlt, I.past, fun j q hq hvq => ?_, fun j hj => I.rch j (by rw [hR]; exact List.mem_append_left _ hj), I.wt, I.good, ?_, I.tot⟩, ⟨p, hp, hv⟩, ?_⟩
  · rcases I.now j q hq hvq with h1 | h1 | h1
    · cases h1
    · rw [hR] at h1
      rcases List.mem_append.1 h1 with h | h
      · exact .inr (.inl h)
      · rw [List.mem_singleton.1 h]; exact .inl rfl
    · exact .inr (.inr h1)
  · have := I.cnt
    have e : unv { S with reached := R } = unv S := rfl
    show S.waiting.length + R.length + unv _ + 1 ≤ S.pl.length
    rw [e]; rw [hl] at this; simp at this; omega
  · unfold mu
    have e : unv { S with reached := R } = unv S := rfl
    show 2 * (unv _ + sumL rw' S.pl) + R.length + 1 = _
    rw [e, hl]; omega
/-- what news must be like -/
structure News (D : Nat) (S : Mc) (p : Pl) (nn : List Pl) : Prop where
  each : ∀ q, q ∈ nn → q.vis = -1 ∧ q.sh = none ∧ q.e ≤ D ∧ DeepL q.e q.t.kids
  ord : Ord (S.pl ++ nn)
  few : sumL nw nn ≤ cntL p.e p.t.kids
theorem inv_made {i : Nat} {p : Pl} {nn : List Pl} {sh : Vs} (I : Inv s D N T H (some i) Wq S) (hp : S.pl[i]? = some p) (h0 : p.sh = none) (hn : News D S p nn) (hsh : Shaped (S.pl ++ nn) i p sh) :
    Inv s D N T H (some i) Wq { S with pl := (S.pl ++ nn).set i { p with sh := some sh } } ∧ Ext S.pl ((S.pl ++ nn).set i { p with sh := some sh }) ∧ (∀ r, Called S r → Called { S with pl := (S.pl ++ nn).set i { p with sh := some sh } } r) ∧ mu { S with pl := (S.pl ++ nn).set i { p with sh := some sh } } ≤ mu S := by
  have hil := (List.getElem?_eq_some_iff.1 hp).1
  have hp2 : (S.pl ++ nn)[i]? = some p := by rw [List.getElem?_append_left hil]; exact hp
  have he2 : Ext (S.pl ++ nn) ((S.pl ++ nn).set i { p with sh := some sh }) := ext_set hp2 rfl rfl
  have he : Ext S.pl ((S.pl ++ nn).set i { p with sh := some sh }) := (ext_append _ _).trans he2
  have hlen : ((S.pl ++ nn).set i { p with sh := some sh }).length = S.pl.length + nn.length := by rw [List.length_set, List.length_append]
  have back : ∀ j q, ((S.pl ++ nn).set i { p with sh := some sh })[j]? = some q → (j = i ∧ q = { p with sh := some sh }) ∨ (j ≠ i ∧ S.pl[j]? = some q) ∨ (S.pl.length ≤ j ∧ q ∈ nn) := fun j q hq => by
    rcases set_back hp2 hq with h | ⟨h, hq⟩
    · exact .inl h
    · by_cases hj : j < S.pl.length
      · rw [List.getElem?_append_left hj] at hq; exact .inr (.inl ⟨h, hq⟩)
      · rw [List.getElem?_append_right (by omega)] at hq; exact .inr (.inr ⟨by omega, List.mem_of_getElem? hq⟩)
  have hk : ∀ r, Called S r → Called { S with pl := (S.pl ++ nn).set i { p with sh := some sh } } r := fun r hr => by
    cases r with
    | zero => exact hr
    | succ j =>
      obtain ⟨q, hq, hqv⟩ := hr
      have hjl := (List.getElem?_eq_some_iff.1 hq).1
      by_cases e : i = j
      · subst e
        rw [hp] at hq; cases hq
        exact ⟨{ p with sh := some sh }, by show ((S.pl ++ nn).set i _)[i]? = _; rw [List.getElem?_set_self (by rw [List.length_append]; omega)], hqv⟩
      · exact ⟨q, by show ((S.pl ++ nn).set i _)[j]? = _; rw [List.getElem?_set_ne e, List.getElem?_append_left hjl]; exact hq, hqv⟩
  have hgood : ∀ r, r ≤ S.pl.length → Good s D T S.pl r S.pos → Good s D T ((S.pl ++ nn).set i { p with sh := some sh }) r S.pos := fun r hr hg => fun j hj => hg j (hj.back I.ord he hr)
  have hnl := sumL_nw nn
  have hru : sumL rw' nn ≤ sumL (fun q => cntL q.e q.t.kids) nn := sumL_le fun q _ => by unfold rw'; split <;> omega
  have hr0 : rw' p = cntL p.e p.t.kids := by unfold rw'; rw [h0]; rfl
  have hr1 : rw' { p with sh := some sh } = 0 := rfl
  have hsr := sumL_set (f := rw') hp2 { p with sh := some sh }
  rw [sumL_app, hr0, hr1] at hsr
  have hsu := sumL_set (f := uw S.pos) hp2 { p with sh := some sh }
  have hu1 : uw S.pos { p with sh := some sh } = uw S.pos p := rfl
  rw [sumL_app, hu1] at hsu
  have huu : sumL (uw S.pos) nn ≤ nn.length := by
    have h : sumL (uw S.pos) nn ≤ sumL (fun _ => 1) nn := sumL_le fun p _ => by unfold uw; split <;> omega
    have h2 : sumL (fun _ => 1) nn = nn.length := sumL_one _
    omega
  have hfew := hn.few
  refine ⟨⟨fun j q hq => ?_, fun j q hq => ?_, fun j q sh' hq hs => ?_, fun j q hq => ?_, I.ele, I.ple, fun r q hh => ?_, fun j q k hq hh => ?_, fun j q hq hvq => ?_, fun j hj => hk (j + 1) (I.rch j hj), fun j hj => ?_, fun r hr => ?_, ?_, ?_⟩, he, hk, ?_⟩
  · rcases set_back hp2 hq with ⟨rfl, rfl⟩ | ⟨_, hq⟩
    · exact I.ord j p hp
    · exact hn.ord j q hq
  · rcases back j q hq with ⟨rfl, rfl⟩ | ⟨_, hq⟩ | ⟨_, hq⟩
    · exact I.deep j p hp
    · exact I.deep j q hq
    · exact (hn.each q hq).2.2
  · rcases back j q hq with ⟨rfl, rfl⟩ | ⟨_, hq⟩ | ⟨_, hq⟩
    · cases hs; exact hsh.ext he2 rfl rfl
    · exact (I.shp j q sh' hq hs).ext he rfl rfl
    · rw [(hn.each q hq).2.1] at hs; cases hs
  · rcases back j q hq with ⟨rfl, rfl⟩ | ⟨_, hq⟩ | ⟨_, hq⟩
    · exact I.vle j p hp
    · exact I.vle j q hq
    · rw [(hn.each q hq).1]; exact ⟨Int.le_refl _, by show (-1 : Int) ≤ (S.pos : Int); omega⟩
  · have := I.hlt r q hh
    exact ⟨this.1, by show r ≤ ((S.pl ++ nn).set i _).length; rw [hlen]; omega⟩
  · have key : ∀ q0 : Pl, S.pl[j]? = some q0 → (∀ x, q0.sh = some x → q.sh = some x) → q.t = q0.t → q.nx = q0.nx → ∃ sh', q.sh = some sh' ∧ (sh' = .wait → ChAt s q.t.x.text k → H q.nx (k + 1) ∨ (k + 1 = S.pos ∧ (Called { S with pl := (S.pl ++ nn).set i { p with sh := some sh } } q.nx ∨ j ∈ Wq))) ∧ (∀ l, sh' = .ways l → ∀ r, r ∈ l → H r k) := fun q0 hq0 e1 e2 e3 => by
      obtain ⟨sh', a, b, c⟩ := I.past j q0 k hq0 hh
      refine ⟨sh', e1 sh' a, fun e h => ?_, c⟩
      rw [e2] at h
      rw [e3]
      rcases b e h with h1 | ⟨h1, h1' | h1'⟩
      · exact .inl h1
      · exact .inr ⟨h1, .inl (hk _ h1')⟩
      · exact .inr ⟨h1, .inr h1'⟩
    rcases back j q hq with ⟨rfl, rfl⟩ | ⟨_, hq⟩ | ⟨hj, hq⟩
    · exact key p hp (fun x hx => by rw [h0] at hx; cases hx) rfl rfl
    · exact key q hq (fun x hx => hx) rfl rfl
    · have := (I.hlt _ _ hh).2; omega
  · rcases back j q hq with ⟨rfl, rfl⟩ | ⟨_, hq⟩ | ⟨_, hq⟩
    · exact .inl rfl
    · rcases I.now j q hq hvq with h1 | h1 | ⟨sh', a, b, c⟩
      · exact .inl h1
      · exact .inr (.inl h1)
      · exact .inr (.inr ⟨sh', a, b, fun l e r hr => hk r (c l e r hr)⟩)
    · have := (hn.each q hq).1
      have h2 : q.vis = (S.pos : Int) := hvq
      omega
  · obtain ⟨q, hq, ho, hg'⟩ := I.wt j hj
    obtain ⟨q', g1, g2, g3⟩ := he j q hq
    exact ⟨q', g1, by rw [g2]; exact ho, hgood _ (by have := (List.getElem?_eq_some_iff.1 hq).1; omega) hg'⟩
  · cases r with
    | zero => exact hgood 0 (Nat.zero_le _) (I.good 0 hr)
    | succ j =>
      obtain ⟨q, hq, hqv⟩ := hr
      rcases back j q hq with ⟨rfl, rfl⟩ | ⟨_, hq⟩ | ⟨_, hq⟩
      · exact hgood (j + 1) (by omega) (I.good (j + 1) ⟨p, hp, hqv⟩)
      · exact hgood (j + 1) (by have := (List.getElem?_eq_some_iff.1 hq).1; omega) (I.good (j + 1) ⟨q, hq, hqv⟩)
      · have := (hn.each q hq).1
        have h2 : q.vis = (S.pos : Int) := hqv
        omega
  · have h1 := I.cnt
    have e : unv { S with pl := (S.pl ++ nn).set i { p with sh := some sh } } = sumL (uw S.pos) ((S.pl ++ nn).set i { p with sh := some sh }) := rfl
    have e2 : unv S = sumL (uw S.pos) S.pl := rfl
    show S.waiting.length + S.reached.length + unv _ + _ ≤ ((S.pl ++ nn).set i _).length
    rw [hlen, e]; rw [e2] at h1; omega
  · have h1 := I.tot
    show ((S.pl ++ nn).set i _).length + sumL rw' ((S.pl ++ nn).set i _) ≤ N
    rw [hlen]; omega
  · unfold mu
    have e : unv { S with pl := (S.pl ++ nn).set i { p with sh := some sh } } = sumL (uw S.pos) ((S.pl ++ nn).set i { p with sh := some sh }) := rfl
    have e2 : unv S = sumL (uw S.pos) S.pl := rfl
    show 2 * (unv _ + sumL rw' ((S.pl ++ nn).set i _)) + S.reached.length ≤ _
    rw [e, e2]; omega
/-- the place i has been visited -/
theorem inv_wait {i : Nat} {p : Pl} (I : Inv s D N T H (some i) Wq S) (hp : S.pl[i]? = some p) (hs : p.sh = some .wait) (ho : p.t.x.op = 1) (hc : Called S (i + 1)) : Inv s D N T H none Wq { S with waiting := S.waiting ++ [i] } := by
  have hk : ∀ r, Called S r → Called { S with waiting := S.waiting ++ [i] } r := fun r hr => by cases r <;> exact hr
  have hb : ∀ r, Called { S with waiting := S.waiting ++ [i] } r → Called S r := fun r hr => by cases r <;> exact hr
  refine ⟨I.ord, I.deep, I.shp, I.vle, I.ele, I.ple, I.hlt, fun j q k hq hh => ?_, fun j q hq hvq => ?_, I.rch, fun j hj => ?_, fun r hr => I.good r (hb r hr), ?_, I.tot⟩
  · obtain ⟨sh', a, b, c⟩ := I.past j q k hq hh
    refine ⟨sh', a, fun e h => ?_, c⟩
    rcases b e h with h1 | ⟨h1, h1' | h1'⟩
    · exact .inl h1
    · exact .inr ⟨h1, .inl (hk _ h1')⟩
    · exact .inr ⟨h1, .inr h1'⟩
  · rcases I.now j q hq hvq with h1 | h1 | ⟨sh', a, b, c⟩
    · cases h1
      have : q = p := by have := hp.symm.trans hq; cases this; rfl
      subst this
      exact .inr (.inr ⟨.wait, hs, fun _ => (by simp), fun l e => (by cases e)⟩)
    · exact .inr (.inl h1)
    · exact .inr (.inr ⟨sh', a, fun e => List.mem_append_left _ (b e), fun l e r hr => hk r (c l e r hr)⟩)
  · have hj' : j ∈ S.waiting ++ [i] := hj
    rcases List.mem_append.1 hj' with h | h
    · exact I.wt j h
    · rw [List.mem_singleton.1 h]
      exact ⟨p, hp, ho, I.good _ hc⟩
  · have := I.cnt
    have e : unv { S with waiting := S.waiting ++ [i] } = unv S := rfl
    show (S.waiting ++ [i]).length + S.reached.length + unv _ + 0 ≤ S.pl.length
    rw [e, List.length_append, List.length_singleton]; simp at this; omega
theorem inv_ways {i : Nat} {p : Pl} {l : List Nat} (I : Inv s D N T H (some i) Wq S) (hp : S.pl[i]? = some p) (hs : p.sh = some (.ways l)) (hc : ∀ r, r ∈ l → Called S r) : Inv s D N T H none Wq S := by
  refine ⟨I.ord, I.deep, I.shp, I.vle, I.ele, I.ple, I.hlt, I.past, fun j q hq hvq => ?_, I.rch, I.wt, I.good, by have := I.cnt; simp at this ⊢; omega, I.tot⟩
  rcases I.now j q hq hvq with h1 | h1 | h1
  · cases h1
    have : q = p := by have := hp.symm.trans hq; cases this; rfl
    subst this
    exact .inr (.inr ⟨.ways l, hs, fun e => (by cases e), fun l' e r hr => (by cases e; exact hc r hr)⟩)
  · exact .inr (.inl h1)
  · exact .inr (.inr h1)
/-- the ways out of a visited place: refs that may be called -/
theorem ways_good {i : Nat} {p : Pl} {l : List Nat} (I : Inv s D N T H X Wq S) (hp : S.pl[i]? = some p) (hs : Shaped S.pl i p (.ways l)) (hc : Called S (i + 1)) : ∀ r, r ∈ l → r ≤ S.pl.length ∧ Good s D T S.pl r S.pos := fun r hr => by
  have hil := (List.getElem?_eq_some_iff.1 hp).1
  have hnx := I.ord i p hp
  refine ⟨?_, fun j hj => I.good _ hc j (sound_ways hp (I.deep i p hp).2 (I.deep i p hp).1 hs hr hj)⟩
  obtain ⟨c1, c2, c3, c4, c5, c6⟩ := hs
  have tries : ∀ b, b ≤ S.pl.length → Tries S.pl p.t.kids b p.nx (.ways l) → r ≤ S.pl.length := fun b hb ht => by
    unfold Tries at ht
    split at ht
    · obtain ⟨r', e', hl⟩ := ht
      cases e'
      rcases List.mem_cons.1 hr with rfl | hr
      · exact hl.le hb
      · rw [List.mem_singleton.1 hr]; omega
    · cases ht; rw [List.mem_singleton.1 hr]; omega
  rcases op_cases p.t.x.op with h | h | h | h | h | ⟨h1, h2, h3, h4, h5⟩
  · cases c1 h
  · obtain ⟨r', e', hl⟩ := c2 h
    cases e'
    rw [List.mem_singleton.1 hr]; exact hl.le (by omega)
  · obtain ⟨l', e', hl, hL⟩ := c3 h
    cases e'
    obtain ⟨q, hq1, rfl⟩ := List.getElem_of_mem hr
    exact (hL q hq1 (by omega)).le (by omega)
  · exact tries _ (by omega) (c4 h)
  · exact tries _ (by omega) (c5 h)
  · have := c6 h1 h2 h3 h4 h5
    cases this
    cases hr
/-- one byte further -/
theorem inv_next (I : Inv s D N T H none [] S) (hR : S.reached = []) (hlt : S.pos < s.size) : Inv s D N T (fun r q => H r q ∨ (q = S.pos ∧ Called S r)) none S.waiting { S with waiting := [], pos := S.pos + 1 } := by
  have hno : ∀ r, ¬ Called { S with waiting := [], pos := S.pos + 1 } r := fun r hr => by
    cases r with
    | zero => have h1 : S.en = ((S.pos + 1 : Nat) : Int) := hr; have := I.ele.2; omega
    | succ i => obtain ⟨p, hp, hv⟩ := hr; have h1 : p.vis = ((S.pos + 1 : Nat) : Int) := hv; have := (I.vle i p hp).2; omega
  refine ⟨I.ord, I.deep, I.shp, fun j q hq => ?_, ?_, hlt, fun r q hh => ?_, fun j q k hq hh => ?_, fun j q hq hvq => ?_, fun j hj => ?_, fun j hj => ?_, fun r hr => absurd hr (hno r), ?_, I.tot⟩
  · have := I.vle j q hq
    exact ⟨this.1, by show q.vis ≤ ((S.pos + 1 : Nat) : Int); omega⟩
  · have := I.ele
    exact ⟨this.1, by show S.en ≤ ((S.pos + 1 : Nat) : Int); omega⟩
  · rcases hh with hh | ⟨rfl, hh⟩
    · have := I.hlt r q hh
      exact ⟨by show q < S.pos + 1; omega, this.2⟩
    · exact ⟨by show S.pos < S.pos + 1; omega, called_le (S := S) hh⟩
  · rcases hh with hh | ⟨rfl, hh⟩
    · obtain ⟨sh, a, b, c⟩ := I.past j q k hq hh
      refine ⟨sh, a, fun e h => ?_, fun l e r hr => .inl (c l e r hr)⟩
      rcases b e h with h1 | ⟨h1, h1' | h1'⟩
      · exact .inl (.inl h1)
      · exact .inl (.inr ⟨h1, h1'⟩)
      · cases h1'
    · obtain ⟨p, hp, hv⟩ := hh
      have : q = p := by have := hp.symm.trans hq; cases this; rfl
      subst this
      rcases I.now j q hq hv with h1 | h1 | ⟨sh, a, b, c⟩
      · cases h1
      · rw [hR] at h1; cases h1
      · exact ⟨sh, a, fun e _ => .inr ⟨rfl, .inr (b e)⟩, fun l e r hr => .inr ⟨rfl, c l e r hr⟩⟩
  · exact absurd ⟨q, hq, hvq⟩ (hno (j + 1))
  · rw [show ({ S with waiting := [], pos := S.pos + 1 } : Mc).reached = [] from hR] at hj; cases hj
  · cases hj
  · have := unv_le { S with waiting := [], pos := S.pos + 1 }
    show 0 + S.reached.length + unv _ + 0 ≤ S.pl.length
    rw [hR]; simp at this ⊢; exact this
/-- one that waits, and what it does with the byte -/
theorem inv_drop {i : Nat} {p : Pl} (I : Inv s D N T H none (i :: Wq) S) (hp : S.pl[i]? = some p) (h : ∀ k, k + 1 = S.pos → ChAt s p.t.x.text k → Called S p.nx) : Inv s D N T H none Wq S := by
  refine ⟨I.ord, I.deep, I.shp, I.vle, I.ele, I.ple, I.hlt, fun j q k hq hh => ?_, I.now, I.rch, I.wt, I.good, I.cnt, I.tot⟩
  obtain ⟨sh, a, b, c⟩ := I.past j q k hq hh
  refine ⟨sh, a, fun e hc => ?_, c⟩
  rcases b e hc with h1 | ⟨h1, h1' | h1'⟩
  · exact .inl h1
  · exact .inr ⟨h1, .inl h1'⟩
  · rcases List.mem_cons.1 h1' with rfl | h1'
    · have : q = p := by have := hp.symm.trans hq; cases this; rfl
      subst this
      exact .inr ⟨h1, .inl (h k h1 hc)⟩
    · exact .inr ⟨h1, .inr h1'⟩
def Beg (H : Nat → Nat → Prop) (S : Mc) : Prop := H 1 0 ∨ (S.pos = 0 ∧ Called S 1)
theorem inv_end (I : Inv s D N T H none [] S) (hb : Beg H S) (hR : S.reached = []) (he : S.pos = s.size ∨ S.waiting = []) {p : Pl} (hp : S.pl[0]? = some p) (ht : p.t = T) (hx : p.nx = 0) : S.en = s.size ↔ Mt s D T 0 s.size := by
  have hpos := I.ple
  constructor
  · intro h
    have h1 : S.pos = s.size := by have := I.ele.2; omega
    have h2 : Called S 0 := by show S.en = S.pos; rw [h1]; exact h
    have := I.good 0 h2 S.pos (.fin _)
    rwa [h1] at this
  · intro hm
    have hc : Closed s S.pl (fun r q => H r q ∨ (q = S.pos ∧ Called S r)) := fun i q k hq hh => by
      rcases hh with hh | ⟨rfl, hh⟩
      · obtain ⟨sh, a, b, c⟩ := I.past i q k hq hh
        refine ⟨sh, I.shp i q sh hq a, fun e h => ?_, fun l e r hr => .inl (c l e r hr)⟩
        rcases b e h with h1 | ⟨h1, h1' | h1'⟩
        · exact .inl h1
        · exact .inr ⟨h1, h1'⟩
        · cases h1'
      · obtain ⟨p', hp', hv⟩ := hh
        have : q = p' := by have := hp'.symm.trans hq; cases this; rfl
        subst this
        rcases I.now i q hq hv with h1 | h1 | ⟨sh, a, b, c⟩
        · cases h1
        · rw [hR] at h1; cases h1
        · refine ⟨sh, I.shp i q sh hq a, fun e ⟨h, _⟩ => ?_, fun l e r hr => .inr ⟨rfl, c l e r hr⟩⟩
          have hw := b e
          rcases he with he | he
          · omega
          · rw [he] at hw; cases hw
    have hbeg : (fun r q => H r q ∨ (q = S.pos ∧ Called S r)) (0 + 1) 0 := by
      rcases hb with h | ⟨h1, h2⟩
      · exact .inl h
      · exact .inr ⟨h1.symm, h2⟩
    have hd := I.deep 0 p hp
    have hm' : Mt s p.e p.t 0 s.size := by rw [← mt_deepL s p.e p.t D hd.2 hd.1, ht]; exact hm
    have := compl hc p.e 0 p 0 s.size hp hd.2 hm' hbeg
    rw [hx] at this
    rcases this with h | ⟨h1, h2⟩
    · have := (I.hlt _ _ h).1; omega
    · have h3 : S.en = S.pos := h2
      rw [h3, h1]
/-- the beginning -/
theorem inv_zero {t : Pat} {e : Nat} {r : PatR} {b : Nat} (hd : DeepL e t.kids) (he : e ≤ D) (hN : 1 + cntL e t.kids ≤ N) : Inv s D N t (fun _ _ => False) none [] ⟨[⟨t, e, r, 0, b, -1, none⟩], [], [], 0, -1⟩ := by
  have one : ∀ j q, ([⟨t, e, r, 0, b, -1, none⟩] : List Pl)[j]? = some q → j = 0 ∧ q = ⟨t, e, r, 0, b, -1, none⟩ := fun j q hq => by
    cases j with
    | zero => simp at hq; exact ⟨rfl, hq.symm⟩
    | succ j => simp at hq
  refine ⟨fun j q hq => ?_, fun j q hq => ?_, fun j q sh hq hs => ?_, fun j q hq => ?_, ⟨Int.le_refl _, by show (-1 : Int) ≤ ((0 : Nat) : Int); omega⟩, Nat.zero_le _, fun _ _ h => h.elim, fun _ _ _ _ h => h.elim, fun j q hq hv => ?_, fun j hj => (by cases hj), fun j hj => (by cases hj), fun r hr => ?_, ?_, ?_⟩
  · obtain ⟨rfl, rfl⟩ := one j q hq; exact Nat.le_refl _
  · obtain ⟨rfl, rfl⟩ := one j q hq; exact ⟨he, hd⟩
  · obtain ⟨rfl, rfl⟩ := one j q hq; cases hs
  · obtain ⟨rfl, rfl⟩ := one j q hq; exact ⟨Int.le_refl _, by show (-1 : Int) ≤ ((0 : Nat) : Int); omega⟩
  · obtain ⟨rfl, rfl⟩ := one j q hq
    have h1 : (-1 : Int) = ((0 : Nat) : Int) := hv
    omega
  · cases r with
    | zero => have h1 : (-1 : Int) = ((0 : Nat) : Int) := hr; omega
    | succ j =>
      obtain ⟨q, hq, hv⟩ := hr
      obtain ⟨rfl, rfl⟩ := one j q hq
      have h1 : (-1 : Int) = ((0 : Nat) : Int) := hv
      omega
  · simp [unv, sumL, uw]
  · simpa [sumL, rw'] using hN
theorem good_zero {t : Pat} {e : Nat} {r : PatR} {b : Nat} : Good s D t [⟨t, e, r, 0, b, -1, none⟩] 1 0 := fun j hp => by
  cases hp with
  | via h hm hp' =>
    simp at h
    subst h
    cases hp' with
    | fin => exact hm
end
end Mac
end Go.Proofs.Ytdalobhomlfpiaa
