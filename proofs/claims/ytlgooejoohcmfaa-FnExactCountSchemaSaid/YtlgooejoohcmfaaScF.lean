/- CHAPTER 9: laws.toSchemaS. PRINTED by tools/gen_scF.py. -/
import Derived.Test.YtlgooejoohcmfaaScA
import Derived.Test.YtlgooejoohcmfaaExB
set_option linter.unusedVariables false
set_option linter.unusedSimpArgs false
namespace Go.Proofs.Ytlgooejoohcmfaa
open Go.RowKit
set_option maxRecDepth 100000

theorem infoSch : (Try.prog.info? 38).map (fun i => (i.zero, i.size, i.bytes)) = some (some (.agg #[.int .i64 0, .string ⟨#[]⟩, .int .i64 0, .slice none 0 0, .slice none 0 0, .string ⟨#[]⟩, .string ⟨#[]⟩, .slice none 0 0, .slice none 0 0, .string ⟨#[]⟩, .bool false, .bool false, .bool false, .bool false, .int .i64 0, .int .i64 0, .slice none 0 0, .slice none 0 0, .slice none 0 0]), 19, 272) := by kernel_rfl
abbrev RowS (B : Nat) (w : World) (v : Value) (R : List ScR) : Prop := RowR ScR.enc 19 38 B w v R
theorem RowS.put {B g n cap : Nat} {w : World} {L : List ScR} (h : RowS B w (.slice (some ⟨g, 0, none⟩) n cap) L) {i : Nat} (hi : i < L.length) (x : ScR) :
    RowS B (w.setCells g (i * 19) x.enc) (.slice (some ⟨g, 0, none⟩) n cap) (L.set i x) ∧ w.grownBy (w.setCells g (i * 19) x.enc) (some g) := by
  have hl : ∀ (y : ScR), i < (L.set i y).length := fun y => by simpa using hi
  have h0 := RowR.set1 ScR.enc_len (h) (i := i) hi 0 (by omega) (.int .i64 x.kind) ⟨x.kind, L[i].name, ⟨L[i].tv.k, L[i].tv.vr, L[i].tv.vn, L[i].tv.pt, L[i].tv.ph⟩, L[i].vk, L[i].vu, L[i].dflt, L[i].given, L[i].needed, L[i].present, L[i].fixed, L[i].min, L[i].max, L[i].wv, L[i].mv, L[i].kv⟩ rfl
  have h1 := RowR.set1 ScR.enc_len (h0.1) (i := i) (hl _) 1 (by omega) (.string x.name) ⟨x.kind, x.name, ⟨L[i].tv.k, L[i].tv.vr, L[i].tv.vn, L[i].tv.pt, L[i].tv.ph⟩, L[i].vk, L[i].vu, L[i].dflt, L[i].given, L[i].needed, L[i].present, L[i].fixed, L[i].min, L[i].max, L[i].wv, L[i].mv, L[i].kv⟩ (by simp [ScR.enc])
  have h2 := RowR.set1 ScR.enc_len (h1.1) (i := i) (by simpa using hi) 2 (by omega) (.int .i64 x.tv.k) ⟨x.kind, x.name, ⟨x.tv.k, L[i].tv.vr, L[i].tv.vn, L[i].tv.pt, L[i].tv.ph⟩, L[i].vk, L[i].vu, L[i].dflt, L[i].given, L[i].needed, L[i].present, L[i].fixed, L[i].min, L[i].max, L[i].wv, L[i].mv, L[i].kv⟩ (by simp [ScR.enc])
  have h3 := RowR.set1 ScR.enc_len (h2.1) (i := i) (by simpa using hi) 3 (by omega) (x.tv.vr) ⟨x.kind, x.name, ⟨x.tv.k, x.tv.vr, L[i].tv.vn, L[i].tv.pt, L[i].tv.ph⟩, L[i].vk, L[i].vu, L[i].dflt, L[i].given, L[i].needed, L[i].present, L[i].fixed, L[i].min, L[i].max, L[i].wv, L[i].mv, L[i].kv⟩ (by simp [ScR.enc])
  have h4 := RowR.set1 ScR.enc_len (h3.1) (i := i) (by simpa using hi) 4 (by omega) (x.tv.vn) ⟨x.kind, x.name, ⟨x.tv.k, x.tv.vr, x.tv.vn, L[i].tv.pt, L[i].tv.ph⟩, L[i].vk, L[i].vu, L[i].dflt, L[i].given, L[i].needed, L[i].present, L[i].fixed, L[i].min, L[i].max, L[i].wv, L[i].mv, L[i].kv⟩ (by simp [ScR.enc])
  have h5 := RowR.set1 ScR.enc_len (h4.1) (i := i) (by simpa using hi) 5 (by omega) (.string x.tv.pt) ⟨x.kind, x.name, ⟨x.tv.k, x.tv.vr, x.tv.vn, x.tv.pt, L[i].tv.ph⟩, L[i].vk, L[i].vu, L[i].dflt, L[i].given, L[i].needed, L[i].present, L[i].fixed, L[i].min, L[i].max, L[i].wv, L[i].mv, L[i].kv⟩ (by simp [ScR.enc])
  have h6 := RowR.set1 ScR.enc_len (h5.1) (i := i) (by simpa using hi) 6 (by omega) (.string x.tv.ph) ⟨x.kind, x.name, ⟨x.tv.k, x.tv.vr, x.tv.vn, x.tv.pt, x.tv.ph⟩, L[i].vk, L[i].vu, L[i].dflt, L[i].given, L[i].needed, L[i].present, L[i].fixed, L[i].min, L[i].max, L[i].wv, L[i].mv, L[i].kv⟩ (by simp [ScR.enc])
  have h7 := RowR.set1 ScR.enc_len (h6.1) (i := i) (by simpa using hi) 7 (by omega) (x.vk) ⟨x.kind, x.name, ⟨x.tv.k, x.tv.vr, x.tv.vn, x.tv.pt, x.tv.ph⟩, x.vk, L[i].vu, L[i].dflt, L[i].given, L[i].needed, L[i].present, L[i].fixed, L[i].min, L[i].max, L[i].wv, L[i].mv, L[i].kv⟩ (by simp [ScR.enc])
  have h8 := RowR.set1 ScR.enc_len (h7.1) (i := i) (by simpa using hi) 8 (by omega) (x.vu) ⟨x.kind, x.name, ⟨x.tv.k, x.tv.vr, x.tv.vn, x.tv.pt, x.tv.ph⟩, x.vk, x.vu, L[i].dflt, L[i].given, L[i].needed, L[i].present, L[i].fixed, L[i].min, L[i].max, L[i].wv, L[i].mv, L[i].kv⟩ (by simp [ScR.enc])
  have h9 := RowR.set1 ScR.enc_len (h8.1) (i := i) (by simpa using hi) 9 (by omega) (.string x.dflt) ⟨x.kind, x.name, ⟨x.tv.k, x.tv.vr, x.tv.vn, x.tv.pt, x.tv.ph⟩, x.vk, x.vu, x.dflt, L[i].given, L[i].needed, L[i].present, L[i].fixed, L[i].min, L[i].max, L[i].wv, L[i].mv, L[i].kv⟩ (by simp [ScR.enc])
  have h10 := RowR.set1 ScR.enc_len (h9.1) (i := i) (by simpa using hi) 10 (by omega) (.bool x.given) ⟨x.kind, x.name, ⟨x.tv.k, x.tv.vr, x.tv.vn, x.tv.pt, x.tv.ph⟩, x.vk, x.vu, x.dflt, x.given, L[i].needed, L[i].present, L[i].fixed, L[i].min, L[i].max, L[i].wv, L[i].mv, L[i].kv⟩ (by simp [ScR.enc])
  have h11 := RowR.set1 ScR.enc_len (h10.1) (i := i) (by simpa using hi) 11 (by omega) (.bool x.needed) ⟨x.kind, x.name, ⟨x.tv.k, x.tv.vr, x.tv.vn, x.tv.pt, x.tv.ph⟩, x.vk, x.vu, x.dflt, x.given, x.needed, L[i].present, L[i].fixed, L[i].min, L[i].max, L[i].wv, L[i].mv, L[i].kv⟩ (by simp [ScR.enc])
  have h12 := RowR.set1 ScR.enc_len (h11.1) (i := i) (by simpa using hi) 12 (by omega) (.bool x.present) ⟨x.kind, x.name, ⟨x.tv.k, x.tv.vr, x.tv.vn, x.tv.pt, x.tv.ph⟩, x.vk, x.vu, x.dflt, x.given, x.needed, x.present, L[i].fixed, L[i].min, L[i].max, L[i].wv, L[i].mv, L[i].kv⟩ (by simp [ScR.enc])
  have h13 := RowR.set1 ScR.enc_len (h12.1) (i := i) (by simpa using hi) 13 (by omega) (.bool x.fixed) ⟨x.kind, x.name, ⟨x.tv.k, x.tv.vr, x.tv.vn, x.tv.pt, x.tv.ph⟩, x.vk, x.vu, x.dflt, x.given, x.needed, x.present, x.fixed, L[i].min, L[i].max, L[i].wv, L[i].mv, L[i].kv⟩ (by simp [ScR.enc])
  have h14 := RowR.set1 ScR.enc_len (h13.1) (i := i) (by simpa using hi) 14 (by omega) (.int .i64 x.min) ⟨x.kind, x.name, ⟨x.tv.k, x.tv.vr, x.tv.vn, x.tv.pt, x.tv.ph⟩, x.vk, x.vu, x.dflt, x.given, x.needed, x.present, x.fixed, x.min, L[i].max, L[i].wv, L[i].mv, L[i].kv⟩ (by simp [ScR.enc])
  have h15 := RowR.set1 ScR.enc_len (h14.1) (i := i) (by simpa using hi) 15 (by omega) (.int .i64 x.max) ⟨x.kind, x.name, ⟨x.tv.k, x.tv.vr, x.tv.vn, x.tv.pt, x.tv.ph⟩, x.vk, x.vu, x.dflt, x.given, x.needed, x.present, x.fixed, x.min, x.max, L[i].wv, L[i].mv, L[i].kv⟩ (by simp [ScR.enc])
  have h16 := RowR.set1 ScR.enc_len (h15.1) (i := i) (by simpa using hi) 16 (by omega) (x.wv) ⟨x.kind, x.name, ⟨x.tv.k, x.tv.vr, x.tv.vn, x.tv.pt, x.tv.ph⟩, x.vk, x.vu, x.dflt, x.given, x.needed, x.present, x.fixed, x.min, x.max, x.wv, L[i].mv, L[i].kv⟩ (by simp [ScR.enc])
  have h17 := RowR.set1 ScR.enc_len (h16.1) (i := i) (by simpa using hi) 17 (by omega) (x.mv) ⟨x.kind, x.name, ⟨x.tv.k, x.tv.vr, x.tv.vn, x.tv.pt, x.tv.ph⟩, x.vk, x.vu, x.dflt, x.given, x.needed, x.present, x.fixed, x.min, x.max, x.wv, x.mv, L[i].kv⟩ (by simp [ScR.enc])
  have h18 := RowR.set1 ScR.enc_len (h17.1) (i := i) (by simpa using hi) 18 (by omega) (x.kv) x (by simp [ScR.enc])
  have hg := ((((((((((((((((((h0.2).trans h1.2).trans h2.2).trans h3.2).trans h4.2).trans h5.2).trans h6.2).trans h7.2).trans h8.2).trans h9.2).trans h10.2).trans h11.2).trans h12.2).trans h13.2).trans h14.2).trans h15.2).trans h16.2).trans h17.2).trans h18.2
  have hr := h18.1
  simp only [List.set_set] at hr
  exact ⟨hr, hg⟩
def ToSS (d : Nat) : Prop := ∀ (v : Value) (l : List Sc) (w : World), RdL scK d w v l → SizT ScSz d l → Calls Try.prog 8 #[v] w fun e w' => ∃ (v' : Value) (S : Nat → Prop), e = .returned v' ∧ OwL scK d w.heap.size w' v' l S ∧ Below w.heap.size w w'
def ToS9 (d : Nat) : Prop := ∀ (r : ScR) (t : Sc) (w : World), RdN scK d w r t → ScSz t.x → SizT ScSz d t.kids → Calls Try.prog 25 #[r.val] w fun e w' => ∃ (r' : ScR) (S : Nat → Prop), e = .returned r'.val ∧ OwN scK d w.heap.size w' r' t S ∧ Below w.heap.size w w'
set_option maxHeartbeats 4000000 in
theorem toSS_of (d : Nat) (ih : ∀ e, d = e + 1 → ToS9 e) : ToSS d := by
  intro v l w hv hsh
  obtain ⟨i0, hi, hz0, hz1, hz2⟩ := info_parts infoSch
  obtain ⟨A, cap, rfl, hn', hc⟩ := sc_at hv
  obtain ⟨n, hnn⟩ : ∃ n, n = l.length := ⟨_, rfl⟩
  have HN : Hid (n = l.length) := Lib.hid hnn
  have hn : n ≤ 1048576 := by
    rw [hnn]
    cases d with
    | zero => rw [hv.1]; simp
    | succ d => exact hsh.1
  have HC : Hid (∀ i, (hi : i < l.length) → ∃ (a : Addr) (rv : Array Value), A = some a ∧ (∀ W, Below w.heap.size w W → (Instr.loadAt 52 (.pointer (some (a.add (i * 19))))).run Try.prog W = .ok (.agg rv) W) ∧ ∀ W, Below w.heap.size w W → Calls Try.prog 25 #[.agg rv] W fun e w' => ∃ (r' : ScR) (S : Nat → Prop), e = .returned r'.val ∧ OwN scK (d - 1) W.heap.size w' r' l[i] S ∧ Below W.heap.size W w') := Lib.hid fun i hi => by
    obtain ⟨a, r, d', e1, e2, e3, e4, e5⟩ := hc i hi
    subst e2
    have hm := hsh.2 _ (List.getElem_mem hi)
    exact ⟨a, r.enc.toArray, e1, fun W hb => (e4.below hb e3).load Try.underlying52 (by kernel_rfl) (by kernel_rfl), fun W hb => ih d' rfl _ l[i] W (RdN.below e5 hb) hm.1 hm.2⟩
  have HFIN : Hid (∀ {W : World} {R : List ScR}, RowS w.heap.size W (.slice (some ⟨w.heap.size, 0, none⟩) n n) R → (∃ K, PartT scK (d - 1) w.heap.size W w.heap.size R l K l.length) → ∃ S, OwL scK d w.heap.size W (.slice (some ⟨w.heap.size, 0, none⟩) n n) l S) := Lib.hid (by
    rename_i W R
    intro hr hp
    obtain ⟨K, hK⟩ := hp
    cases d with
    | zero =>
      have hl : l = [] := hv.1
      have hR : R = [] := List.length_eq_zero_iff.1 (hK.len.trans (by rw [hl]; rfl))
      subst hR
      exact ⟨_, hl, hr, fun b => Iff.rfl⟩
    | succ d => exact ⟨_, hK.own hr⟩)
  rw [← hnn] at hn' ⊢
  clear hnn hsh ih hc hv
  go_enter Try.func8, Try.ntmps8
  have hb2 : i0.bytes * n ≤ 281474976710656 := by rw [hz2]; omega
  have hb3 : n ≤ maxLen := by unfold maxLen; omega
  clear hz2
  go_wp2_with (at_make; refine wpList_make_full _ rfl _ _ 25 rfl w.heap.size 38 i0 (.agg #[.int .i64 0, .string ⟨#[]⟩, .int .i64 0, .slice none 0 0, .slice none 0 0, .string ⟨#[]⟩, .string ⟨#[]⟩, .slice none 0 0, .slice none 0 0, .string ⟨#[]⟩, .bool false, .bool false, .bool false, .bool false, .int .i64 0, .int .i64 0, .slice none 0 0, .slice none 0 0, .slice none 0 0]) 19 Try.underlying25 hi hz0 hz1 _ _ _ _ n rfl rfl rfl rfl hb2 hb3 (Nat.le_refl _) ?_; intro w1 hown1 hg1)
  have hrow0 : RowS w.heap.size w1 (.slice (some ⟨w.heap.size, 0, none⟩) n n) (List.replicate n ⟨0, ⟨#[]⟩, ⟨0, .slice none 0 0, .slice none 0 0, ⟨#[]⟩, ⟨#[]⟩⟩, .slice none 0 0, .slice none 0 0, ⟨#[]⟩, false, false, false, false, 0, 0, .slice none 0 0, .slice none 0 0, .slice none 0 0⟩) := by
    have := hown1
    rw [show (madeCells (Value.agg #[.int .i64 0, .string ⟨#[]⟩, .int .i64 0, .slice none 0 0, .slice none 0 0, .string ⟨#[]⟩, .string ⟨#[]⟩, .slice none 0 0, .slice none 0 0, .string ⟨#[]⟩, .bool false, .bool false, .bool false, .bool false, .int .i64 0, .int .i64 0, .slice none 0 0, .slice none 0 0, .slice none 0 0]).cells (n * 19)).toList = (List.replicate n (⟨0, ⟨#[]⟩, ⟨0, .slice none 0 0, .slice none 0 0, ⟨#[]⟩, ⟨#[]⟩⟩, .slice none 0 0, .slice none 0 0, ⟨#[]⟩, false, false, false, false, 0, 0, .slice none 0 0, .slice none 0 0, .slice none 0 0⟩ : ScR)).flatMap ScR.enc from made_flat ScR.enc_len (by omega) _ ⟨0, ⟨#[]⟩, ⟨0, .slice none 0 0, .slice none 0 0, ⟨#[]⟩, ⟨#[]⟩⟩, .slice none 0 0, .slice none 0 0, ⟨#[]⟩, false, false, false, false, 0, 0, .slice none 0 0, .slice none 0 0, .slice none 0 0⟩ rfl n] at this
    unfold RowS RowR
    simpa using this
  have hbel1 : Below w.heap.size w w1 := (Below.refl _ _).grown hg1 (Nat.le_refl _) (by simp)
  have HG0 : Hid (w.heap.size < w1.heap.size) := Lib.hid (by
    rcases hown1.2 with ⟨h, _⟩ | ⟨g, cap, cur, h, _, h3, _⟩
    · cases h
    · cases h; exact (Array.getElem?_eq_some_iff.1 h3).1)
  have HP0 : Hid (∃ K, PartT scK (d - 1) w.heap.size w1 w.heap.size (List.replicate n ⟨0, ⟨#[]⟩, ⟨0, .slice none 0 0, .slice none 0 0, ⟨#[]⟩, ⟨#[]⟩⟩, .slice none 0 0, .slice none 0 0, ⟨#[]⟩, false, false, false, false, 0, 0, .slice none 0 0, .slice none 0 0, .slice none 0 0⟩ : List ScR) l K 0) := Lib.hid ⟨fun _ _ => False, PartT.zero ((List.length_replicate (n := n)).trans HN.out)⟩
  clear hown1 hg1
  go_loopw [4] (fun i wr => ∃ (k : Nat) (R : List ScR), k ≤ n ∧ i = .int .i64 k ∧ Hid (RowS w.heap.size wr (.slice (some ⟨w.heap.size, 0, none⟩) n n) R) ∧ Hid (∃ K, PartT scK (d - 1) w.heap.size wr w.heap.size R l K k) ∧ Hid (w.heap.size < wr.heap.size) ∧ Below w.heap.size w wr) (fun i _ => n - (intOf i).toNat)
  case atStart => exact ⟨0, _, Nat.zero_le _, rfl, Lib.hid hrow0, HP0, HG0, hbel1⟩
  case round =>
    clear hrow0 hbel1 HP0 HG0
    obtain ⟨k, R, hk, rfl, HROW, HP, HG, hbel⟩ := hrel
    by_cases hlt : k < n
    · have hlk : k < l.length := by rw [← HN.out]; exact hlt
      obtain ⟨a, rv, rfl, hload, hcall⟩ := HC.out k hlk
      have hload := hload _ hbel
      have HCC := Lib.hid (hcall _ hbel)
      have HNX : Hid (∀ {W : World} {R : List ScR} {K : Nat → Nat → Prop}, PartT scK (d - 1) w.heap.size W w.heap.size R l K k → ∀ {r : ScR} {S : Nat → Prop}, OwN scK (d - 1) w.heap.size W r l[k] S → ¬ S w.heap.size → (∀ i b, i < k → K i b → S b → False) → ∃ K', PartT scK (d - 1) w.heap.size W w.heap.size (R.set k r) l K' (k + 1)) := Lib.hid fun hp _ _ h1 h2 h3 => ⟨_, hp.next hlk h1 h2 h3⟩
      have hkR : k < R.length := by obtain ⟨K, hK⟩ := HP.out; exact Nat.lt_of_lt_of_eq hlk hK.len.symm
      have HLT : Hid (∀ {W : World} {R : List ScR} {K : Nat → Nat → Prop}, PartT scK (d - 1) w.heap.size W w.heap.size R l K k → ∀ i b, i < k → K i b → b < W.heap.size) := Lib.hid fun hp i b hi hb => (hp.lt hi (by omega) hb).2
      generalize l[k] = s at HCC HNX
      clear hcall
      go_wp2_with (refine wpList_load_at rfl 52 _ rfl (a.add (k * 19)) (by first | rfl | (go_simp; done)) (.agg rv) hload ?_)
      refine (HCC.out).mono ?_
      rintro e w2 ⟨r2, S, he, hown2, hb2⟩
      obtain ⟨v2, hv2⟩ : ∃ v2, v2 = r2.enc.toArray := ⟨_, rfl⟩
      obtain rfl : e = .returned (.agg v2) := by rw [hv2]; exact he
      have hrow2 := RowR.below HROW.out hb2
      have HP2 : Hid (∃ K, PartT scK (d - 1) w.heap.size w2 w.heap.size R l K k ∧ ∀ i b, i < k → K i b → b < wr.heap.size) := Lib.hid (by obtain ⟨K, hK⟩ := HP.out; exact ⟨K, hK.below hb2, HLT.out hK⟩)
      have HX2 := Lib.hid hown2
      have HB2 := Lib.hid (below_step hbel hb2)
      have HSZ2 := Lib.hid hb2.size
      have HPUT := Lib.hid (RowS.put hrow2 hkR r2)
      have HV2 : Hid (v2.toList = r2.enc) := Lib.hid (by rw [hv2])
      have HTH : Hid (w2.there w.heap.size (k * 19) v2.size) := Lib.hid fun j hj => by
        have hj : j < 19 := by rw [hv2] at hj; exact hj
        have hjl : j < (ScR.enc R[k]).length := hj
        exact ⟨by rw [RowR.cell ScR.enc_len hrow2 hkR (List.getElem?_eq_getElem hjl)]; rfl, RowR.frozen hrow2 _⟩
      have HI2 : Hid ((Try.prog.info? 38).map (·.size) = some v2.size) := Lib.hid (by rw [hv2]; kernel_rfl)
      have H12 : Hid (v2.all (·.oneCell') = true) := Lib.hid (by rw [hv2]; exact all_oneCell_toArray (by have := hown2.rd.1.forms; obtain ⟨⟨_, _, _, q1⟩, ⟨_, _, _, q2⟩, ⟨_, _, _, q3⟩, ⟨_, _, _, q4⟩, ⟨_, _, _, q5⟩, ⟨_, _, _, q6⟩⟩ := this; obtain ⟨_, _, q7⟩ := hown2.rd.2.form; have q7 : r2.kv = _ := q7; simp [ScR.enc, Value.oneCell', q1, q2, q3, q4, q5, q6, q7]))
      clear HROW hbel hrow2 hown2 hb2 HC hload hv2 he
      go_wp2_with (refine wpList_store_mid rfl 38 _ _ rfl w.heap.size (k * 19) v2 (by first | rfl | (go_simp; done)) (by rfl) HTH.out HI2.out H12.out ?_)
      rw [HV2.out] at *
      go_roundw
      case rel =>
        refine ⟨k + 1, _, by omega, by go_num, Lib.hid HPUT.out.1, Lib.hid ?_, Lib.hid ?_, HB2.out.grown HPUT.out.2 HB2.out.size (fun _ h => by cases h; exact Nat.le_refl _)⟩
        · obtain ⟨K, hK, hlt2⟩ := HP2.out
          have hS : ∀ b, S b → wr.heap.size ≤ b := fun b hb => (HX2.out.lt b hb).1
          refine HNX.out (hK.grown HPUT.out.2) (OwN.mono (HX2.out.other HPUT.out.2 (fun b hb e => ?_)) (by have := HG.out; omega)) (fun h => ?_) (fun i b hi hb1 hb2 => ?_)
          · have := hS b hb; have := HG.out; have := Option.some.inj e; omega
          · have := hS _ h; have := HG.out; omega
          · have := hS b hb2; have := hlt2 i b hi hb1; omega
        · have := HPUT.out.2.size; have := HSZ2.out; have := HG.out; omega
      case measure => simp [intOf]; omega
    · have HE : Hid (∃ K, PartT scK (d - 1) w.heap.size wr w.heap.size R l K l.length) := Lib.hid (by have h := HP.out; rwa [show k = l.length by have := HN.out; omega] at h)
      clear HC
      go_wp2
      go_ret
      obtain ⟨S, hS⟩ := HFIN.out HROW.out HE.out
      exact ⟨_, S, rfl, hS, hbel⟩
end Go.Proofs.Ytlgooejoohcmfaa
