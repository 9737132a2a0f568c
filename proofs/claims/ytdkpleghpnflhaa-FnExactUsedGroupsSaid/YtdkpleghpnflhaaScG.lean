/- MERGED for a claim: ScF ScG. -/
import Derived.Test.YtdkpleghpnflhaaScA
import Derived.Test.YtdkpleghpnflhaaExB
import Derived.Deep.MidRow
set_option linter.unusedVariables false
set_option linter.unusedSimpArgs false
/- CHAPTER 9: laws.toSchemaS. PRINTED by tools/gen_scF.py. -/
namespace Go.Proofs.Ytdkpleghpnflhaa
open Go.RowKit
set_option maxRecDepth 100000

theorem infoSch : (Try.prog.info? 59).map (fun i => (i.zero, i.size, i.bytes)) = some (some (.agg #[.int .i64 0, .string ⟨#[]⟩, .int .i64 0, .slice none 0 0, .slice none 0 0, .string ⟨#[]⟩, .string ⟨#[]⟩, .slice none 0 0, .slice none 0 0, .string ⟨#[]⟩, .bool false, .bool false, .bool false, .bool false, .int .i64 0, .int .i64 0, .slice none 0 0, .slice none 0 0, .slice none 0 0]), 19, 272) := by kernel_rfl
abbrev RowS (B : Nat) (w : World) (v : Value) (R : List ScR) : Prop := RowR ScR.enc 19 59 B w v R
theorem RowS.put {B g n cap : Nat} {w : World} {L : List ScR} (h : RowS B w (.slice (some ⟨g, 0, none⟩) n cap) L) {i : Nat} (hi : i < L.length) (x : ScR) :
    RowS B (w.setCells g (i * 19) x.enc) (.slice (some ⟨g, 0, none⟩) n cap) (L.set i x) ∧ w.grownBy (w.setCells g (i * 19) x.enc) (some g) := by
  have hl : ∀ (y : ScR), i < (L.set i y).length := fun y => by simpa using hi
  have h0 := RowR.set1 ScR.enc_len (h) (i := i) hi 0 (by omega) (.int .i64 x.kind) ⟨x.kind, L[i].name, ⟨L[i].tv.k, L[i].tv.vr, L[i].tv.vn, L[i].tv.pt, L[i].tv.ph⟩, L[i].vk, L[i].vu, L[i].dflt, L[i].given, L[i].needed, L[i].present, L[i].fixed, L[i].min, L[i].max, L[i].wv, L[i].mv, L[i].kv⟩ rfl
  have h1 := RowR.set1 ScR.enc_len (h0.1) (i := i) (hl _) 1 (by omega) (.string x.name) ⟨x.kind, x.name, ⟨L[i].tv.k, L[i].tv.vr, L[i].tv.vn, L[i].tv.pt, L[i].tv.ph⟩, L[i].vk, L[i].vu, L[i].dflt, L[i].given, L[i].needed, L[i].present, L[i].fixed, L[i].min, L[i].max, L[i].wv, L[i].mv, L[i].kv⟩ (by simp [ScR.enc])
  have h2 := RowR.set1 ScR.enc_len (h1.1) (i := i) (by simpa using hi) 2 (by omega) (.int .i64 x.tv.k) ⟨x.kind, x.name, ⟨x.tv.k, L[i].tv.vr, L[i].tv.vn, L[i].tv.pt, L[i].tv.ph⟩, L[i].vk, L[i].vu, L[i].dflt, L[i].given, L[i].needed, L[i].present, L[i].fixed, L[i].min, L[i].max, L[i].wv, L[i].mv, L[i].kv⟩ (by simp [ScR.enc])
  have h3 := RowR.set1 ScR.enc_len (h2.1) (i := i) (by simpa using hi) 3 (by omega) (x.tv.vr) ⟨x.kind, x.name, ⟨x.tv.k, x.tv.vr, L[i].tv.vn, L[i].tv.pt, L[i].tv.ph⟩, L[i].vk, L[i].vu, L[i].dflt, L[i].given, L[i].needed, L[i].present, L[i].fixed, L[i].min, L[i].max, L[i].wv, L[i].mv, L[i].kv⟩ (by simp [ScR.enc])
  have h4 := RowR.set1 ScR.enc_len (h3.1) (i := i) (by simpa using hi) 4 (by omega) (x.tv.vn) ⟨x.kind, x.name, ⟨x.tv.k, x.tv.vr, x.tv.vn, L[i].tv.pt, L[i].tv.ph⟩, L[i].vk, L[i].vu, L[i].dflt, L[i].given, L[i].needed, L[i].present, L[i].fixed, L[i].min, L[i].max, L[i].wv, L[i].mv, L[i].kv⟩ (by simp [ScR.enc])
  have h5 := RowR.set1 ScR.enc_len (h4.1) (i := i) (by simpa using hi) 5 (by omega) (.string x.tv.pt) ⟨x.kind, x.name, ⟨x.tv.k, x.tv.vr, x.tv.vn, x.tv.pt, L[i].tv.ph⟩, L[i].vk, L[i].vu, L[i].dflt, L[i].given, L[i].needed, L[i].present, L[i].fixed, L[i].min, L[i].max, L[i].wv, L[i].mv, L[i].kv⟩ (by simp [ScR.enc])
  have h6 := RowR.set1 ScR.enc_len (h5.1) (i := i) (by simpa using hi) 6 (by omega) (.string x.tv.ph) ⟨x.kind, x.name, ⟨x.tv.k, x.tv.vr, x.tv.vn, x.tv.pt, x.tv.ph⟩, L[i].vk, L[i].vu, L[i].dflt, L[i].given, L[i].needed, L[i].present, L[i].fixed, L[i].min, L[i].max, L[i].wv, L[i].mv, L[i].kv⟩ (by simp [ScR.enc])
  have h7 := RowR.set1 ScR.enc_len (h6.1) (i := i) (by simpa using hi) 7 (by omega) (x.vk) ⟨x.kind, x.name, ⟨x.tv.k, x.tv.vr, x.tv.vn, x.tv.pt, x.tv.ph⟩, x.vk, L[i].vu, L[i].dflt, L[i].given, L[i].needed, L[i].present, L[i].fixed, L[i].min, L[i].max, L[i].wv, L[i].mv, L[i].kv⟩ (by simp [ScR.enc])
  have h8 := RowR.set1 ScR.enc_len (h7.1) (i := i) (by simpa using hi) 8 (by omega) (x.vu) ⟨x.kind, x.name, ⟨x.tv.k, x.tv.vr, x.tv.vn, x.tv.pt, x.tv.ph⟩, x.vk, x.vu, L[i].dflt, L[i].given, L[i].needed, L[i].present, L[i].fixed, L[i].min, L[i].max, L[i].wv, L[i].mv, L[i].kv⟩ (by simp [ScR.enc])
  have h9 := RowR.set1 ScR.enc_len (h8.1) (i := i) (by simpa using hi) 9 (by omega) (.string x.dflt) ⟨x.kind, x.name, ⟨x.tv.k, x.tv.vr, x.tv.vn, x.tv.pt, x.tv.ph⟩, x.vk, x.vu, x.dflt, L[i].given, L[i].needed, L[i].present, L[i].fixed, L[i].min, L[i].max, L[i].wv, L[i].mv, L[i].kv⟩ (by simp [ScR.enc])
  have h10 := RowR.set1 ScR.enc_len (h9.1) (i := i) (by simpa using hi) 10 (by omega) (.bool x.given) ⟨x.kind, x.name, ⟨x.tv.k, x.tv.vr, x.tv.vn, x.tv.pt, x.tv.ph⟩, x.vk, x.vu, x.dflt, x.given, L[i].needed, L[i].present, L[i].fixed, L[i].min, L[i].max, L[i].wv, L[i].mv, L[i].kv⟩ (by simp [ScR.enc])
  have h11 := RowR.set1 ScR.enc_len (h10.1) (i := i) (by simpa using hi) 11 (by omega) (.bool x.needed) ⟨x.kind, x.name, ⟨x.tv.k, x.tv.vr, x.tv.vn, x.tv.pt, x.tv.ph⟩, x.vk, x.vu, x.dflt, x.given, x.needed, L[i].present, L[i].fixed, L[i].min, L[i].max, L[i].wv, L[i].mv, L[i].kv⟩ (by simp [ScR.enc])
  have h12 := RowR.set1 ScR.enc_len (h11.1) (i := i) (by simpa using hi) 12 (by omega) (.bool x.present) ⟨x.kind, x.name, ⟨x.tv.k, x.tv.vr, x.tv.vn, x.tv.pt, x.tv.ph⟩, x.vk, x.vu, x.dflt, x.given, x.needed, x.present, L[i].fixed, L[i].min, L[i].max, L[i].wv, L[i].mv, L[i].kv⟩ (by simp [ScR.enc])
  have h13 := RowR.set1 ScR.enc_len (h12.1) (i := i) (by simpa using hi) 13 (by omega) (.bool x.fixed) ⟨x.kind, x.name, ⟨x.tv.k, x.tv.vr, x.tv.vn, x.tv.pt, x.tv.ph⟩, x.vk, x.vu, x.dflt, x.given, x.needed, x.present, x.fixed, L[i].min, L[i].max, L[i].wv, L[i].mv, L[i].kv⟩ (by simp [ScR.enc])
  have h14 := RowR.set1 ScR.enc_len (h13.1) (i := i) (by simpa using hi) 14 (by omega) (.int .i64 x.min) ⟨x.kind, x.name, ⟨x.tv.k, x.tv.vr, x.tv.vn, x.tv.pt, x.tv.ph⟩, x.vk, x.vu, x.dflt, x.given, x.needed, x.present, x.fixed, x.min, L[i].max, L[i].wv, L[i].mv, L[i].kv⟩ (by simp [ScR.enc])
  have h15 := RowR.set1 ScR.enc_len (h14.1) (i := i) (by simpa using hi) 15 (by omega) (.int .i64 x.max) ⟨x.kind, x.name, ⟨x.tv.k, x.tv.vr, x.tv.vn, x.tv.pt, x.tv.ph⟩, x.vk, x.vu, x.dflt, x.given, x.needed, x.present, x.fixed, x.min, x.max, L[i].wv, L[i].mv, L[i].kv⟩ (by simp [ScR.enc])
  have h16 := RowR.set1 ScR.enc_len (h15.1) (i := i) (by simpa using hi) 16 (by omega) (x.wv) ⟨x.kind, x.name, ⟨x.tv.k, x.tv.vr, x.tv.vn, x.tv.pt, x.tv.ph⟩, x.vk, x.vu, x.dflt, x.given, x.needed, x.present, x.fixed, x.min, x.max, x.wv, L[i].mv, L[i].kv⟩ (by simp [ScR.enc])
  have h17 := RowR.set1 ScR.enc_len (h16.1) (i := i) (by simpa using hi) 17 (by omega) (x.mv) ⟨x.kind, x.name, ⟨x.tv.k, x.tv.vr, x.tv.vn, x.tv.pt, x.tv.ph⟩, x.vk, x.vu, x.dflt, x.given, x.needed, x.present, x.fixed, x.min, x.max, x.wv, x.mv, L[i].kv⟩ (by simp [ScR.enc])
  have h18 := RowR.set1 ScR.enc_len (h17.1) (i := i) (by simpa using hi) 18 (by omega) (x.kv) x (by simp [ScR.enc])
  have hg := ((((((((((((((((((h0.2).trans h1.2).trans h2.2).trans h3.2).trans h4.2).trans h5.2).trans h6.2).trans h7.2).trans h8.2).trans h9.2).trans h10.2).trans h11.2).trans h12.2).trans h13.2).trans h14.2).trans h15.2).trans h16.2).trans h17.2).trans h18.2
  have hr := h18.1
  simp only [List.set_set] at hr
  exact ⟨hr, hg⟩
def ToSS (d : Nat) : Prop := ∀ (v : Value) (l : List Sc) (w : World), RdL scK d w v l → SizT ScSz d l → Calls Try.prog 8 #[v] w fun e w' => ∃ (v' : Value) (S : Nat → Prop), e = .returned v' ∧ OwL scK d w.heap.size w' v' l S ∧ Below w.heap.size w w'
def ToS9 (d : Nat) : Prop := ∀ (r : ScR) (t : Sc) (w : World), RdN scK d w r t → ScSz t.x → SizT ScSz d t.kids → Calls Try.prog 22 #[r.val] w fun e w' => ∃ (r' : ScR) (S : Nat → Prop), e = .returned r'.val ∧ OwN scK d w.heap.size w' r' t S ∧ Below w.heap.size w w'
set_option maxHeartbeats 4000000 in
theorem toSS_of (d : Nat) (ih : ∀ e, d = e + 1 → ToS9 e) : ToSS d := by
  intro v l w hv hsh
  obtain ⟨i0, hi, hz0, hz1, hz2⟩ := info_parts infoSch
  obtain ⟨A, cap, rfl, hn', hc⟩ := sc_at hv
  obtain ⟨n, hnn⟩ : ∃ n, n = l.length := ⟨_, rfl⟩
  have HN : Hid (n = l.length) := Lib.hid hnn
  have hn : n ≤ 1048576 := by
    rw [hnn]
    cases d with
    | zero => rw [hv.1]; simp
    | succ d => exact hsh.1
  have HC : Hid (∀ i, (hi : i < l.length) → ∃ (a : Addr) (rv : Array Value), A = some a ∧ (∀ W, Below w.heap.size w W → (Instr.loadAt 53 (.pointer (some (a.add (i * 19))))).run Try.prog W = .ok (.agg rv) W) ∧ ∀ W, Below w.heap.size w W → Calls Try.prog 22 #[.agg rv] W fun e w' => ∃ (r' : ScR) (S : Nat → Prop), e = .returned r'.val ∧ OwN scK (d - 1) W.heap.size w' r' l[i] S ∧ Below W.heap.size W w') := Lib.hid fun i hi => by
    obtain ⟨a, r, d', e1, e2, e3, e4, e5⟩ := hc i hi
    subst e2
    have hm := hsh.2 _ (List.getElem_mem hi)
    exact ⟨a, r.enc.toArray, e1, fun W hb => (e4.below hb e3).load Try.underlying53 (by kernel_rfl) (by kernel_rfl), fun W hb => ih d' rfl _ l[i] W (RdN.below e5 hb) hm.1 hm.2⟩
  have HFIN : Hid (∀ {W : World} {R : List ScR}, RowS w.heap.size W (.slice (some ⟨w.heap.size, 0, none⟩) n n) R → (∃ K, PartT scK (d - 1) w.heap.size W w.heap.size R l K l.length) → ∃ S, OwL scK d w.heap.size W (.slice (some ⟨w.heap.size, 0, none⟩) n n) l S) := Lib.hid (by
    rename_i W R
    intro hr hp
    obtain ⟨K, hK⟩ := hp
    cases d with
    | zero =>
      have hl : l = [] := hv.1
      have hR : R = [] := List.length_eq_zero_iff.1 (hK.len.trans (by rw [hl]; rfl))
      subst hR
      exact ⟨_, hl, hr, fun b => Iff.rfl⟩
    | succ d => exact ⟨_, hK.own hr⟩)
  rw [← hnn] at hn' ⊢
  clear hnn hsh ih hc hv
  go_enter Try.func8, Try.ntmps8
  have hb2 : i0.bytes * n ≤ 281474976710656 := by rw [hz2]; omega
  have hb3 : n ≤ maxLen := by unfold maxLen; omega
  clear hz2
  go_wp2_with (at_make; refine wpList_make_full _ rfl _ _ 32 rfl w.heap.size 59 i0 (.agg #[.int .i64 0, .string ⟨#[]⟩, .int .i64 0, .slice none 0 0, .slice none 0 0, .string ⟨#[]⟩, .string ⟨#[]⟩, .slice none 0 0, .slice none 0 0, .string ⟨#[]⟩, .bool false, .bool false, .bool false, .bool false, .int .i64 0, .int .i64 0, .slice none 0 0, .slice none 0 0, .slice none 0 0]) 19 Try.underlying32 hi hz0 hz1 _ _ _ _ n rfl rfl rfl rfl hb2 hb3 (Nat.le_refl _) ?_; intro w1 hown1 hg1)
  have hrow0 : RowS w.heap.size w1 (.slice (some ⟨w.heap.size, 0, none⟩) n n) (List.replicate n ⟨0, ⟨#[]⟩, ⟨0, .slice none 0 0, .slice none 0 0, ⟨#[]⟩, ⟨#[]⟩⟩, .slice none 0 0, .slice none 0 0, ⟨#[]⟩, false, false, false, false, 0, 0, .slice none 0 0, .slice none 0 0, .slice none 0 0⟩) := by
    have := hown1
    rw [show (madeCells (Value.agg #[.int .i64 0, .string ⟨#[]⟩, .int .i64 0, .slice none 0 0, .slice none 0 0, .string ⟨#[]⟩, .string ⟨#[]⟩, .slice none 0 0, .slice none 0 0, .string ⟨#[]⟩, .bool false, .bool false, .bool false, .bool false, .int .i64 0, .int .i64 0, .slice none 0 0, .slice none 0 0, .slice none 0 0]).cells (n * 19)).toList = (List.replicate n (⟨0, ⟨#[]⟩, ⟨0, .slice none 0 0, .slice none 0 0, ⟨#[]⟩, ⟨#[]⟩⟩, .slice none 0 0, .slice none 0 0, ⟨#[]⟩, false, false, false, false, 0, 0, .slice none 0 0, .slice none 0 0, .slice none 0 0⟩ : ScR)).flatMap ScR.enc from made_flat ScR.enc_len (by omega) _ ⟨0, ⟨#[]⟩, ⟨0, .slice none 0 0, .slice none 0 0, ⟨#[]⟩, ⟨#[]⟩⟩, .slice none 0 0, .slice none 0 0, ⟨#[]⟩, false, false, false, false, 0, 0, .slice none 0 0, .slice none 0 0, .slice none 0 0⟩ rfl n] at this
    unfold RowS RowR
    simpa using this
  have hbel1 : Below w.heap.size w w1 := (Below.refl _ _).grown hg1 (Nat.le_refl _) (by simp)
  have HG0 : Hid (w.heap.size < w1.heap.size) := Lib.hid (by
    rcases hown1.2 with ⟨h, _⟩ | ⟨g, cap, cur, h, _, h3, _⟩
    · cases h
    · cases h; exact (Array.getElem?_eq_some_iff.1 h3).1)
  have HP0 : Hid (∃ K, PartT scK (d - 1) w.heap.size w1 w.heap.size (List.replicate n ⟨0, ⟨#[]⟩, ⟨0, .slice none 0 0, .slice none 0 0, ⟨#[]⟩, ⟨#[]⟩⟩, .slice none 0 0, .slice none 0 0, ⟨#[]⟩, false, false, false, false, 0, 0, .slice none 0 0, .slice none 0 0, .slice none 0 0⟩ : List ScR) l K 0) := Lib.hid ⟨fun _ _ => False, PartT.zero ((List.length_replicate (n := n)).trans HN.out)⟩
  clear hown1 hg1
  go_loopw [4] (fun i wr => ∃ (k : Nat) (R : List ScR), k ≤ n ∧ i = .int .i64 k ∧ Hid (RowS w.heap.size wr (.slice (some ⟨w.heap.size, 0, none⟩) n n) R) ∧ Hid (∃ K, PartT scK (d - 1) w.heap.size wr w.heap.size R l K k) ∧ Hid (w.heap.size < wr.heap.size) ∧ Below w.heap.size w wr) (fun i _ => n - (intOf i).toNat)
  case atStart => exact ⟨0, _, Nat.zero_le _, rfl, Lib.hid hrow0, HP0, HG0, hbel1⟩
  case round =>
    clear hrow0 hbel1 HP0 HG0
    obtain ⟨k, R, hk, rfl, HROW, HP, HG, hbel⟩ := hrel
    by_cases hlt : k < n
    · have hlk : k < l.length := by rw [← HN.out]; exact hlt
      obtain ⟨a, rv, rfl, hload, hcall⟩ := HC.out k hlk
      have hload := hload _ hbel
      have HCC := Lib.hid (hcall _ hbel)
      have HNX : Hid (∀ {W : World} {R : List ScR} {K : Nat → Nat → Prop}, PartT scK (d - 1) w.heap.size W w.heap.size R l K k → ∀ {r : ScR} {S : Nat → Prop}, OwN scK (d - 1) w.heap.size W r l[k] S → ¬ S w.heap.size → (∀ i b, i < k → K i b → S b → False) → ∃ K', PartT scK (d - 1) w.heap.size W w.heap.size (R.set k r) l K' (k + 1)) := Lib.hid fun hp _ _ h1 h2 h3 => ⟨_, hp.next hlk h1 h2 h3⟩
      have hkR : k < R.length := by obtain ⟨K, hK⟩ := HP.out; exact Nat.lt_of_lt_of_eq hlk hK.len.symm
      have HLT : Hid (∀ {W : World} {R : List ScR} {K : Nat → Nat → Prop}, PartT scK (d - 1) w.heap.size W w.heap.size R l K k → ∀ i b, i < k → K i b → b < W.heap.size) := Lib.hid fun hp i b hi hb => (hp.lt hi (by omega) hb).2
      generalize l[k] = s at HCC HNX
      clear hcall
      go_wp2_with (refine wpList_load_at rfl 53 _ rfl (a.add (k * 19)) (by first | rfl | (go_simp; done)) (.agg rv) hload ?_)
      refine (HCC.out).mono ?_
      rintro e w2 ⟨r2, S, he, hown2, hb2⟩
      obtain ⟨v2, hv2⟩ : ∃ v2, v2 = r2.enc.toArray := ⟨_, rfl⟩
      obtain rfl : e = .returned (.agg v2) := by rw [hv2]; exact he
      have hrow2 := RowR.below HROW.out hb2
      have HP2 : Hid (∃ K, PartT scK (d - 1) w.heap.size w2 w.heap.size R l K k ∧ ∀ i b, i < k → K i b → b < wr.heap.size) := Lib.hid (by obtain ⟨K, hK⟩ := HP.out; exact ⟨K, hK.below hb2, HLT.out hK⟩)
      have HX2 := Lib.hid hown2
      have HB2 := Lib.hid (below_step hbel hb2)
      have HSZ2 := Lib.hid hb2.size
      have HPUT := Lib.hid (RowS.put hrow2 hkR r2)
      have HV2 : Hid (v2.toList = r2.enc) := Lib.hid (by rw [hv2])
      have HTH : Hid (w2.there w.heap.size (k * 19) v2.size) := Lib.hid fun j hj => by
        have hj : j < 19 := by rw [hv2] at hj; exact hj
        have hjl : j < (ScR.enc R[k]).length := hj
        exact ⟨by rw [RowR.cell ScR.enc_len hrow2 hkR (List.getElem?_eq_getElem hjl)]; rfl, RowR.frozen hrow2 _⟩
      have HI2 : Hid ((Try.prog.info? 59).map (·.size) = some v2.size) := Lib.hid (by rw [hv2]; kernel_rfl)
      have H12 : Hid (v2.all (·.oneCell') = true) := Lib.hid (by rw [hv2]; exact all_oneCell_toArray (by have := hown2.rd.1.forms; obtain ⟨⟨_, _, _, q1⟩, ⟨_, _, _, q2⟩, ⟨_, _, _, q3⟩, ⟨_, _, _, q4⟩, ⟨_, _, _, q5⟩, ⟨_, _, _, q6⟩⟩ := this; obtain ⟨_, _, q7⟩ := hown2.rd.2.form; have q7 : r2.kv = _ := q7; simp [ScR.enc, Value.oneCell', q1, q2, q3, q4, q5, q6, q7]))
      clear HROW hbel hrow2 hown2 hb2 HC hload hv2 he
      go_wp2_with (refine wpList_store_mid rfl 59 _ _ rfl w.heap.size (k * 19) v2 (by first | rfl | (go_simp; done)) (by rfl) HTH.out HI2.out H12.out ?_)
      rw [HV2.out] at *
      go_roundw
      case rel =>
        refine ⟨k + 1, _, by omega, by go_num, Lib.hid HPUT.out.1, Lib.hid ?_, Lib.hid ?_, HB2.out.grown HPUT.out.2 HB2.out.size (fun _ h => by cases h; exact Nat.le_refl _)⟩
        · obtain ⟨K, hK, hlt2⟩ := HP2.out
          have hS : ∀ b, S b → wr.heap.size ≤ b := fun b hb => (HX2.out.lt b hb).1
          refine HNX.out (hK.grown HPUT.out.2) (OwN.mono (HX2.out.other HPUT.out.2 (fun b hb e => ?_)) (by have := HG.out; omega)) (fun h => ?_) (fun i b hi hb1 hb2 => ?_)
          · have := hS b hb; have := HG.out; have := Option.some.inj e; omega
          · have := hS _ h; have := HG.out; omega
          · have := hS b hb2; have := hlt2 i b hi hb1; omega
        · have := HPUT.out.2.size; have := HSZ2.out; have := HG.out; omega
      case measure => simp [intOf]; omega
    · have HE : Hid (∃ K, PartT scK (d - 1) w.heap.size wr w.heap.size R l K l.length) := Lib.hid (by have h := HP.out; rwa [show k = l.length by have := HN.out; omega] at h)
      clear HC
      go_wp2
      go_ret
      obtain ⟨S, hS⟩ := HFIN.out HROW.out HE.out
      exact ⟨_, S, rfl, hS, hbel⟩
end Go.Proofs.Ytdkpleghpnflhaa

/- CHAPTER 9: laws.toSchema, toSchemaS: a schema made anew. -/
namespace Go.Proofs.Ytdkpleghpnflhaa
open Go.RowKit
set_option maxRecDepth 100000

/-- from block B on nothing that was there has turned -/
def Kp (B : Nat) (w w' : World) : Prop := w.heap.size ≤ w'.heap.size ∧ ∀ b, B ≤ b → b < w.heap.size → w'.heap[b]? = w.heap[b]?
theorem Kp.refl (B : Nat) (w : World) : Kp B w w := ⟨Nat.le_refl _, fun _ _ _ => rfl⟩
theorem Kp.trans {B : Nat} {a b c : World} (h : Kp B a b) (k : Kp B b c) : Kp B a c := ⟨Nat.le_trans h.1 k.1, fun j h1 h2 => (k.2 j h1 (Nat.lt_of_lt_of_le h2 h.1)).trans (h.2 j h1 h2)⟩
theorem Kp.below {B : Nat} {a b c : World} (h : Kp B a b) (k : Below b.heap.size b c) : Kp B a c := h.trans ⟨k.size, fun j _ h2 => k.block j h2⟩
theorem heap_set_other (w : World) (b o j : Nat) (u : Value) (h : j ≠ b) : (w.setCell ⟨b, o, none⟩ u).heap[j]? = w.heap[j]? := by
  have hb : b ≠ j := fun e => h e.symm
  simp [World.setCell, Array.getElem?_modify, hb]
theorem heap_set_size (w : World) (a : Addr) (u : Value) : (w.setCell a u).heap.size = w.heap.size := by simp [World.setCell]
theorem Kp.set {B b o : Nat} {a c : World} {u : Value} (h : Kp B a c) (hb : b < B) : Kp B a (c.setCell ⟨b, o, none⟩ u) :=
  h.trans ⟨by rw [heap_set_size]; exact Nat.le_refl _, fun j h1 _ => heap_set_other c b o j u (by omega)⟩
theorem Kp.grown {B b : Nat} {a c d : World} (h : Kp B a c) (hg : c.grownBy d (some b)) (hb : b < B) : Kp B a d :=
  h.trans ⟨hg.size, fun j h1 h2 => hg.block j h2 (fun e => by have := Option.some.inj e; omega)⟩
theorem SBox.put {T : TypeId} {w : World} {b : Nat} {r : ScR} (h : SBox T w b r) {j : Nat} {u : Value} (r' : ScR) (e : r'.enc = r.enc.set j u) : SBox T (w.setCell ⟨b, j, none⟩ u) b r' := by
  unfold SBox at h ⊢
  rw [heap_setCell_same _ _ _ _ _ _ h, e]
  congr 2
  simp
theorem SBox.other {T : TypeId} {w : World} {b c j : Nat} {u : Value} {r : ScR} (h : SBox T w b r) (hne : b ≠ c) : SBox T (w.setCell ⟨c, j, none⟩ u) b r := (heap_set_other w c j b u hne).trans h
theorem SBox.at {T : TypeId} {w : World} {b : Nat} {r : ScR} (h : SBox T w b r) (j : Nat) {u : Value} (hu : r.enc[j]? = some u) : w.cell? ⟨b, j, none⟩ = some u := cellsAt h j _ (by rw [List.getElem?_toArray]; exact hu)
theorem SBox.fr {T : TypeId} {w : World} {b : Nat} {r : ScR} (h : SBox T w b r) (j : Nat) : w.frozen? ⟨b, j, none⟩ = false := frozen_of_row _ b j _ _ h
theorem SBox.range {T : TypeId} {w : World} {b : Nat} {r : ScR} (h : SBox T w b r) : w.rangeAt b 0 r.enc := fun j v hv => by rw [Nat.zero_add]; exact h.at j hv
theorem below_setM {B b j : Nat} {a w : World} {u : Value} (h : Below B a w) (hb : B ≤ b) : Below B a (w.setCell ⟨b, j, none⟩ u) := h.setCell (p := ⟨b, j, none⟩) hb u
theorem below_setCs {B b : Nat} {a : World} (hb : B ≤ b) : ∀ (vs : List Value) (o : Nat) (w : World), Below B a w → Below B a (w.setCells b o vs)
  | [], _, _, h => h
  | v :: r, o, _, h => below_setCs hb r (o + 1) _ (below_setM h hb (j := o) (u := v))
theorem Kp.setCs {B b : Nat} {a : World} (hb : b < B) : ∀ (vs : List Value) (o : Nat) (w : World), Kp B a w → Kp B a (w.setCells b o vs)
  | [], _, _, h => h
  | v :: r, o, _, h => Kp.setCs hb r (o + 1) _ (h.set (o := o) (u := v) hb)
theorem there_of {T : TypeId} {w : World} {b : Nat} {r : ScR} (h : SBox T w b r) : w.there b 0 19 := fun j hj => by
  rw [Nat.zero_add]
  exact ⟨by rw [h.at j (List.getElem?_eq_getElem (l := r.enc) hj)]; rfl, h.fr j⟩
theorem results_cell_at {P : Program} {fn : Func} {p : Tmp} {ty : TypeId} (h : fn.results = #[.cell p ty]) (tmps : Array Value) (w : World) (a : Addr) (v : Value) (hp : tmps.getD p undef = .pointer (some a)) (hl : (loadVar ty a).run P w = .ok v w) :
    (results fn tmps).run P w = .ok v w := by
  have hp' : tmps[p]?.getD undef = .pointer (some a) := by simpa using hp
  simp [results, h, hp', asAddr, hl]
def setsK (v0 v1 v2 v3 : Value) (S4 S5 : Nat → Prop) (i b : Nat) : Prop := match i with
  | 0 => v0.ownBlock = some b
  | 1 => v1.ownBlock = some b
  | 2 => v2.ownBlock = some b
  | 3 => v3.ownBlock = some b
  | 4 => S4 b
  | 5 => S5 b
  | _ => False
def zeroR : ScR := ⟨0, ⟨#[]⟩, ⟨0, .slice none 0 0, .slice none 0 0, ⟨#[]⟩, ⟨#[]⟩⟩, .slice none 0 0, .slice none 0 0, ⟨#[]⟩, false, false, false, false, 0, 0, .slice none 0 0, .slice none 0 0, .slice none 0 0⟩
/-- within toSchema: the argument's box, the result's, the variable out's -/
structure StS (T T2 : TypeId) (w : World) (rA rX : ScR) (W : World) : Prop where
  bel : Below w.heap.size w W
  box : SBox T W (w.heap.size + 1 + 1) rX
  res : SBox T W (w.heap.size + 1) zeroR
  arg : SBox T2 W w.heap.size rA
  sz : w.heap.size + 3 ≤ W.heap.size
theorem StS.put {T T2 : TypeId} {w W : World} {rA rX : ScR} (h : StS T T2 w rA rX W) (j : Nat) (u : Value) (r' : ScR) (e : r'.enc = rX.enc.set j u) : StS T T2 w rA r' (W.setCell ⟨w.heap.size + 1 + 1, j, none⟩ u) :=
  ⟨below_set h.bel (by omega), h.box.put r' e, h.res.other (by omega), h.arg.other (by omega), by rw [heap_set_size]; exact h.sz⟩
theorem StS.below {T T2 : TypeId} {w W W' : World} {rA rX : ScR} (h : StS T T2 w rA rX W) (hb : Below W.heap.size W W') : StS T T2 w rA rX W' :=
  ⟨below_step h.bel hb, h.box.below hb, h.res.below hb, h.arg.below hb, Nat.le_trans h.sz hb.size⟩
theorem apart6 {K : Nat → Nat → Prop} {s2 s3 s4 s5 : Nat} (h01 : ∀ b, K 0 b → K 1 b → False) (h0 : ∀ b, K 0 b → b < s2) (h1 : ∀ b, K 1 b → b < s2) (h2 : ∀ b, K 2 b → s2 ≤ b ∧ b < s3) (h3 : ∀ b, K 3 b → s3 ≤ b ∧ b < s4) (h4 : ∀ b, K 4 b → s4 ≤ b ∧ b < s5) (h5 : ∀ b, K 5 b → s5 ≤ b)
    (a2 : s2 ≤ s3) (a3 : s3 ≤ s4) (a4 : s4 ≤ s5) : ∀ i j b, i < 6 → j < 6 → K i b → K j b → i = j := by
  have P : ∀ i b, i < 6 → K i b → (i ≤ 1 ∧ b < s2) ∨ (i = 2 ∧ s2 ≤ b ∧ b < s3) ∨ (i = 3 ∧ s3 ≤ b ∧ b < s4) ∨ (i = 4 ∧ s4 ≤ b ∧ b < s5) ∨ (i = 5 ∧ s5 ≤ b) := by
    intro i b hi hk
    match i, hi, hk with
    | 0, _, hk => exact .inl ⟨by omega, h0 b hk⟩
    | 1, _, hk => exact .inl ⟨by omega, h1 b hk⟩
    | 2, _, hk => exact .inr (.inl ⟨rfl, h2 b hk⟩)
    | 3, _, hk => exact .inr (.inr (.inl ⟨rfl, h3 b hk⟩))
    | 4, _, hk => exact .inr (.inr (.inr (.inl ⟨rfl, h4 b hk⟩)))
    | 5, _, hk => exact .inr (.inr (.inr (.inr ⟨rfl, h5 b hk⟩)))
  intro i j b hi hj hki hkj
  by_cases hij : i ≤ 1 ∧ j ≤ 1
  · match i, j, hij, hki, hkj with
    | 0, 0, _, _, _ => rfl
    | 1, 1, _, _, _ => rfl
    | 0, 1, _, a, c => exact (h01 b a c).elim
    | 1, 0, _, a, c => exact (h01 b c a).elim
  · have := P i b hi hki
    have := P j b hj hkj
    omega
set_option maxHeartbeats 16000000 in
theorem toS9_of {d : Nat} (ih : ToSS d) : ToS9 d := by
  rintro r ⟨x, l⟩ w ⟨hr, hk⟩ hx hsh
  have hr : ScRd w r x := hr
  have hk : RdL scK d w r.kv l := hk
  have hx : ScSz x := hx
  have hsh : SizT ScSz d l := hsh
  have HTY := Lib.hid (fun W (hb : Below w.heap.size w W) => toTy_any r.tv x.ty W (hr.ty.below hb) hx.ty.1 hx.ty.2.1)
  have HKE := Lib.hid (fun W (hb : Below w.heap.size w W) => toStrs_any r.vk x.keys W (hr.keys.below hb) hx.keys.1)
  have HUN := Lib.hid (fun W (hb : Below w.heap.size w W) => toStrs_any r.vu x.uniq W (hr.uniq.below hb) hx.uniq.1)
  have HWH : Hid (∀ W (hb : Below w.heap.size w W), ∃ e, Calls Try.prog 42 #[r.wv] W fun en w' => ∃ (v' : Value) (S : Nat → Prop), en = .returned v' ∧ OwL exK e W.heap.size w' v' x.when S ∧ Below W.heap.size W w') := Lib.hid fun W hb => by
    obtain ⟨e, he⟩ := hr.when
    exact ⟨e, toES_any e r.wv x.when W (he.below hb) (hx.when.1 e)⟩
  have HMU : Hid (∀ W (hb : Below w.heap.size w W), ∃ e, Calls Try.prog 42 #[r.mv] W fun en w' => ∃ (v' : Value) (S : Nat → Prop), en = .returned v' ∧ OwL exK e W.heap.size w' v' x.must S ∧ Below W.heap.size W w') := Lib.hid fun W hb => by
    obtain ⟨e, he⟩ := hr.must
    exact ⟨e, toES_any e r.mv x.must W (he.below hb) (hx.must.1 e)⟩
  have HKI := Lib.hid (fun W (hb : Below w.heap.size w W) => ih r.kv l W (hk.below hb) hsh)
  obtain ⟨⟨A1, n1, c1, g1⟩, ⟨A2, n2, c2, g2⟩, ⟨A3, n3, c3, g3⟩, ⟨A4, n4, c4, g4⟩, ⟨A5, n5, c5, g5⟩, ⟨A6, n6, c6, g6⟩⟩ := hr.forms
  obtain ⟨A7, n7, c7, g7⟩ : ∃ A n c, r.kv = .slice A n c := by obtain ⟨A, c, hv⟩ := hk.form; exact ⟨A, _, c, hv⟩
  have HEQ := Lib.hid hr.eq
  have HTQ := Lib.hid (And.intro hr.ty.k (And.intro hr.ty.pt hr.ty.ph))
  obtain ⟨kd, nm, ⟨tk, tvr, tvn, tpt, tph⟩, vk, vu, df, gi, ne, pr, fi, mi, ma, wv, mv, kv⟩ := r
  dsimp only at g1 g2 g3 g4 g5 g6 g7
  subst g1 g2 g3 g4 g5 g6 g7
  have HB0 := Lib.hid (Below.refl w.heap.size w)
  clear hr hk hx hsh ih
  obtain ⟨rA, hrA⟩ : ∃ rA : ScR, rA = ⟨kd, nm, ⟨tk, .slice A1 n1 c1, .slice A2 n2 c2, tpt, tph⟩, .slice A3 n3 c3, .slice A4 n4 c4, df, gi, ne, pr, fi, mi, ma, .slice A5 n5 c5, .slice A6 n6 c6, .slice A7 n7 c7⟩ := ⟨_, rfl⟩
  have HRA := Lib.hid hrA
  go_enter Try.func22, Try.ntmps22
  go_wp2_with fail
  have HS0 : Hid (StS 59 53 w rA ⟨kd, nm, ⟨0, .slice none 0 0, .slice none 0 0, ⟨#[]⟩, ⟨#[]⟩⟩, .slice none 0 0, .slice none 0 0, ⟨#[]⟩, false, false, false, false, 0, 0, .slice none 0 0, .slice none 0 0, .slice none 0 0⟩ (((w.alloc (.cells rA.enc.toArray 53)).alloc (.cells zeroR.enc.toArray 59)).alloc (.cells #[.int .i64 kd, .string nm, .int .i64 0, .slice none 0 0, .slice none 0 0, .string ⟨#[]⟩, .string ⟨#[]⟩, .slice none 0 0, .slice none 0 0, .string ⟨#[]⟩, .bool false, .bool false, .bool false, .bool false, .int .i64 0, .int .i64 0, .slice none 0 0, .slice none 0 0, .slice none 0 0] 59))) := Lib.hid
    ⟨below_al (below_al (below_al HB0.out _) _) _, alloc_new_atE _ _ (by simp), by unfold SBox; rw [Below.heap_alloc _ _ _ (by simp)]; exact alloc_new_atE _ _ (by simp), by unfold SBox; rw [Below.heap_alloc _ _ _ (by simp; omega), Below.heap_alloc _ _ _ (by simp)]; exact alloc_new_atE _ _ rfl, by simp⟩
  subst hrA
  refine (HTY.out _ HS0.out.bel).mono ?_
  rintro e w1 ⟨⟨tk', tvr', tvn', tpt', tph'⟩, rfl, hown, hb1⟩
  obtain ⟨rfl, hrg, hnm, rfl, rfl, hne⟩ : tk = tk' ∧ RowG _ _ _ _ ∧ Row _ _ _ _ ∧ tpt = tpt' ∧ tph = tph' ∧ _ := ⟨HTQ.out.1.trans hown.k.symm, hown.rg, hown.nm, HTQ.out.2.1.trans hown.pt.symm, HTQ.out.2.2.trans hown.ph.symm, hown.ne⟩
  obtain ⟨B1, m1, q1, rfl⟩ : ∃ A n c, tvr' = .slice A n c := by obtain ⟨A, c, hv, _⟩ := RowR.hasG hrg; exact ⟨A, _, c, hv⟩
  obtain ⟨B2, m2, q2, rfl⟩ : ∃ A n c, tvn' = .slice A n c := by obtain ⟨A, c, hv, _⟩ := hnm.has; exact ⟨A, _, c, hv⟩
  have HRG := Lib.hid (RowR.mono hrg HS0.out.sz)
  have HNM := Lib.hid (hnm.mono HS0.out.sz)
  have HNE := Lib.hid hne
  have HT1 := Lib.hid (StS.below HS0.out hb1)
  have HSZ1 : Hid (w.heap.size + 3 ≤ w1.heap.size) := Lib.hid (Nat.le_trans HS0.out.sz hb1.size)
  clear hown hb1 HS0 HTY hrg hnm hne
  have a7 := HT1.out.arg.at 7 (u := _) rfl
  have x2 := HT1.out.box.at 2 (u := _) rfl
  have f2 := HT1.out.box.fr 2
  have x3 := HT1.out.box.at 3 (u := _) rfl
  have f3 := HT1.out.box.fr 3
  have x4 := HT1.out.box.at 4 (u := _) rfl
  have f4 := HT1.out.box.fr 4
  have x5 := HT1.out.box.at 5 (u := _) rfl
  have f5 := HT1.out.box.fr 5
  have x6 := HT1.out.box.at 6 (u := _) rfl
  have f6 := HT1.out.box.fr 6
  go_wp2_with fail
  have HU1 := Lib.hid (((((HT1.out.put 2 (.int .i64 (tk)) ⟨kd, nm, ⟨tk, .slice none 0 0, .slice none 0 0, ⟨#[]⟩, ⟨#[]⟩⟩, .slice none 0 0, .slice none 0 0, ⟨#[]⟩, false, false, false, false, 0, 0, .slice none 0 0, .slice none 0 0, .slice none 0 0⟩ rfl).put 3 ((.slice B1 m1 q1)) ⟨kd, nm, ⟨tk, .slice B1 m1 q1, .slice none 0 0, ⟨#[]⟩, ⟨#[]⟩⟩, .slice none 0 0, .slice none 0 0, ⟨#[]⟩, false, false, false, false, 0, 0, .slice none 0 0, .slice none 0 0, .slice none 0 0⟩ rfl).put 4 ((.slice B2 m2 q2)) ⟨kd, nm, ⟨tk, .slice B1 m1 q1, .slice B2 m2 q2, ⟨#[]⟩, ⟨#[]⟩⟩, .slice none 0 0, .slice none 0 0, ⟨#[]⟩, false, false, false, false, 0, 0, .slice none 0 0, .slice none 0 0, .slice none 0 0⟩ rfl).put 5 (.string tpt) ⟨kd, nm, ⟨tk, .slice B1 m1 q1, .slice B2 m2 q2, tpt, ⟨#[]⟩⟩, .slice none 0 0, .slice none 0 0, ⟨#[]⟩, false, false, false, false, 0, 0, .slice none 0 0, .slice none 0 0, .slice none 0 0⟩ rfl).put 6 (.string tph) ⟨kd, nm, ⟨tk, .slice B1 m1 q1, .slice B2 m2 q2, tpt, tph⟩, .slice none 0 0, .slice none 0 0, ⟨#[]⟩, false, false, false, false, 0, 0, .slice none 0 0, .slice none 0 0, .slice none 0 0⟩ rfl)
  have HV1 := Lib.hid (Kp.set (Kp.set (Kp.set (Kp.set (Kp.set (Kp.refl (w.heap.size + 3) w1) (b := w.heap.size + 1 + 1) (o := 2) (u := .int .i64 (tk)) (by omega)) (b := w.heap.size + 1 + 1) (o := 3) (u := (.slice B1 m1 q1)) (by omega)) (b := w.heap.size + 1 + 1) (o := 4) (u := (.slice B2 m2 q2)) (by omega)) (b := w.heap.size + 1 + 1) (o := 5) (u := .string tpt) (by omega)) (b := w.heap.size + 1 + 1) (o := 6) (u := .string tph) (by omega))
  clear a7 x2 f2 x3 f3 x4 f4 x5 f5 x6 f6
  refine (HKE.out _ HU1.out.bel).mono ?_
  rintro e w2 ⟨v3, rfl, hown, hb⟩
  obtain ⟨B3, m3, q3, rfl⟩ : ∃ A n c, v3 = .slice A n c := by obtain ⟨A, c, hv, _⟩ := hown.has; exact ⟨A, _, c, hv⟩
  have HO3 := Lib.hid hown
  have HZ2 := Lib.hid (And.intro HV1.out.1 (And.intro HU1.out.sz hb.size))
  have HT2 := Lib.hid (StS.below HU1.out hb)
  have HK1 := Lib.hid (HV1.out.below hb)
  clear hown hb HT1 HU1 HV1
  have a8 := HT2.out.arg.at 8 (u := _) rfl
  have x7 := HT2.out.box.at 7 (u := _) rfl
  have f7 := HT2.out.box.fr 7
  go_wp2_with fail
  have HU2 := Lib.hid (HT2.out.put 7 ((.slice B3 m3 q3)) ⟨kd, nm, ⟨tk, .slice B1 m1 q1, .slice B2 m2 q2, tpt, tph⟩, .slice B3 m3 q3, .slice none 0 0, ⟨#[]⟩, false, false, false, false, 0, 0, .slice none 0 0, .slice none 0 0, .slice none 0 0⟩ rfl)
  have HV2 := Lib.hid (Kp.set (Kp.refl (w.heap.size + 3) w2) (b := w.heap.size + 1 + 1) (o := 7) (u := (.slice B3 m3 q3)) (by omega))
  clear a8 x7 f7
  refine (HUN.out _ HU2.out.bel).mono ?_
  rintro e w3 ⟨v4, rfl, hown, hb⟩
  obtain ⟨B4, m4, q4, rfl⟩ : ∃ A n c, v4 = .slice A n c := by obtain ⟨A, c, hv, _⟩ := hown.has; exact ⟨A, _, c, hv⟩
  have HO4 := Lib.hid hown
  have HZ3 := Lib.hid (And.intro HV2.out.1 (And.intro HU2.out.sz hb.size))
  have HT3 := Lib.hid (StS.below HU2.out hb)
  have HK2 := Lib.hid (HV2.out.below hb)
  clear hown hb HT2 HU2 HV2
  have a9 := HT3.out.arg.at 9 (u := _) rfl
  have a10 := HT3.out.arg.at 10 (u := _) rfl
  have a11 := HT3.out.arg.at 11 (u := _) rfl
  have a12 := HT3.out.arg.at 12 (u := _) rfl
  have a13 := HT3.out.arg.at 13 (u := _) rfl
  have a14 := HT3.out.arg.at 14 (u := _) rfl
  have a15 := HT3.out.arg.at 15 (u := _) rfl
  have a16 := HT3.out.arg.at 16 (u := _) rfl
  have x8 := HT3.out.box.at 8 (u := _) rfl
  have f8 := HT3.out.box.fr 8
  have x9 := HT3.out.box.at 9 (u := _) rfl
  have f9 := HT3.out.box.fr 9
  have x10 := HT3.out.box.at 10 (u := _) rfl
  have f10 := HT3.out.box.fr 10
  have x11 := HT3.out.box.at 11 (u := _) rfl
  have f11 := HT3.out.box.fr 11
  have x12 := HT3.out.box.at 12 (u := _) rfl
  have f12 := HT3.out.box.fr 12
  have x13 := HT3.out.box.at 13 (u := _) rfl
  have f13 := HT3.out.box.fr 13
  have x14 := HT3.out.box.at 14 (u := _) rfl
  have f14 := HT3.out.box.fr 14
  have x15 := HT3.out.box.at 15 (u := _) rfl
  have f15 := HT3.out.box.fr 15
  go_wp2_with fail
  have HU3 := Lib.hid ((((((((HT3.out.put 8 ((.slice B4 m4 q4)) ⟨kd, nm, ⟨tk, .slice B1 m1 q1, .slice B2 m2 q2, tpt, tph⟩, .slice B3 m3 q3, .slice B4 m4 q4, ⟨#[]⟩, false, false, false, false, 0, 0, .slice none 0 0, .slice none 0 0, .slice none 0 0⟩ rfl).put 9 (.string df) ⟨kd, nm, ⟨tk, .slice B1 m1 q1, .slice B2 m2 q2, tpt, tph⟩, .slice B3 m3 q3, .slice B4 m4 q4, df, false, false, false, false, 0, 0, .slice none 0 0, .slice none 0 0, .slice none 0 0⟩ rfl).put 10 (.bool gi) ⟨kd, nm, ⟨tk, .slice B1 m1 q1, .slice B2 m2 q2, tpt, tph⟩, .slice B3 m3 q3, .slice B4 m4 q4, df, gi, false, false, false, 0, 0, .slice none 0 0, .slice none 0 0, .slice none 0 0⟩ rfl).put 11 (.bool ne) ⟨kd, nm, ⟨tk, .slice B1 m1 q1, .slice B2 m2 q2, tpt, tph⟩, .slice B3 m3 q3, .slice B4 m4 q4, df, gi, ne, false, false, 0, 0, .slice none 0 0, .slice none 0 0, .slice none 0 0⟩ rfl).put 12 (.bool pr) ⟨kd, nm, ⟨tk, .slice B1 m1 q1, .slice B2 m2 q2, tpt, tph⟩, .slice B3 m3 q3, .slice B4 m4 q4, df, gi, ne, pr, false, 0, 0, .slice none 0 0, .slice none 0 0, .slice none 0 0⟩ rfl).put 13 (.bool fi) ⟨kd, nm, ⟨tk, .slice B1 m1 q1, .slice B2 m2 q2, tpt, tph⟩, .slice B3 m3 q3, .slice B4 m4 q4, df, gi, ne, pr, fi, 0, 0, .slice none 0 0, .slice none 0 0, .slice none 0 0⟩ rfl).put 14 (.int .i64 (mi)) ⟨kd, nm, ⟨tk, .slice B1 m1 q1, .slice B2 m2 q2, tpt, tph⟩, .slice B3 m3 q3, .slice B4 m4 q4, df, gi, ne, pr, fi, mi, 0, .slice none 0 0, .slice none 0 0, .slice none 0 0⟩ rfl).put 15 (.int .i64 (ma)) ⟨kd, nm, ⟨tk, .slice B1 m1 q1, .slice B2 m2 q2, tpt, tph⟩, .slice B3 m3 q3, .slice B4 m4 q4, df, gi, ne, pr, fi, mi, ma, .slice none 0 0, .slice none 0 0, .slice none 0 0⟩ rfl)
  have HV3 := Lib.hid (Kp.set (Kp.set (Kp.set (Kp.set (Kp.set (Kp.set (Kp.set (Kp.set (Kp.refl (w.heap.size + 3) w3) (b := w.heap.size + 1 + 1) (o := 8) (u := (.slice B4 m4 q4)) (by omega)) (b := w.heap.size + 1 + 1) (o := 9) (u := .string df) (by omega)) (b := w.heap.size + 1 + 1) (o := 10) (u := .bool gi) (by omega)) (b := w.heap.size + 1 + 1) (o := 11) (u := .bool ne) (by omega)) (b := w.heap.size + 1 + 1) (o := 12) (u := .bool pr) (by omega)) (b := w.heap.size + 1 + 1) (o := 13) (u := .bool fi) (by omega)) (b := w.heap.size + 1 + 1) (o := 14) (u := .int .i64 (mi)) (by omega)) (b := w.heap.size + 1 + 1) (o := 15) (u := .int .i64 (ma)) (by omega))
  clear a9 a10 a11 a12 a13 a14 a15 a16 x8 f8 x9 f9 x10 f10 x11 f11 x12 f12 x13 f13 x14 f14 x15 f15
  obtain ⟨e5, hc5⟩ := HWH.out _ HU3.out.bel
  have HC5 := Lib.hid hc5
  clear hc5
  refine HC5.out.mono ?_
  rintro e w4 ⟨v5, S5, rfl, hown, hb⟩
  obtain ⟨B5, m5, q5, rfl⟩ : ∃ A n c, v5 = .slice A n c := by obtain ⟨A, c, hv⟩ := hown.rd.form; exact ⟨A, _, c, hv⟩
  have HO5 := Lib.hid hown
  have HZ4 := Lib.hid (And.intro HV3.out.1 (And.intro HU3.out.sz hb.size))
  have HT4 := Lib.hid (StS.below HU3.out hb)
  have HK3 := Lib.hid (HV3.out.below hb)
  clear hown hb HT3 HU3 HV3
  have a17 := HT4.out.arg.at 17 (u := _) rfl
  have x16 := HT4.out.box.at 16 (u := _) rfl
  have f16 := HT4.out.box.fr 16
  go_wp2_with fail
  have HU4 := Lib.hid (HT4.out.put 16 ((.slice B5 m5 q5)) ⟨kd, nm, ⟨tk, .slice B1 m1 q1, .slice B2 m2 q2, tpt, tph⟩, .slice B3 m3 q3, .slice B4 m4 q4, df, gi, ne, pr, fi, mi, ma, .slice B5 m5 q5, .slice none 0 0, .slice none 0 0⟩ rfl)
  have HV4 := Lib.hid (Kp.set (Kp.refl (w.heap.size + 3) w4) (b := w.heap.size + 1 + 1) (o := 16) (u := (.slice B5 m5 q5)) (by omega))
  clear a17 x16 f16
  obtain ⟨e6, hc6⟩ := HMU.out _ HU4.out.bel
  have HC6 := Lib.hid hc6
  clear hc6
  refine HC6.out.mono ?_
  rintro e w5 ⟨v6, S6, rfl, hown, hb⟩
  obtain ⟨B6, m6, q6, rfl⟩ : ∃ A n c, v6 = .slice A n c := by obtain ⟨A, c, hv⟩ := hown.rd.form; exact ⟨A, _, c, hv⟩
  have HO6 := Lib.hid hown
  have HZ5 := Lib.hid (And.intro HV4.out.1 (And.intro HU4.out.sz hb.size))
  have HT5 := Lib.hid (StS.below HU4.out hb)
  have HK4 := Lib.hid (HV4.out.below hb)
  clear hown hb HT4 HU4 HV4
  have a18 := HT5.out.arg.at 18 (u := _) rfl
  have x17 := HT5.out.box.at 17 (u := _) rfl
  have f17 := HT5.out.box.fr 17
  go_wp2_with fail
  have HU5 := Lib.hid (HT5.out.put 17 ((.slice B6 m6 q6)) ⟨kd, nm, ⟨tk, .slice B1 m1 q1, .slice B2 m2 q2, tpt, tph⟩, .slice B3 m3 q3, .slice B4 m4 q4, df, gi, ne, pr, fi, mi, ma, .slice B5 m5 q5, .slice B6 m6 q6, .slice none 0 0⟩ rfl)
  have HV5 := Lib.hid (Kp.set (Kp.refl (w.heap.size + 3) w5) (b := w.heap.size + 1 + 1) (o := 17) (u := (.slice B6 m6 q6)) (by omega))
  clear a18 x17 f17
  refine (HKI.out _ HU5.out.bel).mono ?_
  rintro e w6 ⟨v7, S7, rfl, hown, hb⟩
  obtain ⟨B7, m7, q7, rfl⟩ : ∃ A n c, v7 = .slice A n c := by obtain ⟨A, c, hv⟩ := hown.rd.form; exact ⟨A, _, c, hv⟩
  have HO7 := Lib.hid hown
  have HZ6 := Lib.hid (And.intro HV5.out.1 (And.intro HU5.out.sz hb.size))
  have HT6 := Lib.hid (StS.below HU5.out hb)
  have HK5 := Lib.hid (HV5.out.below hb)
  clear hown hb HT5 HU5 HV5
  have x18 := HT6.out.box.at 18 (u := _) rfl
  have f18 := HT6.out.box.fr 18
  have HRXZ := Lib.hid (rfl : 0 = 0)
  obtain ⟨rX, hrX⟩ : ∃ rX : ScR, rX = ⟨kd, nm, ⟨tk, .slice B1 m1 q1, .slice B2 m2 q2, tpt, tph⟩, .slice B3 m3 q3, .slice B4 m4 q4, df, gi, ne, pr, fi, mi, ma, .slice B5 m5 q5, .slice B6 m6 q6, .slice B7 m7 q7⟩ := ⟨_, rfl⟩
  obtain ⟨rv, hrv⟩ : ∃ rv, rv = rX.enc.toArray := ⟨_, rfl⟩
  have HU6 := Lib.hid (HT6.out.put 18 (.slice B7 m7 q7) rX (by rw [hrX]; rfl))
  have HV6 := Lib.hid ((Kp.refl (w.heap.size + 3) w6).set (b := w.heap.size + 1 + 1) (o := 18) (u := .slice B7 m7 q7) (by omega))
  have HRV := Lib.hid hrv
  have hload : (Instr.loadAt 59 (.pointer (some ⟨w.heap.size + 1 + 1, 0, none⟩))).run Try.prog (w6.setCell ⟨w.heap.size + 1 + 1, 18, none⟩ (.slice B7 m7 q7)) = .ok (.agg rv) (w6.setCell ⟨w.heap.size + 1 + 1, 18, none⟩ (.slice B7 m7 q7)) := by
    rw [hrv]
    exact run_loadAt_mid _ _ _ _ rX.enc _ HU6.out.box.range Try.underlying59 rfl (by kernel_rfl)
  have HTH : Hid ((w6.setCell ⟨w.heap.size + 1 + 1, 18, none⟩ (.slice B7 m7 q7)).there (w.heap.size + 1) 0 rv.size) := Lib.hid (by rw [hrv]; exact there_of HU6.out.res)
  have HI2 : Hid ((Try.prog.info? 59).map (·.size) = some rv.size) := Lib.hid (by rw [hrv]; kernel_rfl)
  have H12 : Hid (rv.all (·.oneCell') = true) := Lib.hid (by rw [hrv]; exact all_oneCell_toArray (by rw [hrX]; simp [ScR.enc, Value.oneCell']))
  have hres : (loadVar 59 ⟨w.heap.size + 1, 0, none⟩).run Try.prog ((w6.setCell ⟨w.heap.size + 1 + 1, 18, none⟩ (.slice B7 m7 q7)).setCells (w.heap.size + 1) 0 rv.toList) = .ok (.agg rv) ((w6.setCell ⟨w.heap.size + 1 + 1, 18, none⟩ (.slice B7 m7 q7)).setCells (w.heap.size + 1) 0 rv.toList) := by
    rw [hrv]
    exact run_loadVar_mid _ _ _ _ rX.enc _ (World.rangeAt_setCells_same _ _ _ _ (there_of HU6.out.res)) Try.underlying59 rfl (by kernel_rfl)
  have HRES := Lib.hid hres
  have HRX := Lib.hid hrX
  clear hrv hres hrX HRXZ
  go_wp2_with (first
    | (refine wpList_load_at rfl 59 _ rfl ⟨w.heap.size + 1 + 1, 0, none⟩ (by first | rfl | (go_simp; done)) (.agg rv) hload ?_; clear hload)
    | (refine wpList_store_mid rfl 59 _ _ rfl (w.heap.size + 1) 0 rv (by first | rfl | (go_simp; done)) (by rfl) HTH.out HI2.out H12.out ?_))
  refine bodyPost_ret (v := .agg rv) (results_cell_at rfl _ _ ⟨w.heap.size + 1, 0, none⟩ _ rfl HRES.out) rfl ?_
  have hz0 : w.heap.size + 3 ≤ w1.heap.size := HSZ1.out
  have hz2 := HZ2.out
  have hz3 := HZ3.out
  have hz4 := HZ4.out
  have hz5 := HZ5.out
  have hz6 := HZ6.out
  have K6 : Kp (w.heap.size + 3) w6 _ := Kp.setCs (b := w.heap.size + 1) (by omega) rv.toList 0 _ HV6.out
  have K5 := HK5.out.trans K6
  have K4 := HK4.out.trans K5
  have K3 := HK3.out.trans K4
  have K2 := HK2.out.trans K3
  have K1 := HK1.out.trans K2
  have l3 := fun j (hj : (Value.slice B3 m3 q3).ownBlock = some j) => Row.lt HO3.out hj
  have l4 := fun j (hj : (Value.slice B4 m4 q4).ownBlock = some j) => Row.lt HO4.out hj
  have l5 := HO5.out.lt
  have l6 := HO6.out.lt
  have l7 := HO7.out.lt
  have l1 := fun j (hj : (Value.slice B1 m1 q1).ownBlock = some j) => RowR.lt HRG.out hj
  have l2 := fun j (hj : (Value.slice B2 m2 q2).ownBlock = some j) => Row.lt HNM.out hj
  refine ⟨rX, fun b => (∃ i, i < 6 ∧ setsK (.slice B1 m1 q1) (.slice B2 m2 q2) (.slice B3 m3 q3) (.slice B4 m4 q4) S5 S6 i b) ∨ S7 b, (by rw [HRV.out]; rfl), ?_, below_setCs (by omega) _ _ _ (below_setM HT6.out.bel (by omega))⟩
  have hrX := HRX.out
  subst hrX
  refine ⟨_, S7, ⟨setsK (.slice B1 m1 q1) (.slice B2 m2 q2) (.slice B3 m3 q3) (.slice B4 m4 q4) S5 S6, ?_, fun b => Iff.rfl⟩, ?_, ?_, fun b => Iff.rfl⟩
  · refine ⟨⟨HEQ.out.kind, HEQ.out.name, HEQ.out.dflt, HEQ.out.given, HEQ.out.needed, HEQ.out.present, HEQ.out.fixed, HEQ.out.min, HEQ.out.max⟩, HTQ.out.1, HTQ.out.2.1, HTQ.out.2.2, ?_, ?_, ?_, ?_, ⟨e5, ?_⟩, ⟨e6, ?_⟩, fun b => Iff.rfl, fun b => Iff.rfl, fun b => Iff.rfl, fun b => Iff.rfl, ?_⟩
    · exact RowR.mono (rowR_frame HRG.out fun b hb => K1.2 b (l1 b hb).1 (l1 b hb).2) (by omega)
    · exact Row.mono (row_frame HNM.out fun b hb => K1.2 b (l2 b hb).1 (l2 b hb).2) (by omega)
    · exact Row.mono (row_frame HO3.out fun b hb => K2.2 b (by have := l3 b hb; omega) (l3 b hb).2) (by omega)
    · exact Row.mono (row_frame HO4.out fun b hb => K3.2 b (by have := l4 b hb; omega) (l4 b hb).2) (by omega)
    · exact OwL.mono (HO5.out.frame fun b hb => K4.2 b (by have := l5 b hb; omega) (l5 b hb).2) (by omega)
    · exact OwL.mono (HO6.out.frame fun b hb => K5.2 b (by have := l6 b hb; omega) (l6 b hb).2) (by omega)
    · exact apart6 (s2 := w1.heap.size) (s3 := w2.heap.size) (s4 := w3.heap.size) (s5 := w4.heap.size) (fun b h1 h2 => HNE.out b h1 h2) (fun b h => (l1 b h).2) (fun b h => (l2 b h).2) (fun b h => by have := l3 b h; omega) (fun b h => by have := l4 b h; omega) (fun b h => by have := l5 b h; omega) (fun b h => by have := l6 b h; omega) (by omega) (by omega) (by omega)
  · exact OwL.mono (HO7.out.frame fun b hb => K6.2 b (by have := l7 b hb; omega) (l7 b hb).2) (by omega)
  · rintro b ⟨i, hi, hk⟩ h7
    have h7 := l7 b h7
    match i, hi, hk with
    | 0, _, hk => have := l1 b hk; omega
    | 1, _, hk => have := l2 b hk; omega
    | 2, _, hk => have := l3 b hk; omega
    | 3, _, hk => have := l4 b hk; omega
    | 4, _, hk => have := l5 b hk; omega
    | 5, _, hk => have := l6 b hk; omega
theorem toSS_any : ∀ d, ToSS d
  | 0 => toSS_of 0 (fun e h => by cases h)
  | d + 1 => toSS_of (d + 1) (fun e h => by cases h; exact toS9_of (toSS_any d))
theorem toS9_any (d : Nat) : ToS9 d := toS9_of (toSS_any d)
end Go.Proofs.Ytdkpleghpnflhaa
