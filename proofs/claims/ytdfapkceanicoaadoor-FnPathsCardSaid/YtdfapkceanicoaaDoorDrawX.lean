/- CHAPTER 7: DRAWS OF PATHS: l7Any, DrawFormatPath (printed by tools/gen_drawX.py). -/
import Derived.Test.YtdfapkceanicoaaDoorDrawW
set_option linter.unusedVariables false
set_option linter.unusedSimpArgs false
namespace Go.Proofs.YtdfapkceanicoaaDoor
open Go.RowKit NumP
set_option maxRecDepth 100000

set_option maxRecDepth 100000 in
theorem odd7_any (g : Nat) (A : Option Addr) (n cap : Nat) (w : World) (hc : Cur w g A n cap) :
    Calls Tryd.prog 37 #[.pointer (some ⟨g, 0, none⟩)] w (IntOut (fun _ => True) w g A n cap) := by
  go_enter Tryd.func37, Tryd.ntmps37
  go_wp2_with (go_at_call 65; refine (int_any (fun _ => True) g A n cap ⟨w.heap.size, 0, none⟩ 14 14 (by omega) (by omega) _ (by
    have h := new_ints (w := w) (g := g) (T := 3) (cs := #[.int .i64 (-1), .int .i64 0, .int .i64 1, .int .i64 2, .int .i64 255, .int .i64 256, .int .i64 65535, .int .i64 2147483647, .int .i64 2147483648, .int .i64 4294967295, .int .i64 4294967296, .int .i64 (-2147483648), .int .i64 9223372036854775807, .int .i64 (-9223372036854775808)]) (len := 14) (fun _ => true) (by decide) (by decide) hc.lt
    exact ⟨h.1, fun j hj => by obtain ⟨v, _, e⟩ := h.2 j hj; exact ⟨v, trivial, e⟩⟩) (hc.alloc _)).mono ?_; rintro e w' ⟨v, hv, rfl, hc1, hg1⟩)
  go_ret
  exact ⟨v, hv, rfl, hc1, (byG_alloc (byG_refl w _) _).trans hg1⟩
theorem d7_of {w w1 : World} {g n cap : Nat} {A : Option Addr} {root : Bool} {u : Int} {sv : Value} {st : List Stp} {S : Nat → Prop} (hgl : g < w.heap.size) (hA : 0 < n → ∀ a, A = some a → a.block < w.heap.size) (hO : OwnS ((w.alloc (.cells #[.bool false, .int .i64 0, .slice none 0 0] 26)).heap.size + 1) w1 sv st S) (hC : Cur w1 g A n cap) (hG : (w.alloc (.cells #[.bool false, .int .i64 0, .slice none 0 0] 26)).grownBy w1 (some g)) :
    D7 w g A n cap w1.heap.size root u sv st S (w1.alloc (.cells #[.bool root, .int .i64 u, sv] 26)) := by
  have hb := below_al (Below.refl w1.heap.size w1) (.cells #[.bool root, .int .i64 u, sv] 26)
  have hZ := grown_at hG (heap_alloc_new w (.cells #[.bool false, .int .i64 0, .slice none 0 0] 26)) (by omega)
  have hl := (Array.getElem?_eq_some_iff.1 hZ).1
  exact ⟨hC.below hb, grown_trans (grown_trans (below_grown (below_al (Below.refl _ _) _)) hG) (below_grown hb), hgl, hA, (hb.block _ hl).trans hZ, heap_alloc_new w1 _, hl, OwL.mono (OwL.below hO hb) (by simp), fun h => by have := (OwL.lt hO _ h).2; omega⟩
theorem rowX_two (w : World) (B : Nat) (x y : Tst) (hB : B ≤ w.heap.size) : RowX B (w.alloc (.cells #[.string x.n, .string x.v, .string y.n, .string y.v] 52)) (.slice (some ⟨w.heap.size, 0, none⟩) 2 2) [x, y] :=
  ⟨by simp [Tst.enc], .inr ⟨w.heap.size, 2, _, rfl, hB, heap_alloc_new w _, by simp, by unfold maxLen; omega, by simp [Tst.enc], by simp [Tst.enc]⟩⟩
def DaV (W0 : World) (g : Nat) (e : Ending) (w' : World) : Prop :=
  ∃ root u sv st S, e = .returned (.agg #[.bool root, .int .i64 u, sv]) ∧ OwnS (W0.heap.size + 1) w' sv st S ∧ Hid (PthSz ⟨root, u, st⟩) ∧ W0.grownBy w' (some g)
set_option maxHeartbeats 64000000 in
theorem any7_any (g : Nat) (A : Option Addr) (n cap : Nat) (w : World) (hc : Cur w g A n cap) (hA : 0 < n → ∀ a, A = some a → a.block < w.heap.size) :
    Calls Tryd.prog 18 #[.pointer (some ⟨g, 0, none⟩)] w fun e w' => DaV w g e w' := by
  have HDR := Lib.hid (draw7_any g A n cap (w.alloc (.cells #[.bool false, .int .i64 0, .slice none 0 0] 26)) (hc.alloc _) (fun hn a ha => by have := hA hn a ha; simp; omega))
  have HGL := Lib.hid hc.lt
  have HA := Lib.hid hA
  clear hc hA
  go_enter Tryd.func18, Tryd.ntmps18
  go_wp2_with fail
  refine HDR.out.mono ?_
  rintro e w1 ⟨root, u, sv, st, S, rfl, hO, HSM0, hC, hG⟩
  have HSM : Hid (st.length ≤ 10 ∧ ∀ z ∈ st, StpSz z) := Lib.hid HSM0.out
  have HD1 := Lib.hid (d7_of (root := root) (u := u) HGL.out HA.out hO hC hG)
  obtain ⟨As, ms, cs, hsv⟩ : ∃ A n c, sv = .slice A n c := by obtain ⟨A, c, hv, _⟩ := (OwnS.has hO).at; exact ⟨A, _, c, hv⟩
  have HMS : Hid (ms = st.length) := Lib.hid (by obtain ⟨A, c, hv, _⟩ := (OwnS.has hO).at; rw [hsv] at hv; injection hv)
  have HSTL : Hid (ms + 1 ≤ 549755813888) := Lib.hid (by rw [HMS.out]; have := HSM.out.1; omega)
  subst hsv
  clear hO hC hG HDR HSM0
  go_wp2_with fail
  refine (below_any g A n cap 9 (by omega) _ HD1.out.C).mono ?_
  rintro e w2 ⟨x, hx0, -, hx2, rfl, hC, hG⟩
  have hx3 := hx2 (by omega)
  have HD2 := Lib.hid (HD1.out.step hC hG)
  clear hC hG hx2 HD1
  obtain ⟨pb, hpb⟩ : ∃ pb, pb = w1.heap.size := ⟨_, rfl⟩
  rw [← hpb] at HD2 ⊢
  clear hpb
  have hs2 : pb < w2.heap.size := HD2.out.lt
  have hs0 : w.heap.size < pb := HD2.out.pl
  obtain ⟨⟨x0, x1, x2⟩, g0, g1, g2⟩ := three_f HD2.out.X
  rcases (show x = 0 ∨ x = 1 ∨ x = 2 ∨ x = 3 ∨ 4 ≤ x by omega) with rfl | rfl | rfl | rfl | h4
  · clear hx0 hx3 x0 x1 x2 g0 g1 g2
    go_wp2_with fail
    refine (odd7_any g A n cap _ HD2.out.C).mono ?_
    rintro e w3 ⟨v, -, rfl, hC, hG⟩
    have HD3 := Lib.hid (HD2.out.step hC hG)
    obtain ⟨⟨x0, x1, x2⟩, g0, g1, g2⟩ := three_f HD3.out.X
    have HF := Lib.hid (HD3.out.put (u' := v) 1 (.int .i64 v) rfl)
    have HSM9 : Hid (st.length ≤ 11 ∧ ∀ z ∈ st, StpSz z) := Lib.hid ⟨by have := HSM.out.1; omega, HSM.out.2⟩
    have hs3 : pb < w3.heap.size := HD3.out.lt
    clear hC hG HD2
    obtain ⟨⟨y0, y1, y2⟩, k0, k1, k2⟩ := three_f HF.out.Z
    obtain ⟨⟨p0, p1, p2⟩, r0, r1, r2⟩ := three_f HF.out.X
    have hs02 : pb < w3.heap.size := HD3.out.lt
    have hne1 : ¬ pb = w.heap.size := by omega
    have hne2 : ¬ w.heap.size = pb := by omega
    go_wp2
    refine bodyPost_ret (results_c1 rfl _ _ ⟨w.heap.size, 0, none⟩ _ rfl (run_loadPth (pth_full HF.out.Z _ _ _))) rfl ?_
    exact ⟨_, _, _, _, _, rfl, (HF.out.done _ _ _).1, Lib.hid ⟨Nat.le_trans HSM9.out.1 (by omega), HSM9.out.2⟩, (HF.out.done _ _ _).2.2⟩
  · clear hx0 hx3
    have HD3 := Lib.hid (HD2.out.below (below_al (Below.refl w2.heap.size w2) (.cells #[.string ⟨#[]⟩, .string ⟨#[65]⟩, .string ⟨#[111, 107]⟩] 9)).drew)
    have HST3 : Hid (StrsAt (fun v => small v = true) (w2.alloc (.cells #[.string ⟨#[]⟩, .string ⟨#[65]⟩, .string ⟨#[111, 107]⟩] 9)).drew g ⟨w2.heap.size, 0, none⟩ 3) := Lib.hid (new_strs small (by decide) (by decide) (Cur.lt HD2.out.C))
    obtain ⟨⟨p0, p1, p2⟩, -⟩ := three_f HD3.out.X
    go_wp2
    go_region_law (first
      | (refine step_stR_append rfl _ _ (by rfl) (w.heap.size + 1) ms (.slice As ms cs) R (by rfl) HRR.out HRL.out ⟨nm, (.slice none 0 0)⟩ rfl ⟨w3.heap.size, 0, none⟩ 1 (by rfl) (news_stR w3 ⟨nm, .slice none 0 0⟩ 50) HSTL.out HBS.out (ms + 1) rfl ?_; intro g' c' w8 hrow8 hg8 hp8; have HO8 : Hid (∃ S', OwnS (w.heap.size + 1) w8 (.slice (some ⟨g', 0, none⟩) (ms + 1) c') (st ++ [⟨nm, []⟩]) S' ∧ ¬ S' pb) := Lib.hid ⟨_, by have h := HGROW.out w8 (.slice (some ⟨g', 0, none⟩) (ms + 1) c') hrow8 hg8 (hp8.elim (fun e => .inl e) (fun e => .inr ⟨g', rfl, by rw [e]; exact Nat.le_refl _⟩)); rw [lf_snoc] at h; exact h, (snoc_np (Sr := fun q => ((.slice none 0 0) : Value).ownBlock = some q) hp8 HSV.out HNP.out (fun q hq => by have hq9 : (none : Option Nat) = some q := hq; cases hq9) HPB.out)⟩; obtain ⟨S', hO8, hn8⟩ := HO8.out; have HS8 := Lib.hid (HD5.out.snoc hg8 HSV.out hO8 hn8); clear hO8 hn8 hp8 hrow8 hg8; obtain ⟨⟨t0, t1, t2⟩, v0, v1, v2⟩ := three_f HS8.out.1)
      | (go_simp; go_at_call 38; refine (str_any (fun v => small v = true) g A n cap ⟨w2.heap.size, 0, none⟩ 3 3 (by omega) (by omega) _ HST3.out HD3.out.C).mono ?_; rintro e w3 ⟨nm, hnm, rfl, hC, hG⟩; have HNM := Lib.hid (small_sz hnm); have HD4 := Lib.hid (HD3.out.step hC hG); clear hnm hC hG; obtain ⟨⟨q0, q1, q2⟩, -⟩ := three_f HD4.out.X; have hs4 : pb < w3.heap.size := HD4.out.lt; have hb5 := below_al (Below.refl w3.heap.size w3) (.cells #[.string nm, .slice none 0 0] 50); have HD5 := Lib.hid (HD4.out.below hb5); have HBS : Hid (w.heap.size + 1 ≤ (w3.alloc (.cells #[.string nm, .slice none 0 0] 50)).heap.size) := Lib.hid (by have := HD5.out.lt; have := HD5.out.pl; omega); have HPB : Hid (pb < (w3.alloc (.cells #[.string nm, .slice none 0 0] 50)).heap.size) := Lib.hid HD5.out.lt; obtain ⟨R, hR, hRl, hgrow⟩ := OwL.grow HD5.out.O; have HGROW := Lib.hid (fun (w' : World) (v' : Value) => hgrow (w' := w') (v' := v') (r := ⟨nm, (.slice none 0 0)⟩) (t := lf ⟨nm, []⟩) (Sr := fun q => ((.slice none 0 0) : Value).ownBlock = some q) ⟨_, fun _ => False, ⟨⟨rfl, rowX_nil _ _⟩, fun q => Iff.rfl⟩, owL_nil _ _ _ _, fun q _ h => h, fun q => by simp⟩ (fun q h1 h2 => by cases h2)); have HRR := Lib.hid hR; have HRL : Hid (ms = R.length) := Lib.hid (by rw [hRl, List.length_map]; exact HMS.out); have HSV : Hid (∀ q, (Value.slice As ms cs).ownBlock = some q → S q) := Lib.hid (fun q hq => by obtain ⟨R9, K9, _, _, _, _, _, h6⟩ := HD5.out.O; exact (h6 q).2 (.inl hq)); have HNP := Lib.hid HD5.out.np; obtain ⟨⟨n0, n1, n2⟩, -⟩ := three_f HD5.out.X; clear hR hRl hgrow; clear hb5))
    all_goals
      have HF := Lib.hid HS8.out.2
      have HSM9 : Hid ((st ++ ([⟨nm, []⟩] : List Stp)).length ≤ 11 ∧ ∀ z ∈ st ++ ([⟨nm, []⟩] : List Stp), StpSz z) := Lib.hid (small7_snoc HSM.out (show StpSz ⟨nm, []⟩ from ⟨HNM.out, Nat.zero_le _, fun t h => by cases h⟩))
      have HLT8 : Hid (pb < w8.heap.size) := Lib.hid (Array.getElem?_eq_some_iff.1 HS8.out.1).1
      generalize (w8.setCell ⟨pb, 2, none⟩ (.slice (some ⟨g', 0, none⟩) (ms + 1) c')) = w9 at HF ⊢
      obtain ⟨⟨x0, x1, x2⟩, g0, g1, g2⟩ := three_f HF.out.X
      obtain ⟨⟨y0, y1, y2⟩, k0, k1, k2⟩ := three_f HF.out.Z
      have hs02 : pb < w9.heap.size := HF.out.lt
      have hs03 : w.heap.size < pb := HF.out.pl
      go_wp2
      refine bodyPost_ret (results_c1 rfl _ _ ⟨w.heap.size, 0, none⟩ _ rfl (run_loadPth (pth_full HF.out.Z _ _ _))) rfl ?_
      exact ⟨_, _, _, _, _, rfl, (HF.out.done _ _ _).1, Lib.hid ⟨Nat.le_trans HSM9.out.1 (by omega), HSM9.out.2⟩, (HF.out.done _ _ _).2.2⟩
  · clear hx0 hx3
    have HF := Lib.hid (((HD2.out.put (root' := false) (u' := u) 0 (.bool false) rfl).put (u' := 0) 1 (.int .i64 0) rfl).putSv (show OwnS (w.heap.size + 1) _ (.slice none 0 0) [] (fun _ => False) from owL_nil stK 1 _ _) (fun h => h))
    have HSM9 : Hid (([] : List Stp).length ≤ 11 ∧ ∀ z ∈ ([] : List Stp), StpSz z) := Lib.hid ⟨by simp, fun z h => by cases h⟩
    obtain ⟨⟨y0, y1, y2⟩, k0, k1, k2⟩ := three_f HF.out.Z
    obtain ⟨⟨p0, p1, p2⟩, r0, r1, r2⟩ := three_f HF.out.X
    have hs02 : pb < w2.heap.size := HD2.out.lt
    have hne1 : ¬ pb = w.heap.size := by omega
    have hne2 : ¬ w.heap.size = pb := by omega
    go_wp2
    refine bodyPost_ret (results_c1 rfl _ _ ⟨w.heap.size, 0, none⟩ _ rfl (run_loadPth (pth_full HF.out.Z _ _ _))) rfl ?_
    exact ⟨_, _, _, _, _, rfl, (HF.out.done _ _ _).1, Lib.hid ⟨Nat.le_trans HSM9.out.1 (by omega), HSM9.out.2⟩, (HF.out.done _ _ _).2.2⟩
  · clear hx0 hx3
    have HD3 := Lib.hid (HD2.out.below (below_al (Below.refl w2.heap.size w2) (.cells #[.string ⟨#[107]⟩, .string ⟨#[106]⟩] 9)).drew)
    have HST3 : Hid (StrsAt (fun v => small v = true) (w2.alloc (.cells #[.string ⟨#[107]⟩, .string ⟨#[106]⟩] 9)).drew g ⟨w2.heap.size, 0, none⟩ 2) := Lib.hid (new_strs small (by decide) (by decide) (Cur.lt HD2.out.C))
    obtain ⟨⟨p0, p1, p2⟩, -⟩ := three_f HD3.out.X
    go_wp2
    go_region_law (first
      | (refine step_stR_append rfl _ _ (by rfl) (w.heap.size + 1) ms (.slice As ms cs) R (by rfl) HRR.out HRL.out ⟨⟨#[97]⟩, (.slice (some ⟨w3.heap.size, 0, none⟩) 2 2)⟩ rfl ⟨w3.heap.size + 1, 0, none⟩ 1 (by rfl) HNEWS.out HSTL.out HBS.out (ms + 1) rfl ?_; intro g' c' w8 hrow8 hg8 hp8; have HO8 : Hid (∃ S', OwnS (w.heap.size + 1) w8 (.slice (some ⟨g', 0, none⟩) (ms + 1) c') (st ++ [⟨⟨#[97]⟩, [⟨⟨#[107]⟩, ⟨#[49]⟩⟩, ⟨nm, ⟨#[50]⟩⟩]⟩]) S' ∧ ¬ S' pb) := Lib.hid ⟨_, by have h := HGROW.out w8 (.slice (some ⟨g', 0, none⟩) (ms + 1) c') hrow8 hg8 (hp8.elim (fun e => .inl e) (fun e => .inr ⟨g', rfl, by rw [e]; exact Nat.le_refl _⟩)); rw [lf_snoc] at h; exact h, (snoc_np (Sr := fun q => ((.slice (some ⟨w3.heap.size, 0, none⟩) 2 2) : Value).ownBlock = some q) hp8 HSV.out HNP.out (fun q hq => by have h9 : w3.heap.size = q := Option.some.inj hq; have := HPB3.out; omega) HPB.out)⟩; obtain ⟨S', hO8, hn8⟩ := HO8.out; have HS8 := Lib.hid (HD5.out.snoc hg8 HSV.out hO8 hn8); clear hO8 hn8 hp8 hrow8 hg8; obtain ⟨⟨t0, t1, t2⟩, v0, v1, v2⟩ := three_f HS8.out.1)
      | (go_simp; go_at_call 38; refine (str_any (fun v => small v = true) g A n cap ⟨w2.heap.size, 0, none⟩ 2 2 (by omega) (by omega) _ HST3.out HD3.out.C).mono ?_; rintro e w3 ⟨nm, hnm, rfl, hC, hG⟩; have HNM := Lib.hid (small_sz hnm); have HD4 := Lib.hid (HD3.out.step hC hG); clear hnm hC hG; obtain ⟨⟨q0, q1, q2⟩, -⟩ := three_f HD4.out.X; have hs4 : pb < w3.heap.size := HD4.out.lt; have HPB3 : Hid (pb < w3.heap.size) := Lib.hid hs4; have hb5 := below_al (below_al (Below.refl w3.heap.size w3) (.cells #[.string ⟨#[107]⟩, .string ⟨#[49]⟩, .string nm, .string ⟨#[50]⟩] 52)) (.cells #[.string ⟨#[97]⟩, .slice (some ⟨w3.heap.size, 0, none⟩) 2 2] 50); have hsz3 : (w3.alloc (.cells #[.string ⟨#[107]⟩, .string ⟨#[49]⟩, .string nm, .string ⟨#[50]⟩] 52)).heap.size = w3.heap.size + 1 := (by simp); have HNEWS : Hid (∀ j u, (StR.enc ⟨⟨#[97]⟩, .slice (some ⟨w3.heap.size, 0, none⟩) 2 2⟩)[j]? = some u → ((w3.alloc (.cells #[.string ⟨#[107]⟩, .string ⟨#[49]⟩, .string nm, .string ⟨#[50]⟩] 52)).alloc (.cells #[.string ⟨#[97]⟩, .slice (some ⟨w3.heap.size, 0, none⟩) 2 2] 50)).cell? ((⟨w3.heap.size + 1, 0, none⟩ : Addr).add j) = some u) := Lib.hid (by have h := news_stR (w3.alloc (.cells #[.string ⟨#[107]⟩, .string ⟨#[49]⟩, .string nm, .string ⟨#[50]⟩] 52)) ⟨⟨#[97]⟩, .slice (some ⟨w3.heap.size, 0, none⟩) 2 2⟩ 50; rw [hsz3] at h; exact h); have HRX : Hid (RowX (w.heap.size + 1) ((w3.alloc (.cells #[.string ⟨#[107]⟩, .string ⟨#[49]⟩, .string nm, .string ⟨#[50]⟩] 52)).alloc (.cells #[.string ⟨#[97]⟩, .slice (some ⟨w3.heap.size, 0, none⟩) 2 2] 50)) (.slice (some ⟨w3.heap.size, 0, none⟩) 2 2) [⟨⟨#[107]⟩, ⟨#[49]⟩⟩, ⟨nm, ⟨#[50]⟩⟩]) := Lib.hid (RowR.alloc (rowX_two w3 (w.heap.size + 1) ⟨⟨#[107]⟩, ⟨#[49]⟩⟩ ⟨nm, ⟨#[50]⟩⟩ (by have := HD4.out.lt; have := HD4.out.pl; omega)) _); have HD5 := Lib.hid (HD4.out.below hb5); obtain ⟨⟨o0, o1, o2⟩, -⟩ := three_f (HD4.out.below (below_al (Below.refl w3.heap.size w3) (.cells #[.string ⟨#[107]⟩, .string ⟨#[49]⟩, .string nm, .string ⟨#[50]⟩] 52))).X; have HSL : Hid (∀ q, S q → q < w3.heap.size) := Lib.hid (fun q hq => (OwL.lt HD4.out.O q hq).2); have HBS : Hid (w.heap.size + 1 ≤ ((w3.alloc (.cells #[.string ⟨#[107]⟩, .string ⟨#[49]⟩, .string nm, .string ⟨#[50]⟩] 52)).alloc (.cells #[.string ⟨#[97]⟩, .slice (some ⟨w3.heap.size, 0, none⟩) 2 2] 50)).heap.size) := Lib.hid (by have := HD5.out.lt; have := HD5.out.pl; omega); have HPB : Hid (pb < ((w3.alloc (.cells #[.string ⟨#[107]⟩, .string ⟨#[49]⟩, .string nm, .string ⟨#[50]⟩] 52)).alloc (.cells #[.string ⟨#[97]⟩, .slice (some ⟨w3.heap.size, 0, none⟩) 2 2] 50)).heap.size) := Lib.hid HD5.out.lt; obtain ⟨R, hR, hRl, hgrow⟩ := OwL.grow HD5.out.O; have HGROW := Lib.hid (fun (w' : World) (v' : Value) => hgrow (w' := w') (v' := v') (r := ⟨⟨#[97]⟩, (.slice (some ⟨w3.heap.size, 0, none⟩) 2 2)⟩) (t := lf ⟨⟨#[97]⟩, [⟨⟨#[107]⟩, ⟨#[49]⟩⟩, ⟨nm, ⟨#[50]⟩⟩]⟩) (Sr := fun q => ((.slice (some ⟨w3.heap.size, 0, none⟩) 2 2) : Value).ownBlock = some q) ⟨_, fun _ => False, ⟨⟨rfl, HRX.out⟩, fun q => Iff.rfl⟩, owL_nil _ _ _ _, fun q _ h => h, fun q => by simp⟩ (fun q h1 h2 => by have h9 : w3.heap.size = q := Option.some.inj h2; have := HSL.out q h1; omega)); have HRR := Lib.hid hR; have HRL : Hid (ms = R.length) := Lib.hid (by rw [hRl, List.length_map]; exact HMS.out); have HSV : Hid (∀ q, (Value.slice As ms cs).ownBlock = some q → S q) := Lib.hid (fun q hq => by obtain ⟨R9, K9, _, _, _, _, _, h6⟩ := HD5.out.O; exact (h6 q).2 (.inl hq)); have HNP := Lib.hid HD5.out.np; obtain ⟨⟨n0, n1, n2⟩, -⟩ := three_f HD5.out.X; clear hR hRl hgrow; clear hb5 hsz3))
    all_goals
      have HF := Lib.hid HS8.out.2
      have HSM9 : Hid ((st ++ ([⟨⟨#[97]⟩, [⟨⟨#[107]⟩, ⟨#[49]⟩⟩, ⟨nm, ⟨#[50]⟩⟩]⟩] : List Stp)).length ≤ 11 ∧ ∀ z ∈ st ++ ([⟨⟨#[97]⟩, [⟨⟨#[107]⟩, ⟨#[49]⟩⟩, ⟨nm, ⟨#[50]⟩⟩]⟩] : List Stp), StpSz z) := Lib.hid (small7_snoc HSM.out (show StpSz ⟨⟨#[97]⟩, [⟨⟨#[107]⟩, ⟨#[49]⟩⟩, ⟨nm, ⟨#[50]⟩⟩]⟩ from ⟨(show (1 : Nat) ≤ 1048576 by omega), by simp, fun t h => by
        rcases List.mem_cons.1 h with rfl | h
        · exact ⟨(show (1 : Nat) ≤ 1048576 by omega), (show (1 : Nat) ≤ 1048576 by omega)⟩
        · rw [List.mem_singleton.1 h]; exact ⟨HNM.out, (show (1 : Nat) ≤ 1048576 by omega)⟩⟩))
      have HLT8 : Hid (pb < w8.heap.size) := Lib.hid (Array.getElem?_eq_some_iff.1 HS8.out.1).1
      generalize (w8.setCell ⟨pb, 2, none⟩ (.slice (some ⟨g', 0, none⟩) (ms + 1) c')) = w9 at HF ⊢
      obtain ⟨⟨x0, x1, x2⟩, g0, g1, g2⟩ := three_f HF.out.X
      obtain ⟨⟨y0, y1, y2⟩, k0, k1, k2⟩ := three_f HF.out.Z
      have hs02 : pb < w9.heap.size := HF.out.lt
      have hs03 : w.heap.size < pb := HF.out.pl
      go_wp2
      refine bodyPost_ret (results_c1 rfl _ _ ⟨w.heap.size, 0, none⟩ _ rfl (run_loadPth (pth_full HF.out.Z _ _ _))) rfl ?_
      exact ⟨_, _, _, _, _, rfl, (HF.out.done _ _ _).1, Lib.hid ⟨Nat.le_trans HSM9.out.1 (by omega), HSM9.out.2⟩, (HF.out.done _ _ _).2.2⟩
  · have n0 : (x == 0) = false := by simp; omega
    have n1 : (x == 1) = false := by simp; omega
    have n2 : (x == 2) = false := by simp; omega
    have n3 : (x == 3) = false := by simp; omega
    have HF := HD2
    have HSM9 : Hid (st.length ≤ 11 ∧ ∀ z ∈ st, StpSz z) := Lib.hid ⟨by have := HSM.out.1; omega, HSM.out.2⟩
    clear x0 x1 x2 g0 g1 g2
    obtain ⟨⟨x0, x1, x2⟩, g0, g1, g2⟩ := three_f HF.out.X
    obtain ⟨⟨y0, y1, y2⟩, k0, k1, k2⟩ := three_f HF.out.Z
    have hs02 : pb < w2.heap.size := HF.out.lt
    have hs03 : w.heap.size < pb := HF.out.pl
    go_wp2
    refine bodyPost_ret (results_c1 rfl _ _ ⟨w.heap.size, 0, none⟩ _ rfl (run_loadPth (pth_full HF.out.Z _ _ _))) rfl ?_
    exact ⟨_, _, _, _, _, rfl, (HF.out.done _ _ _).1, Lib.hid ⟨Nat.le_trans HSM9.out.1 (by omega), HSM9.out.2⟩, (HF.out.done _ _ _).2.2⟩
set_option maxHeartbeats 4000000 in
theorem drawFP_any (A : Option Addr) (n cap : Nat) (w : World) (hs : Src w A n) :
    Calls Tryd.prog 6 #[.slice A n cap] w fun e w' => ∃ root u sv st S, e = .returned (.agg #[.bool root, .int .i64 u, sv]) ∧ OwnS (w.heap.size + 1) w' sv st S ∧ Hid (PthSz ⟨root, u, st⟩) ∧ Below w.heap.size w w' := by
  have hA : 0 < n → ∀ a, A = some a → a.block < w.heap.size := fun hn a ha => by
    obtain ⟨a', _, h1, h2, _⟩ := hs.2 0 hn
    rw [h1] at ha; cases ha; exact h2
  have HNW := Lib.hid (new_any A n cap (w.alloc (.cells #[.bool false, .int .i64 0, .slice none 0 0] 26)) (src_below hs (below_al (Below.refl _ _) _)))
  have HA := Lib.hid hA
  clear hs hA
  go_enter Tryd.func6, Tryd.ntmps6
  go_wp2_with fail
  refine HNW.out.mono ?_
  rintro e w1 ⟨g, rfl, hg, hc, hb⟩
  have HX1 := Lib.hid ((hb.block w.heap.size (by simp)).trans (heap_alloc_new w _))
  have HB1 := Lib.hid (below_step (below_al (Below.refl w.heap.size w) _) hb)
  have HGE : Hid (w.heap.size < g) := Lib.hid (by have := hg; simp at this; omega)
  have HC := Lib.hid hc
  clear hg hc hb
  go_wp2_with fail
  refine (any7_any g A n cap _ HC.out (fun hn a ha => Nat.lt_of_lt_of_le (HA.out hn a ha) HB1.out.size)).mono ?_
  rintro e w2 ⟨root, u, sv, st, S, rfl, hO, HSZ, hG⟩
  obtain ⟨As, ms, cs, hsv⟩ : ∃ A n c, sv = .slice A n c := by obtain ⟨A, c, hv, _⟩ := (OwnS.has hO).at; exact ⟨A, _, c, hv⟩
  subst hsv
  have HX2 := Lib.hid (grown_at hG HX1.out (by have := HGE.out; omega))
  have hl1 : w.heap.size < w1.heap.size := (Array.getElem?_eq_some_iff.1 HX1.out).1
  have HB2 := Lib.hid (Below.grown HB1.out hG HB1.out.size (fun q e => by have := Option.some.inj e; have := HGE.out; omega))
  have HO2 : Hid (OwnS (w.heap.size + 1) w2 (.slice As ms cs) st S) := Lib.hid (OwL.mono hO (by omega))
  obtain ⟨⟨y0, y1, y2⟩, k0, k1, k2⟩ := three_f HX2.out
  clear hO hG
  go_wp2
  refine bodyPost_ret (results_c1 rfl _ _ ⟨w.heap.size, 0, none⟩ _ rfl (run_loadPth (pth_full HX2.out _ _ _))) rfl ?_
  exact ⟨_, _, _, _, _, rfl, OwL.set (OwL.set (OwL.set HO2.out (by omega)) (by omega)) (by omega), HSZ, below_set3 HB2.out (Nat.le_refl _)⟩
end Go.Proofs.YtdfapkceanicoaaDoor
