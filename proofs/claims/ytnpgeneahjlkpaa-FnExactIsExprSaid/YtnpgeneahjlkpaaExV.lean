/- CHAPTER 8, spec: l8Valid, IsExpr. PRINTED by tools/gen_exV.py. -/
import Derived.Test.YtnpgeneahjlkpaaExS
import Derived.Test.YtnpgeneahjlkpaaExG
set_option linter.unusedVariables false
set_option linter.unusedSimpArgs false
namespace Go.Proofs.Ytnpgeneahjlkpaa
open Go.RowKit

def SVal (d : Nat) : Prop := ∀ (r : ExR) (t : Ex) (w : World), RdN exK d w r t → ExSz t.x → SizT ExSz d t.kids → Calls Try.prog 36 #[r.val] w fun e w' => e = .returned (.bool (dB (okE (d + 1) t))) ∧ Below w.heap.size w w'
set_option maxRecDepth 100000 in
set_option maxHeartbeats 16000000 in
theorem sVal_of (d : Nat) (ih : ∀ e, d = e + 1 → SVal e) : SVal d := by
  intro r t w hr hx hk
  obtain ⟨⟨h0, hp⟩, hkids⟩ := hr
  obtain ⟨A, cap, hkv, hlen, hat⟩ := ex_at hkids
  obtain ⟨A3, n3, c3, hsl⟩ : ∃ A n c, r.sv = .slice A n c := by obtain ⟨A, c, hv, _⟩ := hp.st.at; exact ⟨A, _, c, hv⟩
  have HAT : Hid (∀ k (hk : k < t.kids.length), ∃ (a : Addr) (r' : ExR), A = some a ∧ (a.add (k * 7)).block < w.heap.size ∧ Ek w (a.add (k * 7)) r' ∧ ∀ W, Below w.heap.size w W → Calls Try.prog 36 #[r'.val] W fun e w' => e = .returned (.bool (dB (okE d t.kids[k]))) ∧ Below W.heap.size W w') := Lib.hid fun k hkl => by
    obtain ⟨a, r', d', e1, e2, e3, e4, e5⟩ := hat k hkl
    subst e2
    have hq := hk.2 _ (List.getElem_mem hkl)
    exact ⟨a, r', e1, e3, e4, fun W hb => ih d' rfl r' t.kids[k] W (e5.below hb) hq.1 hq.2⟩
  obtain ⟨n1, hn1⟩ : ∃ n1 : Nat, n1 = t.kids.length := ⟨_, rfl⟩
  have HN1 := Lib.hid hn1
  have HNK : Hid (n1 = 0 → t.kids = []) := Lib.hid fun h => List.length_eq_zero_iff.1 (by omega)
  rw [← hn1] at hlen hkv
  obtain ⟨op, num, text, ro, up, sv, kv⟩ := r
  dsimp only at hsl hkv h0
  subst hsl hkv
  obtain ⟨x, l⟩ := t
  obtain ⟨xo, xn, xt, p⟩ := x
  obtain ⟨h1, h2, h3⟩ := h0
  obtain rfl : op = xo := h1
  obtain rfl : num = xn := h2
  obtain rfl : text = xt := h3
  have hl : n1 = l.length := hn1
  have hp2 : HasP7 w ⟨ro, up, .slice A3 n3 c3⟩ p := hp
  have hts : text.size ≤ 1048576 := hx.1
  have hpz : PthSz p := hx.2
  have HAT : Hid (∀ k (hk : k < l.length), ∃ (a : Addr) (r' : ExR), A = some a ∧ (a.add (k * 7)).block < w.heap.size ∧ Ek w (a.add (k * 7)) r' ∧ ∀ W, Below w.heap.size w W → Calls Try.prog 36 #[r'.val] W fun e w' => e = .returned (.bool (dB (okE d l[k]))) ∧ Below W.heap.size W w') := HAT
  have HL := Lib.hid hl
  have HNK : Hid (n1 = 0 → l = []) := HNK
  have HIP := Lib.hid (fun W (hb : Below w.heap.size w W) => sIsPth_any ⟨ro, up, .slice A3 n3 c3⟩ p W (hp2.below hb) hpz)
  have HPL := Lib.hid (fun W (hb : Below w.heap.size w W) => sPlainP_any ⟨ro, up, .slice A3 n3 c3⟩ p W (hp2.below hb))
  have HWR := Lib.hid (fun (hok : PthOk p) W (hb : Below w.heap.size w W) => sWrit_any ⟨ro, up, .slice A3 n3 c3⟩ p W (hp2.below hb) hok)
  have HTX := Lib.hid (fun w => sIsText_any text (by unfold maxLen; omega) w)
  obtain ⟨Z, hZ⟩ : ∃ Z, Z = dB (okE (d + 1) (.mk ⟨op, num, text, p⟩ l)) := ⟨_, rfl⟩
  obtain ⟨mb, hmb⟩ : ∃ b, b = dB (MayBe p) := ⟨_, rfl⟩
  obtain ⟨pk, hpk⟩ : ∃ b, b = dB (PthOk p) := ⟨_, rfl⟩
  obtain ⟨be, hbe⟩ : ∃ b, b = dB (PthNil p) := ⟨_, rfl⟩
  obtain ⟨tb, htb⟩ : ∃ b, b = textB text := ⟨_, rfl⟩
  obtain ⟨ak, hak⟩ : ∃ b, b = dB (∀ k, k ∈ l → okE d k) := ⟨_, rfl⟩
  have HPK : Hid (pk = true → PthOk p) := Lib.hid fun h => dB_true (hpk.symm.trans h)
  have HZ : Hid (Z = (if op = 1 then decide (0 ≤ num ∧ num ≤ 1000000000) && decide (text = ⟨#[]⟩) && decide (n1 = 0) && be else if op = 2 then tb && decide (num = 0) && decide (n1 = 0) && be else if op = 3 then pk && decide (num = 0) && decide (text = ⟨#[]⟩) && decide (n1 = 0) && mb else if op = 4 then pk && decide (num = 0) && decide (text = ⟨#[]⟩) && decide (n1 = 0) else decide (5 ≤ op ∧ op ≤ 15) && decide (num = 0) && decide (text = ⟨#[]⟩) && decide (n1 = kidN op) && be && ak)) := Lib.hid (by
    rw [hZ, hmb, hpk, hbe, htb, hak, Bool.eq_iff_iff, dB_tr]
    have hknil : n1 = 0 → ((∀ k, k ∈ l → okE d k) ↔ True) := fun h => by rw [HNK.out h]; simp
    show (FieldOk ⟨op, num, text, p⟩ ∧ l.length = kidN op ∧ ∀ k, k ∈ l → okE d k) ↔ _
    rw [← hl]
    unfold FieldOk
    dsimp only
    by_cases o1 : op = 1
    · subst o1
      by_cases hn : n1 = 0
      · simp [dB_tr, kidN, hn, hknil hn, and_assoc]
      · simp [dB_tr, kidN, hn]
    · by_cases o2 : op = 2
      · subst o2
        by_cases hn : n1 = 0
        · simp [dB_tr, kidN, hn, hknil hn, and_assoc]
        · simp [dB_tr, kidN, hn]
      · by_cases o3 : op = 3
        · subst o3
          by_cases hn : n1 = 0
          · simp [dB_tr, kidN, hn, hknil hn, and_assoc]
            intros; constructor
            · rintro ⟨a, b, c⟩; exact ⟨b, c, a⟩
            · rintro ⟨b, c, a⟩; exact ⟨a, b, c⟩
          · simp [dB_tr, kidN, hn]
        · by_cases o4 : op = 4
          · subst o4
            by_cases hn : n1 = 0
            · simp [dB_tr, kidN, hn, hknil hn, and_assoc]
            · simp [dB_tr, kidN, hn]
          · simp only [o1, o2, o3, o4, false_and, false_or, if_false, Bool.and_eq_true, decide_eq_true_eq, dB_tr]
            constructor
            · rintro ⟨⟨a, b, c, e⟩, f, g⟩; exact ⟨⟨⟨⟨⟨a, b⟩, c⟩, f⟩, e⟩, g⟩
            · rintro ⟨⟨⟨⟨⟨a, b⟩, c⟩, f⟩, e⟩, g⟩; exact ⟨⟨a, b, c, e⟩, f, g⟩)
  have HAK0 : Hid (∀ k (hk : k < l.length), dB (okE d l[k]) = false → ak = false) := Lib.hid fun k hk h => hak.trans (dB_no fun hh => dB_false h (hh _ (List.getElem_mem hk)))
  have HAK1 : Hid ((∀ x, x ∈ l → okE d x) → ak = true) := Lib.hid fun h => hak.trans (dB_yes h)
  rw [← hZ]
  rw [← hmb] at HWR
  rw [← hpk] at HIP
  rw [← hbe] at HPL
  rw [← htb] at HTX
  obtain ⟨W0, hW0⟩ : ∃ W0, W0 = w.alloc (.cells #[.int .i64 op, .int .i64 num, .string text, .bool ro, .int .i64 up, .slice A3 n3 c3, .slice A n1 cap] 35) := ⟨_, rfl⟩
  have HX : Hid (∀ W, Below W0.heap.size W0 W → EBox 35 W w.heap.size ⟨op, num, text, ro, up, .slice A3 n3 c3, .slice A n1 cap⟩) := Lib.hid fun W hb => (show EBox 35 W0 w.heap.size ⟨op, num, text, ro, up, .slice A3 n3 c3, .slice A n1 cap⟩ by rw [hW0]; exact EBox.new 35 w ⟨op, num, text, ro, up, .slice A3 n3 c3, .slice A n1 cap⟩).below hb
  have HB0 : Hid (Below w.heap.size w W0) := Lib.hid (by rw [hW0]; exact below_al (Below.refl _ _) _)
  rw [hW0] at HX HB0
  clear hp hp2 hkids hat hx hk hn1 hl hpz hZ hmb hpk hbe htb hak hW0 ih
  by_cases o1 : op = 1
  · subst o1
    by_cases hi : 0 ≤ num ∧ num ≤ 1000000000
    · by_cases ht : text = ⟨#[]⟩
      · have f1 := empty_yes ht
        by_cases hk0 : n1 = 0
        · subst hk0
          cases be
          · skip
            obtain rfl : Z = false := by rw [HZ.out]; simp [hi, ht]
            clear HZ
            have HI := Lib.hid hi
            clear ht hi
            go_enter Try.func36, Try.ntmps36
            go_wp2_with (first | (go_at_call 68; refine (sIn_yes _ _ _ _ HI.out.1 HI.out.2).mono ?_; rintro e w' ⟨rfl, rfl⟩) | (go_at_call 70; refine (HPL.out _ HB0.out).mono ?_; rintro e w1 ⟨rfl, hb1⟩; have HB1 := Lib.hid (below_step HB0.out hb1); have HX1 := Lib.hid (HX.out _ hb1); have hx1 := HX1.out.tell; obtain ⟨b0, b1, b2, b3, b4, b5, b6⟩ := hx1; clear hb1))
            go_ret
            exact ⟨rfl, HB1.out⟩
          · skip
            obtain rfl : Z = true := by rw [HZ.out]; simp [hi, ht]
            clear HZ
            have HI := Lib.hid hi
            clear ht hi
            go_enter Try.func36, Try.ntmps36
            go_wp2_with (first | (go_at_call 68; refine (sIn_yes _ _ _ _ HI.out.1 HI.out.2).mono ?_; rintro e w' ⟨rfl, rfl⟩) | (go_at_call 70; refine (HPL.out _ HB0.out).mono ?_; rintro e w1 ⟨rfl, hb1⟩; have HB1 := Lib.hid (below_step HB0.out hb1); have HX1 := Lib.hid (HX.out _ hb1); have hx1 := HX1.out.tell; obtain ⟨b0, b1, b2, b3, b4, b5, b6⟩ := hx1; clear hb1))
            go_loopw [6] (fun i wr => i = .int .i64 0 ∧ wr = w1) (fun _ _ => 0)
            case atStart => exact ⟨rfl, rfl⟩
            case round =>
              obtain ⟨rfl, hwr⟩ := hrel
              subst hwr
              go_wp2
              go_ret
              exact ⟨rfl, HB1.out⟩
        · skip
          obtain rfl : Z = false := by rw [HZ.out]; simp [hi, ht, hk0]
          clear HZ
          have f9 : ((n1 : Int) != 0) = true := by simp; omega
          have HI := Lib.hid hi
          clear ht hi
          go_enter Try.func36, Try.ntmps36
          go_wp2_with (first | (go_at_call 68; refine (sIn_yes _ _ _ _ HI.out.1 HI.out.2).mono ?_; rintro e w' ⟨rfl, rfl⟩))
          go_ret
          exact ⟨rfl, HB0.out⟩
      · have f1 := empty_no ht
        obtain rfl : Z = false := by rw [HZ.out]; simp [hi, ht]
        clear HZ
        have HI := Lib.hid hi
        clear ht hi
        go_enter Try.func36, Try.ntmps36
        go_wp2_with (first | (go_at_call 68; refine (sIn_yes _ _ _ _ HI.out.1 HI.out.2).mono ?_; rintro e w' ⟨rfl, rfl⟩))
        go_ret
        exact ⟨rfl, HB0.out⟩
    · have hi' : num < 0 ∨ 1000000000 < num := by omega
      obtain rfl : Z = false := by rw [HZ.out]; simp [hi]
      clear HZ
      have HI := Lib.hid hi'
      clear hi hi'
      go_enter Try.func36, Try.ntmps36
      go_wp2_with (first | (go_at_call 68; refine (sIn_no _ _ _ _ HI.out).mono ?_; rintro e w' ⟨rfl, rfl⟩))
      go_ret
      exact ⟨rfl, HB0.out⟩
  by_cases o2 : op = 2
  · subst o2
    clear o1
    cases tb
    · skip
      obtain rfl : Z = false := by rw [HZ.out]; simp []
      clear HZ
      go_enter Try.func36, Try.ntmps36
      go_wp2_with (first | (go_at_call 69; refine (HTX.out _).mono ?_; rintro e w' ⟨rfl, rfl⟩))
      go_ret
      exact ⟨rfl, HB0.out⟩
    · by_cases hn : num = 0
      · subst hn
        by_cases hk0 : n1 = 0
        · subst hk0
          cases be
          · skip
            obtain rfl : Z = false := by rw [HZ.out]; simp []
            clear HZ
            go_enter Try.func36, Try.ntmps36
            go_wp2_with (first | (go_at_call 69; refine (HTX.out _).mono ?_; rintro e w' ⟨rfl, rfl⟩) | (go_at_call 70; refine (HPL.out _ HB0.out).mono ?_; rintro e w1 ⟨rfl, hb1⟩; have HB1 := Lib.hid (below_step HB0.out hb1); have HX1 := Lib.hid (HX.out _ hb1); have hx1 := HX1.out.tell; obtain ⟨b0, b1, b2, b3, b4, b5, b6⟩ := hx1; clear hb1))
            go_ret
            exact ⟨rfl, HB1.out⟩
          · skip
            obtain rfl : Z = true := by rw [HZ.out]; simp []
            clear HZ
            go_enter Try.func36, Try.ntmps36
            go_wp2_with (first | (go_at_call 69; refine (HTX.out _).mono ?_; rintro e w' ⟨rfl, rfl⟩) | (go_at_call 70; refine (HPL.out _ HB0.out).mono ?_; rintro e w1 ⟨rfl, hb1⟩; have HB1 := Lib.hid (below_step HB0.out hb1); have HX1 := Lib.hid (HX.out _ hb1); have hx1 := HX1.out.tell; obtain ⟨b0, b1, b2, b3, b4, b5, b6⟩ := hx1; clear hb1))
            go_loopw [6] (fun i wr => i = .int .i64 0 ∧ wr = w1) (fun _ _ => 0)
            case atStart => exact ⟨rfl, rfl⟩
            case round =>
              obtain ⟨rfl, hwr⟩ := hrel
              subst hwr
              go_wp2
              go_ret
              exact ⟨rfl, HB1.out⟩
        · skip
          obtain rfl : Z = false := by rw [HZ.out]; simp [hk0]
          clear HZ
          have f9 : ((n1 : Int) != 0) = true := by simp; omega
          go_enter Try.func36, Try.ntmps36
          go_wp2_with (first | (go_at_call 69; refine (HTX.out _).mono ?_; rintro e w' ⟨rfl, rfl⟩))
          go_ret
          exact ⟨rfl, HB0.out⟩
      · have f2 : (num == 0) = false := by simp [hn]
        obtain rfl : Z = false := by rw [HZ.out]; simp [hn]
        clear HZ
        clear hn
        go_enter Try.func36, Try.ntmps36
        go_wp2_with (first | (go_at_call 69; refine (HTX.out _).mono ?_; rintro e w' ⟨rfl, rfl⟩))
        go_ret
        exact ⟨rfl, HB0.out⟩
  by_cases o3 : op = 3
  · subst o3
    clear o1 o2
    cases pk
    · skip
      obtain rfl : Z = false := by rw [HZ.out]; simp []
      clear HZ
      go_enter Try.func36, Try.ntmps36
      go_wp2_with (first | (go_at_call 48; refine (HIP.out _ HB0.out).mono ?_; rintro e w1 ⟨rfl, hb1⟩; have HB1 := Lib.hid (below_step HB0.out hb1); have HX1 := Lib.hid (HX.out _ hb1); have hx1 := HX1.out.tell; obtain ⟨b0, b1, b2, b3, b4, b5, b6⟩ := hx1; clear hb1))
      go_ret
      exact ⟨rfl, HB1.out⟩
    · by_cases hn : num = 0
      · subst hn
        by_cases ht : text = ⟨#[]⟩
        · have f1 := empty_yes ht
          by_cases hk0 : n1 = 0
          · subst hk0
            have HWR := Lib.hid (HWR.out (HPK.out rfl))
            obtain rfl : Z = mb := by rw [HZ.out]; simp [ht]
            clear HZ
            clear ht
            go_enter Try.func36, Try.ntmps36
            go_wp2_with (first | (go_at_call 48; refine (HIP.out _ HB0.out).mono ?_; rintro e w1 ⟨rfl, hb1⟩; have HB1 := Lib.hid (below_step HB0.out hb1); have HX1 := Lib.hid (HX.out _ hb1); have hx1 := HX1.out.tell; obtain ⟨b0, b1, b2, b3, b4, b5, b6⟩ := hx1; clear hb1))
            go_loopw [6] (fun i wr => i = .int .i64 0 ∧ wr = w1) (fun _ _ => 0)
            case atStart => exact ⟨rfl, rfl⟩
            case round =>
              obtain ⟨rfl, hwr⟩ := hrel
              subst hwr
              go_wp2_with (first | (go_at_call 71; refine (HWR.out _ HB1.out).mono ?_; rintro e w2 ⟨rfl, hb2⟩; have HB2 := Lib.hid (below_step HB1.out hb2); clear hb2))
              go_ret
              exact ⟨rfl, HB2.out⟩
          · skip
            obtain rfl : Z = false := by rw [HZ.out]; simp [ht, hk0]
            clear HZ
            have f9 : ((n1 : Int) != 0) = true := by simp; omega
            clear ht
            go_enter Try.func36, Try.ntmps36
            go_wp2_with (first | (go_at_call 48; refine (HIP.out _ HB0.out).mono ?_; rintro e w1 ⟨rfl, hb1⟩; have HB1 := Lib.hid (below_step HB0.out hb1); have HX1 := Lib.hid (HX.out _ hb1); have hx1 := HX1.out.tell; obtain ⟨b0, b1, b2, b3, b4, b5, b6⟩ := hx1; clear hb1))
            go_ret
            exact ⟨rfl, HB1.out⟩
        · have f1 := empty_no ht
          obtain rfl : Z = false := by rw [HZ.out]; simp [ht]
          clear HZ
          clear ht
          go_enter Try.func36, Try.ntmps36
          go_wp2_with (first | (go_at_call 48; refine (HIP.out _ HB0.out).mono ?_; rintro e w1 ⟨rfl, hb1⟩; have HB1 := Lib.hid (below_step HB0.out hb1); have HX1 := Lib.hid (HX.out _ hb1); have hx1 := HX1.out.tell; obtain ⟨b0, b1, b2, b3, b4, b5, b6⟩ := hx1; clear hb1))
          go_ret
          exact ⟨rfl, HB1.out⟩
      · have f2 : (num == 0) = false := by simp [hn]
        obtain rfl : Z = false := by rw [HZ.out]; simp [hn]
        clear HZ
        clear hn
        go_enter Try.func36, Try.ntmps36
        go_wp2_with (first | (go_at_call 48; refine (HIP.out _ HB0.out).mono ?_; rintro e w1 ⟨rfl, hb1⟩; have HB1 := Lib.hid (below_step HB0.out hb1); have HX1 := Lib.hid (HX.out _ hb1); have hx1 := HX1.out.tell; obtain ⟨b0, b1, b2, b3, b4, b5, b6⟩ := hx1; clear hb1))
        go_ret
        exact ⟨rfl, HB1.out⟩
  by_cases o4 : op = 4
  · subst o4
    clear o1 o2 o3
    cases pk
    · skip
      obtain rfl : Z = false := by rw [HZ.out]; simp []
      clear HZ
      go_enter Try.func36, Try.ntmps36
      go_wp2_with (first | (go_at_call 48; refine (HIP.out _ HB0.out).mono ?_; rintro e w1 ⟨rfl, hb1⟩; have HB1 := Lib.hid (below_step HB0.out hb1); have HX1 := Lib.hid (HX.out _ hb1); have hx1 := HX1.out.tell; obtain ⟨b0, b1, b2, b3, b4, b5, b6⟩ := hx1; clear hb1))
      go_ret
      exact ⟨rfl, HB1.out⟩
    · by_cases hn : num = 0
      · subst hn
        by_cases ht : text = ⟨#[]⟩
        · have f1 := empty_yes ht
          by_cases hk0 : n1 = 0
          · subst hk0
            have HWR := Lib.hid (HWR.out (HPK.out rfl))
            obtain rfl : Z = true := by rw [HZ.out]; simp [ht]
            clear HZ
            clear ht
            go_enter Try.func36, Try.ntmps36
            go_wp2_with (first | (go_at_call 48; refine (HIP.out _ HB0.out).mono ?_; rintro e w1 ⟨rfl, hb1⟩; have HB1 := Lib.hid (below_step HB0.out hb1); have HX1 := Lib.hid (HX.out _ hb1); have hx1 := HX1.out.tell; obtain ⟨b0, b1, b2, b3, b4, b5, b6⟩ := hx1; clear hb1))
            go_loopw [6] (fun i wr => i = .int .i64 0 ∧ wr = w1) (fun _ _ => 0)
            case atStart => exact ⟨rfl, rfl⟩
            case round =>
              obtain ⟨rfl, hwr⟩ := hrel
              subst hwr
              go_wp2
              go_ret
              exact ⟨rfl, HB1.out⟩
          · skip
            obtain rfl : Z = false := by rw [HZ.out]; simp [ht, hk0]
            clear HZ
            have f9 : ((n1 : Int) != 0) = true := by simp; omega
            clear ht
            go_enter Try.func36, Try.ntmps36
            go_wp2_with (first | (go_at_call 48; refine (HIP.out _ HB0.out).mono ?_; rintro e w1 ⟨rfl, hb1⟩; have HB1 := Lib.hid (below_step HB0.out hb1); have HX1 := Lib.hid (HX.out _ hb1); have hx1 := HX1.out.tell; obtain ⟨b0, b1, b2, b3, b4, b5, b6⟩ := hx1; clear hb1))
            go_ret
            exact ⟨rfl, HB1.out⟩
        · have f1 := empty_no ht
          obtain rfl : Z = false := by rw [HZ.out]; simp [ht]
          clear HZ
          clear ht
          go_enter Try.func36, Try.ntmps36
          go_wp2_with (first | (go_at_call 48; refine (HIP.out _ HB0.out).mono ?_; rintro e w1 ⟨rfl, hb1⟩; have HB1 := Lib.hid (below_step HB0.out hb1); have HX1 := Lib.hid (HX.out _ hb1); have hx1 := HX1.out.tell; obtain ⟨b0, b1, b2, b3, b4, b5, b6⟩ := hx1; clear hb1))
          go_ret
          exact ⟨rfl, HB1.out⟩
      · have f2 : (num == 0) = false := by simp [hn]
        obtain rfl : Z = false := by rw [HZ.out]; simp [hn]
        clear HZ
        clear hn
        go_enter Try.func36, Try.ntmps36
        go_wp2_with (first | (go_at_call 48; refine (HIP.out _ HB0.out).mono ?_; rintro e w1 ⟨rfl, hb1⟩; have HB1 := Lib.hid (below_step HB0.out hb1); have HX1 := Lib.hid (HX.out _ hb1); have hx1 := HX1.out.tell; obtain ⟨b0, b1, b2, b3, b4, b5, b6⟩ := hx1; clear hb1))
        go_ret
        exact ⟨rfl, HB1.out⟩
  have q3 : (op == 3) = false := by simp [o3]
  have q4 : (op == 4) = false := by simp [o4]
  by_cases hi : 5 ≤ op ∧ op ≤ 15
  · have HZ : Hid (Z = (decide (num = 0) && decide (text = ⟨#[]⟩) && decide (n1 = kidN op) && be && ak)) := Lib.hid (by rw [HZ.out]; simp [o1, o2, o3, o4, hi])
    have HI := Lib.hid hi
    have e5 : 5 ≤ op := hi.1
    have e15 : op ≤ 15 := hi.2
    clear hi
    by_cases o5 : op = 5
    · subst o5
      have HKN : Hid (kidN 5 = 1) := Lib.hid rfl
      clear o1 o2 o3 o4 q3 q4
      by_cases hn : num = 0
      · subst hn
        by_cases ht : text = ⟨#[]⟩
        · have f1 := empty_yes ht
          by_cases hk0 : n1 = 1
          · subst hk0
            cases be
            · skip
              obtain rfl : Z = false := by rw [HZ.out]; simp [ht]
              clear HZ
              clear ht
              go_enter Try.func36, Try.ntmps36
              go_wp2_with (first | (go_at_call 68; refine (sIn_yes _ _ _ _ HI.out.1 HI.out.2).mono ?_; rintro e w' ⟨rfl, rfl⟩) | (go_at_call 70; refine (HPL.out _ HB0.out).mono ?_; rintro e w1 ⟨rfl, hb1⟩; have HB1 := Lib.hid (below_step HB0.out hb1); have HX1 := Lib.hid (HX.out _ hb1); have hx1 := HX1.out.tell; obtain ⟨b0, b1, b2, b3, b4, b5, b6⟩ := hx1; clear hb1))
              go_ret
              exact ⟨rfl, HB1.out⟩
            · obtain rfl : Z = ak := by rw [HZ.out]; simp [ht, HKN.out]
              clear HZ ht
              go_enter Try.func36, Try.ntmps36
              go_wp2_with (first | (go_at_call 68; refine (sIn_yes _ _ _ _ HI.out.1 HI.out.2).mono ?_; rintro e w' ⟨rfl, rfl⟩) | (go_at_call 70; refine (HPL.out _ HB0.out).mono ?_; rintro e w1 ⟨rfl, hb1⟩; have HB1 := Lib.hid (below_step HB0.out hb1); have HX1 := Lib.hid (HX.out _ hb1); have hx1 := HX1.out.tell; obtain ⟨b0, b1, b2, b3, b4, b5, b6⟩ := hx1; clear hb1))
              clear b0 b1 b2 b3 b4 b5 b6
              go_loopw [6] (fun i wr => ∃ k : Nat, k ≤ 1 ∧ i = .int .i64 k ∧ Hid (∀ x, x ∈ l.take k → okE d x) ∧ Hid (EBox 35 wr w.heap.size ⟨5, 0, text, ro, up, .slice A3 n3 c3, .slice A 1 cap⟩) ∧ Below w.heap.size w wr) (fun i _ => 1 - (intOf i).toNat)
              case atStart => exact ⟨0, Nat.zero_le _, rfl, Lib.hid (by simp), HX1, HB1.out⟩
              case round =>
                obtain ⟨k, hk, rfl, HS, HXR, hbel⟩ := hrel
                by_cases hlt : k < 1
                · have hl1 : k < l.length := by rw [← HL.out]; exact hlt
                  obtain ⟨a, qq, rfl, hab, hx, HC⟩ := HAT.out k hl1
                  obtain rfl : k = 0 := by omega
                  rw [show a.add (0 * 7) = a by simp [Addr.add]] at hx hab
                  obtain ⟨s, hs⟩ : ∃ s, s = l[0] := ⟨_, rfl⟩
                  have HC : Hid (∀ W, Below w.heap.size w W → Calls Try.prog 36 #[qq.val] W fun e w' => e = .returned (.bool (dB (okE d s))) ∧ Below W.heap.size W w') := Lib.hid (by rw [hs]; exact HC)
                  obtain ⟨c0, c1, c2, c3', c4, c5, c6⟩ := hx.below hbel hab
                  obtain ⟨b0, b1, b2, b3, b4, b5, b6⟩ := HXR.out.tell
                  have HNX : Hid (okE d l[0] → ∀ x, x ∈ l.take (0 + 1) → okE d x) := Lib.hid (okE_take (n := d) hl1 HS.out)
                  have HBD := Lib.hid (HAK0.out 0 hl1)
                  rw [← hs] at HNX HBD
                  obtain ⟨b, hb⟩ : ∃ b, b = dB (okE d s) := ⟨_, rfl⟩
                  have HBB := Lib.hid hb
                  rw [← hb] at HC HBD
                  clear hx hb hs
                  go_wp2_with fail
                  refine (HC.out _ hbel).mono ?_
                  rintro e w2 ⟨rfl, hb2⟩
                  have HB4 := Lib.hid (below_step hbel hb2)
                  have HX4 := Lib.hid (HXR.out.below hb2)
                  clear hb2 b0 b1 b2 b3 b4 b5 b6 c0 c1 c2 c3' c4 c5 c6
                  cases b
                  · have HLK := Lib.hid (HBD.out rfl)
                    go_wp2
                    go_ret
                    exact ⟨ret_bool HLK.out.symm, HB4.out⟩
                  · have HS2 := Lib.hid (HNX.out (dB_true HBB.out.symm))
                    go_wp2
                    go_roundw
                    case rel => exact ⟨0 + 1, by omega, by go_num, HS2, HX4, HB4.out⟩
                    case measure => first | (simp [intOf]; done) | (simp [intOf]; omega)
                · obtain rfl : k = 1 := by omega
                  have HLK := Lib.hid (HAK1.out (by have := HS.out; rwa [List.take_of_length_le (by have := HL.out; omega)] at this))
                  obtain ⟨b0, b1, b2, b3, b4, b5, b6⟩ := HXR.out.tell
                  go_wp2
                  go_ret
                  exact ⟨ret_bool HLK.out.symm, hbel⟩
          · have f9 : ((n1 : Int) != 1) = true := by simp; omega
            obtain rfl : Z = false := by rw [HZ.out]; simp [ht, HKN.out, hk0]
            clear HZ
            clear ht
            go_enter Try.func36, Try.ntmps36
            go_wp2_with (first | (go_at_call 68; refine (sIn_yes _ _ _ _ HI.out.1 HI.out.2).mono ?_; rintro e w' ⟨rfl, rfl⟩))
            go_ret
            exact ⟨rfl, HB0.out⟩
        · have f1 := empty_no ht
          obtain rfl : Z = false := by rw [HZ.out]; simp [ht]
          clear HZ
          clear ht
          go_enter Try.func36, Try.ntmps36
          go_wp2_with (first | (go_at_call 68; refine (sIn_yes _ _ _ _ HI.out.1 HI.out.2).mono ?_; rintro e w' ⟨rfl, rfl⟩))
          go_ret
          exact ⟨rfl, HB0.out⟩
      · have f2 : (num == 0) = false := by simp [hn]
        obtain rfl : Z = false := by rw [HZ.out]; simp [hn]
        clear HZ
        clear hn
        go_enter Try.func36, Try.ntmps36
        go_wp2_with (first | (go_at_call 68; refine (sIn_yes _ _ _ _ HI.out.1 HI.out.2).mono ?_; rintro e w' ⟨rfl, rfl⟩))
        go_ret
        exact ⟨rfl, HB0.out⟩
    · have HKN : Hid (kidN op = 2) := Lib.hid (by unfold kidN; rw [if_neg o5, if_pos (by omega)])
      by_cases hn : num = 0
      · subst hn
        by_cases ht : text = ⟨#[]⟩
        · have f1 := empty_yes ht
          by_cases hk0 : n1 = 2
          · subst hk0
            cases be
            · skip
              obtain rfl : Z = false := by rw [HZ.out]; simp [ht]
              clear HZ
              clear ht
              go_enter Try.func36, Try.ntmps36
              go_wp2_with (first | (go_at_call 68; refine (sIn_yes _ _ _ _ HI.out.1 HI.out.2).mono ?_; rintro e w' ⟨rfl, rfl⟩) | (go_at_call 70; refine (HPL.out _ HB0.out).mono ?_; rintro e w1 ⟨rfl, hb1⟩; have HB1 := Lib.hid (below_step HB0.out hb1); have HX1 := Lib.hid (HX.out _ hb1); have hx1 := HX1.out.tell; obtain ⟨b0, b1, b2, b3, b4, b5, b6⟩ := hx1; clear hb1))
              go_ret
              exact ⟨rfl, HB1.out⟩
            · obtain rfl : Z = ak := by rw [HZ.out]; simp [ht, HKN.out]
              clear HZ ht
              go_enter Try.func36, Try.ntmps36
              go_wp2_with (first | (go_at_call 68; refine (sIn_yes _ _ _ _ HI.out.1 HI.out.2).mono ?_; rintro e w' ⟨rfl, rfl⟩) | (go_at_call 70; refine (HPL.out _ HB0.out).mono ?_; rintro e w1 ⟨rfl, hb1⟩; have HB1 := Lib.hid (below_step HB0.out hb1); have HX1 := Lib.hid (HX.out _ hb1); have hx1 := HX1.out.tell; obtain ⟨b0, b1, b2, b3, b4, b5, b6⟩ := hx1; clear hb1))
              clear b0 b1 b2 b3 b4 b5 b6
              go_loopw [6] (fun i wr => ∃ k : Nat, k ≤ 2 ∧ i = .int .i64 k ∧ Hid (∀ x, x ∈ l.take k → okE d x) ∧ Hid (EBox 35 wr w.heap.size ⟨op, 0, text, ro, up, .slice A3 n3 c3, .slice A 2 cap⟩) ∧ Below w.heap.size w wr) (fun i _ => 2 - (intOf i).toNat)
              case atStart => exact ⟨0, Nat.zero_le _, rfl, Lib.hid (by simp), HX1, HB1.out⟩
              case round =>
                obtain ⟨k, hk, rfl, HS, HXR, hbel⟩ := hrel
                by_cases hlt : k < 2
                · have hl1 : k < l.length := by rw [← HL.out]; exact hlt
                  obtain ⟨a, qq, rfl, hab, hx, HC⟩ := HAT.out k hl1
                  skip
                  obtain ⟨s, hs⟩ : ∃ s, s = l[k] := ⟨_, rfl⟩
                  have HC : Hid (∀ W, Below w.heap.size w W → Calls Try.prog 36 #[qq.val] W fun e w' => e = .returned (.bool (dB (okE d s))) ∧ Below W.heap.size W w') := Lib.hid (by rw [hs]; exact HC)
                  obtain ⟨c0, c1, c2, c3', c4, c5, c6⟩ := hx.below hbel hab
                  obtain ⟨b0, b1, b2, b3, b4, b5, b6⟩ := HXR.out.tell
                  have HNX : Hid (okE d l[k] → ∀ x, x ∈ l.take (k + 1) → okE d x) := Lib.hid (okE_take (n := d) hl1 HS.out)
                  have HBD := Lib.hid (HAK0.out k hl1)
                  rw [← hs] at HNX HBD
                  obtain ⟨b, hb⟩ : ∃ b, b = dB (okE d s) := ⟨_, rfl⟩
                  have HBB := Lib.hid hb
                  rw [← hb] at HC HBD
                  clear hx hb hs
                  go_wp2_with fail
                  refine (HC.out _ hbel).mono ?_
                  rintro e w2 ⟨rfl, hb2⟩
                  have HB4 := Lib.hid (below_step hbel hb2)
                  have HX4 := Lib.hid (HXR.out.below hb2)
                  clear hb2 b0 b1 b2 b3 b4 b5 b6 c0 c1 c2 c3' c4 c5 c6
                  cases b
                  · have HLK := Lib.hid (HBD.out rfl)
                    go_wp2
                    go_ret
                    exact ⟨ret_bool HLK.out.symm, HB4.out⟩
                  · have HS2 := Lib.hid (HNX.out (dB_true HBB.out.symm))
                    go_wp2
                    go_roundw
                    case rel => exact ⟨k + 1, by omega, by go_num, HS2, HX4, HB4.out⟩
                    case measure => first | (simp [intOf]; done) | (simp [intOf]; omega)
                · skip
                  have HLK := Lib.hid (HAK1.out (by have := HS.out; rwa [List.take_of_length_le (by have := HL.out; omega)] at this))
                  obtain ⟨b0, b1, b2, b3, b4, b5, b6⟩ := HXR.out.tell
                  go_wp2
                  go_ret
                  exact ⟨ret_bool HLK.out.symm, hbel⟩
          · have f9 : ((n1 : Int) != 2) = true := by simp; omega
            obtain rfl : Z = false := by rw [HZ.out]; simp [ht, HKN.out, hk0]
            clear HZ
            clear ht
            go_enter Try.func36, Try.ntmps36
            go_wp2_with (first | (go_at_call 68; refine (sIn_yes _ _ _ _ HI.out.1 HI.out.2).mono ?_; rintro e w' ⟨rfl, rfl⟩))
            go_ret
            exact ⟨rfl, HB0.out⟩
        · have f1 := empty_no ht
          obtain rfl : Z = false := by rw [HZ.out]; simp [ht]
          clear HZ
          clear ht
          go_enter Try.func36, Try.ntmps36
          go_wp2_with (first | (go_at_call 68; refine (sIn_yes _ _ _ _ HI.out.1 HI.out.2).mono ?_; rintro e w' ⟨rfl, rfl⟩))
          go_ret
          exact ⟨rfl, HB0.out⟩
      · have f2 : (num == 0) = false := by simp [hn]
        obtain rfl : Z = false := by rw [HZ.out]; simp [hn]
        clear HZ
        clear hn
        go_enter Try.func36, Try.ntmps36
        go_wp2_with (first | (go_at_call 68; refine (sIn_yes _ _ _ _ HI.out.1 HI.out.2).mono ?_; rintro e w' ⟨rfl, rfl⟩))
        go_ret
        exact ⟨rfl, HB0.out⟩
  · have hi' : op < 5 ∨ 15 < op := by omega
    obtain rfl : Z = false := by rw [HZ.out]; simp [o1, o2, o3, o4, hi]
    clear HZ
    have HI := Lib.hid hi'
    clear hi hi'
    go_enter Try.func36, Try.ntmps36
    go_wp2_with (first | (go_at_call 68; refine (sIn_no _ _ _ _ HI.out).mono ?_; rintro e w' ⟨rfl, rfl⟩))
    go_ret
    exact ⟨rfl, HB0.out⟩
theorem sVal_any : ∀ d, SVal d
  | 0 => sVal_of 0 (fun e h => by cases h)
  | d + 1 => sVal_of (d + 1) (fun e h => by cases h; exact sVal_any d)
set_option maxRecDepth 100000 in
set_option maxHeartbeats 2000000 in
theorem sIsEx_any (d : Nat) (r : ExR) (t : Ex) (w : World) (hr : RdN exK d w r t) (hx : ExSz t.x) (hk : SizT ExSz d t.kids) (hd : DeepT 1048576 t.kids) :
    Calls Try.prog 9 #[r.val] w fun e w' => e = .returned (.bool (dB (okE 8 t))) ∧ Below w.heap.size w w' := by
  have hdd := rd_deepE hr.2
  have HC := Lib.hid (fun W (hb : Below w.heap.size w W) => sDep_any d r t W (hr.below hb) ((dpL_le hdd).2 hd))
  have HV := Lib.hid (fun W (hb : Below w.heap.size w W) => sVal_any d r t W (hr.below hb) hx hk)
  have HL : Hid (dpL d t.kids ≤ 7 → dB (okE (d + 1) t) = dB (okE 8 t)) := Lib.hid fun h => dB_iff ⟨fun hh => okE_of hh ((dpL_le hdd).1 h), fun hh => okE_of hh hdd⟩
  have HG : Hid (¬ dpL d t.kids ≤ 7 → dB (okE 8 t) = false) := Lib.hid fun h => dB_no fun hh => h ((dpL_le hdd).2 (okE_deep hh))
  generalize dpL d t.kids = z at HC HL HG
  generalize dB (okE (d + 1) t) = v at HV HL
  generalize dB (okE 8 t) = q at HL HG
  obtain ⟨A3, n3, c3, h1⟩ : ∃ A n c, r.sv = .slice A n c := by obtain ⟨A, c, hv, _⟩ := hr.1.2.st.at; exact ⟨A, _, c, hv⟩
  obtain ⟨A4, n4, c4, h2⟩ : ∃ A n c, r.kv = .slice A n c := by obtain ⟨A, c, hv⟩ := hr.2.form; exact ⟨A, _, c, hv⟩
  obtain ⟨op, num, text, ro, up, sv, kv⟩ := r
  dsimp only at h1 h2
  subst h1 h2
  have HB0 := Lib.hid (below_al (Below.refl w.heap.size w) (.cells #[.int .i64 op, .int .i64 num, .string text, .bool ro, .int .i64 up, .slice A3 n3 c3, .slice A4 n4 c4] 35))
  have HX0 := Lib.hid (EBox.new 35 w ⟨op, num, text, ro, up, .slice A3 n3 c3, .slice A4 n4 c4⟩)
  clear hr hx hk hd hdd
  by_cases hz : z ≤ 7
  · obtain rfl := HL.out hz
    have hz' : (z : Int) + 1 ≤ 8 := by omega
    clear HL HG
    go_enter Try.func9, Try.ntmps9
    go_wp2_with fail
    refine (HC.out _ HB0.out).mono ?_
    rintro e w1 ⟨rfl, hb1⟩
    have HB1 := Lib.hid (below_step HB0.out hb1)
    obtain ⟨b0, b1, b2, b3, b4, b5, b6⟩ := (HX0.out.below hb1).tell
    clear hb1
    go_wp2_with fail
    refine (HV.out _ HB1.out).mono ?_
    rintro e w2 ⟨rfl, hb2⟩
    have HB2 := Lib.hid (below_step HB1.out hb2)
    clear hb2
    go_wp2
    go_ret
    exact ⟨rfl, HB2.out⟩
  · obtain rfl := HG.out hz
    have hz' : ¬ (z : Int) + 1 ≤ 8 := by omega
    clear HL HG
    go_enter Try.func9, Try.ntmps9
    go_wp2_with fail
    refine (HC.out _ HB0.out).mono ?_
    rintro e w1 ⟨rfl, hb1⟩
    have HB1 := Lib.hid (below_step HB0.out hb1)
    clear hb1
    go_wp2
    go_ret
    exact ⟨rfl, HB1.out⟩
end Go.Proofs.Ytnpgeneahjlkpaa
