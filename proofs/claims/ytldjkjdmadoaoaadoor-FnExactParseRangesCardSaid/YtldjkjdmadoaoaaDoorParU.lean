/- CHAPTER 4, RANGES READ: spec's l3New, l4Int. -/
import Derived.Test.YtldjkjdmadoaoaaDoorParT
import Derived.Test.YtldjkjdmadoaoaaDoorParJ
namespace Go.Proofs.YtldjkjdmadoaoaaDoor
open Go.RowKit NumP

section
variable {B b n cap i : Nat} {A : Option Addr} {T : List Tok} {w : World}
theorem below_grown {w w' : World} {row : Option Nat} (h : Below w.heap.size w w') : w.grownBy w' row := ⟨h.os, h.tape, h.output, h.size, fun k hk _ => h.block k hk⟩
theorem parseL_nil : parseL [] = none := rfl
theorem parseL_minus : parseL [45] = none := rfl
theorem par_new {w1 : World} {o : Value} (hv : RowT B w1 (.slice A n cap) T) (bad : Bool) (t : TypeId) (hB : B ≤ w1.heap.size) : Par B w1.heap.size A n cap T 0 bad (w1.alloc (.cells #[.slice A n cap, .int .i64 0, .bool bad, o] t)) := by
  have hn := World.news_of_block (cs := #[.slice A n cap, .int .i64 0, .bool bad, o]) (t := t) (fr := (0, 0)) (heap_alloc_new w1 _)
  have hf : ∀ j, (w1.alloc (.cells #[.slice A n cap, .int .i64 0, .bool bad, o] t)).frozen? ⟨w1.heap.size, j, none⟩ = false := fun j => by
    unfold World.frozen?
    dsimp only
    rw [heap_alloc_new]
    simp
  have h0 := hn 0 _ rfl
  have h1 := hn 1 _ rfl
  have h2 := hn 2 _ rfl
  rw [addr_zero] at h0 h1 h2
  refine ⟨h0, h1, h2, hf 1, hf 2, hB, by simp, HasR.below (RowR.has Tok.enc_len hv) (below_al (Below.refl _ _) _), fun a ha => ?_, Nat.zero_le _⟩
  subst ha
  rcases RowR.form hv with ⟨h, _⟩ | ⟨g, cap', h, _, hg⟩
  · cases h
  · cases h; exact hg
set_option maxRecDepth 100000 in
theorem sNew_any (s : ByteArray) (hs : s.size ≤ 1048576) (T : List Tok) (e : Option Nat) (hL : Lx s.size s.data.toList T e) (w : World) :
    Calls Tryd.prog 35 #[.string s] w fun en w' => ∃ b A n cap, en = .returned (.pointer (some ⟨b, 0, none⟩)) ∧ Par w.heap.size b A n cap (lexT T e) 0 e.isSome w' ∧ Below w.heap.size w w' := by
  have HL := Lib.hid hL
  clear hL
  cases e with
  | none =>
    go_enter Tryd.func35, Tryd.ntmps35
    go_wp2_with (go_at_call 53; refine (sLex_any s hs T _ HL.out _).mono ?_; rintro en w1 ⟨v, rfl, hra, hb⟩; obtain ⟨A, cap, rfl⟩ := RowR.shape hra; rw [show lexI none = (-1 : Int) from rfl])
    go_ret
    exact ⟨_, _, _, _, rfl, par_new hra false _ hb.size, below_al hb _⟩
  | some p =>
    have hp0 : (0 : Int) ≤ (p : Int) := by omega
    have hp1 : decide ((0 : Int) ≤ (p : Int)) = true := decide_eq_true hp0
    go_enter Tryd.func35, Tryd.ntmps35
    go_wp2_with (go_at_call 53; refine (sLex_any s hs T _ HL.out _).mono ?_; rintro en w1 ⟨v, rfl, hra, hb⟩; obtain ⟨A, cap, rfl⟩ := RowR.shape hra; rw [show lexI (some p) = (p : Int) from rfl])
    go_ret
    exact ⟨_, _, _, _, rfl, par_new hra true _ hb.size, below_al hb _⟩
theorem sPar_none (s : ByteArray) (hs : s.size ≤ maxLen) (h : parseL s.data.toList = none) (w : World) :
    Calls Tryd.prog 88 #[.string s] w fun e w' => e = .returned (.tuple #[.int .i64 0, .bool false]) ∧ Below w.heap.size w w' :=
  (sParse_any s hs w).mono fun _ _ ⟨he, hb⟩ => ⟨by rw [he, h]; rfl, hb⟩
theorem sPar_some (s : ByteArray) (hs : s.size ≤ maxLen) (n : Int) (h : parseL s.data.toList = some n) (w : World) :
    Calls Tryd.prog 88 #[.string s] w fun e w' => e = .returned (.tuple #[.int .i64 n, .bool true]) ∧ Below w.heap.size w w' :=
  (sParse_any s hs w).mono fun _ _ ⟨he, hb⟩ => ⟨by rw [he, h]; rfl, hb⟩
/-- what l4Int leaves -/
def IntV (B b : Nat) (A : Option Addr) (n cap : Nat) (T : List Tok) (i : Nat) (o : Option (Int × Nat)) (e : Ending) (w' : World) : Prop := match o with
  | some (v, k) => e = .returned (.int .i64 v) ∧ Par B b A n cap T (i + k) false w'
  | none => ∃ (v : Int) (j : Nat), e = .returned (.int .i64 v) ∧ Par B b A n cap T j true w'
set_option maxRecDepth 100000 in
set_option maxHeartbeats 1000000 in
theorem sInt_bad (h : Par B b A n cap T i true w) :
    Calls Tryd.prog 54 #[.pointer (some ⟨b, 0, none⟩)] w fun e w' => IntV B b A n cap T i none e w' ∧ w.grownBy w' (some b) := by
  have P0 := Lib.hid h
  clear h
  have HZ : Hid (((⟨#[]⟩ : ByteArray) ++ (⟨#[]⟩ : ByteArray)).size ≤ maxLen) := Lib.hid (by decide)
  have HP : Hid (parseL ((⟨#[]⟩ : ByteArray) ++ (⟨#[]⟩ : ByteArray)).data.toList = none) := Lib.hid rfl
  go_enter Tryd.func54, Tryd.ntmps54
  go_wp2_with (first
    | (go_at_call 55; refine (sEat_bad _ P0.out).mono ?_; rintro e w1 ⟨rfl, hP, hG⟩; have P1 := Lib.hid hP; have G1 := Lib.hid hG; clear hP hG)
    | (go_at_call 89; refine (sTake_bad P1.out).mono ?_; rintro e w2 ⟨rfl, hP, hG⟩; have P2 := Lib.hid hP; have G2 := Lib.hid (grown_trans G1.out hG); clear hP hG)
    | (go_at_call 88; refine (sPar_none _ HZ.out HP.out _).mono ?_; rintro e w3 ⟨rfl, hb⟩; have P3 := Lib.hid (P2.out.below hb); have G3 := Lib.hid (grown_trans G2.out (below_grown hb)); clear hb; have c2 := P3.out.c2; have f2 := P3.out.f2))
  go_ret
  exact ⟨⟨_, _, rfl, P3.out.setBad⟩, grown_trans G3.out (grownBy_set _ _ _ _)⟩
theorem numT_cases (sg : List UInt8) (l : List Tok) : (∀ x r, l = x :: r → ¬ x.k = 2) ∨ ∃ x r, l = x :: r ∧ x.k = 2 := by
  match l with
  | [] => exact .inl (fun x r h => by cases h)
  | x :: r =>
    by_cases hk : x.k = 2
    · exact .inr ⟨x, r, rfl, hk⟩
    · exact .inl (fun y q h => by cases h; exact hk)
theorem numT_no {sg : List UInt8} {l : List Tok} (h : ∀ x r, l = x :: r → ¬ x.k = 2) : numT sg l = none := by
  match l with
  | [] => rfl
  | x :: r => exact numT_kind (h x r rfl)
set_option maxRecDepth 100000 in
set_option maxHeartbeats 1000000 in
theorem sInt_any (hts : ∀ x ∈ T, x.t.size ≤ 1048576) (h : Par B b A n cap T i false w) :
    Calls Tryd.prog 54 #[.pointer (some ⟨b, 0, none⟩)] w fun e w' => IntV B b A n cap T i (rdB (T.drop i)) e w' ∧ w.grownBy w' (some b) := by
  have P0 := Lib.hid h
  clear h
  have HM : Hid ((⟨#[45]⟩ : ByteArray).toList.isEmpty = false) := Lib.hid (by rw [ByteArray.toList_eq]; rfl)
  cases hm : mkB (T.drop i) minusT with
  | true =>
    have HK : Hid (mkB (T.drop i) ⟨#[45]⟩ = true) := Lib.hid hm
    rw [rdB_minus hm, List.drop_drop]
    clear hm
    rcases numT_cases [45] (T.drop (i + 1)) with hno | ⟨x, r, hx, hk⟩
    · rw [numT_no hno]
      have HNO := Lib.hid hno
      clear hno
      have HZ : Hid (((⟨#[45]⟩ : ByteArray) ++ (⟨#[]⟩ : ByteArray)).size ≤ maxLen) := Lib.hid (by decide)
      have HP : Hid (parseL ((⟨#[45]⟩ : ByteArray) ++ (⟨#[]⟩ : ByteArray)).data.toList = none) := Lib.hid rfl
      go_enter Tryd.func54, Tryd.ntmps54
      go_wp2_with (first
        | (go_at_call 55; refine (sEat_yes _ HM.out P0.out HK.out).mono ?_; rintro e w1 ⟨rfl, hP, hG⟩; have P1 := Lib.hid hP; have G1 := Lib.hid hG; clear hP hG)
        | (go_at_call 89; refine (sTake_no P1.out HNO.out).mono ?_; rintro e w2 ⟨rfl, hP, hG⟩; have P2 := Lib.hid hP; have G2 := Lib.hid (grown_trans G1.out hG); clear hP hG)
        | (go_at_call 88; refine (sPar_none _ HZ.out HP.out _).mono ?_; rintro e w3 ⟨rfl, hb⟩; have P3 := Lib.hid (P2.out.below hb); have G3 := Lib.hid (grown_trans G2.out (below_grown hb)); clear hb; have c2 := P3.out.c2; have f2 := P3.out.f2))
      go_ret
      exact ⟨⟨_, _, rfl, P3.out.setBad⟩, grown_trans G3.out (grownBy_set _ _ _ _)⟩
    · have HX := Lib.hid hx
      have HKX := Lib.hid hk
      have hsz : x.t.size ≤ 1048576 := hts x (List.mem_of_mem_drop (i := i + 1) (by rw [hx]; simp))
      have HZ : Hid (((⟨#[45]⟩ : ByteArray) ++ x.t).size ≤ maxLen) := Lib.hid (by rw [ByteArray.size_append]; show 1 + x.t.size ≤ maxLen; unfold maxLen; omega)
      rw [hx, numT_num hk, show ([45] ++ x.t.data.toList) = ((⟨#[45]⟩ : ByteArray) ++ x.t).data.toList by rw [data_app]]
      clear hx hk hts
      cases hp : parseL ((⟨#[45]⟩ : ByteArray) ++ x.t).data.toList with
      | none =>
        have HP := Lib.hid hp
        clear hp
        go_enter Tryd.func54, Tryd.ntmps54
        go_wp2_with (first
          | (go_at_call 55; refine (sEat_yes _ HM.out P0.out HK.out).mono ?_; rintro e w1 ⟨rfl, hP, hG⟩; have P1 := Lib.hid hP; have G1 := Lib.hid hG; clear hP hG)
          | (go_at_call 89; refine (sTake_yes P1.out HX.out HKX.out).mono ?_; rintro e w2 ⟨rfl, hP, hG⟩; have P2 := Lib.hid hP; have G2 := Lib.hid (grown_trans G1.out hG); clear hP hG)
          | (go_at_call 88; refine (sPar_none _ HZ.out HP.out _).mono ?_; rintro e w3 ⟨rfl, hb⟩; have P3 := Lib.hid (P2.out.below hb); have G3 := Lib.hid (grown_trans G2.out (below_grown hb)); clear hb; have c2 := P3.out.c2; have f2 := P3.out.f2))
        go_ret
        exact ⟨⟨_, _, rfl, P3.out.setBad⟩, grown_trans G3.out (grownBy_set _ _ _ _)⟩
      | some v =>
        have HP := Lib.hid hp
        clear hp
        go_enter Tryd.func54, Tryd.ntmps54
        go_wp2_with (first
          | (go_at_call 55; refine (sEat_yes _ HM.out P0.out HK.out).mono ?_; rintro e w1 ⟨rfl, hP, hG⟩; have P1 := Lib.hid hP; have G1 := Lib.hid hG; clear hP hG)
          | (go_at_call 89; refine (sTake_yes P1.out HX.out HKX.out).mono ?_; rintro e w2 ⟨rfl, hP, hG⟩; have P2 := Lib.hid hP; have G2 := Lib.hid (grown_trans G1.out hG); clear hP hG)
          | (go_at_call 88; refine (sPar_some _ HZ.out v HP.out _).mono ?_; rintro e w3 ⟨rfl, hb⟩; have P3 := Lib.hid (P2.out.below hb); have G3 := Lib.hid (grown_trans G2.out (below_grown hb)); clear hb))
        go_ret
        exact ⟨⟨rfl, P3.out⟩, G3.out⟩
  | false =>
    have HK : Hid (mkB (T.drop i) ⟨#[45]⟩ = false) := Lib.hid hm
    rw [rdB_plain hm]
    clear hm
    rcases numT_cases [] (T.drop i) with hno | ⟨x, r, hx, hk⟩
    · rw [numT_no hno]
      have HNO := Lib.hid hno
      clear hno
      have HZ : Hid (((⟨#[]⟩ : ByteArray) ++ (⟨#[]⟩ : ByteArray)).size ≤ maxLen) := Lib.hid (by decide)
      have HP : Hid (parseL ((⟨#[]⟩ : ByteArray) ++ (⟨#[]⟩ : ByteArray)).data.toList = none) := Lib.hid rfl
      go_enter Tryd.func54, Tryd.ntmps54
      go_wp2_with (first
        | (go_at_call 55; refine (sEat_no _ HM.out P0.out HK.out).mono ?_; rintro e w1 ⟨rfl, hP, hG⟩; have P1 := Lib.hid hP; have G1 := Lib.hid hG; clear hP hG)
        | (go_at_call 89; refine (sTake_no P1.out HNO.out).mono ?_; rintro e w2 ⟨rfl, hP, hG⟩; have P2 := Lib.hid hP; have G2 := Lib.hid (grown_trans G1.out hG); clear hP hG)
        | (go_at_call 88; refine (sPar_none _ HZ.out HP.out _).mono ?_; rintro e w3 ⟨rfl, hb⟩; have P3 := Lib.hid (P2.out.below hb); have G3 := Lib.hid (grown_trans G2.out (below_grown hb)); clear hb; have c2 := P3.out.c2; have f2 := P3.out.f2))
      go_ret
      exact ⟨⟨_, _, rfl, P3.out.setBad⟩, grown_trans G3.out (grownBy_set _ _ _ _)⟩
    · have HX := Lib.hid hx
      have HKX := Lib.hid hk
      have hsz : x.t.size ≤ 1048576 := hts x (List.mem_of_mem_drop (i := i) (by rw [hx]; simp))
      have HZ : Hid (((⟨#[]⟩ : ByteArray) ++ x.t).size ≤ maxLen) := Lib.hid (by rw [ByteArray.size_append]; show 0 + x.t.size ≤ maxLen; unfold maxLen; omega)
      rw [hx, numT_num hk, show ([] ++ x.t.data.toList) = ((⟨#[]⟩ : ByteArray) ++ x.t).data.toList by rw [data_app]]
      clear hx hk hts
      cases hp : parseL ((⟨#[]⟩ : ByteArray) ++ x.t).data.toList with
      | none =>
        have HP := Lib.hid hp
        clear hp
        go_enter Tryd.func54, Tryd.ntmps54
        go_wp2_with (first
          | (go_at_call 55; refine (sEat_no _ HM.out P0.out HK.out).mono ?_; rintro e w1 ⟨rfl, hP, hG⟩; have P1 := Lib.hid hP; have G1 := Lib.hid hG; clear hP hG)
          | (go_at_call 89; refine (sTake_yes P1.out HX.out HKX.out).mono ?_; rintro e w2 ⟨rfl, hP, hG⟩; have P2 := Lib.hid hP; have G2 := Lib.hid (grown_trans G1.out hG); clear hP hG)
          | (go_at_call 88; refine (sPar_none _ HZ.out HP.out _).mono ?_; rintro e w3 ⟨rfl, hb⟩; have P3 := Lib.hid (P2.out.below hb); have G3 := Lib.hid (grown_trans G2.out (below_grown hb)); clear hb; have c2 := P3.out.c2; have f2 := P3.out.f2))
        go_ret
        exact ⟨⟨_, _, rfl, P3.out.setBad⟩, grown_trans G3.out (grownBy_set _ _ _ _)⟩
      | some v =>
        have HP := Lib.hid hp
        clear hp
        go_enter Tryd.func54, Tryd.ntmps54
        go_wp2_with (first
          | (go_at_call 55; refine (sEat_no _ HM.out P0.out HK.out).mono ?_; rintro e w1 ⟨rfl, hP, hG⟩; have P1 := Lib.hid hP; have G1 := Lib.hid hG; clear hP hG)
          | (go_at_call 89; refine (sTake_yes P1.out HX.out HKX.out).mono ?_; rintro e w2 ⟨rfl, hP, hG⟩; have P2 := Lib.hid hP; have G2 := Lib.hid (grown_trans G1.out hG); clear hP hG)
          | (go_at_call 88; refine (sPar_some _ HZ.out v HP.out _).mono ?_; rintro e w3 ⟨rfl, hb⟩; have P3 := Lib.hid (P2.out.below hb); have G3 := Lib.hid (grown_trans G2.out (below_grown hb)); clear hb))
        go_ret
        exact ⟨⟨rfl, P3.out⟩, G3.out⟩
end
end Go.Proofs.YtldjkjdmadoaoaaDoor
