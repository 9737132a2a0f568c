/- For every list of bytes laws.FnTokens returns true: the tokens of a drawn text, joined by JoinTokens, are divided by Lex into the same tokens, each at the place at which its text begins, and so they are with a remark behind them (codes of more than 4096 bytes the law itself lets pass); under the card's ties alone: the two tables of unicode/utf8 that the row lists hold what the program's text lays, and no proof step reads them. -/
import Derived.Test.YthediljoioahpaaDoorDrawLex
import Derived.Test.YthediljoioahpaaDoorRows
import Derived.WalkKit
import Derived.ProofKit
import Derived.OpenShut
import Derived.ShutString
import Derived.ChangeOld
import Derived.Below
import Derived.Test.YthediljoioahpaaDoorCards
import Derived.Test.YthediljoioahpaaDoorTie
import Derived.PinnedBridge
import Derived.Lay
import Derived.LaidOnce
import Derived.SevenTiedAt
namespace Go.Proofs.YthediljoioahpaaDoor.fnTokens
open Go.ChangeShapes Go.WideShapes Go.ChangeAt Go.RowKit
open Go.ChangeMaps (open_string shut_string)
set_option linter.unusedVariables false

theorem own : ownKnob Tryd.prog.godebug = none := by kernel_rfl
theorem laidOut : laidOutB Tryd.prog = true := by kernel_rfl

set_option maxRecDepth 100000 in
set_option maxHeartbeats 4000000 in
theorem walk (a0 : Option Addr) (len0 cap0 : Nat) (w : World) (w0 : Src w a0 len0) :
    Calls Tryd.prog 3 #[.slice a0 len0 cap0] w fun e w' => e = .returned (.bool true) ∧ Below w.heap.size w w' := by
  have hsrc := w0
  have hB := Below.refl w.heap.size w
  by_cases hbig : 4096 < len0
  · have hd : decide (4096 < len0) = true := by simpa using hbig
    go_enter Tryd.func3, Tryd.ntmps3
    go_wp2_with (go_at_call 5; refine (big_any _ _ _ _).mono ?_; rw [hd]; rintro e w' ⟨rfl, rfl⟩)
    go_ret
    exact ⟨rfl, hB⟩
  · have hd : decide (4096 < len0) = false := by simpa using hbig
    go_enter Tryd.func3, Tryd.ntmps3
    go_wp2_with (first
      | (go_at_call 5; refine (big_any _ _ _ _).mono ?_; rw [hd]; rintro e w' ⟨rfl, rfl⟩)
      | (go_at_call 6; ((with_reducible refine (drawJ_any _ _ _ _ hsrc).mono ?_); rintro e w1 ⟨vl, L, rfl, hrl, hgd, hsum, hb⟩; have hB1 := below_step hB hb; have hLn : L.length ≤ 1048576 := Nat.le_trans (sumT_len L) (by omega); have hLs : ∀ x ∈ L, x.t.size ≤ 1048576 := fun x hx => Nat.le_trans (sumT_mem hx) (by omega); obtain ⟨X, hX, hXB⟩ := join_back hgd; obtain ⟨Y, hY, hYn, hYt⟩ := join_rem hgd; have hJz := join_small hsum; have HGD := Lib.hid hgd; have CJ := iJoin_any vl L w1 (RowR.has Tok.enc_len hrl) hLn hLs; have CX := iLex_any _ (by omega) X none hX; have CY := iLex_any _ (by rw [ByteArray.size_append]; have : rem.size = 11 := rfl; omega) Y none hY; have hLs' := Lib.hid hLs; clear hb hgd hX hY hLs; generalize joinB (toksS L) = s at hXB hJz CJ CX CY; simp only [lexI, lexT] at CX CY; unfold rem at CY))
      | (go_at_call 7; ((refine CJ.mono ?_); rintro e w2 ⟨rfl, hb⟩; have hB2 := below_step hB1 hb; have hrl2 := RowR.below hrl hb; clear hb hrl))
      | (go_at_call 8; ((with_reducible refine (CX w2).mono ?_); rintro e w3 ⟨vx, rfl, hrx, hb⟩; have hB3 := below_step hB2 hb; have hrl3 := RowR.below hrl2 hb; clear hb hrl2))
      | (go_at_call 8; ((refine (CY _).mono ?_); rintro e w4 ⟨vy, rfl, hry, hb⟩; have hB4 := below_step hB3 hb; have hrl4 := RowR.below hrl3 hb; have hrx4 := RowR.below hrx hb; have hhl := RowR.has Tok.enc_len hrl4; have hhx := RowR.has Tok.enc_len hrx4; have hhy := RowR.has Tok.enc_len hry; obtain ⟨Al, cl, rfl, hnl, hcl⟩ := hhl; obtain ⟨Ax, cx, rfl, _, hcx⟩ := hhx; obtain ⟨Ay, cy, rfl, _, hcy⟩ := hhy; have HXn := Lib.hid hXB.1; have HYn := Lib.hid hYn; rw [HXn.out, HYn.out]; have HYt := Lib.hid hYt; have HXB := Lib.hid hXB; clear hb hrl3 hrx hrl4 hrx4 hry hYn hYt hXB; obtain ⟨n, hn⟩ : ∃ n, n = L.length := ⟨_, rfl⟩; have HN := Lib.hid hn; rw [← hn] at hnl hLn ⊢; clear hn)))
    clear hd hbig hsrc w0 hB hsum hB1 hB2 hB3 CJ CX CY
    go_loopw [9] (fun iv wr => ∃ k : Nat, k ≤ n ∧ iv = .int .i64 k ∧ Below w4.heap.size w4 wr) (fun iv _ => n - (intOf iv).toNat)
    case atStart => exact ⟨0, Nat.zero_le _, rfl, Below.refl _ _⟩
    case round =>
      obtain ⟨k, hk, rfl, hbel⟩ := hrel
      by_cases hlt : k < n
      · have hkL : k < L.length := by rw [← HN.out]; exact hlt
        have hkX : k < X.length := by rw [HXn.out]; exact hkL
        have hkY : k < Y.length := by rw [HYn.out]; exact hkL
        obtain ⟨al, rfl, habl, tl⟩ := HasT.tk hcl k hkL
        obtain ⟨ax, rfl, habx, tx⟩ := HasT.tk hcx k hkX
        obtain ⟨ay, rfl, haby, ty⟩ := HasT.tk hcy k hkY
        obtain ⟨e1, e2, P, e3, hP, hex⟩ := HXB.out.2 k hkL hkX
        have e4 := HYt.out k hkL hkY
        have hgk := HGD.out _ (List.getElem_mem hkL)
        have hsk := hLs'.out _ (List.getElem_mem hkL)
        obtain ⟨c0, c1, c2⟩ := tl.below hbel habl
        obtain ⟨d0, d1, d2⟩ := tx.below hbel habx
        obtain ⟨f0, f1, f2⟩ := ty.below hbel haby
        clear f0 f2
        rw [e1] at d0
        rw [e2] at d1
        rw [e3] at d2
        rw [e4] at f1
        have hts : 1 ≤ (tokS L[k].k L[k].t).size := by
          obtain ⟨⟨c, u, hc, _⟩, _⟩ := hgk
          have e : (tokB L[k]).length = (tokS L[k].k L[k].t).size := by unfold tokB; simp
          rw [hc, List.length_cons] at e; omega
        have CT := iTokText_any L[k].k L[k].t L[k].p hsk
        have HQ : ((s.extract P (P + 1)).toList == ((tokS L[k].k L[k].t).extract 0 1).toList) = true := by rw [hex]; simp
        clear e1 e2 e3 e4 hgk hex tl tx ty hcl hcx hcy hsk
        generalize tokS L[k].k L[k].t = ts at hts CT HQ
        obtain ⟨x, hx⟩ : ∃ x, x = L[k]'hkL := ⟨_, rfl⟩
        rw [← hx] at c0 c1 c2 d0 d1 f1 CT
        clear hx hkL hkX hkY
        have hw1 : IntKind.i64.wrap ((P : Int) + 1) = (P : Int) + 1 := IntWalk.i64_in _ (by omega)
        have h01 : 0 ≤ (P : Int) + 1 := by omega
        have htn : ((P : Int) + 1).toNat = P + 1 := by omega
        have hP1 : (P : Int) + 1 ≤ (s.size : Int) := by omega
        have hPP : (P : Int) ≤ (P : Int) + 1 := by omega
        have hts1 : (1 : Int) ≤ (ts.size : Int) := by omega
        go_wp2
        go_region_held3 (fun w' => (w'.cell? (al.add (k * 3)) = some (.int .i64 x.k) ∧ w'.cell? ⟨(al.add (k * 3)).block, (al.add (k * 3)).off + 1, none⟩ = some (.string x.t) ∧ w'.cell? ⟨(al.add (k * 3)).block, (al.add (k * 3)).off + 2, none⟩ = some (.int .i64 x.p)) ∧ (w'.cell? (ax.add (k * 3)) = some (.int .i64 x.k) ∧ w'.cell? ⟨(ax.add (k * 3)).block, (ax.add (k * 3)).off + 1, none⟩ = some (.string x.t) ∧ w'.cell? ⟨(ax.add (k * 3)).block, (ax.add (k * 3)).off + 2, none⟩ = some (.int .i64 (P : Int))) ∧ w'.cell? ⟨(ay.add (k * 3)).block, (ay.add (k * 3)).off + 1, none⟩ = some (.string x.t) ∧ Below w4.heap.size w4 w') (first | exact ⟨⟨c0, c1, c2⟩, ⟨d0, d1, d2⟩, f1, hbel.drew⟩ | exact held_toks3 (y := ⟨x.k, x.t, (P : Int)⟩) hbm (by assumption) habl habx haby | go_keep) (first | (go_at_call 9; refine (CT _).mono ?_; rintro e w9 ⟨rfl, hbm⟩))
        all_goals
          go_wp2
          go_roundw
          case rel => exact ⟨k + 1, by omega, by go_num, (by assumption : _ ∧ _ ∧ _ ∧ Below _ _ _).2.2.2⟩
          case measure => simp [intOf]; omega
      · go_wp2
        go_ret
        exact ⟨rfl, below_step hB4 hbel⟩

/-! ### THE ROW's STEP -/
set_option maxRecDepth 100000 in
theorem lifted (os : Os) (started : os.Started) (H : Type) (enc : TypeId × Value → H) :
    ReturnsInHanded {} Tryd.checked os 3 .any (fun w args => (Rows.fnTokensSpec.pre enc Tryd.prog Tryd.f3 Rows.fnTokensRow.domain false w args ∧ laidMetH Tryd.prog Rows.fnTokensRow.laid w) ∧ sizedMet enc Tryd.prog Tryd.f3 (OpenSpec.ofChange Rows.fnTokensSpec) false w args) (Rows.fnTokensSpec.post enc Tryd.prog Tryd.f3 false true false false) := by
  refine returnsInHanded_of_change_and (C := Tryd.checked) (X := fun w _ => laidMetH Tryd.prog Rows.fnTokensRow.laid w) (fun _ _ _ hh h => h.of_heap hh) own started (by kernel_rfl) Tryd.func3
    (ChangeSpec.witness_shaped (enc := enc) (C := Tryd.checked) (os := os) (X := fun w _ => laidMetH Tryd.prog Rows.fnTokensRow.laid w) false (World.laidAll Tryd.prog os Rows.fnTokensRow.laid) #[.slice none 0 0] 8 (World.laidAll_os _ _ _)
      (World.shaped_of_ZipB (by kernel_rfl) (by kernel_rfl)) (by kernel_rfl) (by kernel_rfl) (by kernel_rfl)
      (by rw [MakeChecks.laidMetH_plain _ _ _ (by kernel_rfl)]; exact laidMet_laidAll _ (by kernel_rfl) (by kernel_rfl))) ?_
  intro W base args ds gs before hval0 hW hcnd _ _ _
  have hval : ∀ (j : Nat) t v, Tryd.f3.params[j]? = some t → args[j]? = some v → Value.okWide Tryd.prog W .any base t v := hval0
  have hW' := hW
  obtain ⟨p, q, hA0, hV, rfl, hfz, hnd⟩ := hW
  have hA : DataW.TrodAll enc Tryd.prog W 0 (fun _ => true) true Tryd.f3.params.toList args.toList ds p := hA0
  rw [Tryd.params3] at hA hval
  obtain ⟨v0, vs0, d0, ds0, p0, q0, hargs, rfl, rfl, h0, r0⟩ := trodAll_cons hA
  obtain ⟨rfl, rfl, rfl⟩ := trodAll_nil r0
  obtain rfl : args = #[v0] := by cases args; simp_all
  obtain ⟨rfl, rfl⟩ := trodVars_none hV
  obtain ⟨a0, len0, cap0, rfl⟩ := okWide_slice Tryd.underlying22 (hval 0 22 v0 rfl rfl)
  have k0 := h0
  have lt0 : ∀ x ∈ p0, x.block < W.heap.size := by obtain ⟨m, hm⟩ := k0; exact DataW.trod_lt m _ _ _ hm
  have w0 : Src W a0 len0 := by
    obtain ⟨fuel, hf⟩ := h0
    rcases open_ints Tryd.underlying22 Tryd.underlying5 (by kernel_rfl) hf with ⟨hcs, _⟩ | ⟨x, l, c, zs, hcs, _, hl, hm, hz, _, hcell, hwz⟩
    · simp [Value.cells] at hcs
      obtain ⟨rfl, rfl, rfl⟩ := hcs
      exact src_of (.inl ⟨rfl, rfl, rfl, rfl⟩)
    · simp [Value.cells] at hcs
      obtain ⟨rfl, rfl, rfl⟩ := hcs
      exact src_of (.inr ⟨_, rfl, hl, hm, by simpa using hz, hcell, hwz⟩)
  clear hA0 hval0
  refine (walk a0 len0 cap0 W w0).mono fun e W' ⟨he, bel⟩ => ?_
  subst he
  exact ⟨_, rfl, _, _, _, [], _, [], hW', trodAll_mk1 (shut_bool Tryd.underlying4 _), (trodAll_cons_mk (Below.trod laidOut (by kernel_rfl) (of_decide_eq_true (by kernel_rfl)) k0 bel lt0) trodAll_mk0), rfl, bel.frame _, fun h => by cases h⟩

theorem over : Rows.fnTokensRow.holds Tryd.pinned (OpenSpec.ofChange Rows.fnTokensSpec) :=
  OpenClaim.holds_of_wide 3 Tryd.f3 rfl rfl rfl rfl rfl rfl rfl ⟨rfl, rfl, rfl, rfl, rfl⟩ rfl rfl rfl rfl rfl (by kernel_rfl) Tryd.func3 (by kernel_rfl)
    (of_decide_eq_true (by kernel_rfl)) (by unfold Func.isWrapper; first | (rw [if_pos (by decide +kernel)]; kernel_rfl) | (rw [if_neg (by decide +kernel)]; exact ⟨rfl, rfl⟩))
    (fun os started H enc _ => lifted os started H enc)

/-- no parameter wants a stand-in; the program's own looks are off -/
theorem plain (f : FuncId) (fn : Func) (hf : Tryd.pinned.checked.prog.funcNamed "loop.example/g03013/laws.FnTokens" = some f) (hfn : Tryd.pinned.checked.prog.funcs[f]? = some fn) :
    false = Tryd.pinned.checked.prog.looks [] ∧ ∀ (j : Nat) t, fn.params[j]? = some t → Tryd.pinned.checked.prog.wantsStandIn t = false := by
  obtain rfl : f = 3 := Option.some.inj ((show Tryd.prog.funcNamed "loop.example/g03013/laws.FnTokens" = some 3 by kernel_rfl).symm.trans hf) |>.symm
  obtain rfl : fn = Tryd.f3 := (Option.some.inj (Tryd.func3.symm.trans hfn)).symm
  refine ⟨by kernel_rfl, fun j t ht => ?_⟩
  rw [Tryd.params3] at ht
  have hm : t ∈ [22] := by simpa using Array.mem_of_getElem? ht
  have hall : ([22].all fun u => !Tryd.prog.wantsStandIn u) = true := by kernel_rfl
  exact (show Tryd.prog.wantsStandIn t = false by simpa using List.all_eq_true.1 hall t hm)
theorem proved : Rows.FnTokensCardSaid :=
  Claim7.holds_tied_plain_at .later [] _ _ _ _ over (fun _ h => by cases h) (by kernel_rfl) (fun _ h => by cases h) fnTokens_row_tie rfl ⟨rfl, rfl⟩ (by kernel_rfl) rfl plain (by kernel_rfl)
#print axioms proved
end Go.Proofs.YthediljoioahpaaDoor.fnTokens
