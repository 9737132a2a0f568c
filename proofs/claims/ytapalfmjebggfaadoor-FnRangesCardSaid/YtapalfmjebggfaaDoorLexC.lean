/- CHAPTER 3, impl: Lex. -/
import Derived.Test.YtapalfmjebggfaaDoorLexB
namespace Go.Proofs.YtapalfmjebggfaaDoor
open Go.RowKit

theorem heap_new1' (w : World) (o1 o2 : Obj) : ((w.alloc o1).alloc o2).heap[w.heap.size + 1]? = some o2 := by
  have h := heap_alloc_new (w.alloc o1) o2
  have e : (w.alloc o1).heap.size = w.heap.size + 1 := by simp
  rwa [e] at h
theorem iSkip_add (s : ByteArray) (hs : s.size ≤ 1048576) (a z : Nat) (ha : a + z ≤ s.size) (w : World) :
    Calls Tryd.prog 36 #[.string s, .int .i64 ((a : Int) + (z : Int))] w fun e w' => e = .returned (.int .i64 (skE s (a + z))) ∧ w = w' := by
  have h := iSkip_any s hs (a + z) ha w
  rwa [Int.natCast_add] at h
set_option maxRecDepth 100000 in
set_option maxHeartbeats 1000000 in
theorem iLex_any (s : ByteArray) (hs : s.size ≤ 1048576) (T : List Tok) (e : Option Nat) (hL : Lx s.size s.data.toList T e) (w : World) :
    Calls Tryd.prog 26 #[.string s] w fun en w' => ∃ v, en = .returned (.tuple #[v, .int .i64 (lexI e)]) ∧ RowT w.heap.size w' v (lexT T e) ∧ Below w.heap.size w w' := by
  have H0 := Lib.hid (Sf.past (Nat.zero_le _) (Sf.start hL))
  have HS0 := Lib.hid (skE_stop (s := s) (Nat.zero_le _))
  have hk0 := skE_le s 0
  clear hL
  have C0 := iSkip_any s hs 0 (Nat.zero_le _)
  generalize skE s 0 = k0 at H0 HS0 hk0 C0
  go_enter Tryd.func26, Tryd.ntmps26
  go_wp2_with (go_at_call 36; refine (C0 _).mono ?_; rintro e w' ⟨rfl, rfl⟩)
  go_loopw [4, 5] (fun v i wr => ∃ (k g c n : Nat) (acc T' : List Tok), k ≤ s.size ∧ n ≤ k ∧ i = .int .i64 k ∧ v = .slice (some ⟨g, 0, none⟩) n c ∧ RowT w.heap.size wr (.slice (some ⟨g, 0, none⟩) n c) acc ∧ Hid (skip false (s.data.toList.drop k) = s.data.toList.drop k) ∧ Hid (Sf s k acc T' T e) ∧ Below w.heap.size w wr) (fun _ i _ => s.size - (intOf i).toNat)
  case atStart => exact ⟨k0, w.heap.size, 0, 0, [], T, hk0, Nat.zero_le _, rfl, rfl, rowR_empty (heap_alloc_new w _) (Nat.le_refl _), HS0, H0, below_al (Below.refl _ _) _⟩
  case round =>
    clear H0 HS0 hk0 C0
    obtain ⟨k, g, c, n, acc, T', hk, hnk, rfl, rfl, hrow, HS, HF, hbel⟩ := hrel
    by_cases hlt : k < s.size
    · rcases HF.out.parts hlt HS.out with ⟨h1, rfl, rfl⟩ | ⟨kd, t, z, T2, h1, hz0, hz1, ht, h2⟩
      · have C := iTok_none s hs k hlt h1
        clear h1 HF
        go_wp2_with (go_at_call 37; refine (C _).mono ?_; rintro e w1 ⟨⟨kd, t, rfl⟩, hb1⟩)
        go_ret2
        have hbel1 := below_step hbel hb1
        exact ⟨_, rfl, rowR_empty (heap_new1' _ _ _) (Nat.le_trans hbel1.size (Nat.le_succ _)), below_al (below_al hbel1 _) _⟩
      · have C := iTok_some s hs k hlt kd t z h1
        have D := iSkip_add s hs k z hz1
        have hne : ((z : Int) == 0) = false := by simp only [beq_eq_false_iff_ne, ne_eq]; omega
        have hle := skE_le s (k + z)
        have hge := skE_ge (s := s) hz1
        have HS2 := Lib.hid (skE_stop (s := s) hz1)
        have HF2 := Lib.hid (Sf.past hz1 h2)
        generalize skE s (k + z) = k2 at D hle hge HS2 HF2
        clear h1 HF h2
        go_wp2_with (first
          | (go_at_call 37; refine (C _).mono ?_; rintro e w1 ⟨rfl, hb1⟩; have hrow1 := RowR.alloc (RowR.below hrow hb1) (.cells #[.int .i64 kd, .string ⟨t.toArray⟩, .int .i64 k] 66); have hbel1 := below_al (below_step hbel hb1) (.cells #[.int .i64 kd, .string ⟨t.toArray⟩, .int .i64 k] 66); have hgB := (RowR.lt hrow rfl).1; clear hrow hb1)
          | (at_builtin; refine wpList_tok_append rfl _ _ rfl w.heap.size g n c _ rfl hrow1 ⟨kd, ⟨t.toArray⟩, k⟩ _ rfl (by simp) (by omega) hbel1.size (n + 1) rfl ?_; clear hrow1; intro g' c'' w2 hrow2 hg2)
          | (go_at_call 36; refine (D _).mono ?_; rintro e w' ⟨rfl, rfl⟩))
        go_roundw
        case rel => exact ⟨k2, g', c'', n + 1, _, T2, hle, by omega, rfl, rfl, hrow2, HS2, HF2, (below_al hbel1 _).grown hg2 (below_al hbel1 _).size (fun _ h => by cases h; exact hgB)⟩
        case measure => simp [intOf]; omega
    · obtain ⟨rfl, rfl⟩ := HF.out.done (by omega)
      go_wp2
      go_ret2
      exact ⟨_, rfl, hrow, hbel⟩
end Go.Proofs.YtapalfmjebggfaaDoor
