/- CHAPTER 7: how a test and a step are written: Test.text, Step.text of impl, l7Step of spec. -/
import Derived.Test.YtdfapkceanicoaaDoorPthI
import Derived.Test.YtdfapkceanicoaaDoorQuote
import Derived.Deep.RegionHeld3
set_option linter.unusedVariables false
set_option linter.unusedSimpArgs false
namespace Go.Proofs.YtdfapkceanicoaaDoor
open Go.RowKit
set_option maxRecDepth 100000

def tstT (x : Tst) : ByteArray := ⟨#[91]⟩ ++ x.n ++ ⟨#[61]⟩ ++ quoteS x.v ++ ⟨#[93]⟩
def tsT (s : ByteArray) (l : List Tst) : ByteArray := l.foldl (fun t x => t ++ tstT x) s
def stpT (s : Stp) : ByteArray := tsT s.n s.ts
theorem tsT_next {s : ByteArray} {l : List Tst} {k : Nat} (hk : k < l.length) : tsT s (l.take (k + 1)) = tsT s (l.take k) ++ tstT l[k] := by
  unfold tsT; rw [List.take_succ_eq_append_getElem hk, List.foldl_append]; rfl
theorem quote_size7 (s : ByteArray) : (quoteS s).size ≤ 2 * s.size + 2 := by
  have h : ∀ l : List UInt8, (escL l).length ≤ 2 * l.length := by
    intro l
    induction l with
    | nil => simp [escL]
    | cons c l ih => rw [escL]; split <;> simp only [List.length_cons] <;> omega
  have h := h s.data.toList
  have e : (quoteS s).size = (quoteL s.data.toList).length := by unfold quoteS; rfl
  have e2 : s.data.toList.length = s.size := by simp
  rw [e]; unfold quoteL; simp only [List.length_cons, List.length_append, List.length_nil]; omega
theorem tstT_size {x : Tst} (h : TstSz x) : (tstT x).size ≤ 4194304 := by
  have := quote_size7 x.v
  have h1 := h.1
  have h2 := h.2
  have e : (tstT x).size = x.n.size + (quoteS x.v).size + 3 := by
    unfold tstT
    rw [ByteArray.size_append, ByteArray.size_append, ByteArray.size_append, ByteArray.size_append]
    rw [show (⟨#[91]⟩ : ByteArray).size = 1 from rfl, show (⟨#[61]⟩ : ByteArray).size = 1 from rfl, show (⟨#[93]⟩ : ByteArray).size = 1 from rfl]
    omega
  omega
theorem tsT_size {s : ByteArray} {l : List Tst} {M : Nat} (h : ∀ x ∈ l, (tstT x).size ≤ M) : (tsT s l).size ≤ s.size + l.length * M := by
  induction l generalizing s with
  | nil => show s.size ≤ _; exact Nat.le_add_right _ _
  | cons x r ih =>
    have h1 := ih (s := s ++ tstT x) (fun y hy => h y (List.mem_cons_of_mem _ hy))
    have h2 := h x List.mem_cons_self
    show (tsT (s ++ tstT x) r).size ≤ _
    rw [ByteArray.size_append] at h1
    rw [List.length_cons, Nat.succ_mul]
    omega
theorem take_size {s : ByteArray} {l : List Tst} (h : ∀ x ∈ l, TstSz x) (h3 : l.length ≤ 3) (k : Nat) : (tsT s (l.take k)).size ≤ s.size + 12582912 := by
  have h1 := tsT_size (s := s) (l := l.take k) (M := 4194304) (fun x hx => tstT_size (h x (List.mem_of_mem_take hx)))
  have h2 : (l.take k).length ≤ 3 := by rw [List.length_take]; omega
  have h4 : (l.take k).length * 4194304 ≤ 3 * 4194304 := Nat.mul_le_mul_right _ h2
  omega
set_option maxRecDepth 100000 in
set_option maxHeartbeats 1000000 in
theorem iTstT_any (x : Tst) (hx : TstSz x) (w : World) :
    Calls Tryd.prog 80 #[.agg #[.string x.n, .string x.v]] w fun e w' => e = .returned (.string (tstT x)) ∧ Below w.heap.size w w' := by
  obtain ⟨n, v⟩ := x
  have hn : n.size ≤ 1048576 := hx.1
  have hv : v.size ≤ 1048576 := hx.2
  have HQ := Lib.hid (fun w => iQuote_any v hv w)
  have hq := quote_size7 v
  unfold tstT
  dsimp only
  have HB := Lib.hid (below_al (Below.refl w.heap.size w) (.cells #[.string n, .string v] 52))
  generalize quoteS v = q at *
  have hq' : q.size ≤ 2097154 := by omega
  clear hx hq
  have g1 : ¬ 9223372036854775807 < 1 + n.size := by omega
  have g2 : ¬ 9223372036854775807 < 1 + n.size + 1 := by omega
  have g3 : ¬ 9223372036854775807 < 1 + n.size + 1 + q.size := by omega
  have g4 : ¬ 9223372036854775807 < 1 + n.size + 1 + q.size + 1 := by omega
  have z1 : ((⟨#[91]⟩ : ByteArray) ++ n).size = 1 + n.size := by rw [ByteArray.size_append]; rfl
  have z2 : ((⟨#[91]⟩ : ByteArray) ++ n ++ (⟨#[61]⟩ : ByteArray)).size = 1 + n.size + 1 := by rw [ByteArray.size_append, z1]; rfl
  have z3 : ((⟨#[91]⟩ : ByteArray) ++ n ++ (⟨#[61]⟩ : ByteArray) ++ q).size = 1 + n.size + 1 + q.size := by rw [ByteArray.size_append, z2]
  have g2' : ¬ 9223372036854775807 < ((⟨#[91]⟩ : ByteArray) ++ n).size + 1 := by rw [z1]; exact g2
  have g3' : ¬ 9223372036854775807 < ((⟨#[91]⟩ : ByteArray) ++ n ++ (⟨#[61]⟩ : ByteArray)).size + q.size := by rw [z2]; exact g3
  have g4' : ¬ 9223372036854775807 < ((⟨#[91]⟩ : ByteArray) ++ n ++ (⟨#[61]⟩ : ByteArray) ++ q).size + 1 := by rw [z3]; exact g4
  clear z1 z2 z3
  have HK : Hid (∀ W, Below (w.alloc (.cells #[.string n, .string v] 52)).heap.size (w.alloc (.cells #[.string n, .string v] 52)) W → ((W.cell? ⟨w.heap.size, 0, none⟩ = some (.string n) ∧ W.cell? ⟨w.heap.size, 1, none⟩ = some (.string v)) ∧ Below (w.alloc (.cells #[.string n, .string v] 52)).heap.size (w.alloc (.cells #[.string n, .string v] 52)) W)) := Lib.hid fun W hb => ⟨two_cells' ((hb.block _ (by simp)).trans (heap_alloc_new w _)), hb⟩
  obtain ⟨⟨c0, c1⟩, -⟩ := HK.out _ (Below.refl _ _)
  go_enter Tryd.func80, Tryd.ntmps80
  go_wp2
  go_region_held3 (fun W => (W.cell? ⟨w.heap.size, 0, none⟩ = some (.string n) ∧ W.cell? ⟨w.heap.size, 1, none⟩ = some (.string v)) ∧ Below (w.alloc (.cells #[.string n, .string v] 52)).heap.size (w.alloc (.cells #[.string n, .string v] 52)) W) (first | exact HK.out _ (Below.refl _ _).drew | exact HK.out _ (below_step (by assumption : _ ∧ Below _ _ _).2 hbm) | go_keep)
    (first | (go_at_call 100; refine (HQ.out _).mono ?_; rintro e w2 ⟨rfl, hbm⟩))
  rename_i hH
  have HB1 := Lib.hid (below_step HB.out hH.2)
  go_wp2
  go_ret
  exact ⟨rfl, HB1.out⟩
set_option maxRecDepth 100000 in
set_option maxHeartbeats 2000000 in
theorem iStpT_any (r : StR) (s : Stp) (w : World) (hn : r.n = s.n) (ht : HasX w r.tv s.ts) (hz : StpSz s) (h3 : s.ts.length ≤ 3) :
    Calls Tryd.prog 50 #[.agg #[.string r.n, r.tv]] w fun e w' => e = .returned (.string (stpT s)) ∧ Below w.heap.size w w' := by
  obtain ⟨n, l⟩ := s
  obtain ⟨n', tv⟩ := r
  have hns : n.size ≤ 1048576 := hz.1
  have hts : ∀ x ∈ l, TstSz x := hz.2.2
  dsimp only at hn ht h3 ⊢
  subst hn
  obtain ⟨A, cap, rfl, hn', hc⟩ := ht
  unfold stpT
  dsimp only
  obtain ⟨m, hm⟩ : ∃ m, m = l.length := ⟨_, rfl⟩
  have HN : Hid (m = l.length) := Lib.hid hm
  rw [← hm] at hn' ⊢
  have hm3 : m ≤ 3 := by omega
  have HSZ : Hid (∀ k, (tsT n' (l.take k)).size ≤ 13631488) := Lib.hid fun k => by have := take_size (s := n') hts h3 k; omega
  have HE : Hid (tsT n' (l.take m) = tsT n' l) := Lib.hid (by rw [List.take_of_length_le (by omega)])
  have HZ : Hid (tsT n' (l.take 0) = n') := Lib.hid rfl
  have HB0 := Lib.hid (below_al (Below.refl w.heap.size w) (.cells #[.string n', .slice A m cap] 50))
  clear hm h3 hz
  have HTS := Lib.hid hts
  clear hts
  go_enter Tryd.func50, Tryd.ntmps50
  go_wp2
  go_loopw [3, 11] (fun v i wr => ∃ k : Nat, k ≤ m ∧ i = .int .i64 k ∧ v = .string (tsT n' (l.take k)) ∧ Below w.heap.size w wr) (fun _ i _ => m - (intOf i).toNat)
  case atStart => exact ⟨0, Nat.zero_le _, rfl, by rw [HZ.out], HB0.out⟩
  case round =>
    obtain ⟨k, hk, rfl, rfl, hbel⟩ := hrel
    have hsz := HSZ.out k
    by_cases hlt : k < m
    · have hlk : k < l.length := by rw [← HN.out]; exact hlt
      obtain ⟨a, rfl, hab, hcell⟩ := HasX.xk hc k hlk
      obtain ⟨c0, c1⟩ := hcell.below hbel hab
      have HC := Lib.hid (fun w => iTstT_any l[k] (HTS.out _ (List.getElem_mem hlk)) w)
      have HNX := Lib.hid (tsT_next (s := n') hlk)
      have h4 := tstT_size (HTS.out _ (List.getElem_mem hlk))
      generalize l[k] = x at c0 c1 HC HNX h4
      generalize tsT n' (l.take k) = u at hsz HNX
      generalize tstT x = y at HC HNX h4
      have HB3 := Lib.hid (below_al hbel (.cells #[.string x.n, .string x.v] 52))
      clear hcell hc
      go_wp2_with fail
      refine (HC.out _).mono ?_
      rintro e w2 ⟨rfl, hb2⟩
      have HB4 := Lib.hid (below_step HB3.out hb2)
      clear hb2
      go_wp2
      go_roundw
      case rel => exact ⟨k + 1, by omega, by go_num, by rw [HNX.out], HB4.out⟩
      case measure => simp [intOf]; omega
    · have HE2 : Hid (tsT n' (l.take k) = tsT n' l) := Lib.hid (by rw [show k = m by omega]; exact HE.out)
      generalize tsT n' (l.take k) = u at *
      obtain rfl : u = tsT n' l := HE2.out
      clear hc
      go_wp2
      go_ret
      exact ⟨rfl, hbel⟩
end Go.Proofs.YtdfapkceanicoaaDoor
