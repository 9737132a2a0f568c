/- SETS OF POINTERS (map[*T]bool, made and written by the call itself): lookup, store of a new key, delete. Generic. -/
import Derived.MapKept
import Derived.LaidEqlPtr
import Derived.OwnWalk
set_option linter.unusedVariables false
set_option linter.unusedSimpArgs false
namespace Go.Proofs.Ytdkpleghpnflhaa
open Go Go.MapKept

/-- a map's type whose keys are pointers to what has a size, and whose elements are bools -/
structure PKey (P : Program) (mt kt te bt : TypeId) : Prop where
  hm : P.underlying mt = some (.map kt bt)
  hk : P.underlying kt = some (.pointer te)
  hi : ∃ j, P.info? te = some j ∧ j.size ≠ 0
  hz : ∀ w, (zeroValue bt).run P w = .ok (.bool false) w
theorem eraseIdx_map {α β : Type} (f : α → β) : ∀ (l : List α) (i : Nat), (l.eraseIdx i).map f = (l.map f).eraseIdx i
  | [], _ => rfl
  | _ :: _, 0 => rfl
  | x :: l, i + 1 => by simp [eraseIdx_map f l i]
/-- the block of a is a plain one -/
def Blk (w : World) (a : Addr) : Prop := ∃ cs t, w.heap[a.block]? = some (.cells cs t (0, 0))
/-- block b is a set of the pointers l, in this order -/
def PSet (w : World) (b : Nat) (l : List Addr) : Prop :=
  ∃ es clock, w.heap[b]? = some (.map es clock) ∧ es.toList.map (·.key) = l.map (fun a => Value.pointer (some a)) ∧ ∀ e ∈ es.toList, e.val = .bool true
section
variable {P : Program} {mt kt te bt : TypeId}
theorem run_equal_ptr (K : PKey P mt kt te bt) {w : World} {a x : Addr} (ha : Blk w a) (hx : Blk w x) :
    (Op.equal kt (.pointer (some a)) (.pointer (some x))).run P w = .ok (decide (a = x)) w := by
  obtain ⟨j, hj, hsz⟩ := K.hi
  obtain ⟨ca, ta, ha⟩ := ha
  obtain ⟨cx, tx, hx⟩ := hx
  by_cases h : a = x
  · subst h
    have h2 : ∀ d : Nat, (Op.equalIn (d + 1) kt (.pointer (some a)) (.pointer (some a))).run P w = .ok true w := fun d => by
      simp [Op.equalIn, run_underlying K.hk, sizeOf, typeInfo, hj, run_sameAddr_same]
    rw [decide_eq_true rfl]
    exact h2 9999
  · have h2 : ∀ d : Nat, (Op.equalIn (d + 1) kt (.pointer (some a)) (.pointer (some x))).run P w = .ok false w := fun d => by
      simp [Op.equalIn, run_underlying K.hk, sizeOf, typeInfo, hj, hsz, run_sameAddr_other w h ha hx]
    rw [decide_eq_false h]
    exact h2 9999
theorem run_ask (K : PKey P mt kt te bt) {w : World} {a : Addr} (ha : Blk w a) : ∀ (l : List Addr) (es : List MapEntry) (i : Nat), (∀ x ∈ l, Blk w x) → es.map (·.key) = l.map (fun a => Value.pointer (some a)) → (∀ e ∈ es, e.val = .bool true) →
    (Instr.findAsking kt (.pointer (some a)) es i).run P w = .ok (if a ∈ l then some (i + l.idxOf a, .bool true) else none) w
  | [], [], i, _, _, _ => by simp [Instr.findAsking]
  | [], e :: es, i, _, hk, _ => by simp at hk
  | x :: l, [], i, _, hk, _ => by simp at hk
  | x :: l, e :: es, i, hl, hk, hv => by
    have hke : e.key = .pointer (some x) := by simpa using (List.cons.inj hk).1
    have hve : e.val = .bool true := hv e (by simp)
    have he := run_equal_ptr K ha (hl x (by simp))
    by_cases h : a = x
    · subst h
      simp [Instr.findAsking, hke, he, hve]
    · have hr := run_ask K ha l es (i + 1) (fun y hy => hl y (by simp [hy])) (List.cons.inj hk).2 (fun y hy => hv y (by simp [hy]))
      have hx : ¬ x = a := fun e => h e.symm
      have hbeq : (x == a) = false := by simpa using hx
      rw [decide_eq_false h] at he
      simp only [Instr.findAsking, hke, Sem.run_bind, he, Result.andThen_ok, Bool.false_eq_true, if_false]
      rw [hr]
      simp [h, List.idxOf_cons, hbeq, Nat.add_assoc, Nat.add_comm 1]
theorem run_find (K : PKey P mt kt te bt) {w : World} {a : Addr} (ha : Blk w a) (l : List Addr) (es : List MapEntry) (hl : ∀ x ∈ l, Blk w x) (hk : es.map (·.key) = l.map (fun a => Value.pointer (some a))) (hv : ∀ e ∈ es, e.val = .bool true) :
    (Instr.findKey kt (.pointer (some a)) es).run P w = .ok (if a ∈ l then some (l.idxOf a, .bool true) else none) w := by
  have h := run_ask K ha l es 0 hl hk hv
  rw [Nat.zero_add] at h
  cases es with
  | nil =>
    have : l = [] := by simpa using hk.symm
    subst this
    simp [Instr.findKey, run_underlying K.hk, Instr.findNow]
  | cons e es =>
    simp [Instr.findKey, run_underlying K.hk, Instr.findNow, Instr.sameNow, h]
theorem run_check_ptr (K : PKey P mt kt te bt) (w : World) (em : Bool) (a : Addr) : (Instr.checkKey em 10000 kt (.pointer (some a))).run P w = .ok () w := by
  have h : ∀ n : Nat, (Instr.checkKey em (n + 1) kt (.pointer (some a))).run P w = .ok () w := fun n => by simp [Instr.checkKey, run_underlying K.hk]
  exact h 9999
theorem run_lookup_ptr (K : PKey P mt kt te bt) {w : World} {b : Nat} {l : List Addr} (h : PSet w b l) {a : Addr} (ha : Blk w a) (hl : ∀ x ∈ l, Blk w x) :
    (Instr.lookup mt (.map (some b)) (.pointer (some a)) false).run P w = .ok (.bool (decide (a ∈ l))) w := by
  obtain ⟨es, clock, hb, hk, hv⟩ := h
  have hf := run_find K ha l es.toList hl hk hv
  have hz := K.hz w
  by_cases hm : a ∈ l
  · rw [if_pos hm] at hf
    simp [Instr.lookup, run_underlying K.hm, run_getObj_map hb, run_check_ptr K, hf, hm]
  · rw [if_neg hm] at hf
    simp [Instr.lookup, run_underlying K.hm, run_getObj_map hb, run_check_ptr K, hf, hm, hz]
theorem run_store_ptr (K : PKey P mt kt te bt) {w : World} {b : Nat} {l : List Addr} (h : PSet w b l) {a : Addr} (ha : Blk w a) (hl : ∀ x ∈ l, Blk w x) (hm : a ∉ l) :
    ∃ w', (Instr.mapUpdate mt (.map (some b)) (.pointer (some a)) (.bool true)).run P w = .ok () w' ∧ PSet w' b (l ++ [a]) ∧ w.grownBy w' (some b) ∧ w'.heap.size = w.heap.size := by
  obtain ⟨es, clock, hb, hk, hv⟩ := h
  have hf := run_find K ha l es.toList hl hk hv
  rw [if_neg hm] at hf
  have hlt : b < w.heap.size := (Array.getElem?_eq_some_iff.1 hb).1
  refine ⟨{ w with heap := w.heap.setIfInBounds b (.map (es.push { key := .pointer (some a), val := .bool true, born := clock }) (clock + 1)) }, ?_, ?_, ?_, ?_⟩
  · simp [Instr.mapUpdate, run_underlying K.hm, run_getObj_map hb, run_check_ptr K, hf, run_setObj_map _ hb]
  · refine ⟨es.push { key := .pointer (some a), val := .bool true, born := clock }, clock + 1, ?_, ?_, ?_⟩
    · simp [hlt]
    · simp [hk]
    · intro e he
      rw [Array.toList_push] at he
      rcases List.mem_append.1 he with he | he
      · exact hv e he
      · rw [List.mem_singleton.1 he]
  · refine ⟨rfl, rfl, rfl, by simp, fun k hk hne => ?_⟩
    have : b ≠ k := fun e => hne (by rw [e])
    simp [Array.getElem?_setIfInBounds, this]
  · simp
theorem run_delete_ptr (K : PKey P mt kt te bt) {w : World} {b : Nat} {l : List Addr} (h : PSet w b l) {a : Addr} (ha : Blk w a) (hl : ∀ x ∈ l, Blk w x) (hm : a ∈ l) (kt' ty : TypeId) :
    ∃ w', (Builtin.delete_ #[mt, kt'] ty #[.map (some b), .pointer (some a)]).run P w = .ok (.tuple #[]) w' ∧ PSet w' b (l.erase a) ∧ w.grownBy w' (some b) ∧ w'.heap.size = w.heap.size := by
  obtain ⟨es, clock, hb, hk, hv⟩ := h
  have hf := run_find K ha l es.toList hl hk hv
  rw [if_pos hm] at hf
  have hlt : b < w.heap.size := (Array.getElem?_eq_some_iff.1 hb).1
  refine ⟨{ w with heap := w.heap.setIfInBounds b (.map (es.eraseIdxIfInBounds (l.idxOf a)) clock) }, ?_, ?_, ?_, ?_⟩
  · simp [Builtin.delete_, run_underlying K.hm, run_getObj_map hb, run_check_ptr K, hf, run_setObj_map _ hb]
  · refine ⟨es.eraseIdxIfInBounds (l.idxOf a), clock, ?_, ?_, ?_⟩
    · simp [hlt]
    · have hlen : es.size = l.length := by have := congrArg List.length hk; simpa using this
      have hi : l.idxOf a < es.size := by rw [hlen]; exact List.idxOf_lt_length_of_mem hm
      unfold Array.eraseIdxIfInBounds
      rw [dif_pos hi, Array.toList_eraseIdx, eraseIdx_map, hk, ← eraseIdx_map, List.erase_eq_eraseIdx_of_idxOf rfl]
    · intro e he
      unfold Array.eraseIdxIfInBounds at he
      split at he
      · rw [Array.toList_eraseIdx] at he
        exact hv e (List.mem_of_mem_eraseIdx he)
      · exact hv e he
  · refine ⟨rfl, rfl, rfl, by simp, fun k hk hne => ?_⟩
    have : b ≠ k := fun e => hne (by rw [e])
    simp [Array.getElem?_setIfInBounds, this]
  · simp
end
end Go.Proofs.Ytdkpleghpnflhaa
