/- CHAPTER 8, 9, impl: walk's add: a list's expressions are put on the stack, the first on top. PRINTED by tools/gen_wkE.py. -/
import Derived.Test.YthmjffijhlkgcaaWkSE
import Derived.Test.YthmjffijhlkgcaaWkR
import Derived.Test.YthmjffijhlkgcaaWkT
set_option linter.unusedVariables false
set_option linter.unusedSimpArgs false
namespace Go.Proofs.Ythmjffijhlkgcaa
open Go.RowKit Go.Shelf
attribute [local go_sem] Oper.semAt_some
set_option maxRecDepth 100000

set_option maxHeartbeats 1000000 in
theorem backS_inE (F : Fence) (n : Nat) (hF : F.fn 19) (hro : F.round = none) (a : Option Addr) (len cap : Nat) (w : World) :
    CallsIn F n Try.prog 19 #[.slice a len cap] w fun e w' => e = .returned (.func (.func 30) #[] #[.pointer (some ⟨w.heap.size, 0, none⟩)]) ∧ w' = w.alloc (.cells #[.slice a len cap] 34) := by
  refine callsIn_of_wp Try.func19 rfl hF ?_ hro
  simp only [Try.ntmps19, List.size_toArray, List.length_cons, List.length_nil, Nat.reduceAdd, Nat.reduceSub, Array.replicate_succ, Array.replicate_zero, List.push_toArray, List.append_toArray, List.nil_append, List.cons_append]
  gi_wp2
  go_ret
  exact ⟨rfl, rfl⟩
abbrev tRowE : TypeId := 48
/-- a row of pointers that the call owns -/
abbrev RowAE (B : Nat) (w : World) (v : Value) (l : List Addr) : Prop := RowR encA 1 48 B w v l
/-- the variable 'ahead' -/
abbrev AheadE (w : World) (b : Nat) (v : Value) : Prop := Boxed w b 49 v
abbrev tMapPE : TypeId := 50
theorem pkey9E : PKey Try.prog 50 48 36 4 := by
  refine ⟨by kernel_rfl, by kernel_rfl, ?_, fun w => by rfl⟩
  have h : (Try.prog.info? 36).map (·.size) = some 7 := by kernel_rfl
  cases hj : Try.prog.info? 36 with
  | none => rw [hj] at h; cases h
  | some j => exact ⟨j, rfl, by rw [hj] at h; simp at h; omega⟩
theorem yields_lookupE {P : Program} {S : World → Prop} {a : Act} {o : Oper} {t : TypeId} {m x : Operand} {vm vx v : Value} (ho : o.op = .lookup t m x false) (hm : a.eval m = vm) (hx : a.eval x = vx)
    (h : ∀ w, S w → (Instr.lookup t vm vx false).run P w = .ok v w) : ∀ w, S w → (execOp a.eval o).run P w = .ok (.value v) w := fun w hw => by
  simp [execOp, ho, hm, hx, h w hw, Result.andThen]
theorem infoAdrE : (Try.prog.info? 48).map (fun i => (i.zero, i.size, i.bytes)) = some (some (.pointer none), 1, 8) := by kernel_rfl
/-- 'append(own, p)' at a step of a region that draws its order -/
theorem step_adr_appendE {w : World} {ops : Array Oper} {o : Oper} {a : Act} {K : Act → World → Prop} {Q : Exit → Act → World → Prop} {E : Prop} (hgd : o.guard = none) (s x : Operand)
    (ho : o.op = .call { callee := .builtin .append, args := #[s, x], argTypes := #[49, 49] })
    (B : Nat) (L : List Addr) (v : Value) (hs : a.eval s = v) (hrow : RowAE B w v L)
    (y : Addr) (ad : Addr) (c' : Nat) (hx : a.eval x = .slice (some ad) 1 c') (hnews : w.cell? ad = some (.pointer (some y)))
    (hlen : L.length + 1 ≤ 1099511627776) (hbase : B ≤ w.heap.size) (q : Nat) (hq : q = L.length + 1)
    (h : ∀ g' c'' w', RowAE B w' (.slice (some ⟨g', 0, none⟩) q c'') (L ++ [y]) → w.grownBy w' v.ownBlock → (some g' = v.ownBlock ∨ g' = w.heap.size) → K (a.put o.dst (.slice (some ⟨g', 0, none⟩) q c'')) w') :
    if Region.wanted o (yielded ops a.tmps) = true then Oper.wp Try.prog o a w K Q else E := by
  have hw : Region.wanted o (yielded ops a.tmps) = true := by simp [Region.wanted, hgd]
  rw [if_pos hw]
  subst hq
  obtain ⟨i0, hi, hz0, hz1, hz2⟩ := info_parts infoAdrE
  obtain ⟨v', w', hr, h2, h3, h4, h5⟩ := run_append_own_at (P := Try.prog) w B 49 o.type 48 i0 (.pointer none) 1 8 Try.underlying49 hi hz0 hz1 hz2 rfl (by decide) v L.length (L.flatMap encA) hrow ad 1 c' [.pointer (some y)] rfl (fun j u hj => by
      cases j with
      | zero => simp at hj; subst hj; exact hnews
      | succ j => simp at hj) (fun u hu => by rw [List.mem_singleton.1 hu]; rfl) (by unfold maxLen; omega) (by omega) hbase
  unfold Oper.wp execOp
  simp only [ho, resolve, invoke, builtin, Sem.run_bind, Sem.run_pure, Result.andThen_ok, List.map_toArray, List.map_cons, List.map_nil, hs, hx, hr]
  rcases h2.2 with ⟨_, h6⟩ | ⟨g', cap', cur, h6, _⟩
  · omega
  · subst h6
    refine h g' cap' w' ?_ h3 ?_
    · unfold RowAE RowR
      rw [List.length_append, List.flatMap_append, List.flatMap_singleton]
      exact h2
    · rcases h5 with h5 | h5
      · exact .inl h5
      · right; simpa [Value.ownBlock] using h5
end Go.Proofs.Ythmjffijhlkgcaa
