/- REGIONS THAT DRAW THEIR ORDER, IN A ROUND: what is shown of them as everywhere holds in a round, where no operation calls, defers or waits. Generic; no function is spoken of. -/
import Derived.Test.YtdkpleghpnflhaaBase
import Derived.OrdersIn
import Derived.OrdersHeld
import Derived.Deep.RegionHeld
import Derived.OwnWalkIn
set_option linter.unusedVariables false
set_option linter.unusedSimpArgs false
namespace Go.Proofs.Ytdkpleghpnflhaa
open Go Go.RowKit

/-- a value, nothing, or a halt -/
def quietR : Result Next → Prop
  | .ok (.value _) _ => True
  | .ok .skip _ => True
  | .halt _ _ => True
  | _ => False
/-- an operation that ends so, about to call nothing -/
def Mild (P : Program) (o : Oper) : Prop := (∀ w ρ, o.about P w ρ = none) ∧ (∀ c, o.op ≠ .defer c) ∧ ∀ ρ w, quietR ((execOp ρ o).run P w)
section
variable {P : Program} {o : Oper}
theorem quiet_v (s : Sem Value) (w : World) : quietR ((do pure (Next.value (← s)) : Sem Next).run P w) := by
  simp only [Sem.run_bind]
  cases s.run P w <;> simp [Result.andThen, quietR]
theorem quiet_u (s : Sem Unit) (w : World) : quietR ((do s; pure Next.skip : Sem Next).run P w) := by
  simp only [Sem.run_bind]
  cases s.run P w <;> simp [Result.andThen, quietR]
/-- which operations are so by their kind -/
def mildB : Op → Bool
  | .move _ | .assign _ | .load _ _ | .store _ _ _ | .alloc _ | .box _ _ | .indexAddr _ _ _ | .fieldAddr _ _ _ | .lookup _ _ _ _ | .unOp _ _ _ | .binOp _ _ _ _ _ | .buildSlice _ _ _ | .extract _ _ => true
  | .call { callee := .builtin .append, .. } => true
  | .call { callee := .builtin .len, .. } => true
  | _ => false
theorem mild_of (h : mildB o.op = true) : Mild P o := by
  obtain ⟨dst, op, ty, ps, af, gd⟩ := o
  dsimp only at h
  unfold mildB at h
  split at h
  any_goals (cases h; done)
  case h_14 =>
    refine ⟨fun w ρ => by simp [Oper.about, resolve, Target.leads, Sem.run_pure], (fun c e => by cases e), fun ρ w => ?_⟩
    simp only [execOp, resolve, invoke, Sem.run_bind, Sem.run_pure, Result.andThen]
    exact quiet_v _ _
  case h_15 =>
    refine ⟨fun w ρ => by simp [Oper.about, resolve, Target.leads, Sem.run_pure], (fun c e => by cases e), fun ρ w => ?_⟩
    simp only [execOp, resolve, invoke, Sem.run_bind, Sem.run_pure, Result.andThen]
    exact quiet_v _ _
  all_goals refine ⟨fun w ρ => rfl, (fun c e => by cases e), fun ρ w => ?_⟩
  all_goals first
    | exact quiet_v _ _
    | exact quiet_u _ _
    | (simp [execOp, Sem.run_pure, quietR])
variable {F : Fence} {n : Nat} {ops : Array Oper} {Q : Exit → Act → World → Prop} {md : Region.Mode}
theorem wpOpIn_of_wpOp {i : Nat} {K : Act → World → Prop} {a : Act} {w : World} (hp : ∀ o, ops[i]? = some o → Mild P o) (hL : ¬ LetsOut Q) (h : wpOp P ops Q i K a w) : wpOpIn F n P ops Q i K a w := by
  unfold wpOp at h
  unfold wpOpIn
  cases ho : ops[i]? with
  | none => rw [ho] at h; exact h
  | some o =>
    rw [ho] at h
    simp only at h ⊢
    obtain ⟨h1, h2, h3⟩ := hp o ho
    split
    · rename_i hw
      rw [if_pos hw] at h
      rcases h with h | h
      · unfold Oper.wp at h
        unfold Oper.wpIn
        refine ⟨(fun f hf => by rw [h1] at hf; cases hf), ?_⟩
        rw [Oper.semAt_plain F _ _ h2]
        have h3 := h3 a.eval w
        generalize (execOp a.eval o).run P w = r at h h3
        cases r with
        | ok x w' =>
          cases x <;> simp only [Oper.upon, Oper.uponIn, quietR] at h h3 ⊢ <;> first | exact h | exact h3.elim
        | halt x w' => cases x <;> simp only [Oper.upon, Oper.uponIn] at h ⊢ <;> exact h
      · exact absurd h.2 hL
    · rename_i hw
      rw [if_neg hw] at h
      exact ⟨(fun f hf => by rw [h1] at hf; cases hf), h⟩
theorem wpAnyIn_of_wpAny (hp : ∀ (i : Nat) (o : Oper), ops[i]? = some o → Mild P o) (hL : ¬ LetsOut Q) : ∀ (fuel : Nat) (listed : Array Bool) (a : Act) (w : World), wpAny P md ops Q fuel listed a w → wpAnyIn F n P md ops Q fuel listed a w
  | 0, _, _, _, h => h
  | fuel + 1, _, _, _, h => ⟨h.1, fun i hi => wpOpIn_mono (fun a' w' h' => wpAnyIn_of_wpAny hp hL fuel _ a' w' h') (wpOpIn_of_wpOp (hp i) hL (h.2 i hi))⟩
def allMild (ops : Array Oper) : Bool := ops.toList.all fun o => mildB o.op
theorem allMild_spec (h : allMild ops = true) (i : Nat) (o : Oper) (ho : ops[i]? = some o) : Mild P o := by
  unfold allMild at h
  rw [List.all_eq_true] at h
  exact mild_of (h o (by rw [← Array.getElem?_toList] at ho; exact List.mem_of_getElem? ho))
/-- a drawn region without calls, in a round -/
theorem wpIn_region_held {S : World → Prop} {id : Nat} {a : Act} {w : World} (hM : allMild ops = true) (hL : ¬ LetsOut Q) (hm : P.follows .mixedOrders = true) (hS : S w.drew)
    (h : S w.drew → wpAnyH P .any ops Q S ops.size (Array.replicate ops.size false) a w.drew) : (Code.region id ops true).wpIn F n P Q a w :=
  wpIn_region_any hm (wpAnyIn_of_wpAny (fun i o ho => allMild_spec hM i o ho) hL _ _ _ _ (wpAny_of_held _ _ _ _ (h hS)))
end
end Go.Proofs.Ytdkpleghpnflhaa
