/- A region in a loop's body that draws its order and calls nothing: as a region outside of one. -/
import Derived.OrdersIn
import Derived.RangeFuncCalls
import Derived.RangeFuncNested
import Derived.WalkKit
namespace Go.Proofs.YtdchaojgldfagaaDoor
open Go.RowKit
set_option linter.unusedVariables false

/-- Operations that read, reckon or write, and nothing else. -/
def tameB : Op → Bool
  | .load .. => true
  | .store .. => true
  | .move .. => true
  | .binOp .. => true
  | .indexAddr .. => true
  | .assign .. => true
  | _ => false
def Tame : Result Next → Prop
  | .ok (.value _) _ => True
  | .ok .skip _ => True
  | .halt _ _ => True
  | _ => False
theorem tame_value (r : Result Value) : Tame (r.andThen fun a w' => .ok (.value a) w') := by cases r <;> trivial
theorem tame_unit {α : Type} (r : Result α) : Tame (r.andThen fun _ w' => .ok .skip w') := by cases r <;> trivial
theorem tame_exec {P : Program} {o : Oper} {ev : Operand → Value} {w : World} (h : tameB o.op = true) : Tame ((execOp ev o).run P w) := by
  unfold execOp
  cases ho : o.op <;> simp only [ho, tameB] at h <;> first | (exfalso; simp at h; done) | skip
  all_goals simp only [Sem.run_bind, Sem.run_pure]
  all_goals first | exact tame_value _ | exact tame_unit _ | trivial | skip
theorem tame_op {P : Program} {n l : Nat} {ops : Array Oper} {Q : Exit → Act → World → Prop} {i : Nat} {K K' : Act → World → Prop} {a : Act} {w : World} (ht : ∀ (j : Nat) (o : Oper), ops[j]? = some o → tameB o.op = true)
    (hK : ∀ a w, K a w → K' a w) (h : wpOpIn Fence.wide n P ops Q i K a w) : wpOpIn (Fence.wide.inRound l) n P ops Q i K' a w := by
  unfold wpOpIn at h ⊢
  cases hi : ops[i]? with
  | none => simp only [hi] at h; exact hK _ _ h
  | some o =>
    simp only [hi] at h ⊢
    have hto := ht i o hi
    by_cases hw : Region.wanted o (yielded ops a.tmps) = true
    · simp only [hw, if_true] at h ⊢
      unfold Oper.wpIn at h ⊢
      refine ⟨fun _ _ => trivial, ?_⟩
      have h2 := h.2
      have hnd : ∀ c, o.op ≠ .defer c := fun c e => by rw [e] at hto; cases hto
      rw [Oper.semAt_eq _ _ _ hnd] at h2 ⊢
      have ht2 := tame_exec (P := P) (ev := a.eval) (w := w) hto
      generalize (execOp a.eval o).run P w = r at h2 ht2
      cases r with
      | ok x w' => cases x <;> first | exact hK _ _ h2 | exact ht2.elim
      | halt x w' => cases x <;> exact h2
    · simp only [hw, Bool.false_eq_true, if_false] at h ⊢
      exact ⟨fun _ _ => trivial, hK _ _ h.2⟩
theorem tame_any {P : Program} {n l : Nat} {md : Region.Mode} {ops : Array Oper} {Q : Exit → Act → World → Prop} (ht : ∀ (j : Nat) (o : Oper), ops[j]? = some o → tameB o.op = true) : ∀ (fuel : Nat) (listed : Array Bool) (a : Act) (w : World),
    wpAnyIn Fence.wide n P md ops Q fuel listed a w → wpAnyIn (Fence.wide.inRound l) n P md ops Q fuel listed a w
  | 0, _, _, _, h => h
  | fuel + 1, listed, a, w, h => ⟨h.1, fun i hi => tame_op ht (tame_any ht fuel _) (h.2 i hi)⟩
theorem tame_region {P : Program} (k : Nat) {n l : Nat} {ops : Array Oper} {Q : Exit → Act → World → Prop} {id : Nat} {a : Act} {w : World} (hm : P.follows .mixedOrders = true) (ht : (ops.all fun o => tameB o.op) = true)
    (hk : ops.size = k) (h : wpAnyIn Fence.wide n P .any ops Q k (Array.replicate k false) a w.drew) : (Code.region id ops true).wpIn (Fence.wide.inRound l) n P Q a w := by
  subst hk
  exact wpIn_region_any hm (tame_any (fun j o hj => by
    obtain ⟨hlt, rfl⟩ := Array.getElem?_eq_some_iff.1 hj
    exact Array.all_eq_true.1 ht j hlt) _ _ _ _ h)
end Go.Proofs.YtdchaojgldfagaaDoor
