/- A region that draws its order within a loop's body over an iterator: walked as one outside of a loop. -/
import Derived.OrdersIn
import Derived.RangeFuncCalls
import Derived.RangeFuncNested
import Derived.WalkKit
import Derived.StillTailTactics
import Derived.Test.YtfgmdaemcaamiaaDoorRegB
namespace Go.Proofs.YtfgmdaemcaamiaaDoor
open Go.RowKit
set_option linter.unusedVariables false

section
variable {P : Program} {ops : Array Oper} {Q : Exit → Act → World → Prop} {n l : Nat}

def noDefer : Op → Bool
  | .defer _ => false
  | _ => true
theorem opIn_of_op {i : Nat} {K K' : Act → World → Prop} {a : Act} {w : World} (hno : ¬ LetsOut Q) (ht : ∀ (j : Nat) (o : Oper), ops[j]? = some o → noDefer o.op = true)
    (hK : ∀ a w, K a w → K' a w) (h : wpOp P ops Q i K a w) : wpOpIn (Fence.wide.inRound l) n P ops Q i K' a w := by
  unfold wpOp at h
  unfold wpOpIn
  cases hi : ops[i]? with
  | none => simp only [hi] at h; exact hK _ _ h
  | some o =>
    simp only [hi] at h ⊢
    have hto := ht i o hi
    by_cases hw : Region.wanted o (yielded ops a.tmps) = true
    · simp only [hw, if_true] at h ⊢
      have h2 : o.wp P a w K Q := by
        rcases h with h | ⟨_, h⟩
        · exact h
        · exact absurd h hno
      unfold Oper.wp at h2
      unfold Oper.wpIn
      refine ⟨fun _ _ => trivial, ?_⟩
      have hnd : ∀ c, o.op ≠ .defer c := fun c e => by rw [e] at hto; cases hto
      rw [Oper.semAt_eq _ _ _ hnd]
      generalize (execOp a.eval o).run P w = r at h2
      cases r with
      | ok x w' =>
        cases x with
        | value v => exact hK _ _ h2
        | skip => exact hK _ _ h2
        | defer d => exact hK _ _ h2
        | enter f args =>
          refine ⟨fun h => (by cases h), ?_⟩
          refine ((CallsIn.inRound l (callsIn_wide.2 h2)).mono ?_)
          rintro (v | c | _) w2 h3
          · exact hK _ _ h3
          · exact h3
          · exact h3
        | row nm args =>
          refine ⟨fun h => (by cases h), fun c cs _ => ?_⟩
          obtain ⟨v, w2, hr, hs⟩ := h2 c cs
          exact ⟨v, w2, hK _ _ hr, stepsIn_wide.2 hs⟩
        | _ => exact h2.elim
      | halt x w' => cases x <;> exact h2
    · simp only [hw, Bool.false_eq_true, if_false] at h ⊢
      exact ⟨fun _ _ => trivial, hK _ _ h⟩
theorem anyIn_of_any {md : Region.Mode} (hno : ¬ LetsOut Q) (ht : ∀ (j : Nat) (o : Oper), ops[j]? = some o → noDefer o.op = true) : ∀ (fuel : Nat) (listed : Array Bool) (a : Act) (w : World),
    wpAny P md ops Q fuel listed a w → wpAnyIn (Fence.wide.inRound l) n P md ops Q fuel listed a w
  | 0, _, _, _, h => h
  | fuel + 1, listed, a, w, h => ⟨h.1, fun i hi => opIn_of_op hno ht (anyIn_of_any hno ht fuel _) (h.2 i hi)⟩
theorem region_in {id k : Nat} {a : Act} {w : World} (S : World → Prop) (hm : P.follows .mixedOrders = true) (hno : ¬ LetsOut Q) (ht : (ops.all fun o => noDefer o.op) = true) (hk : ops.size = k)
    (h : ∀ R : Array Oper, Hid (R = ops) → wpS P R Q S k (Array.replicate k false) a w.drew) : (Code.region id ops true).wpIn (Fence.wide.inRound l) n P Q a w := by
  have h' := h ops rfl
  subst hk
  exact wpIn_region_any hm (anyIn_of_any hno (fun j o hj => by
    obtain ⟨hlt, rfl⟩ := Array.getElem?_eq_some_iff.1 hj
    exact Array.all_eq_true.1 ht j hlt) _ _ _ _ (wpAny_of_held _ _ _ _ h'))
/-- What only reads, and quiet calls, ahead of the last operations, which come in the order of the text. -/
theorem region_in_tail {id m : Nat} {a : Act} {w : World} {os : List Oper} (hm : P.follows .mixedOrders = true) (hno : ¬ LetsOut Q) (ht : (os.toArray.all fun o => noDefer o.op) = true) (hB : Region.lexTailB .any os.toArray m = true)
    (h : wpStill P os.toArray w.drew (fun a' => wpList P os.toArray Q (os.drop m) a' w.drew) (os.take m) a) : (Code.region id os.toArray true).wpIn (Fence.wide.inRound l) n P Q a w := by
  have hB2 := hB
  simp only [Region.lexTailB, Bool.and_eq_true, decide_eq_true_eq] at hB2
  have hlt : m < os.length := by simpa using hB2.1.1.1.2
  have hsz : os.toArray.size - m = (os.drop m).length := by simp
  have start : HeadInv .any os.toArray m (Array.replicate os.toArray.size false) := by
    refine ⟨by simp, fun j oj _ hl => ?_, fun t _ hk => ?_⟩
    · rw [getD_replicate_false] at hl; cases hl
    · exact getD_in (by simpa using hk) (getD_replicate_false _ _)
  have hlen : (os.take m).length = m := by rw [List.length_take]; omega
  have head := wpAnyL_lex (md := .any) (g := os.toArray.size - m) hB2.1.1.1.1 hB2.1.1.2 hB2.1.2 hB2.1.1.1.2 (os.take m) 0 _ a
    (fun j hj => by rw [hlen] at hj; simp [hj]) (by rw [hlen, Nat.zero_add]) start (by rw [hlen]; exact hB2.2) h
  have all : wpAny P .any os.toArray Q os.toArray.size (Array.replicate os.toArray.size false) a w.drew := by
    have e : os.toArray.size = (os.take m).length + (os.toArray.size - m) := by rw [hlen]; simp; omega
    rw [e]
    have e2 : (os.take m).length + (os.toArray.size - m) = os.toArray.size := e.symm
    refine wpAny_of_head (fun listed a' hL => ?_) _ _ _ (by rw [e2]; exact head)
    have := wpAny_of_seq (md := .any) (Q' := Q) (os.drop m) m listed a' w.drew (fun j => by simp [List.getElem?_drop]) (by rw [← hsz]; exact hL.1) hL.2
    rw [← hsz] at this
    exact this
  exact wpIn_region_any hm (anyIn_of_any hno (fun j o hj => by
    obtain ⟨hlt, rfl⟩ := Array.getElem?_eq_some_iff.1 hj
    exact Array.all_eq_true.1 ht j hlt) _ _ _ _ all)
variable {R : Array Oper} {S : World → Prop}
/-- One step of what is left of the region. -/
def StepS (P : Program) (R : Array Oper) (Q : Exit → Act → World → Prop) (S : World → Prop) (fuel : Nat) (listed : Array Bool) (a : Act) (w : World) (i : Nat) : Prop :=
  wpOp P R Q i (fun a' w' => S w' ∧ wpS P R Q S fuel (listed.setIfInBounds i true) a' w') a w
theorem stepS_list {i : Nat} {o : Oper} {fuel : Nat} {listed : Array Bool} {a : Act} {w : World} (hR : Hid (R = ops)) (hi : ops[i]? = some o) (hg : o.guard = none)
    (h : NextS P R Q S fuel listed i o a w) : StepS P R Q S fuel listed a w i := by
  have e : R = ops := hR
  subst e
  exact wpOp_of_list hi hg (h _ (fun a' w' h1 h2 => ⟨h1, h2⟩))
theorem stepS_call {i : Nat} {o : Oper} {f : FuncId} {args : Array Value} {fuel : Nat} {listed : Array Bool} {a : Act} {w : World} (hR : Hid (R = ops)) (hi : ops[i]? = some o)
    (hw : Region.wanted o (yielded ops a.tmps) = true) (hv : (execOp a.eval o).run P w = .ok (.enter f args) w)
    (h : Calls P f args w fun e w' => ∃ v, e = .returned v ∧ S w' ∧ wpS P R Q S fuel (listed.setIfInBounds i true) (a.put o.dst v) w') : StepS P R Q S fuel listed a w i := by
  have e : R = ops := hR
  subst e
  unfold StepS wpOp
  simp only [hi, hw, if_true]
  refine .inl ?_
  unfold Oper.wp
  rw [hv]
  simp only [Oper.upon]
  refine h.mono fun e w' h' => ?_
  obtain ⟨v, rfl, hb, h''⟩ := h'
  exact ⟨hb, h''⟩
theorem stepS_val {i : Nat} {o : Oper} {v : Value} {fuel : Nat} {listed : Array Bool} {a : Act} {w : World} (hR : Hid (R = ops)) (hi : ops[i]? = some o)
    (hw : Region.wanted o (yielded ops a.tmps) = true) (hv : (execOp a.eval o).run P w = .ok (.value v) w) (hS : S w) (h : wpS P R Q S fuel (listed.setIfInBounds i true) (a.put o.dst v) w) : StepS P R Q S fuel listed a w i := by
  have e : R = ops := hR
  subst e
  unfold StepS wpOp
  simp only [hi, hw, if_true]
  refine .inl ?_
  unfold Oper.wp
  rw [hv]
  exact ⟨hS, h⟩
theorem wpS_step1 {i : Nat} {fuel : Nat} {listed : Array Bool} {a : Act} {w : World} (hR : Hid (R = ops)) (hr : Region.ready .any ops listed = [i]) (h : StepS P R Q S fuel listed a w i) : wpS P R Q S (fuel + 1) listed a w := by
  have e : R = ops := hR
  subst e
  refine wpAnyH_all hr (by simp) ?_
  intro j hj
  obtain rfl : j = i := by simpa using hj
  exact h
theorem wpS_step2 {i k : Nat} {fuel : Nat} {listed : Array Bool} {a : Act} {w : World} (hR : Hid (R = ops)) (hr : Region.ready .any ops listed = [i, k]) (h : StepS P R Q S fuel listed a w i) (h' : StepS P R Q S fuel listed a w k) : wpS P R Q S (fuel + 1) listed a w := by
  have e : R = ops := hR
  subst e
  refine wpAnyH_all hr (by simp) ?_
  intro j hj
  simp only [List.mem_cons, List.not_mem_nil, or_false] at hj
  rcases hj with rfl | rfl
  · exact h
  · exact h'
theorem wpS_step3 {i k m : Nat} {fuel : Nat} {listed : Array Bool} {a : Act} {w : World} (hR : Hid (R = ops)) (hr : Region.ready .any ops listed = [i, k, m]) (h : StepS P R Q S fuel listed a w i) (h' : StepS P R Q S fuel listed a w k) (h'' : StepS P R Q S fuel listed a w m) : wpS P R Q S (fuel + 1) listed a w := by
  have e : R = ops := hR
  subst e
  refine wpAnyH_all hr (by simp) ?_
  intro j hj
  simp only [List.mem_cons, List.not_mem_nil, or_false] at hj
  rcases hj with rfl | rfl | rfl
  · exact h
  · exact h'
  · exact h''
end
end Go.Proofs.YtfgmdaemcaamiaaDoor
