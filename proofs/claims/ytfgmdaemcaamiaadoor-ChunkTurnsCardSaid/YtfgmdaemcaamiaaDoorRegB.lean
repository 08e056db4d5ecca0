/- A region that draws its order, walked in the order of its text: what is read stays as it is, for nothing in it turns memory that was there. -/
import Derived.Test.YtfgmdaemcaamiaaDoorMem
import Derived.OrdersHeld
import Derived.Lib.Hide
namespace Go.Proofs.YtfgmdaemcaamiaaDoor
open Go.RowKit

section
variable {P : Program} {Q : Exit → Act → World → Prop} {ops R : Array Oper}

theorem wpAnyH_mono {S S' : World → Prop} (hSS : ∀ w, S' w → S w) : ∀ (fuel : Nat) (listed : Array Bool) (a : Act) (w : World), wpAnyH P .any ops Q S' fuel listed a w → wpAnyH P .any ops Q S fuel listed a w
  | 0, _, _, _, h => h
  | fuel + 1, _, _, _, h => ⟨h.1, fun i hi => wpOp_mono (fun a' w' h' => ⟨hSS _ h'.1, wpAnyH_mono hSS fuel _ a' w' h'.2⟩) (h.2 i hi)⟩

/-- What is left of the region, from world w on: all that comes leaves alone what is there. -/
def wpB (P : Program) (R : Array Oper) (Q : Exit → Act → World → Prop) (fuel : Nat) (listed : Array Bool) (a : Act) (w : World) : Prop :=
  wpAnyH P .any R Q (fun W => Below w.heap.size w W) fuel listed a w

theorem wpB_start {id : Nat} {a : Act} {w : World} (n : Nat) (hm : P.follows .mixedOrders = true) (hn : ops.size = n)
    (h : ∀ R : Array Oper, Hid (R = ops) → wpB P R Q n (Array.replicate n false) a w.drew) : (Code.region id ops true).wp P Q a w := by
  have h' := h ops rfl
  subst hn
  exact wp_region_held (S := fun W => Below w.drew.heap.size w.drew W) hm h'
theorem wpB_take {i : Nat} {o : Oper} {v : Value} {fuel : Nat} {listed : Array Bool} {a : Act} {w : World} (hR : Hid (R = ops)) (hi : ops[i]? = some o)
    (hs : Region.noSelect ops = true) (hf : Region.free .any ops listed i = true) (hr : (Region.ready .any ops listed).contains i = true)
    (hQ : ∀ c a w, Q (.panic c) (a.put o.dst v) w → Q (.panic c) a w) (hw : Region.wanted o (yielded ops a.tmps) = true)
    (hv : ∀ W, Below w.heap.size w W → (execOp a.eval o).run P W = .ok (.value v) W)
    (h : wpB P R Q fuel (listed.setIfInBounds i true) (a.put o.dst v) w) : wpB P R Q (fuel + 1) listed a w := by
  have e : R = ops := hR
  subst e
  exact wpAnyH_take hi hs hf hr hQ (.inl ⟨hw, hv⟩) (Below.refl _ _) h
theorem wpB_skip {i : Nat} {o : Oper} {fuel : Nat} {listed : Array Bool} {a : Act} {w : World} (hR : Hid (R = ops)) (hi : ops[i]? = some o)
    (hs : Region.noSelect ops = true) (hf : Region.free .any ops listed i = true) (hr : (Region.ready .any ops listed).contains i = true)
    (hQ : ∀ c a w, Q (.panic c) (a.put o.dst undef) w → Q (.panic c) a w) (hw : Region.wanted o (yielded ops a.tmps) = false)
    (h : wpB P R Q fuel (listed.setIfInBounds i true) (a.put o.dst undef) w) : wpB P R Q (fuel + 1) listed a w := by
  have e : R = ops := hR
  subst e
  exact wpAnyH_take hi hs hf hr hQ (.inr ⟨hw, rfl⟩) (Below.refl _ _) h
/-- The only operation that may come now is a call. -/
theorem wpB_call {i : Nat} {o : Oper} {f : FuncId} {args : Array Value} {fuel : Nat} {listed : Array Bool} {a : Act} {w : World} (hR : Hid (R = ops)) (hi : ops[i]? = some o)
    (hr : Region.ready .any ops listed = [i]) (hw : Region.wanted o (yielded ops a.tmps) = true)
    (hv : (execOp a.eval o).run P w = .ok (.enter f args) w)
    (h : Calls P f args w fun e w' => ∃ v, e = .returned v ∧ Below w.heap.size w w' ∧ wpB P R Q fuel (listed.setIfInBounds i true) (a.put o.dst v) w') : wpB P R Q (fuel + 1) listed a w := by
  have e : R = ops := hR
  subst e
  refine wpAnyH_all hr (by simp) ?_
  intro j hj
  obtain rfl : j = i := by simpa using hj
  unfold wpOp
  simp only [hi, hw, if_true]
  refine .inl ?_
  unfold Oper.wp
  rw [hv]
  simp only [Oper.upon]
  refine h.mono fun e w' h' => ?_
  obtain ⟨v, rfl, hb, h''⟩ := h'
  exact ⟨hb, wpAnyH_mono (fun W hW => hb.trans (hW.mono hb.size)) _ _ _ _ h''⟩
theorem wpB_done {fuel : Nat} {listed : Array Bool} {a : Act} {w : World} (hR : Hid (R = ops)) (hr : Region.ready .any ops listed = []) (h : Q .normal a w) : wpB P R Q fuel listed a w := by
  have e : R = ops := hR
  subst e
  exact wpAnyH_done hr h fuel

/-- One operation, by a law on lists of operations. -/
theorem wpOp_of_list {K : Act → World → Prop} {i : Nat} {o : Oper} {a : Act} {w : World} (hi : ops[i]? = some o) (hg : o.guard = none)
    (h : wpList P #[] (fun e a' w' => match e with | .normal => K a' w' | x => Q x a' w') [o] a w) : wpOp P ops Q i K a w := by
  unfold wpOp
  have hw : ∀ R, Region.wanted o (yielded R a.tmps) = true := fun R => by simp [Region.wanted, hg]
  simp only [hi, hw, if_true]
  unfold wpList at h
  rw [if_pos (hw _)] at h
  rcases h with h | h
  · refine .inl ?_
    unfold Oper.wp at *
    generalize (execOp a.eval o).run P w = r at *
    cases r with
    | ok n w' => cases n <;> exact h
    | halt x w' => cases x <;> exact h
  · exact .inr h

/-- What is left of the region; S holds behind each operation. -/
def wpS (P : Program) (R : Array Oper) (Q : Exit → Act → World → Prop) (S : World → Prop) (fuel : Nat) (listed : Array Bool) (a : Act) (w : World) : Prop := wpAnyH P .any R Q S fuel listed a w
variable {S : World → Prop}
theorem wpS_start {id : Nat} {a : Act} {w : World} (S : World → Prop) (n : Nat) (hm : P.follows .mixedOrders = true) (hn : ops.size = n)
    (h : ∀ R : Array Oper, Hid (R = ops) → wpS P R Q S n (Array.replicate n false) a w.drew) : (Code.region id ops true).wp P Q a w := by
  have h' := h ops rfl
  subst hn
  exact wp_region_held hm h'
theorem wpS_take {i : Nat} {o : Oper} {v : Value} {fuel : Nat} {listed : Array Bool} {a : Act} {w : World} (hR : Hid (R = ops)) (hi : ops[i]? = some o)
    (hs : Region.noSelect ops = true) (hf : Region.free .any ops listed i = true) (hr : (Region.ready .any ops listed).contains i = true)
    (hQ : ∀ c a w, Q (.panic c) (a.put o.dst v) w → Q (.panic c) a w) (hw : Region.wanted o (yielded ops a.tmps) = true) (hS : S w)
    (hv : ∀ W, S W → (execOp a.eval o).run P W = .ok (.value v) W)
    (h : wpS P R Q S fuel (listed.setIfInBounds i true) (a.put o.dst v) w) : wpS P R Q S (fuel + 1) listed a w := by
  have e : R = ops := hR
  subst e
  exact wpAnyH_take hi hs hf hr hQ (.inl ⟨hw, hv⟩) hS h
/-- One that comes next: by a law on lists. -/
def NextS (P : Program) (R : Array Oper) (Q : Exit → Act → World → Prop) (S : World → Prop) (fuel : Nat) (listed : Array Bool) (i : Nat) (o : Oper) (a : Act) (w : World) : Prop :=
  ∀ K : Act → World → Prop, (∀ a' w', S w' → wpS P R Q S fuel (listed.setIfInBounds i true) a' w' → K a' w') → wpList P #[] (fun e a' w' => match e with | .normal => K a' w' | x => Q x a' w') [o] a w
theorem wpS_one {i : Nat} {o : Oper} {fuel : Nat} {listed : Array Bool} {a : Act} {w : World} (hR : Hid (R = ops)) (hi : ops[i]? = some o) (hr : Region.ready .any ops listed = [i]) (hg : o.guard = none)
    (h : NextS P R Q S fuel listed i o a w) : wpS P R Q S (fuel + 1) listed a w := by
  have e : R = ops := hR
  subst e
  refine wpAnyH_all hr (by simp) ?_
  intro j hj
  obtain rfl : j = i := by simpa using hj
  exact wpOp_of_list hi hg (h _ (fun a' w' h1 h2 => ⟨h1, h2⟩))
theorem wpS_two {i k : Nat} {o u : Oper} {fuel : Nat} {listed : Array Bool} {a : Act} {w : World} (hR : Hid (R = ops)) (hi : ops[i]? = some o) (hk : ops[k]? = some u) (hr : Region.ready .any ops listed = [i, k]) (hg : o.guard = none) (hgk : u.guard = none)
    (h : NextS P R Q S fuel listed i o a w) (h' : NextS P R Q S fuel listed k u a w) : wpS P R Q S (fuel + 1) listed a w := by
  have e : R = ops := hR
  subst e
  refine wpAnyH_all hr (by simp) ?_
  intro j hj
  simp only [List.mem_cons, List.not_mem_nil, or_false] at hj
  rcases hj with rfl | rfl
  · exact wpOp_of_list hi hg (h _ (fun a' w' h1 h2 => ⟨h1, h2⟩))
  · exact wpOp_of_list hk hgk (h' _ (fun a' w' h1 h2 => ⟨h1, h2⟩))
theorem wpS_done {fuel : Nat} {listed : Array Bool} {a : Act} {w : World} (hR : Hid (R = ops)) (hr : Region.ready .any ops listed = []) (h : Q .normal a w) : wpS P R Q S fuel listed a w := by
  have e : R = ops := hR
  subst e
  exact wpAnyH_done hr h fuel
end
end Go.Proofs.YtfgmdaemcaamiaaDoor
