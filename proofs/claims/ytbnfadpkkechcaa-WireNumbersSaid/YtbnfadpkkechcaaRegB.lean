/- A region that draws its order, walked in the order of its text: what is read stays as it is, for nothing in it turns memory that was there. -/
import Derived.Test.YtbnfadpkkechcaaMem
import Derived.OrdersHeld
import Derived.Lib.Hide
namespace Go.Proofs.Ytbnfadpkkechcaa
open Go.RowKit

section
variable {P : Program} {Q : Exit → Act → World → Prop} {ops R : Array Oper}

theorem wpAnyH_mono {S S' : World → Prop} (hSS : ∀ w, S' w → S w) : ∀ (fuel : Nat) (listed : Array Bool) (a : Act) (w : World), wpAnyH P .any ops Q S' fuel listed a w → wpAnyH P .any ops Q S fuel listed a w
  | 0, _, _, _, h => h
  | fuel + 1, _, _, _, h => ⟨h.1, fun i hi => wpOp_mono (fun a' w' h' => ⟨hSS _ h'.1, wpAnyH_mono hSS fuel _ a' w' h'.2⟩) (h.2 i hi)⟩

/-- What is left of the region, from world w on: all that comes leaves alone what is there. -/
def wpB (P : Program) (R : Array Oper) (Q : Exit → Act → World → Prop) (fuel : Nat) (listed : Array Bool) (a : Act) (w : World) : Prop :=
  wpAnyH P .any R Q (fun W => Below w.heap.size w W) fuel listed a w

theorem wpB_start {id : Nat} {a : Act} {w : World} (n : Nat) (hm : P.follows .mixedOrders = true) (hn : ops.size = n)
    (h : ∀ R : Array Oper, Hid (R = ops) → wpB P R Q n (Array.replicate n false) a w.drew) : (Code.region id ops true).wp P Q a w := by
  have h' := h ops rfl
  subst hn
  exact wp_region_held (S := fun W => Below w.drew.heap.size w.drew W) hm h'
theorem wpB_take {i : Nat} {o : Oper} {v : Value} {fuel : Nat} {listed : Array Bool} {a : Act} {w : World} (hR : Hid (R = ops)) (hi : ops[i]? = some o)
    (hs : Region.noSelect ops = true) (hf : Region.free .any ops listed i = true) (hr : (Region.ready .any ops listed).contains i = true)
    (hQ : ∀ c a w, Q (.panic c) (a.put o.dst v) w → Q (.panic c) a w) (hw : Region.wanted o (yielded ops a.tmps) = true)
    (hv : ∀ W, Below w.heap.size w W → (execOp a.eval o).run P W = .ok (.value v) W)
    (h : wpB P R Q fuel (listed.setIfInBounds i true) (a.put o.dst v) w) : wpB P R Q (fuel + 1) listed a w := by
  have e : R = ops := hR
  subst e
  exact wpAnyH_take hi hs hf hr hQ (.inl ⟨hw, hv⟩) (Below.refl _ _) h
theorem wpB_skip {i : Nat} {o : Oper} {fuel : Nat} {listed : Array Bool} {a : Act} {w : World} (hR : Hid (R = ops)) (hi : ops[i]? = some o)
    (hs : Region.noSelect ops = true) (hf : Region.free .any ops listed i = true) (hr : (Region.ready .any ops listed).contains i = true)
    (hQ : ∀ c a w, Q (.panic c) (a.put o.dst undef) w → Q (.panic c) a w) (hw : Region.wanted o (yielded ops a.tmps) = false)
    (h : wpB P R Q fuel (listed.setIfInBounds i true) (a.put o.dst undef) w) : wpB P R Q (fuel + 1) listed a w := by
  have e : R = ops := hR
  subst e
  exact wpAnyH_take hi hs hf hr hQ (.inr ⟨hw, rfl⟩) (Below.refl _ _) h
/-- The only operation that may come now is a call. -/
theorem wpB_call {i : Nat} {o : Oper} {f : FuncId} {args : Array Value} {fuel : Nat} {listed : Array Bool} {a : Act} {w : World} (hR : Hid (R = ops)) (hi : ops[i]? = some o)
    (hr : Region.ready .any ops listed = [i]) (hw : Region.wanted o (yielded ops a.tmps) = true)
    (hv : (execOp a.eval o).run P w = .ok (.enter f args) w)
    (h : Calls P f args w fun e w' => ∃ v, e = .returned v ∧ Below w.heap.size w w' ∧ wpB P R Q fuel (listed.setIfInBounds i true) (a.put o.dst v) w') : wpB P R Q (fuel + 1) listed a w := by
  have e : R = ops := hR
  subst e
  refine wpAnyH_all hr (by simp) ?_
  intro j hj
  obtain rfl : j = i := by simpa using hj
  unfold wpOp
  simp only [hi, hw, if_true]
  refine .inl ?_
  unfold Oper.wp
  rw [hv]
  simp only [Oper.upon]
  refine h.mono fun e w' h' => ?_
  obtain ⟨v, rfl, hb, h''⟩ := h'
  exact ⟨hb, wpAnyH_mono (fun W hW => hb.trans (hW.mono hb.size)) _ _ _ _ h''⟩
theorem wpB_done {fuel : Nat} {listed : Array Bool} {a : Act} {w : World} (hR : Hid (R = ops)) (hr : Region.ready .any ops listed = []) (h : Q .normal a w) : wpB P R Q fuel listed a w := by
  have e : R = ops := hR
  subst e
  exact wpAnyH_done hr h fuel
end
end Go.Proofs.Ytbnfadpkkechcaa
