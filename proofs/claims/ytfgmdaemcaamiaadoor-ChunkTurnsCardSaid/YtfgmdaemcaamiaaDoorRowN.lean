/- A struct stored into the middle of a block: laws, outside and inside of a fence. -/
import Derived.Test.YtfgmdaemcaamiaaDoorMem
import Derived.Deep.MidRow
import Derived.RangeFuncFrom
import Derived.OwnWalkIn
import Derived.TacticsInMore
namespace Go.Proofs.YtfgmdaemcaamiaaDoor
open Go.RowKit
set_option linter.unusedVariables false

/-- What stands behind a store of vs from place o on. -/
def setN : List Value → Nat → List Value → List Value
  | cs, _, [] => cs
  | cs, o, v :: vs => setN (cs.set o v) (o + 1) vs
theorem setN_len : ∀ (vs cs : List Value) (o : Nat), (setN cs o vs).length = cs.length
  | [], _, _ => rfl
  | v :: vs, cs, o => by rw [setN, setN_len vs, List.length_set]
theorem Blk.storesN {g : Nat} {t : TypeId} : ∀ (vs cs : List Value) (o : Nat) (w : World), Blk w g t cs → Blk (w.setCells g o vs) g t (setN cs o vs)
  | [], _, _, _, h => h
  | v :: vs, cs, o, w, h => Blk.storesN vs _ (o + 1) _ (h.store o v)
theorem Below.storesN {B g : Nat} {w0 : World} (hg : B ≤ g) : ∀ (vs : List Value) (o : Nat) (w : World), Below B w0 w → Below B w0 (w.setCells g o vs)
  | [], _, _, h => h
  | v :: vs, o, w, h => Below.storesN hg vs (o + 1) _ (h.setCell hg v)
theorem KeepsOthers.storesN {g : Nat} {w0 : World} : ∀ (vs : List Value) (o : Nat) (w : World), KeepsOthers w0 w → KeepsOthers w0 (w.setCells g o vs)
  | [], _, _, h => h
  | v :: vs, o, w, h => KeepsOthers.storesN vs (o + 1) _ (h.trans (KeepsOthers.setCell w ⟨g, o, none⟩ v))
theorem heap_storesN {g k : Nat} (hk : k ≠ g) : ∀ (vs : List Value) (o : Nat) (w : World), (w.setCells g o vs).heap[k]? = w.heap[k]?
  | [], _, _ => rfl
  | v :: vs, o, w => (heap_storesN hk vs (o + 1) _).trans (Below.heap_setCell w ⟨g, o, none⟩ v k hk)
theorem size_storesN {g : Nat} : ∀ (vs : List Value) (o : Nat) (w : World), (w.setCells g o vs).heap.size = w.heap.size
  | [], _, _ => rfl
  | v :: vs, o, w => (size_storesN vs (o + 1) _).trans (by simp [World.setCell])
theorem Blk.apartN {g k : Nat} {t : TypeId} {cs : List Value} {w : World} (h : Blk w k t cs) (hk : k ≠ g) (vs : List Value) (o : Nat) : Blk (w.setCells g o vs) k t cs := (heap_storesN hk vs o w).trans h
theorem thereN {w : World} {g i n : Nat} {t : TypeId} {old : List Value} (hg : Blk w g t old) (hold : i + n ≤ old.length) : w.there g i n := fun j hj => ⟨by rw [hg.at_, List.getElem?_eq_getElem (show i + j < old.length by omega)]; rfl, hg.free _⟩
theorem st_midN {ops : Array Oper} {rest : List Oper} {o : Oper} {a : Act} {Q : Exit → Act → World → Prop} {w : World} (hgd : o.guard = none) (ty : TypeId) (x y : Operand) (ho : o.op = .store ty x y) (n : Nat)
    (hi : (Tryd.prog.info? ty).map (·.size) = some n) (g i : Nat) (t : TypeId) (old cs : List Value) (hx : a.eval x = .pointer (some ⟨g, i, none⟩)) (hy : a.eval y = .agg cs.toArray) (hg : Blk w g t old) (hl : cs.length = n) (hold : i + n ≤ old.length)
    (h1 : ∀ v ∈ cs, v.oneCell' = true)
    (h : wpList Tryd.prog ops Q rest (a.put o.dst undef) (w.setCells g i cs)) : wpList Tryd.prog ops Q (o :: rest) a w :=
  wpList_store_mid hgd ty x y ho g i cs.toArray hx hy (by have := thereN (i := i) (n := n) hg hold; simpa [hl] using this) (by rw [hi, ← hl]; simp) (all_oneCell_toArray h1) h
theorem st_midI {F : Fence} {m : Nat} {ops : Array Oper} {rest : List Oper} {o : Oper} {a : Act} {Q : Exit → Act → World → Prop} {w : World} (hgd : o.guard = none) (ty : TypeId) (x y : Operand) (ho : o.op = .store ty x y) (n : Nat)
    (hi : (Tryd.prog.info? ty).map (·.size) = some n) (g i : Nat) (t : TypeId) (old cs : List Value) (hx : a.eval x = .pointer (some ⟨g, i, none⟩)) (hy : a.eval y = .agg cs.toArray) (hg : Blk w g t old) (hl : cs.length = n) (hold : i + n ≤ old.length)
    (h1 : ∀ v ∈ cs, v.oneCell' = true)
    (h : wpListIn F m Tryd.prog ops Q rest (a.put o.dst undef) (w.setCells g i cs)) : wpListIn F m Tryd.prog ops Q (o :: rest) a w := by
  have hr := run_storeAt_mid (P := Tryd.prog) w g i ty cs.toArray (by have := thereN (i := i) (n := n) hg hold; simpa [hl] using this) (by rw [hi, ← hl]; simp) (all_oneCell_toArray h1)
  refine wpListIn_plain hgd fun K hK' => ?_
  unfold Oper.wpIn
  refine ⟨?_, ?_⟩
  · simp [Oper.about, ho]
  · rw [Oper.semAt_plain F _ _ (by rw [ho]; intro c hc'; cases hc')]
    simp [execOp, ho, hx, hy, hr, Result.andThen]
    exact hK' _ _ h
end Go.Proofs.YtfgmdaemcaamiaaDoor
