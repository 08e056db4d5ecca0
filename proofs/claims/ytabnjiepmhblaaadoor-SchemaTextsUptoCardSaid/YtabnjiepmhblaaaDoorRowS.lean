/- A struct or a row stored into the middle of a block. -/
import Derived.Test.YtabnjiepmhblaaaDoorScC
import Derived.Deep.MidRow
namespace Go.Proofs.YtabnjiepmhblaaaDoor
open Go.RowKit
set_option linter.unusedVariables false

/-- What stands behind a store of vs from place o on. -/
def setL : List Value → Nat → List Value → List Value
  | cs, _, [] => cs
  | cs, o, v :: vs => setL (cs.set o v) (o + 1) vs
theorem setL_len : ∀ (vs cs : List Value) (o : Nat), (setL cs o vs).length = cs.length
  | [], _, _ => rfl
  | v :: vs, cs, o => by rw [setL, setL_len vs, List.length_set]
theorem Blk.stores {g : Nat} {t : TypeId} : ∀ (vs cs : List Value) (o : Nat) (w : World), Blk w g t cs → Blk (w.setCells g o vs) g t (setL cs o vs)
  | [], _, _, _, h => h
  | v :: vs, cs, o, w, h => Blk.stores vs _ (o + 1) _ (h.store o v)
theorem Sole.stores {g : Nat} {a : World} : ∀ (vs : List Value) (o : Nat) (w : World), Sole g a w → Sole g a (w.setCells g o vs)
  | [], _, _, h => h
  | v :: vs, o, w, h => Sole.stores vs (o + 1) _ (h.setCell o v)
theorem st_mid {ops : Array Oper} {rest : List Oper} {o : Oper} {a : Act} {Q : Exit → Act → World → Prop} {w : World} (hgd : o.guard = none) (ty : TypeId) (x y : Operand) (ho : o.op = .store ty x y) (n : Nat)
    (hi : (Tryd.prog.info? ty).map (·.size) = some n) (g i : Nat) (t : TypeId) (old cs : List Value) (hx : a.eval x = .pointer (some ⟨g, i, none⟩)) (hy : a.eval y = .agg cs.toArray) (hg : Blk w g t old) (hl : cs.length = n) (hold : i + n ≤ old.length)
    (h1 : ∀ v ∈ cs, v.oneCell' = true)
    (h : ∀ w', Blk w' g t (setL old i cs) → Sole g w w' → wpList Tryd.prog ops Q rest (a.put o.dst undef) w') : wpList Tryd.prog ops Q (o :: rest) a w := by
  refine wpList_store_mid hgd ty x y ho g i cs.toArray hx hy (fun j hj => ⟨?_, hg.free _⟩) (by rw [hi, ← hl]; simp) (all_oneCell_toArray h1) (h _ (hg.stores cs old i w) ((Sole.refl g w).stores cs i w))
  have hj2 : j < n := by rw [← hl]; simpa using hj
  rw [hg.at_, List.getElem?_eq_getElem (show i + j < old.length by omega)]
  rfl
end Go.Proofs.YtabnjiepmhblaaaDoor
