/- The document's Same (63): two lists of numbers. -/
import Derived.Test.YtdchaojgldfagaaDoorPaA
import Derived.RegionTactic
import Derived.ChangeAlike
namespace Go.Proofs.YtdchaojgldfagaaDoor
open Go.RowKit
set_option linter.unusedVariables false

theorem take_ne {l m : List W64} {k : Nat} (h1 : k < l.length) (h2 : k < m.length) (h : ¬ (l[k]).toNat = (m[k]).toNat) : l ≠ m := by
  rintro rfl
  exact h rfl
end Go.Proofs.YtdchaojgldfagaaDoor
