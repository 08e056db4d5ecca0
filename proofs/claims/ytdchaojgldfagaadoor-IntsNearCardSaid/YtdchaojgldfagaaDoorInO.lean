/- Integers that came in. -/
import Derived.Test.YtdchaojgldfagaaDoorInM
import Derived.ShutString
import Derived.ChangeShapes
namespace Go.Proofs.YtdchaojgldfagaaDoor
open Go.RowKit
theorem i64_wf {n : Int} (h : (Lit.int .i64 n).wf = true) : I64 n := by
  simp [Lit.wf, IntKind.min, IntKind.max, IntKind.signed, IntKind.bits] at h
  unfold I64
  omega
end Go.Proofs.YtdchaojgldfagaaDoor
