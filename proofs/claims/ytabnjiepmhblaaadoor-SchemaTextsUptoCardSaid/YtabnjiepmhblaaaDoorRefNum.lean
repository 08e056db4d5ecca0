/- The walk of the document's Number (20) and Signed (32). -/
import Derived.Test.YtabnjiepmhblaaaDoorSigned
import Derived.Test.YtabnjiepmhblaaaDoorLaws
import Derived.Deep.DeepCutAuto
namespace Go.Proofs.YtabnjiepmhblaaaDoor
open Go.RowKit
set_option linter.unusedVariables false

end Go.Proofs.YtabnjiepmhblaaaDoor
