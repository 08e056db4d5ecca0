/- The two errors out of the row's list. -/
import Derived.Test.YtlflhigphfnhoaaDoorPow
import Derived.Test.YtlflhigphfnhoaaDoorPar0
import Derived.Test.YtlflhigphfnhoaaDoorCards
import Derived.Stop.LaidErr
import Derived.LaidMore
namespace Go.Proofs.YtlflhigphfnhoaaDoor
open Go.RowKit
set_option linter.unusedVariables false

theorem typS : (Tryd.prog.globals[1]?).map (·.type) = some 57 := by kernel_rfl
theorem typR : (Tryd.prog.globals[2]?).map (·.type) = some 57 := by kernel_rfl
theorem starE : "*" ++ "errors.errorString" = "*errors.errorString" := by decide
theorem row107 (u : TypeId) (h : Tryd.prog.typeName? 3 u = some "*errors.errorString") : u = 107 :=
  typeName_ptr_named (nm := "errors.errorString") (by rw [starE]; kernel_rfl) (by kernel_rfl) (by decide) u (by rw [starE]; exact h)
theorem cells109 : Tryd.prog.cellsOf 109 = 1 := by kernel_rfl
theorem cells9 : Tryd.prog.cellsOf 9 = 1 := by kernel_rfl
theorem err_of {n : String} {g : Nat} (text : List UInt8) {l : List (String × DataW Unit)} {W : World} (h : laidMetH Tryd.prog l W) (hl : l.filter (fun x => x.1 == n) = [(n, .iface "*errors.errorString" (.ptr (.agg [.lit (.string text)])))])
    (hg : Tryd.prog.globalNamed n = some g) (ht : (Tryd.prog.globals[g]?).map (·.type) = some 57) : ∃ tp p, W.var? Tryd.prog n = some #[.iface tp p] := by
  have h2 := h.filter (fun x => x.1 == n)
  rw [hl, Go.MakeChecks.laidMetH_plain _ _ _ (by rfl)] at h2
  obtain ⟨a, s, hv, _⟩ := laid_sentinel h2 hg ht Tryd.underlying57 row107 Tryd.underlying107 Tryd.underlying109 rfl rfl Tryd.underlying9 cells109 cells9
  exact ⟨_, _, hv⟩
theorem errs_back {W : World} (h : laidMetH Tryd.prog Rows.valueBackRow.laid W) : Errs W :=
  ⟨err_of (n := "strconv.ErrSyntax") [105, 110, 118, 97, 108, 105, 100, 32, 115, 121, 110, 116, 97, 120] h (by kernel_rfl) gErrS typS, err_of (n := "strconv.ErrRange") [118, 97, 108, 117, 101, 32, 111, 117, 116, 32, 111, 102, 32, 114, 97, 110, 103, 101] h (by kernel_rfl) gErrR typR⟩
theorem errs_texts {W : World} (h : laidMetH Tryd.prog Rows.valueTextsRow.laid W) : Errs W :=
  ⟨err_of (n := "strconv.ErrSyntax") [105, 110, 118, 97, 108, 105, 100, 32, 115, 121, 110, 116, 97, 120] h (by kernel_rfl) gErrS typS, err_of (n := "strconv.ErrRange") [118, 97, 108, 117, 101, 32, 111, 117, 116, 32, 111, 102, 32, 114, 97, 110, 103, 101] h (by kernel_rfl) gErrR typR⟩
end Go.Proofs.YtlflhigphfnhoaaDoor
