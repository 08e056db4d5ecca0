/- The table out of the row's list. -/
import Derived.Test.YtfgmdaemcaamiaaDoorPkA
import Derived.Test.YtfgmdaemcaamiaaDoorReach
namespace Go.Proofs.YtfgmdaemcaamiaaDoor
open Go.RowKit Go.ChangeShapes Go.WideShapes
set_option linter.unusedVariables false
theorem gTab : Tryd.prog.globalNamed "math/bits.deBruijn64tab" = some 0 := by kernel_rfl
theorem tTab : (Tryd.prog.globals[0]?).map (·.type) = some 122 := by kernel_rfl
theorem c63 : Tryd.prog.cellsOf 122 = 64 := by kernel_rfl
def tabZ : List Int := Lib.deBruijn64tab.map Int.ofNat
theorem tab_data : (Rows.laid_math_bits_deBruijn64tab : DataW Unit) = Lib.tabData .u8 tabZ := by kernel_rfl
theorem ar63 : Tryd.prog.underlying 122 = some (.array 64 5) := by kernel_rfl
theorem c5 : Tryd.prog.cellsOf 5 = 1 := by kernel_rfl
theorem tab_of {W : World} (h : laidMetH Tryd.prog [("math/bits.deBruijn64tab", Rows.laid_math_bits_deBruijn64tab)] W) : TabAt W := by
  rw [Go.MakeChecks.laidMetH_plain _ _ _ (by kernel_rfl)] at h
  obtain ⟨ps, ⟨g, t, cs, fuel, p, q, hg, ht, hv, hd, _, hps⟩, _, hrows⟩ := h
  obtain rfl := Option.some.inj (gTab.symm.trans hg)
  obtain rfl := Option.some.inj (tTab.symm.trans ht)
  rw [tab_data] at hd
  have e0 := Lib.cells_of_tab ar63 Tryd.underlying5 c5 c63 hd
  have hl : cs.size = 64 := by
    have := congrArg List.length e0
    simpa [tabZ, Lib.deBruijn64tab] using this
  have m0 : MemPlace.cell 0 0 ∈ ps := by
    rw [hps, hl]
    refine List.mem_append_left _ (List.mem_append_left _ ?_)
    decide
  obtain ⟨t0, b0⟩ := var_blk gTab hv (hrows 0 0 m0).1
  rw [e0] at b0
  intro j hj
  rw [b0.at_ j]
  have hlen : Lib.deBruijn64tab.length = 64 := rfl
  simp [tabZ, List.getD, hlen, hj]
end Go.Proofs.YtfgmdaemcaamiaaDoor
