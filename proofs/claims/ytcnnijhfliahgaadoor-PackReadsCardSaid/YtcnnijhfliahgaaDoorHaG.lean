/- What the rows' lists give: the hash's two tables. -/
import Derived.Test.YtcnnijhfliahgaaDoorHaL
import Derived.Lib.LaidU8
import Derived.LaidSub
import Derived.MakeChecks
namespace Go.Proofs.YtcnnijhfliahgaaDoor
open Go.RowKit
set_option linter.unusedVariables false
theorem gIni : Tryd.prog.globalNamed "stackyard/hash.initial" = some 0 := by kernel_rfl
theorem gPer : Tryd.prog.globalNamed "stackyard/hash.permutations" = some 1 := by kernel_rfl
theorem tIni : (Tryd.prog.globals[0]?).map (·.type) = some 61 := by kernel_rfl
theorem tPer : (Tryd.prog.globals[1]?).map (·.type) = some 74 := by kernel_rfl
theorem c60 : Tryd.prog.cellsOf 60 = 1 := by kernel_rfl
theorem c61 : Tryd.prog.cellsOf 61 = 8 := by kernel_rfl
theorem c5 : Tryd.prog.cellsOf 5 = 1 := by kernel_rfl
theorem c73 : Tryd.prog.cellsOf 73 = 16 := by kernel_rfl
theorem c74 : Tryd.prog.cellsOf 74 = 160 := by kernel_rfl
def iniZ : List Int := ivs.map fun x => (x.toNat : Int)
def perZ (i : Nat) : List Int := (permR i).map fun c => (c.toNat : Int)
theorem ini_data : (Rows.laid_stackyard_hash_initial : DataW Unit) = Lib.tabData .u32 iniZ := by kernel_rfl
theorem per_data : (Rows.laid_stackyard_hash_permutations : DataW Unit) = .agg ((List.range 10).map fun i => Lib.tabData .u8 (perZ i)) := by kernel_rfl
theorem var_blk {W : World} {name : String} {g : Nat} {cs : Array Value} (hg : Tryd.prog.globalNamed name = some g) (hv : W.var? Tryd.prog name = some cs) (h : ∃ c t, W.heap[g]? = some (.cells c t (0, 0))) : ∃ t, Blk W g t cs.toList := by
  obtain ⟨c, t, hc⟩ := h
  simp only [World.var?, hg, Option.bind_some, hc, Option.some.injEq] at hv
  subst hv
  exact ⟨t, by simpa [Blk] using hc⟩
theorem chunks {l m : List Value} (hl : l.length = 160) (hm : m.length = 160) (h : ∀ i < 10, (l.drop (i * 16)).take 16 = (m.drop (i * 16)).take 16) : l = m := by
  apply List.ext_getElem?
  intro j
  by_cases hj : j < 160
  · have e := congrArg (fun x => x[j % 16]?) (h (j / 16) (by omega))
    simp only [List.getElem?_take, List.getElem?_drop] at e
    rw [if_pos (by omega), if_pos (by omega), show j / 16 * 16 + j % 16 = j by omega] at e
    exact e
  · rw [List.getElem?_eq_none (by omega), List.getElem?_eq_none (by omega)]
theorem tabs_of {W : World} (h : laidMetH Tryd.prog [("stackyard/hash.initial", Rows.laid_stackyard_hash_initial), ("stackyard/hash.permutations", Rows.laid_stackyard_hash_permutations)] W) :
    ∃ t0 t1, Blk W 0 t0 (u32s ivs) ∧ Blk W 1 t1 (u8s permB) := by
  rw [Go.MakeChecks.laidMetH_plain _ _ _ (by kernel_rfl)] at h
  obtain ⟨ps, ⟨g, t, cs, fuel, p, q, hg, ht, hv, hd, ⟨g', t', cs', fuel', p', q', hg', ht', hv', hd', _, hq⟩, hps⟩, _, hrows⟩ := h
  obtain rfl := Option.some.inj (gIni.symm.trans hg)
  obtain rfl := Option.some.inj (gPer.symm.trans hg')
  obtain rfl := Option.some.inj (tIni.symm.trans ht)
  obtain rfl := Option.some.inj (tPer.symm.trans ht')
  rw [ini_data] at hd
  have e0 := Lib.cells_of_tab ar61 Tryd.underlying60 c60 c61 hd
  rw [per_data] at hd'
  have l1 : cs'.toList.length = 160 := by
    cases fuel' with
    | zero => simp [DataW.trod] at hd'
    | succ n =>
      simp only [DataW.trod, ar74, c74] at hd'
      split at hd'
      · assumption
      · cases hd'
  have e1 : cs'.toList = u8s permB := by
    refine chunks l1 (by rw [u8s_len]; exact permB_len) fun i hi => ?_
    obtain ⟨fuel2, d2, q2, hdi, htr⟩ := Lib.array_elem ar74 hd' i hi
    rw [c73] at htr
    rw [List.getElem?_map, List.getElem?_range hi] at hdi
    simp only [Option.map_some, Option.some.injEq] at hdi
    subst hdi
    rw [Lib.cells_of_tab ar73 Tryd.underlying5 c5 c73 htr]
    have e := permB_cut i hi
    simp only [perZ, List.map_map]
    rw [← e]
    simp [u8s, List.map_take, List.map_drop, Function.comp_def]
  have m0 : MemPlace.cell 0 0 ∈ ps := by
    have hl : cs.size = 8 := by
      have := congrArg List.length e0
      simpa [iniZ, ivs] using this
    rw [hps, hl]
    refine List.mem_append_left _ (List.mem_append_left _ ?_)
    decide
  have m1 : MemPlace.cell 1 0 ∈ ps := by
    have hl : cs'.size = 160 := by simpa using l1
    rw [hps, hq, hl]
    refine List.mem_append_right _ (List.mem_append_left _ (List.mem_append_left _ ?_))
    decide
  obtain ⟨t0, b0⟩ := var_blk gIni hv (hrows 0 0 m0).1
  obtain ⟨t1, b1⟩ := var_blk gPer hv' (hrows 1 0 m1).1
  rw [e0] at b0
  rw [e1] at b1
  refine ⟨t0, t1, ?_, b1⟩
  have e : (iniZ.map fun z => Value.int .u32 z) = u32s ivs := by simp [iniZ, u32s, Function.comp_def]
  rw [e] at b0
  exact b0
end Go.Proofs.YtcnnijhfliahgaaDoor
