/- What pack's rows give: the table of bits.TrailingZeros64; a slice of numbers that came in. -/
import Derived.Test.YtdchaojgldfagaaDoorPkA
import Derived.Test.YtdchaojgldfagaaDoorReach
namespace Go.Proofs.YtdchaojgldfagaaDoor
open Go.RowKit Go.ChangeShapes Go.WideShapes
set_option linter.unusedVariables false
theorem gTab : Tryd.prog.globalNamed "math/bits.deBruijn64tab" = some 0 := by kernel_rfl
theorem tTab : (Tryd.prog.globals[0]?).map (·.type) = some 89 := by kernel_rfl
theorem c63 : Tryd.prog.cellsOf 89 = 64 := by kernel_rfl
def tabZ : List Int := Lib.deBruijn64tab.map Int.ofNat
theorem tab_data : (Rows.laid_math_bits_deBruijn64tab : DataW Unit) = Lib.tabData .u8 tabZ := by kernel_rfl
theorem ar63 : Tryd.prog.underlying 89 = some (.array 64 5) := by kernel_rfl
theorem c5 : Tryd.prog.cellsOf 5 = 1 := by kernel_rfl
theorem tab_of {W : World} (h : laidMetH Tryd.prog [("math/bits.deBruijn64tab", Rows.laid_math_bits_deBruijn64tab)] W) : TabAt W := by
  rw [Go.MakeChecks.laidMetH_plain _ _ _ (by kernel_rfl)] at h
  obtain ⟨ps, ⟨g, t, cs, fuel, p, q, hg, ht, hv, hd, _, hps⟩, _, hrows⟩ := h
  obtain rfl := Option.some.inj (gTab.symm.trans hg)
  obtain rfl := Option.some.inj (tTab.symm.trans ht)
  rw [tab_data] at hd
  have e0 := Lib.cells_of_tab ar63 Tryd.underlying5 c5 c63 hd
  have hl : cs.size = 64 := by
    have := congrArg List.length e0
    simpa [tabZ, Lib.deBruijn64tab] using this
  have m0 : MemPlace.cell 0 0 ∈ ps := by
    rw [hps, hl]
    refine List.mem_append_left _ (List.mem_append_left _ ?_)
    decide
  obtain ⟨t0, b0⟩ := var_blk gTab hv (hrows 0 0 m0).1
  rw [e0] at b0
  intro j hj
  rw [b0.at_ j]
  have hlen : Lib.deBruijn64tab.length = 64 := rfl
  simp [tabZ, List.getD, hlen, hj]
theorem u64_wf {n : Int} (h : (Lit.int .u64 n).wf = true) : 0 ≤ n ∧ n < 18446744073709551616 := by
  simp [Lit.wf, IntKind.min, IntKind.max, IntKind.signed, IntKind.bits] at h
  omega
/-- A slice of numbers that came in, as a list of them. -/
theorem row_num {w : World} {a : Option Addr} {len cap : Nat} {zs : List Int} (h : IsRow .u64 w a len cap zs) : ∃ l : List W64, len = l.length ∧ Num w a l ∧ (a = none → cap = 0) ∧ l.length ≤ cap ∧ cap ≤ maxLen := by
  rcases h with ⟨rfl, rfl, rfl, rfl⟩ | ⟨x, rfl, hl, hm, hz, hc, hw⟩
  · exact ⟨[], rfl, fun k hk => by simp at hk, fun _ => rfl, Nat.le_refl _, Nat.zero_le _⟩
  · refine ⟨(zs.take len).map fun n => BitVec.ofNat 64 n.toNat, by simp; omega, ?_, by simp, by simp; omega, hm⟩
    intro k hk
    have hk' : k < len ∧ k < zs.length := by simp at hk; omega
    have h0 := hc 0 (by omega)
    obtain ⟨b, o, sp⟩ := x
    have hsp : sp = none := by simpa [Addr.add] using World.cell?_spot h0
    subst hsp
    refine ⟨b, o, rfl, ?_⟩
    have h1 := hc k hk'.2
    rw [Addr.add_lit] at h1
    rw [h1]
    have hwf := u64_wf (hw zs[k] (List.getElem_mem _))
    have e : zs.getD k 0 = zs[k]'hk'.2 := by simp [List.getD, hk'.2]
    rw [e]
    congr 2
    simp only [List.getElem_map, List.getElem_take]
    rw [BitVec.toNat_ofNat]
    omega
theorem bytes52 : Tryd.prog.bytesOf 46 = 8 := by kernel_rfl
theorem reach_u64 {H : Type} {enc : TypeId × Value → H} {W : World} {ts : List TypeId} {ds : List (DataW H)} {j : Nat} {a : Option Addr} {len cap : Nat} {d : DataW H} {p : List MemPlace}
    (hsz : (DataW.weightsEach Tryd.prog ts ds).all (· ≤ reachBytes) = true) (ht : ts[j]? = some 63) (hd : ds[j]? = some d)
    (h : DataW.Trod enc Tryd.prog W 0 (fun _ => true) true 63 (.slice a len cap) d p) : cap ≤ 17592186044416 := by
  obtain ⟨fuel, hf⟩ := h
  rcases open_ints Tryd.underlying63 Tryd.underlying46 (by kernel_rfl) hf with ⟨hcs, _⟩ | ⟨x, l, c, zs, hcs, _, hl, hm, hz, hx, _, _⟩
  · simp [Value.cells] at hcs
    omega
  · simp [Value.cells] at hcs
    obtain ⟨rfl, rfl, rfl⟩ := hcs
    simp only [Prod.mk.injEq] at hx
    obtain ⟨rfl, _⟩ := hx
    have := sized_slice hsz (j := j) (t := 63) (e := 46) ht hd Tryd.underlying63
    rw [bytes52] at this
    simp only [lits, List.length_map, List.length_take, List.length_drop, reachBytes] at this
    simp only [if_true] at hz
    omega
theorem slice_num {H : Type} {enc : TypeId × Value → H} {W : World} {ts : List TypeId} {ds : List (DataW H)} {j : Nat} {v : Value} {d : DataW H} {p : List MemPlace} {base : Nat}
    (hsz : (DataW.weightsEach Tryd.prog ts ds).all (· ≤ reachBytes) = true) (ht : ts[j]? = some 63) (hd : ds[j]? = some d) (hv : Value.okWide Tryd.prog W .any base 63 v)
    (h : DataW.Trod enc Tryd.prog W 0 (fun _ => true) true 63 v d p) : ∃ A cap, ∃ l : List W64, v = .slice A l.length cap ∧ Num W A l ∧ (A = none → cap = 0) ∧ l.length ≤ cap ∧ cap ≤ 17592186044416 := by
  obtain ⟨a0, len0, cap0, rfl⟩ := okWide_slice Tryd.underlying63 hv
  have hr := reach_u64 hsz ht hd h
  have o0 : ∃ zs, IsRow .u64 W a0 len0 cap0 zs := by
    obtain ⟨fuel, hf⟩ := h
    rcases open_ints Tryd.underlying63 Tryd.underlying46 (by kernel_rfl) hf with ⟨hcs, _⟩ | ⟨x, l, c, zs, hcs, _, hl, hm, hz, hx, hcell, hwf⟩
    · simp [Value.cells] at hcs
      exact ⟨[], .inl ⟨hcs.1, hcs.2.1, hcs.2.2, rfl⟩⟩
    · simp [Value.cells] at hcs
      obtain ⟨rfl, rfl, rfl⟩ := hcs
      simp only [if_true] at hz
      exact ⟨zs, .inr ⟨x, rfl, hl, hm, hz, hcell, hwf⟩⟩
  obtain ⟨zs, hz⟩ := o0
  obtain ⟨l, rfl, hb, hn, hc, _⟩ := row_num hz
  exact ⟨a0, cap0, l, rfl, hb, hn, hc, hr⟩
end Go.Proofs.YtdchaojgldfagaaDoor
