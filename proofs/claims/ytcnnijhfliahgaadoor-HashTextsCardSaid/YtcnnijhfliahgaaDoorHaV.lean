/- A digest that came in, as a list of bytes. -/
import Derived.Test.YtcnnijhfliahgaaDoorHaL
import Derived.OpenShut
import Derived.ChangeMaps
namespace Go.Proofs.YtcnnijhfliahgaaDoor
open Go.RowKit
set_option linter.unusedVariables false

def byteOf : Value → UInt8
  | .int _ n => UInt8.ofNat n.toNat
  | _ => 0
theorem okcell {W : World} {base : Nat} {v : Value} (h : Cell.okWide Tryd.prog W .any base 5 v) : v = .int .u8 (((byteOf v).toNat : Nat) : Int) := by
  simp only [Cell.okWide, Tryd.underlying5, Cell.ok] at h
  cases v <;> simp at h
  rename_i k n
  obtain ⟨rfl, hn⟩ := h
  have hb : 0 ≤ n ∧ n < 256 := by
    simp [IntKind.has, IntKind.min, IntKind.max, IntKind.signed, IntKind.bits] at hn
    omega
  simp only [byteOf]
  rw [UInt8.toNat_ofNat']
  congr 1
  omega
theorem types42 : Tryd.prog.cellTypes Tryd.prog.depth 42 = some (List.replicate 32 5) := by kernel_rfl
theorem arr_open {W : World} {base : Nat} {v : Value} (h : Value.okWide Tryd.prog W .any base 42 v) : ∃ d : List UInt8, d.length = 32 ∧ v = .agg (u8s d).toArray := by
  have hc : Tryd.prog.cellsOf 42 = 32 := by kernel_rfl
  simp only [Value.okWide, ar42] at h
  obtain ⟨cs, rfl, hsz, ts, hts, _, hcell⟩ := h
  rw [hc] at hsz
  obtain rfl := Option.some.inj (types42.symm.trans hts)
  refine ⟨cs.toList.map byteOf, by simpa using hsz, ?_⟩
  congr 1
  apply Array.ext'
  simp only [u8s, List.map_map]
  apply List.ext_getElem?
  intro i
  rw [List.getElem?_map]
  cases hi : cs.toList[i]? with
  | none => rfl
  | some x =>
    have hx : cs[i]? = some x := by simpa using hi
    obtain ⟨u, hu, ho⟩ := hcell i x hx
    have hu5 : u = 5 := by
      rw [List.getElem?_replicate] at hu
      split at hu
      · exact (Option.some.inj hu).symm
      · cases hu
    subst hu5
    rw [okcell ho]
    simp [Function.comp, byteOf]
end Go.Proofs.YtcnnijhfliahgaaDoor
