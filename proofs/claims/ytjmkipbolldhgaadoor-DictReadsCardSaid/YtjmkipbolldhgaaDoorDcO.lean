/- A slice of texts that came in. -/
import Derived.Test.YtjmkipbolldhgaaDoorDcA
import Derived.SliceStrings
import Derived.ShutString
import Derived.ChangeShapes
namespace Go.Proofs.YtjmkipbolldhgaaDoor
open Go.RowKit Go.ChangeShapes
set_option linter.unusedVariables false

set_option maxRecDepth 100000 in
theorem strs_open {H : Type} {enc : TypeId × Value → H} {W : World} {v : Value} {d : DataW H} {p : List MemPlace} {base : Nat} (hv : Value.okWide Tryd.prog W .any base 22 v)
    (h : DataW.Trod enc Tryd.prog W 0 (fun _ => true) true 22 v d p) : ∃ A cap, ∃ l : List Tx, v = .slice A l.length cap ∧ Strs W A l ∧ (∀ x ∈ l, x.length ≤ 9223372036854775807) ∧ (A = none → cap = 0) ∧ l.length ≤ cap ∧ cap ≤ 9223372036854775807 := by
  obtain ⟨a0, len0, cap0, rfl⟩ := Go.WideShapes.okWide_slice Tryd.underlying22 hv
  obtain ⟨fuel, hf⟩ := h
  rcases open_strings Tryd.underlying22 Tryd.underlying9 (by kernel_rfl) hf with ⟨hcs, _⟩ | ⟨x, len, c, ss, hcs, _, hl, hm, hz, hx, hcell, hwf⟩
  · simp [Value.cells] at hcs
    obtain ⟨rfl, rfl, rfl⟩ := hcs
    exact ⟨none, 0, [], rfl, fun k hk => absurd hk (by simp), fun x hx => absurd hx (by simp), fun _ => rfl, Nat.le_refl _, by omega⟩
  · simp [Value.cells] at hcs
    obtain ⟨rfl, rfl, rfl⟩ := hcs
    simp only [if_true] at hz
    refine ⟨some x, cap0, (ss.take len0).map (fun s => s.data.toList), by simp; omega, ?_, ?_, by simp, by simp; omega, by unfold maxLen at hm; omega⟩
    · intro k hk
      have hk' : k < len0 ∧ k < ss.length := by simp at hk; omega
      have h0 := hcell 0 (by omega)
      obtain ⟨b, o, sp⟩ := x
      have hsp : sp = none := by simpa [Addr.add] using World.cell?_spot h0
      subst hsp
      refine ⟨b, o, rfl, ?_⟩
      have h1 := hcell k hk'.2
      rw [Addr.add_lit] at h1
      rw [h1]
      have e : ss.getD k ByteArray.empty = ss[k]'hk'.2 := by simp [List.getD, hk'.2]
      rw [e, List.getElem_map, List.getElem_take]
      congr 1
    · intro y hy
      obtain ⟨s, hs, rfl⟩ := List.mem_map.1 hy
      have := hwf s (List.mem_of_mem_take hs)
      unfold maxLen at this
      have e : s.data.toList.length = s.size := by rw [Array.length_toList]; rfl
      show s.data.toList.length ≤ _
      omega
end Go.Proofs.YtjmkipbolldhgaaDoor
