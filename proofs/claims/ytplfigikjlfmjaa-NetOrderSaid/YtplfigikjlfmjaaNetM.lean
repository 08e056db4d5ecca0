/- A slice of texts, and a slice of truths, that came in, as lists. -/
import Derived.Test.YtplfigikjlfmjaaNetK
import Derived.ProofKit
import Derived.OpenShut
import Derived.SliceStrings
import Derived.Deep.Grids
namespace Go.Proofs.Ytplfigikjlfmjaa
open Go.RowKit Go.ChangeShapes Go.WideShapes Go.Deep

theorem strs_open {H : Type} {enc : TypeId × Value → H} {W : World} {a : Option Addr} {len cap : Nat} {d : DataW H} {p : List MemPlace}
    (h : DataW.Trod enc Try.prog W 0 (fun _ => true) true 45 (.slice a len cap) d p) :
    ∃ l : List ByteArray, len = l.length ∧ Strs W a l ∧ l.length ≤ maxLen := by
  obtain ⟨fuel, hf⟩ := h
  rcases open_strings Try.underlying45 Try.underlying9 (by kernel_rfl) hf with ⟨hcs, _⟩ | ⟨x, len', cap', ss, hcs, _, hl, hm, hz, hx, hc, hs⟩
  · simp [Value.cells] at hcs
    obtain ⟨rfl, rfl, rfl⟩ := hcs
    exact ⟨[], rfl, fun k hk => absurd hk (by simp), by simp⟩
  · simp [Value.cells] at hcs
    obtain ⟨rfl, rfl, rfl⟩ := hcs
    simp only [if_true] at hz
    refine ⟨ss.take len, by simp; omega, ?_, by simp; omega⟩
    intro k hk
    have hk' : k < len ∧ k < ss.length := by simp at hk; omega
    obtain ⟨b, o, sp⟩ := x
    have hsp : sp = none := by simpa [Addr.add] using World.cell?_spot (hc 0 (by omega))
    subst hsp
    have h1 := hc k hk'.2
    rw [Addr.add_lit] at h1
    have e : ss.getD k ByteArray.empty = (ss.take len)[k] := by
      rw [List.getElem_take]
      simp [List.getD, hk'.2]
    refine ⟨b, o, rfl, by rw [h1, e], ?_⟩
    rw [List.getElem_take]
    exact hs _ (List.getElem_mem _)

theorem bools_open {H : Type} {enc : TypeId × Value → H} {W : World} {a : Option Addr} {len cap : Nat} {d : DataW H} {p : List MemPlace}
    (h : DataW.Trod enc Try.prog W 0 (fun _ => true) true 36 (.slice a len cap) d p) :
    ∃ l : List Bool, len = l.length ∧ Bools W a l ∧ l.length ≤ maxLen := by
  obtain ⟨fuel, hf⟩ := h
  rcases open_bools Try.underlying36 Try.underlying4 (by kernel_rfl) hf with ⟨hcs, _⟩ | ⟨x, len', cap', B, hcs, _, hl, hm, hx, hc⟩
  · simp [Value.cells] at hcs
    obtain ⟨rfl, rfl, rfl⟩ := hcs
    exact ⟨[], rfl, fun k hk => absurd hk (by simp), by simp⟩
  · simp [Value.cells] at hcs
    obtain ⟨rfl, rfl, rfl⟩ := hcs
    refine ⟨(List.range len).map B, by simp, ?_, by simp; omega⟩
    intro k hk
    have hk' : k < len := by simpa using hk
    obtain ⟨b, o, sp⟩ := x
    have hsp : sp = none := by simpa [Addr.add] using World.cell?_spot (hc 0 (by omega))
    subst hsp
    have h1 := hc k (by omega)
    rw [Addr.add_lit] at h1
    exact ⟨b, o, rfl, by rw [h1]; simp⟩
end Go.Proofs.Ytplfigikjlfmjaa
