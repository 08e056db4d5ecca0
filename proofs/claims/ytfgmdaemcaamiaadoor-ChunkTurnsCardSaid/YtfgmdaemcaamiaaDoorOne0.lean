/- A piece of a slice of bytes; what a draw leaves. -/
import Derived.Test.YtfgmdaemcaamiaaDoorSigned
import Derived.Deep.QuietTactic
import Derived.BigQuiet
import Derived.Lib.Hide
namespace Go.Proofs.YtfgmdaemcaamiaaDoor
open Go.RowKit
theorem Below.drewN' {B : Nat} {a w : World} (h : Below B a w) (k : Nat) : Below B a (w.drewN k) := h.trans ⟨rfl, rfl, rfl, Nat.le_refl _, fun _ _ => rfl⟩

/-- A piece of a slice of bytes. -/
theorem Byt.part {w : World} {b o : Nat} {l : List UInt8} (h : Byt w (some ⟨b, o, none⟩) l) (i c : Nat) : Byt w (some ⟨b, o + i, none⟩) ((l.drop i).take c) := by
  intro k hk
  simp only [List.length_take, List.length_drop] at hk
  obtain ⟨b', o', e, hc'⟩ := h (i + k) (by omega)
  simp only [Option.some.injEq, Addr.mk.injEq, and_true] at e
  obtain ⟨rfl, rfl⟩ := e
  refine ⟨b, o + i, rfl, ?_⟩
  rw [Nat.add_assoc, hc']
  simp

end Go.Proofs.YtfgmdaemcaamiaaDoor
