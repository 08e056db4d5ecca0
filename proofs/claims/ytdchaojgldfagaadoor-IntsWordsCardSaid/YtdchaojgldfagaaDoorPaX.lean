/- The walk of stackyardlaw01.PackWords (4). -/
import Derived.Test.YtdchaojgldfagaaDoorPaW
namespace Go.Proofs.YtdchaojgldfagaaDoor
open Go.RowKit
set_option linter.unusedVariables false

/-- What packing hands back: bytes, and whether. -/
def PackR (W : World) (bs : List UInt8) (er : Int) (e : Ending) (W' : World) : Prop :=
  ∃ A' c', e = .returned (.tuple #[.slice A' bs.length c', .int .i64 er]) ∧ Byt W' A' bs ∧ bs.length ≤ c' ∧ c' ≤ 32768 ∧ (A' = none → c' = 0) ∧ Below W.heap.size W W'
theorem packs_any (w : Int) (A : Option Addr) (cap : Nat) (ls : List W64) (W0 : World) (hl : Num W0 A ls) (hn : ls.length ≤ 4611686018427387904) (hT : TabAt W0) :
    ∃ bs er, (∀ W : World, Below W0.heap.size W0 W → Calls Tryd.prog 39 #[.int .i64 w, .slice A ls.length cap] W (PackR W bs er)) ∧ (∀ W : World, Below W0.heap.size W0 W → Calls Tryd.prog 58 #[.int .i64 w, .slice A ls.length cap] W (PackR W bs er)) := by
  by_cases hok : 0 ≤ w ∧ w ≤ 64 ∧ ls.length ≤ 4096
  · obtain ⟨v, rfl⟩ : ∃ v : Nat, w = (v : Int) := ⟨w.toNat, by omega⟩
    by_cases hwd : widL ls ≤ v
    · have hM : (ls.length * v + 7) / 8 ≤ 32768 := by
        have := Nat.mul_le_mul hok.2.2 (show v ≤ 64 by omega)
        omega
      refine ⟨packL ((ls.length * v + 7) / 8) (bitsP v ls), 0, fun W hb => ?_, fun W hb => ?_⟩
      · refine (pack_good v A cap ls W (hl.keep hb) (by omega) hok.2.2 hwd (hT.keep hb)).mono ?_
        rintro e W' ⟨rfl, h1, h2⟩
        exact ⟨_, _, by rw [packL_len], h1.byt, by rw [packL_len]; exact Nat.le_refl _, hM, by simp, h2⟩
      · refine (refpack_any v A cap ls W (hl.keep hb) (by omega) hok.2.2).mono ?_
        rintro e W' (⟨_, rfl, h1, h2⟩ | ⟨h, _⟩)
        · exact ⟨_, _, by rw [packL_len], h1.byt, by rw [packL_len]; exact Nat.le_refl _, hM, by simp, h2⟩
        · omega
    · refine ⟨[], 2, fun W hb => ?_, fun W hb => ?_⟩
      · refine (pack_bad v A cap ls W (hl.keep hb) hn (.inr (by omega))).mono ?_
        rintro e W' ⟨rfl, rfl⟩
        exact ⟨_, _, rfl, Byt.empty _ _, Nat.le_refl _, by omega, fun _ => rfl, Below.refl _ _⟩
      · refine (refpack_any v A cap ls W (hl.keep hb) (by omega) hok.2.2).mono ?_
        rintro e W' (⟨h, _⟩ | ⟨_, rfl, h2⟩)
        · omega
        · exact ⟨_, _, rfl, Byt.empty _ _, Nat.le_refl _, by omega, fun _ => rfl, h2⟩
  · refine ⟨[], 2, fun W hb => ?_, fun W hb => ?_⟩
    · refine (pack_bad w A cap ls W (hl.keep hb) hn (.inl hok)).mono ?_
      rintro e W' ⟨rfl, rfl⟩
      exact ⟨_, _, rfl, Byt.empty _ _, Nat.le_refl _, by omega, fun _ => rfl, Below.refl _ _⟩
    · refine (refpack_bad w A cap ls W hok).mono ?_
      rintro e W' ⟨rfl, rfl⟩
      exact ⟨_, _, rfl, Byt.empty _ _, Nat.le_refl _, by omega, fun _ => rfl, Below.refl _ _⟩

end Go.Proofs.YtdchaojgldfagaaDoor
