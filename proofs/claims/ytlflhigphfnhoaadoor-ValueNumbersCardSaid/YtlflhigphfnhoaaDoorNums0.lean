/- The walk of stackyardlaw04.ValueNumbers (8). -/
import Derived.Test.YtlflhigphfnhoaaDoorShowI
import Derived.Test.YtlflhigphfnhoaaDoorDig
import Derived.Test.YtlflhigphfnhoaaDoorOrders
import Derived.Outline
namespace Go.Proofs.YtlflhigphfnhoaaDoor
open Go.RowKit
set_option linter.unusedVariables false

theorem itoa_toList (n : Nat) : (⟨(Lib.itoa (n : Int)).toArray⟩ : ByteArray).toList = Lib.decDigits n := by
  rw [ByteArray.toList_eq]
  show (Lib.itoa (n : Int)).toArray.toList = _
  unfold Lib.itoa
  rw [if_neg (by omega)]
  simp
theorem itoa_size (n : Nat) : (⟨(Lib.itoa (n : Int)).toArray⟩ : ByteArray).size = (Lib.decDigits n).length := by
  rw [← itoa_toList n, ByteArray.toList_eq]; simp; rfl
/-- What the two texts' tests come to. -/
theorem tests (a b : Nat) : (a < b ∧ ((Lib.decDigits a).length < (Lib.decDigits b).length ∨ ((Lib.decDigits a).length = (Lib.decDigits b).length ∧ Op.bytesLess (Lib.decDigits a) (Lib.decDigits b) = true))) ∨ (b ≤ a ∧ ((Lib.decDigits b).length < (Lib.decDigits a).length ∨ ((Lib.decDigits a).length = (Lib.decDigits b).length ∧ Op.bytesLess (Lib.decDigits a) (Lib.decDigits b) = false))) := by
  have h := dd_short a b
  unfold short at h
  by_cases hab : a < b
  · rw [decide_eq_true hab] at h
    simp only [Bool.or_eq_true, Bool.and_eq_true, decide_eq_true_eq] at h
    exact .inl ⟨hab, h⟩
  · rw [decide_eq_false hab] at h
    simp only [Bool.or_eq_false_iff, Bool.and_eq_false_iff, decide_eq_false_iff_not] at h
    refine .inr ⟨by omega, ?_⟩
    rcases h.2 with h2 | h2
    · exact .inl (by omega)
    · by_cases he : (Lib.decDigits a).length = (Lib.decDigits b).length
      · exact .inr ⟨he, h2⟩
      · exact .inl (by omega)
theorem cmp_nums (a b : Nat) : (a < b → cmpV 1 a (ByteArray.toList ⟨#[]⟩) 1 b (ByteArray.toList ⟨#[]⟩) = -1) ∧ (b ≤ a → 0 ≤ cmpV 1 a (ByteArray.toList ⟨#[]⟩) 1 b (ByteArray.toList ⟨#[]⟩)) := by
  rw [ByteArray.toList_eq]
  refine ⟨fun h => ?_, fun h => ?_⟩
  · have e : cmpI (a : Int) (b : Int) = -1 := by unfold cmpI; rw [if_pos (by omega)]
    simp [cmpV, orI, cmpI, h]
  · unfold cmpV orI
    rw [cmpL_self]
    have e : cmpI 1 1 = 0 := rfl
    rw [e]
    unfold cmpI
    rw [if_neg (by omega : ¬ (a : Int) < b)]
    by_cases hba : (b : Int) < a
    · rw [if_pos hba]; simp
    · rw [if_neg hba]; simp

end Go.Proofs.YtlflhigphfnhoaaDoor
