/- Plain: how three comparisons hang together. -/
import Derived.KernelRfl
namespace Go.Proofs.YtlflhigphfnhoaaDoor
theorem cases_qr {q r : Int} (r2 : -1 ≤ q ∧ q ≤ 1) (r3 : -1 ≤ r ∧ r ≤ 1) (ha : (0 : Int) ≤ 0 → q ≤ 0 → r ≤ 0 ∧ ((0 : Int) < 0 ∨ q < 0 → r < 0)) (hb : -q ≤ 0 → -(0 : Int) ≤ 0 → -r ≤ 0 ∧ (-q < 0 ∨ -(0 : Int) < 0 → -r < 0)) : (q = -1 ∧ r = -1) ∨ (q = 0 ∧ r = 0) ∨ (q = 1 ∧ r = 1) := by
  have hq : q = -1 ∨ q = 0 ∨ q = 1 := by omega
  rcases hq with rfl | rfl | rfl
  · have := (ha (by omega) (by omega)).2 (.inr (by omega)); omega
  · have h1 := (ha (by omega) (by omega)).1; have h2 := (hb (by omega) (by omega)).1; omega
  · have := (hb (by omega) (by omega)).2 (.inl (by omega)); omega
theorem cases_pqr {p q r : Int} (r1 : -1 ≤ p ∧ p ≤ 1) (r2 : -1 ≤ q ∧ q ≤ 1) (r3 : -1 ≤ r ∧ r ≤ 1) (hp : ¬ p = 0) (ha : p ≤ 0 → q ≤ 0 → r ≤ 0 ∧ (p < 0 ∨ q < 0 → r < 0)) (hb : -q ≤ 0 → -p ≤ 0 → -r ≤ 0 ∧ (-q < 0 ∨ -p < 0 → -r < 0)) :
    (p = -1 ∧ q = -1 ∧ r = -1) ∨ (p = -1 ∧ q = 0 ∧ r = -1) ∨ (p = -1 ∧ q = 1 ∧ r = -1) ∨ (p = -1 ∧ q = 1 ∧ r = 0) ∨ (p = -1 ∧ q = 1 ∧ r = 1) ∨ (p = 1 ∧ q = 1 ∧ r = 1) ∨ (p = 1 ∧ q = 0 ∧ r = 1) ∨ (p = 1 ∧ q = -1 ∧ r = -1) ∨ (p = 1 ∧ q = -1 ∧ r = 0) ∨ (p = 1 ∧ q = -1 ∧ r = 1) := by
  have hp2 : p = -1 ∨ p = 1 := by omega
  have hq : q = -1 ∨ q = 0 ∨ q = 1 := by omega
  have hr : r = -1 ∨ r = 0 ∨ r = 1 := by omega
  rcases hp2 with rfl | rfl
  · rcases hq with rfl | rfl | rfl
    · have := (ha (by omega) (by omega)).2 (.inl (by omega)); obtain rfl : r = -1 := by omega
      simp
    · have := (ha (by omega) (by omega)).2 (.inl (by omega)); obtain rfl : r = -1 := by omega
      simp
    · rcases hr with rfl | rfl | rfl <;> simp
  · rcases hq with rfl | rfl | rfl
    · rcases hr with rfl | rfl | rfl <;> simp
    · have := (hb (by omega) (by omega)).2 (.inr (by omega)); obtain rfl : r = 1 := by omega
      simp
    · have := (hb (by omega) (by omega)).2 (.inl (by omega)); obtain rfl : r = 1 := by omega
      simp
end Go.Proofs.YtlflhigphfnhoaaDoor
