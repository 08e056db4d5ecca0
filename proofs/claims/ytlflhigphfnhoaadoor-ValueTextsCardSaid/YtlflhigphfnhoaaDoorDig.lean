/- Plain: decimal texts stand as their numbers do, the shorter ahead. -/
import Derived.Test.YtlflhigphfnhoaaDoorOrd
import Derived.Lib.ItoaNum
namespace Go.Proofs.YtlflhigphfnhoaaDoor
open Go.Lib
set_option linter.unusedVariables false

/-- Shorter, or as long and ahead bytewise. -/
def short (l m : List UInt8) : Bool := decide (l.length < m.length) || (decide (l.length = m.length) && Op.bytesLess l m)
theorem bl_app {l m : List UInt8} (h : l.length = m.length) (x y : List UInt8) : Op.bytesLess (l ++ x) (m ++ y) = (Op.bytesLess l m || (l == m && Op.bytesLess x y)) := by
  induction l generalizing m with
  | nil => obtain rfl : m = [] := List.length_eq_zero_iff.1 h.symm
           simp [Op.bytesLess]
  | cons a t ih =>
    cases m with
    | nil => simp at h
    | cons b u =>
      simp only [List.cons_append, Op.bytesLess, ih (by simpa using h)]
      by_cases hab : a = b
      · subst hab; simp [UInt8.lt_irrefl]
      · have e : (a == b) = false := by rw [beq_eq_false_iff_ne]; exact hab
        rw [e]
        simp
        exact fun h => absurd h hab
theorem dd_pos (n : Nat) : 0 < (decDigits n).length := by
  unfold decDigits
  split <;> simp
theorem dd_step {n : Nat} (h : ¬ n < 10) : decDigits n = decDigits (n / 10) ++ [UInt8.ofNat (48 + n % 10)] := by
  rw [decDigits, dif_neg h]
theorem dd_one {n : Nat} (h : n < 10) : decDigits n = [UInt8.ofNat (48 + n)] := by rw [decDigits, dif_pos h]
theorem byte_lt {a b : Nat} (ha : a < 200) (hb : b < 200) : (UInt8.ofNat a < UInt8.ofNat b) ↔ a < b := by
  rw [UInt8.lt_iff_toNat_lt, UInt8.toNat_ofNat', UInt8.toNat_ofNat', Nat.mod_eq_of_lt (by omega), Nat.mod_eq_of_lt (by omega)]
theorem short_app {l m : List UInt8} {c d : UInt8} (h : short l m = true) : short (l ++ [c]) (m ++ [d]) = true := by
  unfold short at *
  simp only [Bool.or_eq_true, Bool.and_eq_true, decide_eq_true_eq, List.length_append, List.length_singleton] at *
  rcases h with h | ⟨h1, h2⟩
  · exact .inl (by omega)
  · refine .inr ⟨by omega, ?_⟩
    rw [bl_app h1, h2]; rfl
theorem dd_lt : ∀ (b a : Nat), a < b → short (decDigits a) (decDigits b) = true := by
  intro b
  induction b using Nat.strongRecOn with
  | ind b ih =>
    intro a hab
    by_cases ha : a < 10
    · by_cases hb : b < 10
      · rw [dd_one ha, dd_one hb]
        simp only [short, List.length_singleton, Nat.lt_irrefl, decide_false, Bool.false_or, decide_true, Bool.true_and, Op.bytesLess, Bool.or_eq_true, decide_eq_true_eq]
        exact .inl ((byte_lt (by omega) (by omega)).2 (by omega))
      · rw [dd_one ha, dd_step hb]
        have := dd_pos (b / 10)
        simp [short]
        omega
    · have hb : ¬ b < 10 := by omega
      rw [dd_step ha, dd_step hb]
      by_cases hq : a / 10 < b / 10
      · exact short_app (ih (b / 10) (by omega) (a / 10) hq)
      · have e : a / 10 = b / 10 := by omega
        rw [e]
        unfold short
        have h1 : Op.bytesLess [UInt8.ofNat (48 + a % 10)] [UInt8.ofNat (48 + b % 10)] = true := by
          simp only [Op.bytesLess, Bool.or_eq_true, decide_eq_true_eq]
          exact .inl ((byte_lt (by omega) (by omega)).2 (by omega))
        rw [bl_app rfl, h1]
        simp
theorem short_asym (l m : List UInt8) (h : short l m = true) : short m l = false := by
  unfold short at *
  simp only [Bool.or_eq_true, Bool.and_eq_true, decide_eq_true_eq, Bool.or_eq_false_iff, Bool.and_eq_false_iff, decide_eq_false_iff_not] at *
  rcases h with h | ⟨h1, h2⟩
  · exact ⟨by omega, .inl (by omega)⟩
  · exact ⟨by omega, .inr (bl_asym _ _ h2)⟩
theorem short_self (l : List UInt8) : short l l = false := by simp [short, bl_irrefl]
theorem dd_short (a b : Nat) : short (decDigits a) (decDigits b) = decide (a < b) := by
  rcases Nat.lt_trichotomy a b with h | h | h
  · rw [dd_lt b a h, decide_eq_true h]
  · subst h; rw [short_self]; simp
  · rw [short_asym _ _ (dd_lt a b h)]; symm; simp; omega
end Go.Proofs.YtlflhigphfnhoaaDoor
