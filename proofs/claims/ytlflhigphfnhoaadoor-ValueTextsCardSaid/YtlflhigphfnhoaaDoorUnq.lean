/- Plain: the text between quotes, and back. -/
import Derived.Test.YtlflhigphfnhoaaDoorQuo
namespace Go.Proofs.YtlflhigphfnhoaaDoor
set_option linter.unusedVariables false

/-- What stands ahead of the first quote that stands alone, and what is left from there on. -/
def unq : List UInt8 → List UInt8 × List UInt8
  | [] => ([], [])
  | [c] => if c = 39 then ([], [c]) else ([c], [])
  | c :: d :: t => if c = 39 then (if d = 39 then (39 :: (unq t).1, (unq t).2) else ([], c :: d :: t)) else (c :: (unq (d :: t)).1, (unq (d :: t)).2)
theorem unq_byte {c : UInt8} (h : c ≠ 39) (t : List UInt8) : unq (c :: t) = (c :: (unq t).1, (unq t).2) := by
  cases t with
  | nil => simp [unq, h]
  | cons d t => simp [unq, h]
theorem unq_two (t : List UInt8) : unq (39 :: 39 :: t) = (39 :: (unq t).1, (unq t).2) := by simp [unq]
theorem unq_stop {t : List UInt8} (h : t.head? ≠ some 39) : unq (39 :: t) = ([], 39 :: t) := by
  cases t with
  | nil => rfl
  | cons d t =>
    have : d ≠ 39 := by simpa using h
    simp [unq, this]
theorem unq_esc : ∀ l : List UInt8, unq (esc l ++ [39]) = (l, [39])
  | [] => rfl
  | c :: t => by
    have e : esc (c :: t) = (if c = 39 then [39, 39] else [c]) ++ esc t := rfl
    rw [e]
    by_cases h : c = 39
    · rw [if_pos h]
      show unq (39 :: 39 :: (esc t ++ [39])) = _
      rw [unq_two, unq_esc t, h]
    · rw [if_neg h]
      show unq (c :: (esc t ++ [39])) = _
      rw [unq_byte h, unq_esc t]
theorem esc_unq : ∀ (n : Nat) (l : List UInt8), l.length ≤ n → esc (unq l).1 ++ (unq l).2 = l
  | _, [], _ => rfl
  | n, [c], _ => by
    by_cases h : c = 39
    · subst h; rfl
    · rw [unq_byte h]; simp [unq, esc, h]
  | 0, _ :: _ :: _, hn => by simp at hn
  | n + 1, c :: d :: t, hn => by
    have h1 := esc_unq n t (by simp at hn; omega)
    have h2 := esc_unq n (d :: t) (by simp at hn ⊢; omega)
    by_cases h : c = 39
    · subst h
      by_cases hd : d = 39
      · subst hd
        rw [unq_two]
        have e : esc (39 :: (unq t).1) = [39, 39] ++ esc (unq t).1 := rfl
        show esc (39 :: (unq t).1) ++ (unq t).2 = _
        rw [e, List.append_assoc, h1]; rfl
      · rw [unq_stop (by simpa using hd)]; rfl
    · rw [unq_byte h]
      have e : esc (c :: (unq (d :: t)).1) = [c] ++ esc (unq (d :: t)).1 := by simp [esc, h]
      show esc (c :: (unq (d :: t)).1) ++ (unq (d :: t)).2 = _
      rw [e, List.append_assoc, h2]; rfl
theorem unq_len (l : List UInt8) : (unq l).1.length + (unq l).2.length ≤ l.length := by
  have h := esc_unq _ l (Nat.le_refl _)
  have h2 : (unq l).1.length ≤ (esc (unq l).1).length := by
    generalize (unq l).1 = d
    induction d with
    | nil => simp
    | cons c t ih =>
      have e : esc (c :: t) = (if c = 39 then [39, 39] else [c]) ++ esc t := rfl
      rw [e, List.length_append, List.length_cons]
      split <;> simp <;> omega
  have h3 : (esc (unq l).1 ++ (unq l).2).length = l.length := by rw [h]
  rw [List.length_append] at h3
  omega
end Go.Proofs.YtlflhigphfnhoaaDoor
