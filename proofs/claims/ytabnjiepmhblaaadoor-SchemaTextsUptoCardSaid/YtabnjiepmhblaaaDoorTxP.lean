/- A column off a text: the plain model of parseColumn, and that it reads what Show writes. -/
import Derived.Test.YtabnjiepmhblaaaDoorTxM
namespace Go.Proofs.YtabnjiepmhblaaaDoor
set_option linter.unusedVariables false

theorem has_iff {s p : List UInt8} : Lib.hasSuffix s p = true ↔ ∃ t, s = t ++ p := by
  unfold Lib.hasSuffix
  rw [List.isSuffixOf_iff_suffix]
  exact ⟨fun ⟨t, h⟩ => ⟨t, h.symm⟩, fun ⟨t, h⟩ => ⟨t, h.symm⟩⟩
theorem trim_app (t p : List UInt8) : Lib.trimSuffix (t ++ p) p = t := by
  unfold Lib.trimSuffix
  rw [if_pos (has_iff.2 ⟨t, rfl⟩)]
  simp
theorem trim_no {s p : List UInt8} (h : Lib.hasSuffix s p = false) : Lib.trimSuffix s p = s := by
  unfold Lib.trimSuffix
  rw [h]
  rfl
/-- The word that null may stand. -/
def nullT : List UInt8 := [32, 110, 117, 108, 108]
/-- The name, the kind and null of a column's text. -/
def parseC (s : List UInt8) : Option (List UInt8 × Int × Bool) :=
  if Lib.hasSuffix (Lib.trimSuffix s nullT) (kindT 1) then some (Lib.trimSuffix (Lib.trimSuffix s nullT) (kindT 1), 1, Lib.hasSuffix s nullT)
  else if Lib.hasSuffix (Lib.trimSuffix s nullT) (kindT 2) then some (Lib.trimSuffix (Lib.trimSuffix s nullT) (kindT 2), 2, Lib.hasSuffix s nullT)
  else if Lib.hasSuffix (Lib.trimSuffix s nullT) (kindT 3) then some (Lib.trimSuffix (Lib.trimSuffix s nullT) (kindT 3), 3, Lib.hasSuffix s nullT)
  else none
theorem null_back (s : List UInt8) : s = Lib.trimSuffix s nullT ++ if Lib.hasSuffix s nullT then nullT else [] := by
  cases h : Lib.hasSuffix s nullT with
  | true =>
    obtain ⟨t, rfl⟩ := has_iff.1 h
    rw [trim_app]
    rfl
  | false => rw [trim_no h]; simp
/-- What is read off a text, written again, is the text. -/
theorem parseC_back {s nm : List UInt8} {k : Int} {nl : Bool} (h : parseC s = some (nm, k, nl)) : (k = 1 ∨ k = 2 ∨ k = 3) ∧ s = nm ++ tailT k nl := by
  have hs := null_back s
  unfold parseC at h
  by_cases h1 : Lib.hasSuffix (Lib.trimSuffix s nullT) (kindT 1) = true
  · rw [if_pos h1] at h
    simp only [Option.some.injEq, Prod.mk.injEq] at h
    obtain ⟨rfl, rfl, rfl⟩ := h
    refine ⟨by simp, ?_⟩
    obtain ⟨t, ht⟩ := has_iff.1 h1
    unfold tailT
    rw [← List.append_assoc, ht, trim_app, ← ht]
    exact hs
  · rw [if_neg h1] at h
    by_cases h2 : Lib.hasSuffix (Lib.trimSuffix s nullT) (kindT 2) = true
    · rw [if_pos h2] at h
      simp only [Option.some.injEq, Prod.mk.injEq] at h
      obtain ⟨rfl, rfl, rfl⟩ := h
      refine ⟨by simp, ?_⟩
      obtain ⟨t, ht⟩ := has_iff.1 h2
      unfold tailT
      rw [← List.append_assoc, ht, trim_app, ← ht]
      exact hs
    · rw [if_neg h2] at h
      by_cases h3 : Lib.hasSuffix (Lib.trimSuffix s nullT) (kindT 3) = true
      · rw [if_pos h3] at h
        simp only [Option.some.injEq, Prod.mk.injEq] at h
        obtain ⟨rfl, rfl, rfl⟩ := h
        refine ⟨by simp, ?_⟩
        obtain ⟨t, ht⟩ := has_iff.1 h3
        unfold tailT
        rw [← List.append_assoc, ht, trim_app, ← ht]
        exact hs
      · rw [if_neg h3] at h; cases h
theorem no_end {nm p q : List UInt8} (h : ∀ t, p.reverse ++ t ≠ q.reverse ++ nm.reverse) : Lib.hasSuffix (nm ++ q) p = false := by
  rw [Bool.eq_false_iff]
  intro h2
  obtain ⟨t, e⟩ := has_iff.1 h2
  apply h t.reverse
  have := congrArg List.reverse e
  rw [List.reverse_append, List.reverse_append] at this
  exact this.symm
/-- What Show writes of a column is read as it is. -/
theorem parseC_show (nm : List UInt8) (k : Int) (nl : Bool) (hk : k = 1 ∨ k = 2 ∨ k = 3) : parseC (nm ++ tailT k nl) = some (nm, k, nl) := by
  have hno : Lib.hasSuffix (nm ++ kindT k) nullT = false := by
    rcases hk with rfl | rfl | rfl <;> exact no_end (by intro t e; simp [nullT, kindT] at e)
  have h1 : Lib.trimSuffix (nm ++ tailT k nl) nullT = nm ++ kindT k ∧ Lib.hasSuffix (nm ++ tailT k nl) nullT = nl := by
    unfold tailT
    cases nl with
    | true =>
      show Lib.trimSuffix (nm ++ (kindT k ++ nullT)) nullT = _ ∧ Lib.hasSuffix (nm ++ (kindT k ++ nullT)) nullT = true
      rw [← List.append_assoc, trim_app]
      exact ⟨rfl, has_iff.2 ⟨_, rfl⟩⟩
    | false =>
      show Lib.trimSuffix (nm ++ (kindT k ++ [])) nullT = _ ∧ Lib.hasSuffix (nm ++ (kindT k ++ [])) nullT = false
      rw [List.append_nil]
      exact ⟨trim_no hno, hno⟩
  unfold parseC
  rw [h1.1, h1.2]
  rcases hk with rfl | rfl | rfl
  · rw [if_pos (has_iff.2 ⟨nm, rfl⟩), trim_app]
  · rw [if_neg (by rw [no_end (by intro t e; simp [kindT] at e)]; simp), if_pos (has_iff.2 ⟨nm, rfl⟩), trim_app]
  · rw [if_neg (by rw [no_end (by intro t e; simp [kindT] at e)]; simp), if_neg (by rw [no_end (by intro t e; simp [kindT] at e)]; simp), if_pos (has_iff.2 ⟨nm, rfl⟩), trim_app]
end Go.Proofs.YtabnjiepmhblaaaDoor
