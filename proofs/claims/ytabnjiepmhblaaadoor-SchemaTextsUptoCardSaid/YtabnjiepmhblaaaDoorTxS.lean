/- The document's kinds; how a schema's text grows by a column. -/
import Derived.Test.YtabnjiepmhblaaaDoorTxM
import Derived.Test.YtabnjiepmhblaaaDoorScK
namespace Go.Proofs.YtabnjiepmhblaaaDoor
open Go.RowKit
set_option linter.unusedVariables false

def wordT (k : Int) : List UInt8 := if k = 1 then [105, 110, 116] else if k = 2 then [98, 111, 111, 108] else [116, 101, 120, 116]
theorem kindT_word (k : Int) : kindT k = 32 :: wordT k := by
  unfold kindT wordT
  by_cases h1 : k = 1
  · simp [h1]
  · by_cases h2 : k = 2
    · simp [h2]
    · simp [h1, h2]
theorem kinds_any (k : Int) (hk : 1 ≤ k ∧ k ≤ 3) (w : World) : Calls Tryd.prog 21 #[.int .i64 k] w fun e w' => e = .returned (.string ⟨(wordT k).toArray⟩) ∧ Below w.heap.size w w' := by
  have h : k = 1 ∨ k = 2 ∨ k = 3 := by omega
  have hB : ∀ o, Below w.heap.size w (w.alloc o) := fun o => (Below.refl _ _).alloc (Nat.le_refl _) _
  have HB := Lib.hid hB
  clear hB hk
  rcases h with rfl | rfl | rfl
  · go_enter Tryd.func21, Tryd.ntmps21
    go_wp2
    go_ret
    exact ⟨rfl, HB.out _⟩
  · go_enter Tryd.func21, Tryd.ntmps21
    go_wp2
    go_ret
    exact ⟨rfl, HB.out _⟩
  · go_enter Tryd.func21, Tryd.ntmps21
    go_wp2
    go_ret
    exact ⟨rfl, HB.out _⟩
theorem join_snoc (x : List UInt8) : ∀ l : List (List UInt8), l ≠ [] → Lib.join (l ++ [x]) [44, 32] = Lib.join l [44, 32] ++ ([44, 32] ++ x)
  | [], h => absurd rfl h
  | [a], _ => by
    show Lib.join (a :: x :: []) [44, 32] = _
    rw [join_cons, join_one, join_one]
    simp
  | a :: b :: t, _ => by
    show Lib.join (a :: b :: (t ++ [x])) [44, 32] = _
    rw [join_cons, join_cons]
    have := join_snoc x (b :: t) (by simp)
    rw [List.cons_append] at this
    rw [this]
    simp
theorem showL_step (l : List Col) (i : Nat) (h : i < l.length) : showL (l.take (i + 1)) = showL (l.take i) ++ (if i = 0 then [] else [44, 32]) ++ showC l[i] := by
  unfold showL
  rw [List.take_add_one, List.getElem?_eq_getElem h]
  by_cases h0 : i = 0
  · subst h0
    simp [Lib.join, List.intercalate]
  · rw [if_neg h0, List.map_append]
    show Lib.join ((l.take i).map showC ++ [showC l[i]]) [44, 32] = _
    rw [join_snoc _ _ (by intro e; have e2 := congrArg List.length e; rw [List.length_map, List.length_take, List.length_nil] at e2; omega), List.append_assoc]
end Go.Proofs.YtabnjiepmhblaaaDoor
