/- The walk of NetOrder (4). -/
import Derived.Test.YtplfigikjlfmjaaNetJ
import Derived.BigRegion
namespace Go.Proofs.Ytplfigikjlfmjaa
open Go.RowKit Go.Lib
set_option linter.unusedVariables false

/-- Texts, and truths, that stand in memory one behind the other. -/
def Strs (w : World) (a : Option Addr) (l : List ByteArray) : Prop := ∀ k (h : k < l.length), ∃ b o, a = some ⟨b, o, none⟩ ∧ w.cell? ⟨b, o + k, none⟩ = some (.string l[k]) ∧ l[k].size ≤ maxLen
def Bools (w : World) (a : Option Addr) (l : List Bool) : Prop := ∀ k (h : k < l.length), ∃ b o, a = some ⟨b, o, none⟩ ∧ w.cell? ⟨b, o + k, none⟩ = some (.bool l[k])
/-- A text's first thousand bytes. -/
def cut1000 (s : ByteArray) : ByteArray := if s.size ≤ 1000 then s else s.extract 0 1000
theorem cut1000_size (s : ByteArray) : (cut1000 s).size ≤ 1000 := by
  unfold cut1000
  split
  · assumption
  · simp
    omega
def mC (xs : List ByteArray) (j : Nat) : List Value := msgC (1 + (j : Int) % 3) (1 + ((j : Int) + 1) % 3) (cut1000 (xs.getD j ⟨#[]⟩))
def isCut (ys : List Bool) (j : Nat) : Bool := ys.getD j false
/-- The messages that are not on cut lines, of the first so many. -/
def wants (xs : List ByteArray) (ys : List Bool) : Nat → List Value
  | 0 => []
  | j + 1 => if isCut ys j then wants xs ys j else wants xs ys j ++ mC xs j
def cnt (ys : List Bool) : Nat → Nat
  | 0 => 0
  | j + 1 => if isCut ys j then cnt ys j else cnt ys j + 1
theorem cnt_le (ys : List Bool) : ∀ j, cnt ys j ≤ j
  | 0 => Nat.le_refl _
  | j + 1 => by
      have := cnt_le ys j
      unfold cnt
      split <;> omega
theorem wants_len (xs : List ByteArray) (ys : List Bool) : ∀ j, (wants xs ys j).length = cnt ys j * 3
  | 0 => rfl
  | j + 1 => by
      have := wants_len xs ys j
      unfold wants cnt
      split
      · exact this
      · rw [List.length_append, this]; simp [mC, msgC]; omega
/-- The state of the first loop. -/
structure St (w1 w : World) (g : Nat) (v u : Value) (xs : List ByteArray) (ys : List Bool) (j : Nat) (cut : List Value) : Prop where
  net : IsNet w1 w g v (cnt ys j) (wants xs ys j) 3 ((j - cnt ys j : Nat) : Int) cut
  row : w.ownsRow w1.heap.size 41 3 u (cnt ys j) (wants xs ys j)
  apart : Apart v u

/-- Behind Cut and Send of a turn: the line not cut. -/
theorem st_open {w1 w' : World} {g : Nat} {v' u' : Value} {xs : List ByteArray} {ys : List Bool} {j : Nat} {cut : List Value} {l : Int} (hN : IsNet w1 w' g v' (cnt ys j + 1) (wants xs ys j ++ mC xs j) 3 l cut) (hu : w'.ownsRow w1.heap.size 41 3 u' (cnt ys j + 1) (wants xs ys j ++ mC xs j)) (ha : Apart v' u') (hc : isCut ys j = false) (hl : l = ((j - cnt ys j : Nat) : Int)) : St w1 w' g v' u' xs ys (j + 1) cut := by
  have := cnt_le ys j
  have e : ((j + 1 - (cnt ys j + 1) : Nat) : Int) = ((j - cnt ys j : Nat) : Int) := by omega
  refine ⟨?_, ?_, ha⟩
  · simp only [cnt, wants, hc]
    show IsNet w1 w' g v' (cnt ys j + 1) (wants xs ys j ++ mC xs j) 3 ((j + 1 - (cnt ys j + 1) : Nat) : Int) cut
    rw [e, ← hl]
    exact hN
  · simp only [cnt, wants, hc]
    exact hu
theorem st_shut {w1 w' : World} {g : Nat} {v u : Value} {xs : List ByteArray} {ys : List Bool} {j : Nat} {cut : List Value} {l : Int} (hN : IsNet w1 w' g v (cnt ys j) (wants xs ys j) 3 l cut) (hu : w'.ownsRow w1.heap.size 41 3 u (cnt ys j) (wants xs ys j)) (ha : Apart v u) (hc : isCut ys j = true) (hl : l = ((j + 1 - cnt ys j : Nat) : Int)) : St w1 w' g v u xs ys (j + 1) cut := by
  refine ⟨?_, ?_, ha⟩
  · simp only [cnt, wants, hc]
    show IsNet w1 w' g v (cnt ys j) (wants xs ys j) 3 ((j + 1 - cnt ys j : Nat) : Int) cut
    rw [← hl]
    exact hN
  · simp only [cnt, wants, hc]
    exact hu

end Go.Proofs.Ytplfigikjlfmjaa
