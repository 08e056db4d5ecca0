/- The walks of Text and TakeText. -/
import Derived.Test.YtdchaojgldfagaaDoorRefNum
import Derived.Test.YtdchaojgldfagaaDoorOne0
import Derived.Lib.Hide
namespace Go.Proofs.YtdchaojgldfagaaDoor
open Go.RowKit
set_option linter.unusedVariables false

/-- What Text leaves of a text that is not too long. -/
def MadeT (w : World) (l : List UInt8) (e : Ending) (w' : World) : Prop := ∃ v, e = .returned (.tuple #[v, .int .i64 0]) ∧ Own w' w.heap.size v l ∧ Below w.heap.size w w'
def NoText (w : World) (e : Ending) (w' : World) : Prop := e = .returned (.tuple #[.slice none 0 0, .int .i64 2]) ∧ w = w'

theorem num_pos (l : List UInt8) (n : Nat) : 0 < (l ++ num n).length := by have := num_len n; rw [List.length_append]; omega
theorem num_ten (l : List UInt8) (n : Nat) : (l ++ num n).length ≤ l.length + 10 := by have := num_len n; rw [List.length_append]; omega

/-- What is read at a place as a text of at most so many bytes: its bytes, and the place behind it. -/
def textO (l : List UInt8) (at_ most : Int) : Option (List UInt8 × Int) :=
  match takeO l at_ with
  | none => none
  | some (n, c) => if 1048576 < n ∨ most < (n : Int) ∨ (l.length : Int) - (at_ + c) < n then none else some ((l.drop (at_ + c).toNat).take n, at_ + c + n)
def txS (l : List UInt8) (at_ most : Int) : ByteArray := match textO l at_ most with | some (t, _) => str t | none => str []
def txP (l : List UInt8) (at_ most : Int) : Int := match textO l at_ most with | some (_, p) => p | none => 0
def txE (l : List UInt8) (at_ most : Int) : Int := match textO l at_ most with | some _ => 0 | none => 20
def TookT (w : World) (l : List UInt8) (at_ most : Int) (e : Ending) (w' : World) : Prop := e = .returned (.tuple #[.string (txS l at_ most), .int .i64 (txP l at_ most), .int .i64 (txE l at_ most)]) ∧ w = w'
theorem TookT.none {w : World} {l : List UInt8} {at_ most : Int} (h : textO l at_ most = none) : TookT w l at_ most (.returned (.tuple #[.string ⟨#[]⟩, .int .i64 0, .int .i64 20])) w := by
  refine ⟨?_, rfl⟩
  simp [txS, txP, txE, h]
  rfl
theorem TookT.some {w : World} {l : List UInt8} {at_ most p : Int} {t : List UInt8} {s : ByteArray} (h : textO l at_ most = some (t, p)) (hs : s = str t) : TookT w l at_ most (.returned (.tuple #[.string s, .int .i64 p, .int .i64 0])) w := by
  refine ⟨?_, rfl⟩
  simp [txS, txP, txE, h, hs]

end Go.Proofs.YtdchaojgldfagaaDoor
