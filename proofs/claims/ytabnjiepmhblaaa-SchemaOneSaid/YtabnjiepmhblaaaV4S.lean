/- What the walks of value's Lay and Take want of value's Right, under the names that they use. -/
import Derived.Test.YtabnjiepmhblaaaValR
import Derived.Test.YtabnjiepmhblaaaText
namespace Go.Proofs.Ytabnjiepmhblaaa.V4
open Go.RowKit
theorem right_any (k n : Int) (s : ByteArray) (w : World) (hs : s.size ≤ maxLen) : Calls Try.prog 52 #[.agg #[.int .i64 k, .int .i64 n, .string s]] w fun e w' => e = .returned (.bool (rightB k n s.toList)) ∧ Below w.heap.size w w' := vright_any k n s w hs
theorem refright_any (k n : Int) (s : ByteArray) (w : World) (hs : s.size ≤ maxLen) : Calls Try.prog 31 #[.agg #[.int .i64 k, .int .i64 n, .string s]] w fun e w' => e = .returned (.bool (rightB k n s.toList)) ∧ Below w.heap.size w w' := vrefright_any k n s w hs
/-- A block that was made, behind calls that keep what lies below them. -/
theorem one_kept {w w3 : World} (cs : List Value) (hb : Below (w.alloc (.cells cs.toArray 58)).heap.size (w.alloc (.cells cs.toArray 58)) w3) : Blk w3 w.heap.size 58 cs ∧ Below w.heap.size w w3 := by
  have h0 : Below w.heap.size w (w.alloc (.cells cs.toArray 58)) := (Below.refl _ _).alloc (Nat.le_refl _) _
  exact ⟨(Blk.born w _ cs).below hb (by simp), h0.trans (hb.mono h0.size)⟩
theorem tol_inj {a b : ByteArray} (h : a.toList = b.toList) : a = b := by
  rw [ByteArray.toList_eq, ByteArray.toList_eq] at h
  cases a; cases b
  simp at h
  rw [h]
end Go.Proofs.Ytabnjiepmhblaaa.V4
