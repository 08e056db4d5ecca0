/- The walks of Signed (21, 24), Zig (44), TakeSigned (17, 18), and the document's Number (20). -/
import Derived.Test.YtjmkipbolldhgaaDoorNumber
import Derived.Test.YtjmkipbolldhgaaDoorTake
import Derived.Test.YtjmkipbolldhgaaDoorZig
namespace Go.Proofs.YtjmkipbolldhgaaDoor
open Go.RowKit
set_option linter.unusedVariables false

/-- What TakeSigned hands back. -/
def TookS (w : World) (l : List UInt8) (at_ : Int) (e : Ending) (w' : World) : Prop := e = .returned (.tuple #[.int .i64 (unzig l at_), .int .i64 (tP l at_), .int .i64 (tE l at_)]) ∧ w = w'
theorem TookS.mk {w : World} {l : List UInt8} {at_ x y z : Int} (hx : unzig l at_ = x) (hy : tP l at_ = y) (hz : tE l at_ = z) : TookS w l at_ (.returned (.tuple #[.int .i64 x, .int .i64 y, .int .i64 z])) w := by
  subst hx hy hz
  exact ⟨rfl, rfl⟩
theorem take_lt {l : List UInt8} {at_ : Int} {n c : Nat} (h : takeO l at_ = some (n, c)) : n < 18446744073709551616 := by
  unfold takeO at h
  by_cases hi : 0 ≤ at_ ∧ at_ ≤ l.length
  · rw [if_pos hi] at h
    obtain ⟨v, hn, _, hr, _⟩ := decF_form 10 0 0 _ n c (by omega) (by decide) h
    rw [room_0] at hr
    omega
  · rw [if_neg hi] at h; cases h

theorem ret_u64 {a b : Int} (h : a = b) : Ending.returned (.int .u64 a) = .returned (.int .u64 b) := by rw [h]

end Go.Proofs.YtjmkipbolldhgaaDoor
