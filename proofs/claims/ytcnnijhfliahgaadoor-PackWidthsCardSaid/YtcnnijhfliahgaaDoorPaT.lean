/- The walks of stackyardlaw01.PackWidths (3) and PackLeast (8). -/
import Derived.Test.YtcnnijhfliahgaaDoorPaS
namespace Go.Proofs.YtcnnijhfliahgaaDoor
open Go.RowKit
set_option linter.unusedVariables false

set_option maxRecDepth 100000 in
set_option maxHeartbeats 2000000 in
theorem widths_walk (A : Option Addr) (cap : Nat) (l : List W64) (n w : Int) (W : World) (hl : Num W A l) (hn : l.length ≤ 4611686018427387904) (hT : TabAt W) :
    Calls Tryd.prog 3 #[.slice A l.length cap, .int .i64 n, .int .i64 w] W fun e W' => e = .returned (.bool true) ∧ Below W.heap.size W W' := by
  have HSH := Lib.hid (shown1_any W hT)
  have hs1 := fun W => size_any n w W
  have hs2 := fun W => refsize_any n w W
  obtain ⟨a, e, hr⟩ : ∃ a e, sizeR n w = .tuple #[.int .i64 a, .int .i64 e] := ⟨_, _, rfl⟩
  rw [hr] at hs1 hs2
  have HS1 := Lib.hid hs1
  have HS2 := Lib.hid hs2
  have hw1 := fun W' (h : Below W.heap.size W W') => width_any A cap l W' (hl.keep h) hn
  have hw2 := fun W' (h : Below W.heap.size W W') => refwidth_any A cap l W' (hl.keep h) hn
  generalize widL l = v at hw1 hw2
  have HW1 := Lib.hid hw1
  have HW2 := Lib.hid hw2
  clear hs1 hs2 hw1 hw2 hl hr hT
  go_enter Tryd.func3, Tryd.ntmps3
  go_wp2_with (first | (go_at_call 13; refine HSH.out.mono ?_; rintro e w1 ⟨rfl, hb⟩; have HB := Lib.hid hb; clear hb) | (go_at_call 14; refine (HS1.out w1).mono ?_; rintro e w2 ⟨rfl, rfl⟩) | (go_at_call 15; refine (HS2.out _).mono ?_; rintro e w3 ⟨rfl, rfl⟩) | (go_at_call 16; refine (HW1.out _ HB.out).mono ?_; rintro e w4 ⟨rfl, rfl⟩) | (go_at_call 17; refine (HW2.out _ HB.out).mono ?_; rintro e w5 ⟨rfl, rfl⟩))
  go_ret
  exact ⟨rfl, HB.out⟩
end Go.Proofs.YtcnnijhfliahgaaDoor
