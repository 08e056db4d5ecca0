/- The walk of stackyardlaw01.PackLeast (8). -/
import Derived.Test.YtcnnijhfliahgaaDoorPaS
namespace Go.Proofs.YtcnnijhfliahgaaDoor
open Go.RowKit
set_option linter.unusedVariables false

set_option maxRecDepth 100000 in
set_option maxHeartbeats 2000000 in
theorem least_walk (A : Option Addr) (cap : Nat) (l : List W64) (W : World) (hl : Num W A l) (hn : l.length ≤ 4611686018427387904) (hT : TabAt W) :
    Calls Tryd.prog 8 #[.slice A l.length cap] W fun e W' => e = .returned (.bool true) ∧ Below W.heap.size W W' := by
  have HSH := Lib.hid (shown1_any W hT)
  have hv := widL_le l
  have hw1 := fun W' (h : Below W.heap.size W W') => width_any A cap l W' (hl.keep h) hn
  have hbad := fun W' (h : Below W.heap.size W W') => pack_bad ((widL l : Int) - 1) A cap l W' (hl.keep h) hn (.inr (by omega))
  by_cases hlen : l.length ≤ 4000
  · have hgood := fun W' (h : Below W.heap.size W W') => pack_good (widL l) A cap l W' (hl.keep h) hv (by omega) (Nat.le_refl _) (hT.keep h)
    generalize (l.length * widL l + 7) / 8 = sz at hgood
    generalize packL sz (bitsP (widL l) l) = bs at hgood
    generalize widL l = v at hw1 hbad hgood hv
    have hnl : ¬ (4000 : Int) < (l.length : Int) := by omega
    have HW1 := Lib.hid hw1
    have HBAD := Lib.hid hbad
    have HGOOD := Lib.hid hgood
    clear hw1 hbad hgood hl hT hlen
    go_enter Tryd.func8, Tryd.ntmps8
    go_wp2_with (first | (go_at_call 13; refine HSH.out.mono ?_; rintro e w1 ⟨rfl, hb⟩; have HB := Lib.hid hb; clear hb) | (go_at_call 16; refine (HW1.out w1 HB.out).mono ?_; rintro e w2 ⟨rfl, rfl⟩) | (go_at_call 18; refine (HGOOD.out _ HB.out).mono ?_; rintro e w3 ⟨rfl, _, hb3⟩; have HB3 := Lib.hid (HB.out.trans (hb3.mono HB.out.size)); clear hb3 HGOOD) | (go_at_call 18; refine (HBAD.out w3 HB3.out).mono ?_; rintro e w4 ⟨rfl, rfl⟩))
    go_ret
    exact ⟨rfl, HB3.out⟩
  · have hnl : (4000 : Int) < (l.length : Int) := by omega
    clear hw1 hbad hl hT hlen
    go_enter Tryd.func8, Tryd.ntmps8
    go_wp2_with (first | (go_at_call 13; refine HSH.out.mono ?_; rintro e w1 ⟨rfl, hb⟩; have HB := Lib.hid hb; clear hb))
    go_ret
    exact ⟨rfl, HB.out⟩
end Go.Proofs.YtcnnijhfliahgaaDoor
