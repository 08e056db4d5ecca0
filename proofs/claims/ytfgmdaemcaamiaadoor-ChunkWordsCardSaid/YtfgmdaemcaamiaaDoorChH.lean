/- The walk of stackyardlaw08.ChunkWords. -/
import Derived.Test.YtfgmdaemcaamiaaDoorChG
import Derived.Test.YtfgmdaemcaamiaaDoorChS
namespace Go.Proofs.YtfgmdaemcaamiaaDoor
open Go.RowKit
set_option linter.unusedVariables false

theorem encs8_any (kind : Int) (A : Option Addr) (cap : Nat) (l : List Vl) (W0 : World) (hl : Vls W0 A l) (hn : l.length ≤ 4000000000000000000) (hT : TabAt W0) :
    ∃ bs er, (∀ W : World, Below W0.heap.size W0 W → Calls Tryd.prog 9 #[.int .i64 kind, .slice A l.length cap] W (EncRT W bs er)) ∧ (∀ W : World, Below W0.heap.size W0 W → Calls Tryd.prog 10 #[.int .i64 kind, .slice A l.length cap] W (EncRT W bs er)) := by
  by_cases hr : colR kind l = true
  · exact ⟨encC kind l, 0, fun W hb => (enc8_yes kind A cap l W (hl.keep hb) hr (hT.keep hb)).mono fun e W' h => LaidT.enc h, fun W hb => (renc8_yes kind A cap l W (hl.keep hb) hr (hT.keep hb)).mono fun e W' h => LaidT.enc h⟩
  · rw [Bool.not_eq_true] at hr
    refine ⟨[], 2, fun W hb => (enc8_no kind A cap l W (hl.keep hb) hn hr).mono ?_, fun W hb => (renc8_no kind A cap l W (hl.keep hb) hn hr).mono ?_⟩
    all_goals
      rintro e W' ⟨rfl, h⟩
      exact ⟨_, _, rfl, Byt.empty _ _, h⟩

set_option maxRecDepth 100000 in
set_option maxHeartbeats 4000000 in
theorem chwords_any (kind : Int) (A : Option Addr) (cap : Nat) (l : List Vl) (W : World) (hl : Vls W A l) (hn : l.length ≤ 4000000000000000000) (hT : TabAt W) :
    Calls Tryd.prog 3 #[.int .i64 kind, .slice A l.length cap] W fun e W' => e = .returned (.bool true) ∧ Below W.heap.size W W' := by
  have HSH := Lib.hid (shown8_any W hT)
  obtain ⟨bs, er, h1, h2⟩ := encs8_any kind A cap l W hl hn hT
  have H1 := Lib.hid h1
  have H2 := Lib.hid h2
  clear h1 h2 hl hT
  generalize l.length = n at *
  go_enter Tryd.func3, Tryd.ntmps3
  go_wp2_with (first | (go_at_call 8; refine HSH.out.mono ?_; rintro e w1 ⟨rfl, hb⟩; have HB := Lib.hid hb; clear hb) | (go_at_call 9; refine (H1.out w1 HB.out).mono ?_; rintro e w2 ⟨A1, c1, rfl, hy1, hb2⟩; have HB2 := Lib.hid (HB.out.trans (hb2.mono HB.out.size)); have HY1 := Lib.hid hy1; clear hb2 hy1) | (go_at_call 10; refine (H2.out w2 HB2.out).mono ?_; rintro e w3 ⟨A2, c2, rfl, hy2, hb3⟩; have HB3 := Lib.hid (HB2.out.trans (hb3.mono HB2.out.size)); have hc1 := conv (HY1.out.keep hb3) c1; have hc2 := conv hy2 c2; clear hb3 hy2))
  go_ret
  exact ⟨rfl, HB3.out⟩
end Go.Proofs.YtfgmdaemcaamiaaDoor
