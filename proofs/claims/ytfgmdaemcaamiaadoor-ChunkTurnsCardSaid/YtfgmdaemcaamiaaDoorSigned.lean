/- The walks of Signed (21, 24), Zig (44), TakeSigned (17, 18), and the document's Number (20). -/
import Derived.Test.YtfgmdaemcaamiaaDoorNumber
import Derived.Test.YtfgmdaemcaamiaaDoorTake
import Derived.Test.YtfgmdaemcaamiaaDoorZig
namespace Go.Proofs.YtfgmdaemcaamiaaDoor
open Go.RowKit
set_option linter.unusedVariables false

set_option maxHeartbeats 1000000 in
set_option maxRecDepth 100000 in
theorem signed_any (A : Option Addr) (cap : Nat) (s : Int) (l : List UInt8) (w : World) (hb : Byt w A l) (hA : A = none → cap = 0) (hl : l.length + 10 ≤ 140737488355328) (h0 : -9223372036854775808 ≤ s) (h1 : s ≤ 9223372036854775807) :
    Calls Tryd.prog 68 #[.slice A l.length cap, .int .i64 s] w (Made w (l ++ num (zig s))) := by
  have HZ : Hid (bits .xor .u64 (IntKind.u64.wrap (IntKind.u64.wrap s * 2)) (IntKind.u64.wrap (s / 9223372036854775808)) = (zig s : Int)) := zig_wire s h0 h1
  have hlt := zig_lt s h0 h1
  have hcall := number_any A cap (zig s) l w hb hA hl hlt
  clear hlt h0 h1
  rw [← HZ.out] at hcall
  go_enter Tryd.func68, Tryd.ntmps68
  go_wp2_with (go_at_call 18; refine hcall.mono ?_; rintro e w' ⟨v, rfl, h1, h2⟩)
  go_ret
  exact ⟨v, rfl, h1, h2⟩

/-- What TakeSigned hands back. -/
def TookS (w : World) (l : List UInt8) (at_ : Int) (e : Ending) (w' : World) : Prop := e = .returned (.tuple #[.int .i64 (unzig l at_), .int .i64 (tP l at_), .int .i64 (tE l at_)]) ∧ w = w'
theorem TookS.mk {w : World} {l : List UInt8} {at_ x y z : Int} (hx : unzig l at_ = x) (hy : tP l at_ = y) (hz : tE l at_ = z) : TookS w l at_ (.returned (.tuple #[.int .i64 x, .int .i64 y, .int .i64 z])) w := by
  subst hx hy hz
  exact ⟨rfl, rfl⟩
theorem take_lt {l : List UInt8} {at_ : Int} {n c : Nat} (h : takeO l at_ = some (n, c)) : n < 18446744073709551616 := by
  unfold takeO at h
  by_cases hi : 0 ≤ at_ ∧ at_ ≤ l.length
  · rw [if_pos hi] at h
    obtain ⟨v, hn, _, hr, _⟩ := decF_form 10 0 0 _ n c (by omega) (by decide) h
    rw [room_0] at hr
    omega
  · rw [if_neg hi] at h; cases h

set_option maxHeartbeats 1000000 in
set_option maxRecDepth 100000 in
theorem takesigned_any (a : Option Addr) (cap : Nat) (at_ : Int) (l : List UInt8) (w : World) (hb : Byt w a l) (hc : l.length ≤ cap) (hm : cap ≤ 140737488351232) :
    Calls Tryd.prog 121 #[.slice a l.length cap, .int .i64 at_] w (TookS w l at_) := by
  cases ht : takeO l at_ with
  | none =>
    obtain ⟨h1, h2, h3⟩ := t_none ht
    have HU : Hid (unzig l at_ = 0) := by show _ = _; simp [unzig, ht]
    have hcall := take_any a cap at_ l w hb hc hm
    unfold Took at hcall
    rw [h1, h2, h3] at hcall
    have H2 : Hid (tP l at_ = 0) := h2
    have H3 : Hid (tE l at_ = 20) := h3
    clear h1 h2 h3 ht
    go_enter Tryd.func121, Tryd.ntmps121
    go_wp2_with (go_at_call 56; refine hcall.mono ?_; rintro e w' ⟨rfl, rfl⟩)
    go_ret3
    exact TookS.mk HU.out H2.out H3.out
  | some p =>
    obtain ⟨n, c⟩ := p
    obtain ⟨h1, h2, h3⟩ := t_some ht
    have hlt := take_lt ht
    have HU : Hid (unzig l at_ = bits .xor .i64 (wrap64 ((n : Int) / 2)) (wrap64 (-wrap64 (bits .and .u64 (n : Int) 1)))) := by show _ = _; rw [zag_wire n hlt]; simp [unzig, ht]
    have hcall := take_any a cap at_ l w hb hc hm
    unfold Took at hcall
    rw [h1, h2, h3] at hcall
    have H2 : Hid (tP l at_ = at_ + c) := h2
    have H3 : Hid (tE l at_ = 0) := h3
    clear h1 h2 h3 ht hlt
    go_enter Tryd.func121, Tryd.ntmps121
    go_wp2_with (go_at_call 56; refine hcall.mono ?_; rintro e w' ⟨rfl, rfl⟩)
    go_ret3
    exact TookS.mk HU.out H2.out H3.out

theorem ret_u64 {a b : Int} (h : a = b) : Ending.returned (.int .u64 a) = .returned (.int .u64 b) := by rw [h]

set_option maxHeartbeats 1000000 in
set_option maxRecDepth 100000 in
theorem zig_any (s : Int) (w : World) (h0 : -9223372036854775808 ≤ s) (h1 : s ≤ 9223372036854775807) :
    Calls Tryd.prog 102 #[.int .i64 s] w fun e w' => e = .returned (.int .u64 (zig s)) ∧ w = w' := by
  by_cases h : s < 0
  · have HZ : Hid ((zig s : Int) = 2 * -(s + 1) + 1) := by show _ = _; unfold zig; rw [if_pos h]; omega
    go_enter Tryd.func102, Tryd.ntmps102
    go_wp2
    go_ret
    exact ⟨ret_u64 HZ.out.symm, rfl⟩
  · have HZ : Hid ((zig s : Int) = 2 * s) := by show _ = _; unfold zig; rw [if_neg h]; omega
    go_enter Tryd.func102, Tryd.ntmps102
    go_wp2
    go_ret
    exact ⟨ret_u64 HZ.out.symm, rfl⟩
end Go.Proofs.YtfgmdaemcaamiaaDoor
