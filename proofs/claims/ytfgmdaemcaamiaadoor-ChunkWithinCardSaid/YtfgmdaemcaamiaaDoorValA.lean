/- The walks of cmp.Compare (30, 24, 25), cmp.Or (22), value.Right (11), the document's Right (10) and less (26). -/
import Derived.Test.YtfgmdaemcaamiaaDoorOrd
import Derived.Test.YtfgmdaemcaamiaaDoorMem
import Derived.Lib.Hide
import Derived.Deep.QuietTactic
import Derived.BigQuiet
import Derived.Outline
namespace Go.Proofs.YtfgmdaemcaamiaaDoor
open Go.RowKit
set_option linter.unusedVariables false

set_option maxHeartbeats 400000 in
theorem nan_int (x : Int) (w : World) : Calls Tryd.prog 85 #[.int .i64 x] w fun e w' => e = .returned (.bool false) ∧ w = w' := by
  go_enter Tryd.func85, Tryd.ntmps85
  go_wp2
  go_ret
  exact ⟨rfl, rfl⟩
set_option maxHeartbeats 400000 in
theorem nan_i64 (x : Int) (w : World) : Calls Tryd.prog 86 #[.int .i64 x] w fun e w' => e = .returned (.bool false) ∧ w = w' := by
  go_enter Tryd.func86, Tryd.ntmps86
  go_wp2
  go_ret
  exact ⟨rfl, rfl⟩
set_option maxHeartbeats 400000 in
theorem nan_str (x : ByteArray) (w : World) : Calls Tryd.prog 87 #[.string x] w fun e w' => e = .returned (.bool false) ∧ w = w' := by
  go_enter Tryd.func87, Tryd.ntmps87
  go_wp2
  go_ret
  exact ⟨rfl, rfl⟩
theorem ret_i64 {a b : Int} (h : a = b) : Ending.returned (.int .i64 a) = .returned (.int .i64 b) := by rw [h]
set_option maxHeartbeats 400000 in
theorem cmp_int (a b : Int) (w : World) : Calls Tryd.prog 53 #[.int .i64 a, .int .i64 b] w fun e w' => e = .returned (.int .i64 (cmpI a b)) ∧ w = w' := by
  have n1 := nan_int a w
  have n2 := nan_int b w
  rcases cmpI_cases a b with ⟨e, g⟩ | ⟨e, g⟩ | ⟨e, g⟩
  · rw [e]; clear e
    go_enter Tryd.func53, Tryd.ntmps53
    go_wp2_with (first | (go_at_call 85; refine n1.mono ?_; rintro e w2 ⟨rfl, rfl⟩; clear n1) | (go_at_call 85; refine n2.mono ?_; rintro e w2 ⟨rfl, rfl⟩; clear n2))
    go_ret
    exact ⟨rfl, rfl⟩
  · rw [e]; clear e
    have g1 : ¬ a < b := by omega
    go_enter Tryd.func53, Tryd.ntmps53
    go_wp2_with (first | (go_at_call 85; refine n1.mono ?_; rintro e w2 ⟨rfl, rfl⟩; clear n1) | (go_at_call 85; refine n2.mono ?_; rintro e w2 ⟨rfl, rfl⟩; clear n2))
    go_ret
    exact ⟨rfl, rfl⟩
  · rw [e]; clear e; subst g
    go_enter Tryd.func53, Tryd.ntmps53
    go_wp2_with (first | (go_at_call 85; refine n1.mono ?_; rintro e w2 ⟨rfl, rfl⟩; clear n1) | (go_at_call 85; refine n2.mono ?_; rintro e w2 ⟨rfl, rfl⟩; clear n2))
    go_ret
    exact ⟨rfl, rfl⟩
set_option maxHeartbeats 400000 in
theorem cmp_i64 (a b : Int) (w : World) : Calls Tryd.prog 54 #[.int .i64 a, .int .i64 b] w fun e w' => e = .returned (.int .i64 (cmpI a b)) ∧ w = w' := by
  have n1 := nan_i64 a w
  have n2 := nan_i64 b w
  rcases cmpI_cases a b with ⟨e, g⟩ | ⟨e, g⟩ | ⟨e, g⟩
  · rw [e]; clear e
    go_enter Tryd.func54, Tryd.ntmps54
    go_wp2_with (first | (go_at_call 86; refine n1.mono ?_; rintro e w2 ⟨rfl, rfl⟩; clear n1) | (go_at_call 86; refine n2.mono ?_; rintro e w2 ⟨rfl, rfl⟩; clear n2))
    go_ret
    exact ⟨rfl, rfl⟩
  · rw [e]; clear e
    have g1 : ¬ a < b := by omega
    go_enter Tryd.func54, Tryd.ntmps54
    go_wp2_with (first | (go_at_call 86; refine n1.mono ?_; rintro e w2 ⟨rfl, rfl⟩; clear n1) | (go_at_call 86; refine n2.mono ?_; rintro e w2 ⟨rfl, rfl⟩; clear n2))
    go_ret
    exact ⟨rfl, rfl⟩
  · rw [e]; clear e; subst g
    go_enter Tryd.func54, Tryd.ntmps54
    go_wp2_with (first | (go_at_call 86; refine n1.mono ?_; rintro e w2 ⟨rfl, rfl⟩; clear n1) | (go_at_call 86; refine n2.mono ?_; rintro e w2 ⟨rfl, rfl⟩; clear n2))
    go_ret
    exact ⟨rfl, rfl⟩

theorem gtr_str (t : TypeId) (a b : ByteArray) : binOp .gtr t (.string a) (.string b) = pure (.bool (!(Op.bytesLess a.toList b.toList || a.toList == b.toList))) := by simp [binOp, Op.stringOp]
set_option maxHeartbeats 400000 in
theorem cmp_str (a b : ByteArray) (w : World) : Calls Tryd.prog 55 #[.string a, .string b] w fun e w' => e = .returned (.int .i64 (cmpL a.toList b.toList)) ∧ w = w' := by
  have n1 := nan_str a w
  have n2 := nan_str b w
  rcases cmpL_cases a.toList b.toList with ⟨e, g⟩ | ⟨e, g⟩ | ⟨e, g⟩
  · rw [e]; clear e
    go_enter Tryd.func55, Tryd.ntmps55
    go_wp2_with (first | (go_at_call 87; refine n1.mono ?_; rintro e w2 ⟨rfl, rfl⟩; clear n1) | (go_at_call 87; refine n2.mono ?_; rintro e w2 ⟨rfl, rfl⟩; clear n2))
    go_ret
    exact ⟨rfl, rfl⟩
  · rw [e]; clear e
    have g1 := bl_asym _ _ g
    have g2 : (a.toList == b.toList) = false := by
      rw [beq_eq_false_iff_ne]
      intro e
      rw [e, bl_irrefl] at g
      cases g
    go_enter Tryd.func55, Tryd.ntmps55
    go_wp2_with (first | (go_at_call 87; refine n1.mono ?_; rintro e w2 ⟨rfl, rfl⟩; clear n1) | (go_at_call 87; refine n2.mono ?_; rintro e w2 ⟨rfl, rfl⟩; clear n2))
    all_goals go_ret
    all_goals exact ⟨rfl, rfl⟩
  · have g1 : Op.bytesLess a.toList b.toList = false := by rw [g]; exact bl_irrefl _
    have g2 : (a.toList == b.toList) = true := by rw [g]; exact beq_self_eq_true _
    rw [e]; clear e g
    go_enter Tryd.func55, Tryd.ntmps55
    go_wp2_with (first | (go_at_call 87; refine n1.mono ?_; rintro e w2 ⟨rfl, rfl⟩; clear n1) | (go_at_call 87; refine n2.mono ?_; rintro e w2 ⟨rfl, rfl⟩; clear n2))
    all_goals go_ret
    all_goals exact ⟨rfl, rfl⟩

set_option maxHeartbeats 400000 in
theorem or_any (b o c : Nat) (x y z : Int) (w : World) (h0 : w.cell? ⟨b, o, none⟩ = some (.int .i64 x)) (h1 : w.cell? ⟨b, o + 1, none⟩ = some (.int .i64 y)) (h2 : w.cell? ⟨b, o + 2, none⟩ = some (.int .i64 z)) :
    Calls Tryd.prog 52 #[.slice (some ⟨b, o, none⟩) 3 c] w fun e w' => e = .returned (.int .i64 (orI x (orI y z))) ∧ w = w' := by
  go_enter Tryd.func52, Tryd.ntmps52
  go_wp2
  go_loop [8] (fun i => ∃ k : Nat, k ≤ 3 ∧ i = .int .i64 k ∧ (1 ≤ k → x = 0) ∧ (2 ≤ k → y = 0) ∧ (3 ≤ k → z = 0)) (fun i => 3 - (intOf i).toNat)
  case atStart => exact ⟨0, by omega, rfl, by omega, by omega, by omega⟩
  case round =>
    obtain ⟨k, hk, rfl, e1, e2, e3⟩ := hrel
    have hK : k = 0 ∨ k = 1 ∨ k = 2 ∨ k = 3 := by omega
    rcases hK with rfl | rfl | rfl | rfl
    · by_cases hx : x = 0
      · have t : (x != 0) = false := by simp [hx]
        go_wp2
        go_round
        case rel => exact ⟨1, by omega, rfl, fun _ => hx, by omega, by omega⟩
        case measure => simp [intOf]
      · have t : (x != 0) = true := by simp [hx]
        have H : Hid (orI x (orI y z) = x) := by show _ = _; simp [orI, hx]
        go_wp2
        go_ret
        exact ⟨ret_i64 H.out.symm, rfl⟩
    · have hx := e1 (by omega)
      by_cases hy : y = 0
      · have t : (y != 0) = false := by simp [hy]
        go_wp2
        go_round
        case rel => exact ⟨2, by omega, rfl, fun _ => hx, fun _ => hy, by omega⟩
        case measure => simp [intOf]
      · have t : (y != 0) = true := by simp [hy]
        have H : Hid (orI 0 (orI y z) = y) := by show _ = _; simp [orI, hy]
        go_wp2
        go_ret
        exact ⟨ret_i64 H.out.symm, rfl⟩
    · have hx := e1 (by omega)
      have hy := e2 (by omega)
      by_cases hz : z = 0
      · have t : (z != 0) = false := by simp [hz]
        go_wp2
        go_round
        case rel => exact ⟨3, by omega, rfl, fun _ => hx, fun _ => hy, fun _ => hz⟩
        case measure => simp [intOf]
      · have t : (z != 0) = true := by simp [hz]
        have H : Hid (orI 0 (orI 0 z) = z) := by show _ = _; simp [orI]
        go_wp2
        go_ret
        exact ⟨ret_i64 H.out.symm, rfl⟩
    · have H : Hid (orI x (orI y z) = 0) := by show _ = _; simp [orI, e1, e2, e3]
      clear e1 e2 e3
      go_wp2
      go_ret
      exact ⟨ret_i64 H.out.symm, rfl⟩
end Go.Proofs.YtfgmdaemcaamiaaDoor
