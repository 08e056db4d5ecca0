/- The walks of a nil network's functions, and of NetNone (13). -/
import Derived.Test.YtmjhimbjnmgklaaNetShown
namespace Go.Proofs.Ytmjhimbjnmgklaa
open Go.RowKit
set_option linter.unusedVariables false

def msgZ : Value := .agg #[.int .i64 0, .int .i64 0, .string ⟨#[]⟩]
set_option maxHeartbeats 1000000 in
theorem look_none (i : Int) (w : World) : Calls Try.prog 40 #[.pointer none, .int .i64 i] w fun e w' => e = .returned (.tuple #[.agg #[.int .i64 0, .int .i64 0, .string ⟨#[]⟩], .bool false]) ∧ Below w.heap.size w w' := by
  have hn := fun w => isnil_none w
  go_enter Try.func40, Try.ntmps40
  go_wp2_with (go_at_call 45; refine (hn _).mono ?_; rintro e w2 ⟨rfl, rfl⟩)
  exact bodyPost_ret (v := .tuple #[.agg #[.int .i64 0, .int .i64 0, .string ⟨#[]⟩], .bool false]) (by simp [results, Try.results40, go_sem]) rfl ⟨rfl, by simpa using (Below.refl w.heap.size w).alloc (Nat.le_refl _) _⟩
set_option maxHeartbeats 1000000 in
theorem take_none (i : Int) (w : World) : Calls Try.prog 39 #[.pointer none, .int .i64 i] w fun e w' => e = .returned (.tuple #[.agg #[.int .i64 0, .int .i64 0, .string ⟨#[]⟩], .bool false]) ∧ Below w.heap.size w w' := by
  have hn := fun w => look_none i w
  go_enter Try.func39, Try.ntmps39
  go_wp2_with (go_at_call 40; refine (hn _).mono ?_; rintro e w2 ⟨rfl, hb2⟩; have hs2 : w.heap.size < w2.heap.size := (by have := hb2.size; simp at this; omega); have hB2 : Blk w2 w.heap.size 57 [.int .i64 0, .int .i64 0, .string ⟨#[]⟩] := ((Blk.born w 57 [.int .i64 0, .int .i64 0, .string ⟨#[]⟩]).below hb2 (by simp)); have c50 : w2.cell? ⟨w.heap.size, 0, none⟩ = some (.int .i64 0) := hB2.at_ 0; have c51 : w2.cell? ⟨w.heap.size, 1, none⟩ = some (.int .i64 0) := hB2.at_ 1; have c52 : w2.cell? ⟨w.heap.size, 2, none⟩ = some (.string ⟨#[]⟩) := hB2.at_ 2; have f50 := hB2.free 0; have f51 := hB2.free 1; have f52 := hB2.free 2; have HB := Lib.hid hB2; clear hB2)
  obtain ⟨W, hW⟩ : ∃ W, W = (((w2.setCell ⟨w.heap.size, 0, none⟩ (.int .i64 0)).setCell ⟨w.heap.size, 1, none⟩ (.int .i64 0)).setCell ⟨w.heap.size, 2, none⟩ (.string ⟨#[]⟩)).alloc (Obj.cells #[Value.int IntKind.i64 0, Value.int IntKind.i64 0, Value.string { data := #[] }] 57) := ⟨_, rfl⟩
  have hW5 : Blk W w.heap.size 57 [.int .i64 0, .int .i64 0, .string ⟨#[]⟩] := by
    rw [hW]
    exact (((HB.out.store 0 (.int .i64 0)).store 1 (.int .i64 0)).store 2 (.string ⟨#[]⟩)).later _
  have hb2' : Below w.heap.size w w2 := ((Below.refl w.heap.size w).alloc (Nat.le_refl _) _).trans (hb2.mono (by simp))
  have hbW : Below w.heap.size w W := by
    rw [hW]
    have hx := ((hb2'.setCell (p := ⟨w.heap.size, 0, none⟩) (Nat.le_refl _) (.int .i64 0)).setCell (p := ⟨w.heap.size, 1, none⟩) (Nat.le_refl _) (.int .i64 0)).setCell (p := ⟨w.heap.size, 2, none⟩) (Nat.le_refl _) (.string ⟨#[]⟩)
    exact hx.alloc hx.size _
  rw [← hW]
  have e0 : W.cell? ⟨w.heap.size, 0, none⟩ = some (.int .i64 0) := hW5.at_ 0
  have e1 : W.cell? ⟨w.heap.size, 1, none⟩ = some (.int .i64 0) := hW5.at_ 1
  have e2 : W.cell? ⟨w.heap.size, 2, none⟩ = some (.string ⟨#[]⟩) := hW5.at_ 2
  exact bodyPost_ret (v := .tuple #[.agg #[.int .i64 0, .int .i64 0, .string ⟨#[]⟩], .bool false]) (by simp [results, Try.results39, go_sem, e0, e1, e2]) rfl ⟨rfl, hbW⟩
set_option maxHeartbeats 1000000 in
theorem copy_none (i : Int) (w : World) : Calls Try.prog 38 #[.pointer none, .int .i64 i] w fun e w' => e = .returned (.bool false) ∧ Below w.heap.size w w' := by
  have hn := fun w => look_none i w
  go_enter Try.func38, Try.ntmps38
  go_wp2_with (go_at_call 40; refine (hn _).mono ?_; rintro e w2 ⟨rfl, hb2⟩)
  go_ret
  exact ⟨rfl, hb2.alloc hb2.size _⟩
set_option maxHeartbeats 1000000 in
theorem turn_none (i j c : Int) (w : World) : Calls Try.prog 41 #[.pointer none, .int .i64 i, .int .i64 j, .int .u8 c] w fun e w' => e = .returned (.bool false) ∧ Below w.heap.size w w' := by
  have hn := fun w => look_none i w
  go_enter Try.func41, Try.ntmps41
  go_wp2_with (go_at_call 40; refine (hn _).mono ?_; rintro e w2 ⟨rfl, hb2⟩)
  go_ret
  exact ⟨rfl, hb2.alloc hb2.size _⟩
set_option maxHeartbeats 1000000 in
theorem many_none (w : World) : Calls Try.prog 36 #[.pointer none] w fun e w' => e = .returned (.int .i64 0) ∧ w = w' := by
  have hn := fun w => isnil_none w
  go_enter Try.func36, Try.ntmps36
  go_wp2_with (go_at_call 45; refine (hn _).mono ?_; rintro e w2 ⟨rfl, rfl⟩)
  go_ret
  exact ⟨rfl, rfl⟩
set_option maxHeartbeats 1000000 in
theorem lost_none (w : World) : Calls Try.prog 37 #[.pointer none] w fun e w' => e = .returned (.int .i64 0) ∧ w = w' := by
  have hn := fun w => isnil_none w
  go_enter Try.func37, Try.ntmps37
  go_wp2_with (go_at_call 45; refine (hn _).mono ?_; rintro e w2 ⟨rfl, rfl⟩)
  go_ret
  exact ⟨rfl, rfl⟩
set_option maxHeartbeats 1000000 in
theorem send_none (w : World) : Calls Try.prog 35 #[.pointer none, .agg #[.int .i64 0, .int .i64 0, .string ⟨#[]⟩]] w fun e w' => e = .returned (.int .i64 1) ∧ Below w.heap.size w w' := by
  have hn := fun w => isnil_none w
  go_enter Try.func35, Try.ntmps35
  go_wp2_with (go_at_call 45; refine (hn _).mono ?_; rintro e w2 ⟨rfl, rfl⟩)
  go_ret
  exact ⟨rfl, (Below.refl _ _).alloc (Nat.le_refl _) _⟩
set_option maxHeartbeats 1000000 in
theorem cut_none (i j : Int) (w : World) : Calls Try.prog 42 #[.pointer none, .int .i64 i, .int .i64 j, .bool true] w fun e w' => e = .returned (.int .i64 1) ∧ w = w' := by
  have hn := fun w => isnil_none w
  go_enter Try.func42, Try.ntmps42
  go_wp2_with (go_at_call 45; refine (hn _).mono ?_; rintro e w2 ⟨rfl, rfl⟩)
  go_ret
  exact ⟨rfl, rfl⟩

set_option maxHeartbeats 2000000 in
theorem none_any (i : Int) (w : World) : Calls Try.prog 13 #[.int .i64 i] w fun e w' => e = .returned (.bool true) ∧ Below w.heap.size w w' := by
  have h1 := fun w => look_none i w
  have h2 := fun w => take_none i w
  have h3 := fun w => copy_none i w
  have h4 := fun w => turn_none i i 1 w
  have h5 := fun w => many_none w
  have h6 := fun w => lost_none w
  have h7 := fun w => send_none w
  have h8 := fun w => cut_none i i w
  have hsh := shown20_any w
  go_enter Try.func13, Try.ntmps13
  go_wp2_with (first | (go_at_call 29; refine hsh.mono ?_; rintro e w1 ⟨rfl, hb⟩) | (go_at_call 40; refine (h1 _).mono ?_; rintro e w2 ⟨rfl, hb2⟩; have hb := (hb.trans (hb2.mono hb.size)); have hb := hb.alloc hb.size (Obj.cells #[.int .i64 0, .int .i64 0, .string ⟨#[]⟩] 57)) | (go_at_call 39; refine (h2 _).mono ?_; rintro e w3 ⟨rfl, hb3⟩; have hb := (hb.trans (hb3.mono hb.size)); have hb := hb.alloc hb.size (Obj.cells #[.int .i64 0, .int .i64 0, .string ⟨#[]⟩] 57)) | (go_at_call 38; refine (h3 _).mono ?_; rintro e w4 ⟨rfl, hb4⟩; have hb := hb.trans (hb4.mono hb.size)) | (go_at_call 41; refine (h4 _).mono ?_; rintro e w5 ⟨rfl, hb5⟩; have hb := hb.trans (hb5.mono hb.size)) | (go_at_call 36; refine (h5 _).mono ?_; rintro e w6 ⟨rfl, rfl⟩) | (go_at_call 37; refine (h6 _).mono ?_; rintro e w6 ⟨rfl, rfl⟩) | (go_at_call 35; refine (h7 _).mono ?_; rintro e w7 ⟨rfl, hb7⟩; have hb := hb.trans (hb7.mono hb.size)) | (go_at_call 42; refine (h8 _).mono ?_; rintro e w8 ⟨rfl, rfl⟩))
  go_ret
  exact ⟨rfl, hb⟩
end Go.Proofs.Ytmjhimbjnmgklaa
