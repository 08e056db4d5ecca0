/- The walks of value.Show (18) but for numbers. -/
import Derived.Test.YtlflhigphfnhoaaDoorQuo
import Derived.Test.YtlflhigphfnhoaaDoorValB
namespace Go.Proofs.YtlflhigphfnhoaaDoor
open Go.RowKit
set_option linter.unusedVariables false

theorem one_kept {w w3 : World} (cs : List Value) (hb : Below (w.alloc (.cells cs.toArray 23)).heap.size (w.alloc (.cells cs.toArray 23)) w3) : Blk w3 w.heap.size 23 cs ∧ Below w.heap.size w w3 := by
  have e : (w.alloc (.cells cs.toArray 23)).heap.size = w.heap.size + 1 := by simp
  exact ⟨(Blk.born w 23 cs).below hb (by omega), ((Below.refl _ _).alloc (Nat.le_refl _) _).trans (hb.mono (by omega))⟩

set_option maxHeartbeats 1000000 in
set_option maxRecDepth 100000 in
theorem show_text (s : ByteArray) (w : World) (hs : s.size ≤ 1024) : Calls Tryd.prog 18 #[.agg #[.int .i64 3, .int .i64 0, .string s]] w fun e w' => e = .returned (.tuple #[.string ⟨(quoteL s.data.toList).toArray⟩, .int .i64 0]) ∧ Below w.heap.size w w' := by
  have hr := fun w => right_any 3 0 s w (by unfold maxLen; omega)
  have e : rightB 3 0 s.toList = true := by simp [rightB, tol_len]; omega
  rw [e] at hr
  have hq := fun w => quoted_any s w (by omega)
  clear e
  go_enter Tryd.func18, Tryd.ntmps18
  go_wp2_with (first | (go_at_call 11; refine (hr _).mono ?_; rintro e w3 ⟨rfl, hb3⟩; obtain ⟨p1, p3⟩ := one_kept [.int .i64 3, .int .i64 0, .string s] hb3; have a0 : w3.cell? ⟨w.heap.size, 0, none⟩ = some (.int .i64 3) := p1.at_ 0; have a2 : w3.cell? ⟨w.heap.size, 2, none⟩ = some (.string s) := p1.at_ 2; clear hr p1 hb3) | (go_at_call 37; refine (hq _).mono ?_; rintro e w4 ⟨rfl, hb4⟩))
  go_ret2
  exact ⟨rfl, p3.trans (hb4.mono p3.size)⟩
end Go.Proofs.YtlflhigphfnhoaaDoor
