/- The walk of pack.Unpack (20) where it answers with an error at once. -/
import Derived.Test.YtdchaojgldfagaaDoorPbP
import Derived.Laws.ResultCell
namespace Go.Proofs.YtdchaojgldfagaaDoor
open Go.RowKit
set_option linter.unusedVariables false

theorem results_cell2 {fn : Func} {p q : Tmp} {t u : TypeId} (h : fn.results = #[.cell p t, .cell q u]) (tmps : Array Value) (P : Program) (w : World) :
    (results fn tmps).run P w =
      ((asAddr (tmps.getD p undef)).run P w).andThen fun a w₁ => ((loadVar t a).run P w₁).andThen fun v w₂ => ((asAddr (tmps.getD q undef)).run P w₂).andThen fun b w₃ => ((loadVar u b).run P w₃).andThen fun e w₄ => .ok (.tuple #[v, e]) w₄ := by
  simp only [results, h]
  simp [Sem.run_bind, Result.andThen]
set_option maxRecDepth 100000 in
set_option maxHeartbeats 2000000 in
theorem unpack_bad (n w : Int) (A : Option Addr) (cap : Nat) (b : List UInt8) (W : World) (hbad : ¬ (0 ≤ n ∧ n ≤ 4096 ∧ 0 ≤ w ∧ w ≤ 64)) :
    Calls Tryd.prog 61 #[.slice A b.length cap, .int .i64 n, .int .i64 w] W fun e W' => e = .returned (.tuple #[.slice none 0 0, .int .i64 2]) ∧ Below W.heap.size W W' := by
  have hsz := fun W => size_any n w W
  rw [sizeR_bad hbad] at hsz
  clear hbad
  go_enter Tryd.func61, Tryd.ntmps61
  go_wp2_with (go_at_call 55; refine (hsz _).mono ?_; rintro e w1 ⟨rfl, rfl⟩)
  refine bodyPost_ret (v := .tuple #[.slice none 0 0, .int .i64 2]) ?_ rfl ?_
  · rw [results_cell2 rfl]
    go_simp
  · exact ⟨rfl, ((((Below.refl _ _).alloc (Nat.le_refl _) _).alloc (by simp) _).alloc (by simp; omega) _).alloc (by simp; omega) _⟩
set_option maxRecDepth 100000 in
set_option maxHeartbeats 2000000 in
theorem unpack_len (n w : Nat) (A : Option Addr) (cap : Nat) (b : List UInt8) (W : World) (hn : n ≤ 4096) (hw : w ≤ 64) (hlen : b.length ≠ (n * w + 7) / 8) :
    Calls Tryd.prog 61 #[.slice A b.length cap, .int .i64 (n : Int), .int .i64 (w : Int)] W fun e W' => e = .returned (.tuple #[.slice none 0 0, .int .i64 10]) ∧ Below W.heap.size W W' := by
  have hsz := fun W => size_any (n : Int) (w : Int) W
  rw [sizeR_good (by omega)] at hsz
  obtain ⟨sz, hs⟩ : ∃ sz, (n * w + 7) / 8 = sz := ⟨_, rfl⟩
  rw [show ((n : Int) * (w : Int) + 7) / 8 = (sz : Int) by rw [← hs]; simp] at hsz
  rw [hs] at hlen
  have hne : ¬ (b.length : Int) = (sz : Int) := by omega
  clear hs hlen
  go_enter Tryd.func61, Tryd.ntmps61
  go_wp2_with (go_at_call 55; refine (hsz _).mono ?_; rintro e w1 ⟨rfl, rfl⟩)
  all_goals first | (exfalso; omega) | skip
  refine bodyPost_ret (v := .tuple #[.slice none 0 0, .int .i64 10]) ?_ rfl ?_
  · rw [results_cell2 rfl]
    go_simp
  · exact ⟨rfl, ((((Below.refl _ _).alloc (Nat.le_refl _) _).alloc (by simp) _).alloc (by simp; omega) _).alloc (by simp; omega) _⟩
end Go.Proofs.YtdchaojgldfagaaDoor
