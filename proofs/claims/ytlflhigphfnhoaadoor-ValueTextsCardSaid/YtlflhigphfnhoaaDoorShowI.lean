/- The walk of value.Show (18) on numbers. -/
import Derived.Test.YtlflhigphfnhoaaDoorShow
import Derived.Test.YtlflhigphfnhoaaDoorShF
import Derived.Lib.AppendIntMem
namespace Go.Proofs.YtlflhigphfnhoaaDoor
open Go.RowKit
set_option linter.unusedVariables false

/-- The table of the powers of ten, as the program's text lays it. -/
def Pow (w : World) : Prop := Lib.TabIs Tryd.prog w "internal/strconv.uint64pow10" .u64 Lib.pow10Tab
theorem Pow.next {w w' : World} (h : Pow w) (hb : Below w.heap.size w w') : Pow w' := Lib.tabBelow_of_tabIs h w' hb
theorem below_grow (w : World) (k : Nat) (os : Array Obj) : Below w.heap.size w (Go.Sort.grow (w.drewN k) os) := by
  refine ⟨rfl, rfl, rfl, by simp [Go.Sort.grow, World.drewN], fun j hj => ?_⟩
  show ((w.drewN k).heap ++ os)[j]? = _
  rw [Array.getElem?_append_left (by exact hj)]
  rfl

set_option maxHeartbeats 1000000 in
set_option maxRecDepth 100000 in
theorem show_int (n : Int) (w : World) (hp : Pow w) (h0 : -9223372036854775808 ≤ n) (h1 : n ≤ 9223372036854775807) : Calls Tryd.prog 18 #[.agg #[.int .i64 1, .int .i64 n, .string ⟨#[]⟩]] w fun e w' => e = .returned (.tuple #[.string ⟨(Lib.itoa n).toArray⟩, .int .i64 0]) ∧ Below w.heap.size w w' := by
  have hr := fun w => right_any 1 n ⟨#[]⟩ w (by unfold maxLen; decide)
  have e : rightB 1 n (ByteArray.toList ⟨#[]⟩) = true := by rw [ByteArray.toList_eq]; rfl
  rw [e] at hr
  have hf : ∀ W, Below w.heap.size w W → Calls Tryd.prog 36 #[.int .i64 n, .int .i64 10] W fun e w' => e = .returned (.string ⟨(Lib.itoa n).toArray⟩) ∧ Below W.heap.size W w' := by
    intro W hb
    refine (Tryd.strconv_FormatInt_10 n h0 h1 W (hp.next hb)).mono ?_
    rintro e w' ⟨he, k, os, rfl⟩
    exact ⟨he, below_grow W k os⟩
  clear e hp h0 h1
  generalize (⟨(Lib.itoa n).toArray⟩ : ByteArray) = S at hf ⊢
  go_enter Tryd.func18, Tryd.ntmps18
  go_wp2_with (first | (go_at_call 11; refine (hr _).mono ?_; rintro e w3 ⟨rfl, hb3⟩; obtain ⟨p1, p3⟩ := one_kept [.int .i64 1, .int .i64 n, .string ⟨#[]⟩] hb3; have a0 : w3.cell? ⟨w.heap.size, 0, none⟩ = some (.int .i64 1) := p1.at_ 0; have a1 : w3.cell? ⟨w.heap.size, 1, none⟩ = some (.int .i64 n) := p1.at_ 1; clear hr p1 hb3) | (go_at_call 36; refine (hf _ p3).mono ?_; rintro e w4 ⟨rfl, hb4⟩))
  go_ret2
  exact ⟨rfl, p3.trans (hb4.mono p3.size)⟩
end Go.Proofs.YtlflhigphfnhoaaDoor
