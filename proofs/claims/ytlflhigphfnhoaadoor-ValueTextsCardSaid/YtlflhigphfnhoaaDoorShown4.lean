/- The walk of stackyardlaw04.shown (9): true, and nothing that was there is turned. -/
import Derived.Test.YtlflhigphfnhoaaDoorLay
import Derived.Test.YtlflhigphfnhoaaDoorValC
namespace Go.Proofs.YtlflhigphfnhoaaDoor
open Go.RowKit
set_option linter.unusedVariables false

theorem its : quoteL (⟨#[105, 116, 39, 115]⟩ : ByteArray).data.toList = [39, 105, 116, 39, 39, 115, 39] := by rfl
theorem enc3 : encV 1 (-3) [] = [1, 5] := by decide +kernel
theorem cmp_ends : cmpV 0 0 (ByteArray.toList ⟨#[]⟩) 1 0 (ByteArray.toList ⟨#[]⟩) = -1 := by rw [ByteArray.toList_eq]; rfl

set_option maxHeartbeats 1000000 in
set_option maxRecDepth 100000 in
theorem shown4_any (w : World) : Calls Tryd.prog 9 #[] w fun e w' => e = .returned (.bool true) ∧ Below w.heap.size w w' := by
  have hs := fun w => show_text ⟨#[105, 116, 39, 115]⟩ w (by decide)
  rw [its] at hs
  have hl := fun w => lay_int none 0 [] (-3) w (Byt.empty _ _) (fun _ => rfl) (by simp) (by decide) (by decide)
  rw [enc3, List.nil_append] at hl
  have hc := fun w => compare_any 0 0 ⟨#[]⟩ 1 0 ⟨#[]⟩ w
  rw [cmp_ends] at hc
  go_enter Tryd.func9, Tryd.ntmps9
  go_wp2_with (first | (go_at_call 18; refine (hs _).mono ?_; rintro e w1 ⟨rfl, hb1⟩) | (go_at_call 14; refine (hl _).mono ?_; rintro e w2 ⟨v, rfl, hown, hbel⟩; obtain ⟨A, c, rfl, hbyt, _, _, _⟩ := hown.form; have hcv : (convert 28 9 (.slice A 2 c)).run Tryd.prog w2 = .ok (.string ⟨#[1, 5]⟩) w2 := conv hbyt c; have hb2 := hb1.trans (hbel.mono hb1.size)) | (go_at_call 12; refine (hc _).mono ?_; rintro e w3 ⟨rfl, hb3⟩))
  go_ret
  exact ⟨rfl, hb2.trans (hb3.mono hb2.size)⟩
end Go.Proofs.YtlflhigphfnhoaaDoor
