/- The head of the statements on schemas. -/
import Derived.Test.YtabnjiepmhblaaaScI
namespace Go.Proofs.Ytabnjiepmhblaaa
open Go.RowKit Go.Shelf Go.Maps
set_option linter.unusedVariables false

def c1 : Col := ⟨⟨#[97]⟩, 1, false, by decide⟩
def c2 : Col := ⟨⟨#[98]⟩, 3, true, by decide⟩
theorem right12 : rightC [c1, c2] = true := by kernel_rfl
theorem right1 : rightC [c1] = true := by kernel_rfl
theorem show12 : showL [c1, c2] = [97, 32, 105, 110, 116, 44, 32, 98, 32, 116, 101, 120, 116, 32, 110, 117, 108, 108] := by kernel_rfl
theorem lay1 : ([] : List UInt8) ++ layC [c1] = [1, 1, 97, 1, 0] := by kernel_rfl

set_option maxHeartbeats 2000000 in
theorem shown5_any (w : World) : Calls Try.prog 8 #[] w fun e w' => e = .returned (.bool true) ∧ Below w.heap.size w w' := by
  obtain ⟨W1, hW1⟩ : ∃ x, x = w.alloc (.cells #[Value.string ⟨#[97]⟩, Value.int .i64 1, Value.bool false, Value.string ⟨#[98]⟩, Value.int .i64 3, Value.bool true] 47) := ⟨_, rfl⟩
  have hbk : Blk W1 w.heap.size 47 [Value.string ⟨#[97]⟩, Value.int .i64 1, Value.bool false, Value.string ⟨#[98]⟩, Value.int .i64 3, Value.bool true] := by rw [hW1]; exact Blk.born w _ _
  have hB1 : Below w.heap.size w W1 := by rw [hW1]; exact (Below.refl _ _).alloc (Nat.le_refl _) _
  have hcol : Cols W1 (some ⟨w.heap.size, 0, none⟩) [c1, c2] := by
    intro k hk
    match k, hk with
    | 0, _ => exact ⟨_, _, rfl, (hbk.at_ 0).trans rfl, (hbk.at_ 1).trans rfl, (hbk.at_ 2).trans rfl⟩
    | 1, _ => exact ⟨_, _, rfl, (hbk.at_ 3).trans rfl, (hbk.at_ 4).trans rfl, (hbk.at_ 5).trans rfl⟩
  have hcol1 : Cols W1 (some ⟨w.heap.size, 0, none⟩) [c1] := by
    intro k hk
    match k, hk with
    | 0, _ => exact ⟨_, _, rfl, (hbk.at_ 0).trans rfl, (hbk.at_ 1).trans rfl, (hbk.at_ 2).trans rfl⟩
  have hs := show_ok (some ⟨w.heap.size, 0, none⟩) 2 [c1, c2] W1 hcol right12
  rw [show12] at hs
  have hl := fun (W2 : World) (h : Cols W2 (some ⟨w.heap.size, 0, none⟩) [c1]) => lay_ok none (some ⟨w.heap.size, 0, none⟩) 0 2 [] [c1] W2 (Byt.empty _ _) (fun _ => rfl) (by decide) h right1
  rw [lay1] at hl
  have HS := Lib.hid hs
  have HL := Lib.hid hl
  have HB := Lib.hid hB1
  have HW1 := Lib.hid hW1
  have HC := Lib.hid hcol1
  clear hs hl hB1 hbk hcol hW1 hcol1
  go_enter Try.func8, Try.ntmps8
  go_wp2_with (first | (rw [← HW1.out]; go_at_call 27; refine HS.out.mono ?_; rintro e w2 ⟨rfl, hb2⟩; have HB2 := Lib.hid (HB.out.trans (hb2.mono HB.out.size)); have HC2 := Lib.hid (HC.out.keep hb2); clear hb2 HS) | (go_at_call 17; refine (HL.out _ HC2.out).mono ?_; rintro e w3 ⟨v, rfl, hown, hbel⟩; obtain ⟨A, c, rfl, hbyt, _, _, _⟩ := hown.form; have hcv : (convert 31 9 (.slice A 5 c)).run Try.prog w3 = .ok (.string ⟨#[1, 1, 97, 1, 0]⟩) w3 := conv hbyt c; have HB3 := Lib.hid (HB2.out.trans (hbel.mono HB2.out.size)); clear hbel hown hbyt HL))
  go_ret
  exact ⟨rfl, HB3.out⟩
end Go.Proofs.Ytabnjiepmhblaaa
