/- The head 'shown' of the laws. -/
import Derived.Test.YtdchaojgldfagaaDoorInJ
import Derived.Test.YtdchaojgldfagaaDoorInL
namespace Go.Proofs.YtdchaojgldfagaaDoor
open Go.RowKit
set_option linter.unusedVariables false

theorem ints_blk {W : World} {g : Nat} {t : TypeId} {l : List Int} (h : Blk W g t (l.map (Value.int .i64))) : Ints W (some ⟨g, 0, none⟩) l := by
  intro i hi
  refine ⟨g, 0, rfl, ?_⟩
  rw [Nat.zero_add]
  exact (h.at_ i).trans (by simp [hi])
theorem ints_born (W : World) (t : TypeId) (l : List Int) : Ints (W.alloc (.cells (l.map (Value.int .i64)).toArray t)) (some ⟨W.heap.size, 0, none⟩) l := ints_blk (Blk.born W t _)
theorem encI_567 : encI 2 [5, 6, 7] = [2, 10, 2, 10] := by decide +kernel
theorem best_777 : bestL [7, 7, 7] = 1 := by decide +kernel

set_option maxHeartbeats 2000000 in
theorem shown6_any (w : World) (hT : TabAt w) : Calls Tryd.prog 9 #[] w fun e w' => e = .returned (.bool true) ∧ Below w.heap.size w w' := by
  obtain ⟨W1, hW1⟩ : ∃ x, x = w.alloc (.cells #[Value.int .i64 5, Value.int .i64 6, Value.int .i64 7] 2) := ⟨_, rfl⟩
  have n1 : Ints W1 (some ⟨w.heap.size, 0, none⟩) [5, 6, 7] := by rw [hW1]; exact ints_born w 2 [5, 6, 7]
  have b1 : Below w.heap.size w W1 := by rw [hW1]; exact (Below.refl _ _).alloc (Nat.le_refl _) _
  have hp := enc_any 2 (by omega) (some ⟨w.heap.size, 0, none⟩) 3 [5, 6, 7] W1 n1 (by intro x hx; simp at hx; unfold I64; omega) (by decide) (by decide) (hT.keep b1)
  rw [encI_567] at hp
  have hw2 : ∀ w2 : World, Below w.heap.size w w2 → Calls Tryd.prog 12 #[.slice (some ⟨w2.heap.size, 0, none⟩) 3 3] (w2.alloc (.cells #[Value.int .i64 7, Value.int .i64 7, Value.int .i64 7] 2)) fun e W' => e = .returned (.tuple #[.int .i64 1, .int .i64 0]) ∧ Below (w2.heap.size + 1) (w2.alloc (.cells #[Value.int .i64 7, Value.int .i64 7, Value.int .i64 7] 2)) W' := by
    intro w2 hb
    have h := best_any (some ⟨w2.heap.size, 0, none⟩) 3 [7, 7, 7] (w2.alloc (.cells #[Value.int .i64 7, Value.int .i64 7, Value.int .i64 7] 2)) (ints_born w2 2 [7, 7, 7]) (by intro x hx; simp at hx; unfold I64; omega) (by decide) (by decide) (hT.keep (hb.alloc hb.size _))
    rw [best_777, World.size_alloc] at h
    exact h
  unfold LaidI at hp
  have HP := Lib.hid hp
  have HW := Lib.hid hw2
  have HB := Lib.hid b1
  have HW1 := Lib.hid hW1
  clear hp hw2 b1 n1 hT hW1
  go_enter Tryd.func9, Tryd.ntmps9
  go_wp2_with (first | (rw [← HW1.out]; go_at_call 10; refine HP.out.mono ?_; rintro e w2 ⟨v2, rfl, hown, hbel⟩; obtain ⟨A2, c2, rfl, y2, n2, _, _⟩ := hown.form; have Y2 := Lib.hid y2; clear y2; have HB2 := Lib.hid (HB.out.trans (hbel.mono HB.out.size)); clear hown hbel) | (go_at_call 12; refine (HW.out w2 HB2.out).mono ?_; rintro e w3 ⟨rfl, hb3⟩; have HB3 : Hid (Below w2.heap.size w2 w3) := ((Below.refl _ _).alloc (Nat.le_refl _) _).trans (hb3.mono (by omega)); clear hb3; have hcv : (convert 24 9 (.slice A2 4 c2)).run Tryd.prog w3 = .ok (.string ⟨#[2, 10, 2, 10]⟩) w3 := conv (Y2.out.keep HB3.out) c2))
  go_ret
  exact ⟨rfl, HB2.out.trans (HB3.out.mono HB2.out.size)⟩
end Go.Proofs.YtdchaojgldfagaaDoor
