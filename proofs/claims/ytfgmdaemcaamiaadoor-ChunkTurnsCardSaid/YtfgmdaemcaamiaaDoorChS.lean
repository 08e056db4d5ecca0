/- The head of chunk's laws. -/
import Derived.Test.YtfgmdaemcaamiaaDoorChF
namespace Go.Proofs.YtfgmdaemcaamiaaDoor
open Go.RowKit
set_option linter.unusedVariables false

def yesV : Vl := ⟨2, 1, ⟨#[]⟩, by decide, by decide, by decide⟩
/-- Values in a block. -/
theorem vls_blk {w : World} {g : Nat} {t : TypeId} {l : List Vl} (h : Blk w g t (l.flatMap vlC)) : Vls w (some ⟨g, 0, none⟩) l := by
  have hg : ∀ (l : List Vl) (k i : Nat) (hk : k < l.length) (hi : i < 3), (l.flatMap vlC)[k * 3 + i]? = (vlC l[k])[i]? := by
    intro l
    induction l with
    | nil => intro k i hk; simp at hk
    | cons a t ih =>
      intro k i hk hi
      rw [List.flatMap_cons]
      have h3 : (vlC a).length = 3 := rfl
      cases k with
      | zero => rw [List.getElem?_append_left (by rw [h3]; omega), Nat.zero_mul, Nat.zero_add]; rfl
      | succ k =>
        rw [List.getElem?_append_right (by rw [h3]; omega), h3, show (k + 1) * 3 + i - 3 = k * 3 + i by omega]
        exact ih k i (by simpa using hk) hi
  intro k hk
  refine ⟨g, 0, rfl, ?_, ?_, ?_⟩
  · rw [Nat.zero_add, h.at_]; exact hg l k 0 hk (by omega)
  · rw [Nat.zero_add, h.at_]; exact hg l k 1 hk (by omega)
  · rw [Nat.zero_add, h.at_]; exact hg l k 2 hk (by omega)
theorem body_shown : bodyC 2 [yesV, nulV] = [2, 2, 1, 2, 0, 2] := by decide +kernel
theorem col_shown : colR 2 [yesV, nulV] = true := by decide +kernel

set_option maxHeartbeats 2000000 in
theorem shown8_any (w : World) (hT : TabAt w) : Calls Tryd.prog 8 #[] w fun e w' => e = .returned (.bool true) ∧ Below w.heap.size w w' := by
  obtain ⟨W1, hW1⟩ : ∃ x, x = w.alloc (.cells #[Value.int .i64 2, Value.int .i64 1, Value.string ⟨#[]⟩, Value.int .i64 0, Value.int .i64 0, Value.string ⟨#[]⟩] 30) := ⟨_, rfl⟩
  have n1 : Vls W1 (some ⟨w.heap.size, 0, none⟩) [yesV, nulV] := by rw [hW1]; exact vls_blk (Blk.born w 30 ([yesV, nulV].flatMap vlC))
  have b1 : Below w.heap.size w W1 := by rw [hW1]; exact (Below.refl _ _).alloc (Nat.le_refl _) _
  have hp := enc8_yes 2 (some ⟨w.heap.size, 0, none⟩) 2 [yesV, nulV] W1 n1 col_shown (hT.keep b1)
  have he : encC 2 [yesV, nulV] = [2, 2, 1, 2, 0, 2] ++ sumB [2, 2, 1, 2, 0, 2] := by unfold encC; rw [body_shown]
  have hel : (encC 2 [yesV, nulV]).length = 10 := by rw [he]; rfl
  have het : (encC 2 [yesV, nulV]).take 6 = [2, 2, 1, 2, 0, 2] := by rw [he]; rfl
  generalize encC 2 [yesV, nulV] = ec at hp hel het
  have HEL := Lib.hid hel
  have HET := Lib.hid het
  unfold LaidI at hp
  have HP := Lib.hid hp
  have HB := Lib.hid b1
  have HW1 := Lib.hid hW1
  clear hp b1 n1 hT hW1 he hel het
  go_enter Tryd.func8, Tryd.ntmps8
  go_wp2_with (rw [← HW1.out]; go_at_call 9; refine HP.out.mono ?_; rintro e w2 ⟨v2, rfl, hown, hbel⟩; obtain ⟨A2, c2, rfl, y2, n2, hc2, hm2⟩ := hown.form; rw [HEL.out] at hc2 ⊢; have HB2 := Lib.hid (HB.out.trans (hbel.mono HB.out.size)); have hcv : (convert 24 9 (.slice A2 6 c2)).run Tryd.prog w2 = .ok (.string ⟨#[2, 2, 1, 2, 0, 2]⟩) w2 := (by have h := conv (y2.cut 6) c2; rw [HET.out] at h; exact h); clear hown hbel y2)
  go_ret
  exact ⟨rfl, HB2.out⟩
end Go.Proofs.YtfgmdaemcaamiaaDoor
