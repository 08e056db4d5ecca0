/- The walk of ints.Encode: the forms that are packed. -/
import Derived.Test.YtdchaojgldfagaaDoorInC
namespace Go.Proofs.YtdchaojgldfagaaDoor
open Go.RowKit
set_option linter.unusedVariables false

set_option maxHeartbeats 2000000 in
theorem lp_none (Ab A : Option Addr) (cb cap nb fb fd : Nat) (b : List UInt8) (W0 W : World) (hnb : b.length = nb) (hown : Own W W0.heap.size (.slice Ab nb cb) b) (hbel : Below W0.heap.size W0 W) :
    Calls Tryd.prog 20 #[.slice Ab nb cb, .slice A 0 cap, .func (.func fb) #[] #[], .func (.func fd) #[] #[]] W (LaidI W0 b) := by
  have HOWN := Lib.hid hown
  have HBEL := Lib.hid hbel
  clear hown hbel hnb
  go_enter Tryd.func20, Tryd.ntmps20
  go_wp2
  go_ret2
  exact ⟨_, rfl, HOWN.out, HBEL.out⟩

set_option maxRecDepth 100000 in
set_option maxHeartbeats 4000000 in
theorem enc2_any (A : Option Addr) (cap : Nat) (l : List Int) (W : World) (hl : Ints W A l) (h64 : All64 l) (hn : l.length ≤ 4096) (hT : TabAt W) :
    Calls Tryd.prog 10 #[.int .i64 2, .slice A l.length cap] W (LaidI W (encI 2 l)) := by
  obtain ⟨W1, hW1⟩ : ∃ x, x = (W.alloc (.cells #[Value.int .u8 2] 5)).alloc (.cells #[Value.slice (some ⟨W.heap.size, 0, none⟩) 1 1] 24) := ⟨_, rfl⟩
  have hbx : Blk W1 (W.heap.size + 1) 24 [Value.slice (some ⟨W.heap.size, 0, none⟩) 1 1] := by rw [hW1]; exact blk_two W _ _ _
  have how : Own W1 W.heap.size (.slice (some ⟨W.heap.size, 0, none⟩) 1 1) [2] := by
    rw [hW1]
    exact World.ownsRow.alloc (own_one W 2) _
  have hbe : Below W.heap.size W W1 := by rw [hW1]; exact ((Below.refl _ _).alloc (Nat.le_refl _) _).alloc (by simp) _
  have hcall : Calls Tryd.prog 20 #[.slice (some ⟨W.heap.size, 0, none⟩) 1 1, .slice A l.length cap, .func (.func 21) #[] #[], .func (.func 22) #[] #[]] W1 (LaidI W (encI 2 l)) := by
    by_cases h0 : l = []
    · subst h0
      exact lp_none _ A 1 cap 1 _ _ [2] W W1 rfl how hbe
    · have := lp_steps (some ⟨W.heap.size, 0, none⟩) A 1 cap [2] l W W1 how hbe (by simp) (hl.keep hbe) h64 hn h0 (hT.keep hbe)
      have e : encI 2 l = [2] ++ (sgn (l.headD 0) ++ packD (stepsL l)) := by
        cases l with
        | nil => exact absurd rfl h0
        | cons a t => rfl
      rw [e]
      exact this
  have hc : W1.cell? ⟨W.heap.size + 1, 0, none⟩ = some (.slice (some ⟨W.heap.size, 0, none⟩) 1 1) := (hbx.at_ 0).trans rfl
  unfold LaidI at hcall ⊢
  have HCALL := Lib.hid hcall
  have HW1 := Lib.hid hW1
  generalize l.length = n at *
  have hgt : ¬ (4096 : Int) < (n : Int) := by omega
  clear hcall hW1 hbx how hbe hl h64 hT
  go_enter Tryd.func10, Tryd.ntmps10
  go_wp2_with (first | (rw [← HW1.out]; go_at_call 20; refine HCALL.out.mono ?_; rintro e w2 ⟨v2, rfl, hown, hb⟩; obtain ⟨A2, c2, rfl, _, _, _, _⟩ := hown.form; have O2 := Lib.hid hown; have B2 := Lib.hid hb; clear hown hb HCALL))
  go_ret2
  exact ⟨_, rfl, O2.out, B2.out⟩

set_option maxRecDepth 100000 in
set_option maxHeartbeats 4000000 in
theorem enc3_any (A : Option Addr) (cap : Nat) (l : List Int) (W : World) (hl : Ints W A l) (h64 : All64 l) (hn : l.length ≤ 4096) (hT : TabAt W) :
    Calls Tryd.prog 10 #[.int .i64 3, .slice A l.length cap] W (LaidI W (encI 3 l)) := by
  obtain ⟨W1, hW1⟩ : ∃ x, x = (W.alloc (.cells #[Value.int .u8 3] 5)).alloc (.cells #[Value.slice (some ⟨W.heap.size, 0, none⟩) 1 1] 24) := ⟨_, rfl⟩
  have hbx : Blk W1 (W.heap.size + 1) 24 [Value.slice (some ⟨W.heap.size, 0, none⟩) 1 1] := by rw [hW1]; exact blk_two W _ _ _
  have how : Own W1 W.heap.size (.slice (some ⟨W.heap.size, 0, none⟩) 1 1) [3] := by
    rw [hW1]
    exact World.ownsRow.alloc (own_one W 3) _
  have hbe : Below W.heap.size W W1 := by rw [hW1]; exact ((Below.refl _ _).alloc (Nat.le_refl _) _).alloc (by simp) _
  have hcall : Calls Tryd.prog 20 #[.slice (some ⟨W.heap.size, 0, none⟩) 1 1, .slice A l.length cap, .func (.func 23) #[] #[], .func (.func 24) #[] #[]] W1 (LaidI W (encI 3 l)) := by
    by_cases h0 : l = []
    · subst h0
      exact lp_none _ A 1 cap 1 _ _ [3] W W1 rfl how hbe
    · have := lp_frame (some ⟨W.heap.size, 0, none⟩) A 1 cap [3] l W W1 how hbe (by simp) (hl.keep hbe) h64 hn h0 (hT.keep hbe)
      have e : encI 3 l = [3] ++ (sgn (minL l) ++ packD (l.map (offW (minL l)))) := by
        cases l with
        | nil => exact absurd rfl h0
        | cons a t => rfl
      rw [e]
      exact this
  have hc : W1.cell? ⟨W.heap.size + 1, 0, none⟩ = some (.slice (some ⟨W.heap.size, 0, none⟩) 1 1) := (hbx.at_ 0).trans rfl
  unfold LaidI at hcall ⊢
  have HCALL := Lib.hid hcall
  have HW1 := Lib.hid hW1
  generalize l.length = n at *
  have hgt : ¬ (4096 : Int) < (n : Int) := by omega
  clear hcall hW1 hbx how hbe hl h64 hT
  go_enter Tryd.func10, Tryd.ntmps10
  go_wp2_with (first | (rw [← HW1.out]; go_at_call 20; refine HCALL.out.mono ?_; rintro e w2 ⟨v2, rfl, hown, hb⟩; obtain ⟨A2, c2, rfl, _, _, _, _⟩ := hown.form; have O2 := Lib.hid hown; have B2 := Lib.hid hb; clear hown hb HCALL))
  go_ret2
  exact ⟨_, rfl, O2.out, B2.out⟩
end Go.Proofs.YtdchaojgldfagaaDoor
