/- bits.TrailingZeros64 (42), and the places of the bits that are set. -/
import Derived.Test.YtdchaojgldfagaaDoorPaA
import Derived.Laws.Bits64b
import Derived.Lib.TrailingZeros
namespace Go.Proofs.YtdchaojgldfagaaDoor
open Go.RowKit
set_option linter.unusedVariables false

def TabAt (w : World) : Prop := ∀ j, j < 64 → w.cell? ⟨0, j, none⟩ = some (.int .u8 ((Lib.deBruijn64tab.getD j 0 : Nat) : Int))
theorem TabAt.keep {w w' : World} (h : TabAt w) (hb : Below w.heap.size w w') : TabAt w' := fun j hj => (hb.cell (World.block_lt_of_cell? w _ (h j hj))).trans (h j hj)
theorem TabAt.below {n : Nat} {w w' : World} (h : TabAt w) (hb : Below n w w') (hn : 0 < n) : TabAt w' := fun j hj => (hb.cell (p := ⟨0, j, none⟩) hn).trans (h j hj)

theorem tz64_key (x a : Nat) (hx : x < 18446744073709551616) (hx0 : x ≠ 0) (hlow : x &&& (18446744073709551616 - x) = a) :
    IntKind.u64.wrap (bits BinOp.and IntKind.u64 (x : Int) (IntKind.u64.wrap (-(x : Int))) * 285870213051353865) / 288230376151711744 = ((a * 285870213051353865 % 18446744073709551616 / 288230376151711744 : Nat) : Int) := by
  have e1 : IntKind.u64.wrap (-(x : Int)) = ((18446744073709551616 - x : Nat) : Int) := by rw [IntKind.wrap_u64]; omega
  rw [e1, bits_and_u64_nat x _ hx (by omega), hlow, IntKind.wrap_u64]
  omega
set_option maxHeartbeats 1000000 in
theorem tz64_core (x k idx : Nat) (w : World) (hx0 : ((x : Int) == 0) = false)
    (key : IntKind.u64.wrap (bits BinOp.and IntKind.u64 (x : Int) (IntKind.u64.wrap (-(x : Int))) * 285870213051353865) / 288230376151711744 = (idx : Int))
    (hi : idx < 64) (hk : k < 64) (hcell : w.cell? ⟨0, idx, none⟩ = some (.int .u8 k)) :
    Calls Tryd.prog 64 #[.int .u64 x] w fun e w' => e = .returned (.int .i64 k) ∧ w' = w := by
  go_enter Tryd.func64, Tryd.ntmps64
  go_wp2_with (simp only [key])
  go_ret
  exact ⟨rfl, rfl⟩
theorem tz64_any (x : Nat) (hx : x < 18446744073709551616) (hx0 : x ≠ 0) (w : World) (hT : TabAt w) :
    Calls Tryd.prog 64 #[.int .u64 x] w fun e w' => e = .returned (.int .i64 (Lib.ctz 64 x)) ∧ w' = w := by
  obtain ⟨hlow, hk⟩ := Lib.lowest_bit 64 x hx0 hx
  obtain ⟨hi, htab⟩ := Lib.deBruijn64_at _ hk
  have hcell := hT _ hi
  rw [htab] at hcell
  exact tz64_core x _ _ w (by simp; omega) (tz64_key x _ hx hx0 hlow) hi hk hcell

/-- The places of the bits that are set. -/
def bitsW (x : Nat) : List Nat := if h : x = 0 then [] else Lib.ctz 64 x :: bitsW (x &&& (x - 1))
termination_by x
decreasing_by have := @Nat.and_le_right x (x - 1); omega
theorem bitsW_zero : bitsW 0 = [] := by rw [bitsW]; simp
theorem bitsW_pos {x : Nat} (h : x ≠ 0) : bitsW x = Lib.ctz 64 x :: bitsW (x &&& (x - 1)) := by rw [bitsW]; simp [h]
theorem ctz_form {x : Nat} (hx : x < 2 ^ 64) (h0 : x ≠ 0) : ∃ m, x = 2 ^ Lib.ctz 64 x * (2 * m + 1) ∧ Lib.ctz 64 x < 64 := by
  unfold Lib.ctz
  rw [if_neg h0]
  exact Lib.ctzFrom_spec 64 x (by omega) hx
theorem low_off {x : Nat} (hx : x < 2 ^ 64) (h0 : x ≠ 0) (j : Nat) : (x &&& (x - 1)).testBit j = (x.testBit j && decide (j ≠ Lib.ctz 64 x)) := by
  obtain ⟨m, hm, _⟩ := ctz_form hx h0
  generalize Lib.ctz 64 x = k at hm ⊢
  have hp := Nat.two_pow_pos k
  have e1 : x - 1 = 2 ^ k * (2 * m) + (2 ^ k - 1) := by
    rw [hm, Nat.mul_add, Nat.mul_one]; omega
  have e0 : x = 2 ^ k * (2 * m + 1) + 0 := by rw [Nat.add_zero]; exact hm
  rw [Nat.testBit_and, e1]
  have hb1 := Nat.testBit_two_pow_mul_add (2 * m) (i := k) (b := 2 ^ k - 1) (by omega) j
  have hb0 := Nat.testBit_two_pow_mul_add (2 * m + 1) (i := k) (b := 0) hp j
  rw [← e0] at hb0
  rw [hb1, hb0]
  by_cases hj : j < k
  · simp [hj]
  · obtain ⟨d, rfl⟩ : ∃ d, j = k + d := ⟨j - k, by omega⟩
    cases d with
    | zero => simp
    | succ d =>
      have e2 : k + (d + 1) - k = d + 1 := by omega
      rw [if_neg hj, if_neg hj, e2, Nat.testBit_succ, Nat.testBit_succ, show (2 * m + 1) / 2 = m by omega, show 2 * m / 2 = m by omega]
      simp
theorem ctz_bit {x : Nat} (hx : x < 2 ^ 64) (h0 : x ≠ 0) : x.testBit (Lib.ctz 64 x) = true := by
  obtain ⟨m, hm, _⟩ := ctz_form hx h0
  generalize Lib.ctz 64 x = k at hm ⊢
  have e0 : x = 2 ^ k * (2 * m + 1) + 0 := by rw [Nat.add_zero]; exact hm
  rw [e0, Nat.testBit_two_pow_mul_add _ (Nat.two_pow_pos k), if_neg (Nat.lt_irrefl k), Nat.sub_self, Nat.testBit_zero]
  simp
theorem mem_bitsW : ∀ (n x : Nat), x ≤ n → x < 2 ^ 64 → ∀ j, j ∈ bitsW x ↔ x.testBit j = true
  | n, x, hn, hx, j => by
    by_cases h0 : x = 0
    · subst h0; rw [bitsW_zero]; simp
    · rw [bitsW_pos h0]
      have hle := @Nat.and_le_right x (x - 1)
      match n, hn with
      | 0, hn => omega
      | n + 1, hn =>
        rw [List.mem_cons, mem_bitsW n (x &&& (x - 1)) (by omega) (by omega) j, low_off hx h0]
        by_cases hj : j = Lib.ctz 64 x
        · subst hj; simp [ctz_bit hx h0]
        · simp [hj]
/-- The places of the bits of numbers that have w bits each, from the i-th on. -/
def posAt (w : Nat) : Nat → List Nat → List Nat
  | _, [] => []
  | i, x :: t => (bitsW x).map (i * w + ·) ++ posAt w (i + 1) t
theorem mem_posAt (w : Nat) : ∀ (l : List Nat) (i : Nat), (∀ x ∈ l, x < 2 ^ 64) → ∀ p, p ∈ posAt w i l ↔ ∃ k, ∃ h : k < l.length, ∃ j, (l[k]).testBit j = true ∧ p = (i + k) * w + j
  | [], i, _, p => by simp [posAt]
  | x :: t, i, hl, p => by
    rw [posAt, List.mem_append, List.mem_map, mem_posAt w t (i + 1) (fun y hy => hl y (List.mem_cons_of_mem _ hy))]
    constructor
    · rintro (⟨j, hj, rfl⟩ | ⟨k, hk, j, hj, rfl⟩)
      · exact ⟨0, by simp, j, (mem_bitsW x x (Nat.le_refl _) (hl x (by simp)) j).1 hj, by simp⟩
      · exact ⟨k + 1, by simp; omega, j, by simpa using hj, by rw [show i + 1 + k = i + (k + 1) by omega]⟩
    · rintro ⟨k, hk, j, hj, rfl⟩
      cases k with
      | zero => exact .inl ⟨j, (mem_bitsW x x (Nat.le_refl _) (hl x (by simp)) j).2 (by simpa using hj), by simp⟩
      | succ k => exact .inr ⟨k, by simpa using hk, j, by simpa using hj, by rw [show i + 1 + k = i + (k + 1) by omega]⟩
end Go.Proofs.YtdchaojgldfagaaDoor
