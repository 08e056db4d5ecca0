/- Lists of integers: how long their best encodings are (plain). -/
import Derived.Test.YtdchaojgldfagaaDoorInM
import Derived.Test.YtdchaojgldfagaaDoorPaP
namespace Go.Proofs.YtdchaojgldfagaaDoor
open Go.RowKit
set_option linter.unusedVariables false

theorem num_two {n : Nat} (h : n < 16384) : (num n).length ≤ 2 := by
  unfold num
  by_cases h1 : n < 128
  · rw [numF_small _ _ h1]; simp
  · rw [numF_big _ _ h1, numF_small _ _ (by omega)]; simp
theorem runs_same (x : Int) (n : Nat) : runsL (List.replicate (n + 1) x) = [(n + 1, x)] := by
  have := runsL_head x [] (by simp) n
  rw [List.append_nil] at this
  exact this
/-- A list of one number, again and again, is a few bytes. -/
theorem best_same (x : Int) (n : Nat) (hn : n ≤ 4096) : sizeI (List.replicate n x) (bestL (List.replicate n x)) ≤ 13 := by
  have h := ((bestL_spec (List.replicate n x)).2 1 (by omega)).1
  refine Nat.le_trans h ?_
  unfold sizeI encI
  rw [List.length_cons]
  cases n with
  | zero => simp [encB, runsL]
  | succ n =>
    show ((runsL (List.replicate (n + 1) x)).flatMap layRun).length + 1 ≤ 13
    rw [runs_same, List.flatMap_cons, List.flatMap_nil, List.append_nil]
    unfold layRun
    rw [List.length_append]
    have h1 : (num (n + 1)).length ≤ 2 := num_two (by omega)
    have h2 := sgn_len x
    show (num (n + 1)).length + (sgn x).length + 1 ≤ 13
    omega
/-- Numbers near one another need a byte each. -/
theorem best_near (low : Int) (b : List UInt8) (hl : -9223372036854775808 ≤ low) (hh : low ≤ 9223372036854775508) (hb : b.length ≤ 1000) :
    sizeI (b.map fun c => low + (c.toNat : Int)) (bestL (b.map fun c => low + (c.toNat : Int))) ≤ b.length + 12 := by
  obtain ⟨l, hL⟩ : ∃ l, (b.map fun c => low + (c.toNat : Int)) = l := ⟨_, rfl⟩
  rw [hL]
  have h := ((bestL_spec l).2 3 (by omega)).1
  refine Nat.le_trans h ?_
  have hmem : ∀ x ∈ l, low ≤ x ∧ x ≤ low + 255 := fun x hx => by
    rw [← hL] at hx
    obtain ⟨c, _, rfl⟩ := List.mem_map.1 hx
    have := c.toNat_lt
    omega
  have hlen : l.length = b.length := by rw [← hL, List.length_map]
  unfold sizeI encI
  rw [List.length_cons]
  cases l with
  | nil => simp [encB]
  | cons a t =>
    show (sgn (minL (a :: t)) ++ packD ((a :: t).map (offW (minL (a :: t))))).length + 1 ≤ _
    have hm := hmem _ (minL_mem (a :: t) (by simp))
    have hw : widL ((a :: t).map (offW (minL (a :: t)))) ≤ 8 := by
      rw [of_width (by omega)]
      intro k hk
      rw [List.length_map] at hk
      rw [List.getElem_map]
      have hx := hmem _ (List.getElem_mem hk)
      have hx2 := minL_le (a :: t) _ (List.getElem_mem hk)
      have := offW_nat (m := minL (a :: t)) (x := (a :: t)[k]) (by unfold I64; omega) (by unfold I64; omega) hx2
      omega
    have h1 := sgn_len (minL (a :: t))
    have h2 : (packD ((a :: t).map (offW (minL (a :: t))))).length ≤ 1 + b.length := by
      unfold packD pkB
      split
      · rw [List.length_cons, packL_len, Int.toNat_natCast, List.length_map, hlen]
        have : b.length * widL ((a :: t).map (offW (minL (a :: t)))) ≤ b.length * 8 := Nat.mul_le_mul_left _ hw
        omega
      · simp
    rw [List.length_append]
    omega
end Go.Proofs.YtdchaojgldfagaaDoor
