/- Bytes and numbers one to one: the plain part of Unpack. -/
import Derived.Test.YtdchaojgldfagaaDoorPaS
import Derived.Test.YtdchaojgldfagaaDoorPbP
namespace Go.Proofs.YtdchaojgldfagaaDoor
open Go.RowKit
set_option linter.unusedVariables false

/-- Which bits bytes hold. -/
def bitsB (b : List UInt8) (i : Nat) : Bool := decide (i ∈ posAt 8 0 (b.map UInt8.toNat))
theorem bitsB_eq (b : List UInt8) (i : Nat) : bitsB b i = (decide (i < 8 * b.length) && (b.getD (i / 8) 0).toNat.testBit (i % 8)) := by
  have hm := mem_posAt 8 (b.map UInt8.toNat) 0 (by intro x hx; obtain ⟨y, _, rfl⟩ := List.mem_map.1 hx; have := y.toNat_lt; omega) i
  unfold bitsB
  rw [Bool.eq_iff_iff, decide_eq_true_iff, hm, Bool.and_eq_true, decide_eq_true_iff]
  constructor
  · rintro ⟨k, hk, j, hj, rfl⟩
    simp only [List.length_map] at hk
    simp only [List.getElem_map] at hj
    have hjw : j < 8 := by
      apply Nat.lt_of_not_le
      intro h
      rw [Nat.testBit_lt_two_pow (Nat.lt_of_lt_of_le (b[k]).toNat_lt (Nat.pow_le_pow_right (n := 2) (by decide) h))] at hj
      cases hj
    rw [show ((0 + k) * 8 + j) / 8 = k by omega, show ((0 + k) * 8 + j) % 8 = j by omega]
    refine ⟨by omega, ?_⟩
    simp only [List.getD, List.getElem?_eq_getElem hk, Option.getD_some]
    exact hj
  · rintro ⟨hi, hb⟩
    have hk : i / 8 < b.length := by omega
    refine ⟨i / 8, by simpa using hk, i % 8, ?_, by omega⟩
    simp only [List.getElem_map]
    simp only [List.getD, List.getElem?_eq_getElem hk, Option.getD_some] at hb
    exact hb
theorem posB_lt (b : List UInt8) : ∀ p ∈ posAt 8 0 (b.map UInt8.toNat), p < 8 * b.length := by
  intro p hp
  have h : bitsB b p = true := decide_eq_true hp
  rw [bitsB_eq, Bool.and_eq_true, decide_eq_true_iff] at h
  exact h.1
theorem packL_bitsB (b : List UInt8) : packL b.length (bitsB b) = b := by
  apply List.ext_getElem
  · simp [packL]
  · intro i h1 h2
    apply UInt8.toNat_inj.1
    simp only [packL, List.getElem_map, List.getElem_range]
    rw [byP_nat]
    refine numOf_eq (b[i]).toNat_lt fun t ht => ?_
    rw [bitsB_eq, show (8 * i + t) / 8 = i by omega, show (8 * i + t) % 8 = t by omega, decide_eq_true (show 8 * i + t < 8 * b.length by omega)]
    simp [List.getD, h2]
theorem bitsB_packL (n : Nat) (P : Nat → Bool) (i : Nat) : bitsB (packL n P) i = (decide (i < 8 * n) && P i) := by
  rw [bitsB_eq, packL_len]
  by_cases h : i < 8 * n
  · rw [packL_get P (show i / 8 < n by omega), byP_nat, numOf_bit, decide_eq_true (show i % 8 < 8 by omega), show 8 * (i / 8) + i % 8 = i by omega]
    simp
  · simp [h]
theorem width_unL {w : Nat} (hw : w ≤ 64) (n : Nat) (P : Nat → Bool) : widL (unL w n P) ≤ w := by
  rw [of_width hw]
  intro k hk
  simp only [unL, List.getElem_map, List.getElem_range]
  rw [nuP_nat hw]
  exact numOf_lt _ _
theorem bitsP_unL {w : Nat} (hw : w ≤ 64) (n : Nat) (P : Nat → Bool) (i : Nat) : bitsP w (unL w n P) i = (decide (i < n * w) && P i) := by
  rw [bitsP_eq ((of_width hw).1 (width_unL hw n P)), unL_len]
  by_cases h : i < n * w
  · have h0 : 0 < w := by
      apply Nat.pos_of_ne_zero
      intro e; subst e; simp at h
    have hk : i / w < n := (Nat.div_lt_iff_lt_mul h0).2 h
    rw [unL_get P hk, nuP_nat hw, numOf_bit, decide_eq_true (Nat.mod_lt i h0), Nat.mul_comm (i / w) w, Nat.div_add_mod]
    simp
  · simp [h]
theorem un_pack {w : Nat} {l : List W64} (hw : w ≤ 64) (h : widL l ≤ w) : unL w l.length (bitsP w l) = l := by
  apply List.ext_getElem
  · simp [unL]
  · intro i h1 h2
    apply BitVec.eq_of_toNat_eq
    simp only [unL, List.getElem_map, List.getElem_range]
    rw [nuP_nat hw]
    refine numOf_eq ((of_width hw).1 h i h2) fun t ht => ?_
    have hi : i * w + t < l.length * w := by
      have : (i + 1) * w ≤ l.length * w := Nat.mul_le_mul_right w h2
      rw [Nat.add_mul] at this
      omega
    rw [bitsP_eq ((of_width hw).1 h), decide_eq_true hi, Nat.add_comm, Nat.add_mul_div_right _ _ (by omega), Nat.div_eq_of_lt ht, Nat.zero_add, Nat.add_mul_mod_self_right, Nat.mod_eq_of_lt ht]
    simp [List.getD, h2]
theorem unL_congr {w n : Nat} {P R : Nat → Bool} (h : ∀ i < n * w, P i = R i) : unL w n P = unL w n R := by
  apply List.map_congr_left
  intro j hj
  refine nuP_congr fun t ht => h _ ?_
  have hj' : j < n := by simpa using hj
  have : (j + 1) * w ≤ n * w := Nat.mul_le_mul_right w hj'
  rw [Nat.add_mul] at this
  omega
/-- Bytes whose bits all lie ahead of a place. -/
def fitB (M : Nat) (b : List UInt8) : Bool := (posAt 8 0 (b.map UInt8.toNat)).all fun p => decide (p < M)
theorem fitB_iff (M : Nat) (b : List UInt8) : fitB M b = true ↔ ∀ i, bitsB b i = true → i < M := by
  unfold fitB bitsB
  rw [List.all_eq_true]
  constructor
  · intro h i hi
    exact of_decide_eq_true (h i (of_decide_eq_true hi))
  · intro h p hp
    exact decide_eq_true (h p (decide_eq_true hp))
/-- Packed again they are the bytes, just if all bits lie ahead. -/
theorem again_iff {w n : Nat} {b : List UInt8} (hw : w ≤ 64) (hb : b.length = (n * w + 7) / 8) : packL b.length (bitsP w (unL w n (bitsB b))) = b ↔ fitB (n * w) b = true := by
  rw [fitB_iff]
  constructor
  · intro h i hi
    have e := congrArg (fun l => bitsB l i) h
    simp only [bitsB_packL, bitsP_unL hw, hi] at e
    simp at e
    exact e.2
  · intro h
    conv => rhs; rw [← packL_bitsB b]
    apply packL_congr
    intro i _
    rw [bitsP_unL hw]
    by_cases hi : i < n * w
    · simp [hi]
    · have : bitsB b i = false := by
        rw [← Bool.not_eq_true]
        exact fun e => hi (h i e)
      simp [this]
theorem fit_packL {w : Nat} {l : List W64} (hw : w ≤ 64) (h : widL l ≤ w) : fitB (l.length * w) (packL ((l.length * w + 7) / 8) (bitsP w l)) = true := by
  rw [fitB_iff]
  intro i hi
  rw [bitsB_packL, bitsP_eq ((of_width hw).1 h)] at hi
  simp at hi
  exact hi.2.1
theorem un_packL {w : Nat} {l : List W64} (hw : w ≤ 64) (h : widL l ≤ w) : unL w l.length (bitsB (packL ((l.length * w + 7) / 8) (bitsP w l))) = l := by
  conv => rhs; rw [← un_pack hw h]
  apply unL_congr
  intro i hi
  rw [bitsB_packL, decide_eq_true (show i < 8 * ((l.length * w + 7) / 8) by omega)]
  simp
end Go.Proofs.YtdchaojgldfagaaDoor
