/- Bits as a run of places: bytes and numbers of them: the model of pack. -/
import Derived.Test.YtdchaojgldfagaaDoorPaB
namespace Go.Proofs.YtdchaojgldfagaaDoor
open Go.RowKit
set_option linter.unusedVariables false

def numOf : Nat → (Nat → Bool) → Nat
  | 0, _ => 0
  | n + 1, P => numOf n P ||| (if P n then 2 ^ n else 0)
theorem numOf_bit (P : Nat → Bool) (j : Nat) : ∀ n, (numOf n P).testBit j = (decide (j < n) && P j)
  | 0 => by simp [numOf]
  | n + 1 => by
    rw [numOf, Nat.testBit_or, numOf_bit P j n]
    by_cases hP : P n
    · rw [if_pos hP, Nat.testBit_two_pow]
      by_cases h : n = j
      · subst h; simp [hP]
      · have : (j < n + 1) ↔ (j < n) := by omega
        simp [h, this]
    · rw [if_neg hP, Nat.zero_testBit, Bool.or_false]
      by_cases h : j = n
      · subst h; simp [hP]
      · have : (j < n + 1) ↔ (j < n) := by omega
        simp [this]
theorem numOf_lt (P : Nat → Bool) (n : Nat) : numOf n P < 2 ^ n := by
  apply Nat.lt_pow_two_of_testBit
  intro i hi
  rw [numOf_bit]
  simp; omega
theorem numOf_eq {n : Nat} {P : Nat → Bool} {x : Nat} (hx : x < 2 ^ n) (h : ∀ j < n, x.testBit j = P j) : numOf n P = x := by
  apply Nat.eq_of_testBit_eq
  intro j
  rw [numOf_bit]
  by_cases hj : j < n
  · simp [hj, h j hj]
  · rw [Nat.testBit_lt_two_pow (Nat.lt_of_lt_of_le hx (Nat.pow_le_pow_right (by decide) (Nat.le_of_not_lt hj)))]
    simp [hj]
theorem numOf_congr {n : Nat} {P R : Nat → Bool} (h : ∀ j < n, P j = R j) : numOf n P = numOf n R := numOf_eq (numOf_lt R n) (fun j hj => by rw [numOf_bit]; simp [hj, h j hj])

def byP (P : Nat → Bool) (j : Nat) : UInt8 := UInt8.ofNat (numOf 8 fun t => P (8 * j + t))
theorem byP_nat (P : Nat → Bool) (j : Nat) : (byP P j).toNat = numOf 8 fun t => P (8 * j + t) := by
  unfold byP
  have := numOf_lt (fun t => P (8 * j + t)) 8
  simp
  omega
theorem byP_congr {P R : Nat → Bool} {j : Nat} (h : ∀ t < 8, P (8 * j + t) = R (8 * j + t)) : byP P j = byP R j := by
  unfold byP
  rw [numOf_congr h]
/-- The bytes whose bits are those at the places of P. -/
def packL (n : Nat) (P : Nat → Bool) : List UInt8 := (List.range n).map (byP P)
theorem packL_len (n : Nat) (P : Nat → Bool) : (packL n P).length = n := by simp [packL]
theorem packL_get {n : Nat} (P : Nat → Bool) {j : Nat} (hj : j < n) : (packL n P).getD j 0 = byP P j := by simp [packL, List.getD, hj]
theorem packL_none (n : Nat) : packL n (fun _ => false) = List.replicate n 0 := by
  apply List.ext_getElem
  · simp [packL]
  · intro i h1 h2
    simp [packL, byP, numOf]
theorem packL_congr {n : Nat} {P R : Nat → Bool} (h : ∀ i < 8 * n, P i = R i) : packL n P = packL n R := by
  apply List.map_congr_left
  intro j hj
  exact byP_congr fun t ht => h _ (by simp at hj; omega)
theorem packL_set {n : Nat} (P : Nat → Bool) {j r : Nat} (hj : j < n) (hr : r < 8) : (packL n P).set j (byP P j ||| UInt8.ofNat (2 ^ r)) = packL n (fun i => P i || i == 8 * j + r) := by
  have h2 : 2 ^ r < 256 := by
    have := Nat.pow_lt_pow_right (a := 2) (by decide) hr
    simpa using this
  apply List.ext_getElem?
  intro i
  rw [List.getElem?_set]
  simp only [packL, List.length_map, List.length_range, List.getElem?_map]
  by_cases hi : i < n
  · rw [List.getElem?_range hi]
    simp only [Option.map_some]
    by_cases e : j = i
    · subst e
      rw [if_pos rfl, if_pos hj]
      congr 1
      apply UInt8.toNat_inj.1
      rw [UInt8.toNat_or, byP_nat, byP_nat, UInt8.toNat_ofNat']
      have e2 : 2 ^ r % 2 ^ 8 = 2 ^ r := Nat.mod_eq_of_lt h2
      rw [e2]
      symm
      refine numOf_eq (Nat.or_lt_two_pow (numOf_lt _ 8) h2) fun t ht => ?_
      rw [Nat.testBit_or, numOf_bit, Nat.testBit_two_pow]
      have : (8 * j + t == 8 * j + r) = decide (r = t) := by
        by_cases e : r = t
        · subst e; simp
        · simp [e]; omega
      simp [ht, this]
    · rw [if_neg e]
      congr 1
      refine byP_congr fun t ht => ?_
      have : (8 * i + t == 8 * j + r) = false := by simp; omega
      simp [this]
  · rw [List.getElem?_eq_none (by simp; omega), if_neg (by omega)]
    rfl
theorem bits_or8 (a b : UInt8) : bits .or .u8 (a.toNat : Int) (b.toNat : Int) = ((a ||| b).toNat : Int) := by
  have h : ∀ x : UInt8, BitVec.ofInt 8 (x.toNat : Int) = x.toBitVec := fun x => by
    rw [BitVec.ofInt_natCast]
    apply BitVec.eq_of_toNat_eq
    have := x.toNat_lt
    simp
  show IntKind.u8.wrap ((BitVec.ofInt 8 (a.toNat : Int) ||| BitVec.ofInt 8 (b.toNat : Int)).toNat : Int) = _
  rw [h, h, ← UInt8.toBitVec_or]
  generalize a ||| b = c
  have := c.toNat_lt
  show IntKind.u8.wrap (c.toNat : Int) = c.toNat
  simp [IntKind.wrap, IntKind.signed, IntKind.bits]
  omega
end Go.Proofs.YtdchaojgldfagaaDoor
