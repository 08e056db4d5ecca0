/- Plain arithmetic of variable-length numbers: seven bits a byte, the least first. -/
import Derived.Laws.BitsAllLaws
import Derived.KernelRfl
namespace Go.Proofs.YtfgmdaemcaamiaaDoor

/-- The bytes of a number; f bounds how many follow. -/
def numF : Nat → Nat → List UInt8
  | 0, n => [UInt8.ofNat n]
  | f + 1, n => if n < 128 then [UInt8.ofNat n] else UInt8.ofNat (n % 128 + 128) :: numF f (n / 128)
def num (n : Nat) : List UInt8 := numF 9 n

theorem numF_small (f n : Nat) (h : n < 128) : numF f n = [UInt8.ofNat n] := by
  cases f with
  | zero => rfl
  | succ f => simp [numF, h]
theorem numF_big (f n : Nat) (h : ¬ n < 128) : numF (f + 1) n = UInt8.ofNat (n % 128 + 128) :: numF f (n / 128) := by simp [numF, h]
theorem numF_len (f n : Nat) : 1 ≤ (numF f n).length ∧ (numF f n).length ≤ f + 1 := by
  induction f generalizing n with
  | zero => simp [numF]
  | succ f ih =>
    by_cases h : n < 128
    · rw [numF_small _ _ h]; simp
    · rw [numF_big _ _ h]; have := ih (n / 128); simp; omega
theorem num_len (n : Nat) : 1 ≤ (num n).length ∧ (num n).length ≤ 10 := numF_len 9 n

/-- How far a number that is still to be laid may go, behind k groups. -/
def room (k : Nat) : Nat := 2 * 128 ^ (9 - k)
theorem room_0 : room 0 = 18446744073709551616 := by decide
theorem room_le (k : Nat) : room k ≤ 18446744073709551616 := by
  have h : (128 : Nat) ^ (9 - k) ≤ 128 ^ 9 := Nat.pow_le_pow_right (by omega) (by omega)
  have h2 : (128 : Nat) ^ 9 = 9223372036854775808 := by decide
  unfold room
  omega
theorem room_9 : room 9 = 2 := by decide
theorem room_step (k m : Nat) (hk : k < 9) (h : m < room k) : m / 128 < room (k + 1) := by
  unfold room at h ⊢
  have e : 9 - k = (9 - (k + 1)) + 1 := by omega
  rw [e, Nat.pow_succ] at h
  omega
theorem room_stop (k m : Nat) (hk : k ≤ 9) (h : m < room k) (h9 : ¬ k < 9) : m < 128 := by
  obtain rfl : k = 9 := by omega
  rw [room_9] at h; omega

theorem and127 (m : Nat) : bits .and .u64 (m : Int) 127 = ((m % 128 : Nat) : Int) := by
  show IntKind.u64.wrap ((BitVec.ofInt 64 (m : Int) &&& BitVec.ofInt 64 127).toNat : Int) = _
  rw [BitVec.toNat_and, BitVec.ofInt_natCast, BitVec.toNat_ofNat, show (BitVec.ofInt 64 127).toNat = 2 ^ 7 - 1 from rfl, Nat.and_two_pow_sub_one_eq_mod, IntKind.wrap_u64]
  omega
theorem or128 (m : Nat) (h : m < 128) : bits .or .u8 (m : Int) 128 = ((m + 128 : Nat) : Int) := by
  rw [show (128 : Int) = ((128 : Nat) : Int) from rfl, u8_or_nat m 128 (by omega) (by omega)]
  congr 1
  have := Nat.two_pow_add_eq_or_of_lt (i := 7) (by simpa using h) 1
  rw [Nat.mul_one] at this
  rw [Nat.or_comm, show 128 = 2 ^ 7 from rfl, ← this]
  omega
theorem ofNat_toNat (m : Nat) (h : m < 256) : ((UInt8.ofNat m).toNat : Int) = (m : Int) := by
  rw [UInt8.toNat_ofNat']; omega
end Go.Proofs.YtfgmdaemcaamiaaDoor
