/- The walk of bits.RotateLeft32 (49) at the four turns of the hash. -/
import Derived.Test.YtcnnijhfliahgaaDoorHaM
import Derived.Test.YtcnnijhfliahgaaDoorMk
namespace Go.Proofs.YtcnnijhfliahgaaDoor
open Go.RowKit
set_option linter.unusedVariables false

theorem wrap_u32_bv (x : W32) : IntKind.u32.wrap (x.toNat : Int) = (x.toNat : Int) := by
  rw [IntKind.wrap_u32']; have := x.isLt; omega
theorem ofInt_bv (x : W32) : BitVec.ofInt 32 (x.toNat : Int) = x := by
  rw [BitVec.ofInt_natCast]; simp
theorem bits_xor32 (a b : W32) : bits .xor .u32 (a.toNat : Int) (b.toNat : Int) = ((a ^^^ b).toNat : Int) := by
  rw [show bits .xor .u32 (a.toNat : Int) (b.toNat : Int) = ((BitVec.ofInt 32 (a.toNat : Int) ^^^ BitVec.ofInt 32 (b.toNat : Int)).toNat : Int) from wrap_u32_bv _, ofInt_bv, ofInt_bv]
theorem bits_or32 (a b : W32) : bits .or .u32 (a.toNat : Int) (b.toNat : Int) = ((a ||| b).toNat : Int) := by
  rw [show bits .or .u32 (a.toNat : Int) (b.toNat : Int) = ((BitVec.ofInt 32 (a.toNat : Int) ||| BitVec.ofInt 32 (b.toNat : Int)).toNat : Int) from wrap_u32_bv _, ofInt_bv, ofInt_bv]
theorem add_bv (a b : W32) : ((a.toNat : Int) + (b.toNat : Int)) % 4294967296 = ((a + b).toNat : Int) := by
  rw [BitVec.toNat_add]; omega
theorem shl_bv (x : W32) (n : Nat) (m : Int) (hm : m = ((2 ^ n : Nat) : Int)) : (x.toNat : Int) * m % 4294967296 = ((x <<< n).toNat : Int) := by
  subst hm
  rw [BitVec.toNat_shiftLeft, Nat.shiftLeft_eq, show (2 ^ 32 : Nat) = 4294967296 from rfl, Int.natCast_emod, Int.natCast_mul]
  rfl
theorem shr_bv (x : W32) (n : Nat) (m : Int) (hm : m = ((2 ^ n : Nat) : Int)) : (x.toNat : Int) / m = ((x >>> n).toNat : Int) := by
  subst hm
  rw [BitVec.toNat_ushiftRight, Nat.shiftRight_eq_div_pow, Int.natCast_ediv]
theorem ret_u32 {a b : Int} (h : a = b) : Ending.returned (.int .u32 a) = .returned (.int .u32 b) := by rw [h]

theorem rot16 (x : W32) (w : World) : Calls Tryd.prog 49 #[.int .u32 (x.toNat : Int), .int .i64 (-16)] w fun e w' => e = .returned (.int .u32 ((ror x 16).toNat : Int)) ∧ w = w' := by
  have hx := x.isLt
  have e1 : bits .and .u64 (IntKind.u64.wrap (-16)) 31 = 16 := by rfl
  go_enter Tryd.func49, Tryd.ntmps49
  go_wp2
  go_ret
  refine ⟨ret_u32 ?_, rfl⟩
  show bits .or .u32 ((x.toNat : Int) * 65536 % 4294967296) ((x.toNat : Int) / 65536) = _
  rw [shl_bv x 16 _ (by rfl), shr_bv x 16 _ (by rfl), bits_or32, BitVec.or_comm]
  rfl

theorem rot12 (x : W32) (w : World) : Calls Tryd.prog 49 #[.int .u32 (x.toNat : Int), .int .i64 (-12)] w fun e w' => e = .returned (.int .u32 ((ror x 12).toNat : Int)) ∧ w = w' := by
  have hx := x.isLt
  have e1 : bits .and .u64 (IntKind.u64.wrap (-12)) 31 = 20 := by rfl
  go_enter Tryd.func49, Tryd.ntmps49
  go_wp2
  go_ret
  refine ⟨ret_u32 ?_, rfl⟩
  show bits .or .u32 ((x.toNat : Int) * 1048576 % 4294967296) ((x.toNat : Int) / 4096) = _
  rw [shl_bv x 20 _ (by rfl), shr_bv x 12 _ (by rfl), bits_or32, BitVec.or_comm]
  rfl

theorem rot8 (x : W32) (w : World) : Calls Tryd.prog 49 #[.int .u32 (x.toNat : Int), .int .i64 (-8)] w fun e w' => e = .returned (.int .u32 ((ror x 8).toNat : Int)) ∧ w = w' := by
  have hx := x.isLt
  have e1 : bits .and .u64 (IntKind.u64.wrap (-8)) 31 = 24 := by rfl
  go_enter Tryd.func49, Tryd.ntmps49
  go_wp2
  go_ret
  refine ⟨ret_u32 ?_, rfl⟩
  show bits .or .u32 ((x.toNat : Int) * 16777216 % 4294967296) ((x.toNat : Int) / 256) = _
  rw [shl_bv x 24 _ (by rfl), shr_bv x 8 _ (by rfl), bits_or32, BitVec.or_comm]
  rfl

theorem rot7 (x : W32) (w : World) : Calls Tryd.prog 49 #[.int .u32 (x.toNat : Int), .int .i64 (-7)] w fun e w' => e = .returned (.int .u32 ((ror x 7).toNat : Int)) ∧ w = w' := by
  have hx := x.isLt
  have e1 : bits .and .u64 (IntKind.u64.wrap (-7)) 31 = 25 := by rfl
  go_enter Tryd.func49, Tryd.ntmps49
  go_wp2
  go_ret
  refine ⟨ret_u32 ?_, rfl⟩
  show bits .or .u32 ((x.toNat : Int) * 33554432 % 4294967296) ((x.toNat : Int) / 128) = _
  rw [shl_bv x 25 _ (by rfl), shr_bv x 7 _ (by rfl), bits_or32, BitVec.or_comm]
  rfl
end Go.Proofs.YtcnnijhfliahgaaDoor
