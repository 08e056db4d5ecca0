/- Plain arithmetic of the hash (BLAKE2s-256) on 32-bit words: a mix of four words, a block's rounds, a text's digest. -/
import Derived.Laws.BitsAllLaws
import Derived.KernelRfl
namespace Go.Proofs.YtcnnijhfliahgaaDoor
set_option linter.unusedVariables false

abbrev W32 := BitVec 32
def wat (v : List W32) (i : Nat) : W32 := v.getD i 0
def ror (x : W32) (n : Nat) : W32 := (x >>> n) ||| (x <<< (32 - n))
def mixA1 (A B X : W32) : W32 := A + (B + X)
def mixD1 (A B D X : W32) : W32 := ror (D ^^^ mixA1 A B X) 16
def mixC1 (A B C D X : W32) : W32 := C + mixD1 A B D X
def mixB1 (A B C D X : W32) : W32 := ror (B ^^^ mixC1 A B C D X) 12
def mixA2 (A B C D X Y : W32) : W32 := mixA1 A B X + (mixB1 A B C D X + Y)
def mixD2 (A B C D X Y : W32) : W32 := ror (mixD1 A B D X ^^^ mixA2 A B C D X Y) 8
def mixC2 (A B C D X Y : W32) : W32 := mixC1 A B C D X + mixD2 A B C D X Y
def mixB2 (A B C D X Y : W32) : W32 := ror (mixB1 A B C D X ^^^ mixC2 A B C D X Y) 7
/-- Four of sixteen words, mixed with two. -/
def mixL (v : List W32) (a b c d : Nat) (X Y : W32) : List W32 :=
  let A := wat v a; let B := wat v b; let C := wat v c; let D := wat v d
  (((v.set a (mixA2 A B C D X Y)).set b (mixB2 A B C D X Y)).set c (mixC2 A B C D X Y)).set d (mixD2 A B C D X Y)
theorem mixL_len (v : List W32) (a b c d : Nat) (X Y : W32) : (mixL v a b c d X Y).length = v.length := by simp [mixL]

def ivs : List W32 := [0x6A09E667, 0xBB67AE85, 0x3C6EF372, 0xA54FF53A, 0x510E527F, 0x9B05688C, 0x1F83D9AB, 0x5BE0CD19]
def perms : List (List Nat) := [
  [0, 1, 2, 3, 4, 5, 6, 7, 8, 9, 10, 11, 12, 13, 14, 15],
  [14, 10, 4, 8, 9, 15, 13, 6, 1, 12, 0, 2, 11, 7, 5, 3],
  [11, 8, 12, 0, 5, 2, 15, 13, 10, 14, 3, 6, 7, 1, 9, 4],
  [7, 9, 3, 1, 13, 12, 11, 14, 2, 6, 5, 10, 4, 0, 15, 8],
  [9, 0, 5, 7, 2, 4, 10, 15, 14, 1, 11, 12, 6, 8, 3, 13],
  [2, 12, 6, 10, 0, 11, 8, 3, 4, 13, 7, 5, 15, 14, 1, 9],
  [12, 5, 1, 15, 14, 13, 4, 10, 0, 7, 6, 3, 9, 2, 8, 11],
  [13, 11, 7, 14, 12, 1, 3, 9, 5, 0, 15, 4, 8, 6, 2, 10],
  [6, 15, 14, 9, 11, 3, 0, 8, 12, 2, 13, 7, 1, 4, 10, 5],
  [10, 2, 8, 4, 7, 6, 1, 5, 15, 11, 9, 14, 3, 12, 13, 0]]
def quad : List (Nat × Nat × Nat × Nat) := [(0, 4, 8, 12), (1, 5, 9, 13), (2, 6, 10, 14), (3, 7, 11, 15), (0, 5, 10, 15), (1, 6, 11, 12), (2, 7, 8, 13), (3, 4, 9, 14)]
/-- The i-th step of a round. -/
def stepL (m : List W32) (s : List Nat) (v : List W32) (i : Nat) : List W32 :=
  let q := quad.getD i (0, 0, 0, 0)
  mixL v q.1 q.2.1 q.2.2.1 q.2.2.2 (wat m (s.getD (2 * i) 0)) (wat m (s.getD (2 * i + 1) 0))
def stepsL (m : List W32) (s : List Nat) (v : List W32) (k : Nat) : List W32 := (List.range k).foldl (stepL m s) v
def roundL (m : List W32) (v : List W32) (s : List Nat) : List W32 := stepsL m s v 8
def roundsL (m : List W32) (v : List W32) (k : Nat) : List W32 := (perms.take k).foldl (roundL m) v
theorem stepL_len (m : List W32) (s : List Nat) (v : List W32) (i : Nat) : (stepL m s v i).length = v.length := mixL_len _ _ _ _ _ _ _
theorem stepsL_succ (m : List W32) (s : List Nat) (v : List W32) (k : Nat) : stepsL m s v (k + 1) = stepL m s (stepsL m s v k) k := by
  simp [stepsL, List.range_succ, List.foldl_append]
theorem stepsL_len (m : List W32) (s : List Nat) (v : List W32) (k : Nat) : (stepsL m s v k).length = v.length := by
  induction k with
  | zero => rfl
  | succ k ih => rw [stepsL_succ, stepL_len, ih]
theorem roundsL_succ (m : List W32) (v : List W32) (k : Nat) (h : k < 10) : roundsL m v (k + 1) = roundL m (roundsL m v k) (perms.getD k []) := by
  have h1 : perms.take (k + 1) = perms.take k ++ [perms.getD k []] := by
    revert k; decide
  simp only [roundsL]
  rw [h1, List.foldl_append, List.foldl_cons, List.foldl_nil]
theorem roundsL_len (m : List W32) (v : List W32) (k : Nat) (h : k ≤ 10) : (roundsL m v k).length = v.length := by
  induction k with
  | zero => rfl
  | succ k ih => rw [roundsL_succ _ _ _ (by omega), roundL, stepsL_len, ih (by omega)]

/-- The number that the first k bytes of a block's j-th four are. -/
def bsum (b : List UInt8) (j : Nat) : Nat → Nat
  | 0 => 0
  | k + 1 => bsum b j k + (b.getD (4 * j + k) 0).toNat * 256 ^ k
theorem bsum_lt (b : List UInt8) (j k : Nat) : bsum b j k < 256 ^ k := by
  induction k with
  | zero => simp [bsum]
  | succ k ih =>
    have h := (b.getD (4 * j + k) 0).toNat_lt
    simp only [bsum]
    rw [Nat.pow_succ]
    have h2 : (b.getD (4 * j + k) 0).toNat * 256 ^ k ≤ 255 * 256 ^ k := Nat.mul_le_mul_right _ (by omega)
    omega
/-- A block's sixteen words, of the first i bytes. -/
def wpart (b : List UInt8) (i : Nat) : List W32 := (List.range 16).map fun j => BitVec.ofNat 32 (bsum b j (min 4 (i - 4 * j)))
def wordsL (b : List UInt8) : List W32 := wpart b 64
theorem wpart_len (b : List UInt8) (i : Nat) : (wpart b i).length = 16 := by simp [wpart]
theorem wpart_at (b : List UInt8) (i : Nat) (hi : i < 64) : wat (wpart b i) (i / 4) = BitVec.ofNat 32 (bsum b (i / 4) (i % 4)) := by
  have h : i / 4 < 16 := by omega
  simp only [wat, wpart, List.getD_eq_getElem?_getD, List.getElem?_map, List.getElem?_range h, Option.map_some, Option.getD_some]
  rw [show min 4 (i - 4 * (i / 4)) = i % 4 by omega]
theorem wpart_succ (b : List UInt8) (i : Nat) (hi : i < 64) : wpart b (i + 1) = (wpart b i).set (i / 4) (BitVec.ofNat 32 (bsum b (i / 4) (i % 4 + 1))) := by
  apply List.ext_getElem?
  intro j
  rw [List.getElem?_set]
  simp only [wpart, List.length_map, List.length_range, List.getElem?_map]
  by_cases hj : j < 16
  · rw [List.getElem?_range hj]
    by_cases e : i / 4 = j
    · rw [if_pos e, if_pos (by omega)]
      simp only [Option.map_some]
      rw [e, show min 4 (i + 1 - 4 * j) = i % 4 + 1 by omega]
    · rw [if_neg e]
      simp only [Option.map_some]
      rw [show min 4 (i + 1 - 4 * j) = min 4 (i - 4 * j) by omega]
  · rw [List.getElem?_eq_none (by simp; omega), if_neg (by omega)]
    rfl
theorem wpart_zero (b : List UInt8) : wpart b 0 = List.replicate 16 0 := by
  simp only [wpart, Nat.zero_sub, Nat.min_zero, bsum]
  rfl
/-- One byte more, by 'or'. -/
theorem word_or (b : List UInt8) (i : Nat) (hi : i < 64) (c : UInt8) (hc : b.getD i 0 = c) :
    BitVec.ofNat 32 (bsum b (i / 4) (i % 4)) ||| ((BitVec.ofNat 32 c.toNat) <<< (8 * (i % 4))) = BitVec.ofNat 32 (bsum b (i / 4) (i % 4 + 1)) := by
  have h := bsum_lt b (i / 4) (i % 4)
  have hp : (256 : Nat) ^ (i % 4) = 2 ^ (8 * (i % 4)) := by rw [Nat.pow_mul]
  have hcl := c.toNat_lt
  simp only [bsum]
  rw [show 4 * (i / 4) + i % 4 = i by omega, hc]
  rw [hp] at h ⊢
  apply BitVec.eq_of_toNat_eq
  have h3 : i % 4 < 4 := by omega
  have h4 : c.toNat * 2 ^ (8 * (i % 4)) < 4294967296 := by
    generalize i % 4 = k at h3
    obtain rfl | rfl | rfl | rfl : k = 0 ∨ k = 1 ∨ k = 2 ∨ k = 3 := by omega
    all_goals simp only [Nat.reduceMul, Nat.reducePow]; omega
  have h5 : bsum b (i / 4) (i % 4) < 4294967296 := by
    refine Nat.lt_of_lt_of_le h ?_
    generalize i % 4 = k at h3
    obtain rfl | rfl | rfl | rfl : k = 0 ∨ k = 1 ∨ k = 2 ∨ k = 3 := by omega
    all_goals simp only [Nat.reduceMul, Nat.reducePow]; omega
  have h6 : bsum b (i / 4) (i % 4) + c.toNat * 2 ^ (8 * (i % 4)) = bsum b (i / 4) (i % 4) ||| (c.toNat <<< (8 * (i % 4))) := by
    rw [Nat.or_comm, ← Nat.shiftLeft_add_eq_or_of_lt h, Nat.shiftLeft_eq, Nat.add_comm]
  rw [h6, BitVec.toNat_or, BitVec.toNat_shiftLeft, BitVec.toNat_ofNat, BitVec.toNat_ofNat, BitVec.toNat_ofNat, Nat.mod_eq_of_lt (by omega), Nat.mod_eq_of_lt (show c.toNat < 2 ^ 32 by omega), Nat.mod_eq_of_lt (show c.toNat <<< (8 * (i % 4)) < 2 ^ 32 by rw [Nat.shiftLeft_eq]; omega)]
  have h7 : c.toNat <<< (8 * (i % 4)) < 2 ^ 32 := by rw [Nat.shiftLeft_eq]; omega
  rw [Nat.mod_eq_of_lt (Nat.or_lt_two_pow (by omega) h7)]
/-- One byte more, by a sum. -/
theorem word_add (b : List UInt8) (i : Nat) (hi : i < 64) (c : UInt8) (hc : b.getD i 0 = c) :
    BitVec.ofNat 32 (bsum b (i / 4) (i % 4)) + ((BitVec.ofNat 32 c.toNat) <<< (8 * (i % 4))) = BitVec.ofNat 32 (bsum b (i / 4) (i % 4 + 1)) := by
  have hp : (256 : Nat) ^ (i % 4) = 2 ^ (8 * (i % 4)) := by rw [Nat.pow_mul]
  simp only [bsum]
  rw [show 4 * (i / 4) + i % 4 = i by omega, hc, hp]
  apply BitVec.eq_of_toNat_eq
  rw [BitVec.toNat_add, BitVec.toNat_shiftLeft, BitVec.toNat_ofNat, BitVec.toNat_ofNat, BitVec.toNat_ofNat, Nat.shiftLeft_eq]
  simp
def loW (n : Nat) : W32 := BitVec.ofNat 32 n
def hiW (n : Nat) : W32 := BitVec.ofNat 32 (n / 4294967296)
/-- The sixteen words with which a block's rounds begin. -/
def startL (h : List W32) (n : Nat) (last : Bool) : List W32 :=
  let v := h ++ ivs
  let v := v.set 12 (wat v 12 ^^^ loW n)
  let v := v.set 13 (wat v 13 ^^^ hiW n)
  if last then v.set 14 (~~~ (wat v 14)) else v
def blockL (h : List W32) (b : List UInt8) (n : Nat) (last : Bool) : List W32 :=
  let v := roundsL (wordsL b) (startL h n last) 10
  (List.range 8).map fun i => wat h i ^^^ (wat v i ^^^ wat v (i + 8))
def h0 : List W32 := (ivs.set 0 (wat ivs 0 ^^^ 0x01010020))
def pad (b : List UInt8) : List UInt8 := b ++ List.replicate (64 - b.length) 0
/-- The state behind the text's rest r, t bytes having come: whole blocks of which more comes behind, and the last one. -/
def hashL : Nat → List W32 → Nat → List UInt8 → List W32
  | 0, h, t, r => blockL h (pad r) (t + r.length) true
  | n + 1, h, t, r => if r.length ≤ 64 then blockL h (pad r) (t + r.length) true else hashL n (blockL h (r.take 64) (t + 64) false) (t + 64) (r.drop 64)
def outL (h : List W32) : List UInt8 := (List.range 32).map fun i => UInt8.ofNat ((wat h (i / 4)).toNat / 2 ^ (8 * (i % 4)))
def sumL (b : List UInt8) : List UInt8 := outL (hashL (b.length / 64) h0 0 b)

def hexC (n : Nat) : UInt8 := if n < 10 then UInt8.ofNat (48 + n) else UInt8.ofNat (87 + n)
def hexL (d : List UInt8) : List UInt8 := d.flatMap fun c => [hexC (c.toNat / 16), hexC (c.toNat % 16)]
/-- The known digest of 'abc'. -/
theorem abc_hex : hexL (sumL [97, 98, 99]) = "508c5e8c327c14e2e1a72ba34eeb452f37458b209ed63a294d999b4c86675982".toUTF8.data.toList := by decide +kernel
end Go.Proofs.YtcnnijhfliahgaaDoor
