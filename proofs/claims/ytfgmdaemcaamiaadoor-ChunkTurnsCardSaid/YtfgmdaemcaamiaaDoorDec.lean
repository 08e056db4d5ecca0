/- Plain arithmetic: what bytes say as a variable-length number, and that a number has one form. -/
import Derived.Test.YtfgmdaemcaamiaaDoorNum
namespace Go.Proofs.YtfgmdaemcaamiaaDoor

/-- The number so far, with one group more at place k. -/
def addG (k m : Nat) (c : UInt8) : Nat := m + (c.toNat % 128) * 128 ^ k % 18446744073709551616
/-- Is a last group wrong at place k? -/
def badG (k : Nat) (c : UInt8) : Bool := (decide (c.toNat = 0) && decide (0 < k)) || (decide (k = 9) && decide (1 < c.toNat))
/-- What bytes say from place k on: the number, and how many groups it has; f: how many groups there may still be. -/
def decF : Nat → Nat → Nat → List UInt8 → Option (Nat × Nat)
  | 0, _, _, _ => none
  | _ + 1, _, _, [] => none
  | f + 1, k, m, c :: t => if c.toNat < 128 then (if badG k c then none else some (addG k m c, k + 1)) else decF f (k + 1) (addG k m c) t

theorem pow_room (k : Nat) (hk : k ≤ 9) : 128 ^ k * 128 ^ (9 - k) = 9223372036854775808 := by
  rw [← Nat.pow_add, show k + (9 - k) = 9 by omega]
theorem addG_small (k m : Nat) (c : UInt8) (hk : k ≤ 8) : addG k m c = m + (c.toNat % 128) * 128 ^ k := by
  unfold addG
  have h : (c.toNat % 128) * 128 ^ k < 18446744073709551616 := by
    have h1 : 128 ^ k ≤ 128 ^ 8 := Nat.pow_le_pow_right (by omega) hk
    have h2 : c.toNat % 128 < 128 := Nat.mod_lt _ (by omega)
    calc (c.toNat % 128) * 128 ^ k ≤ 127 * 128 ^ 8 := Nat.mul_le_mul (by omega) h1
      _ < 18446744073709551616 := by decide
  rw [Nat.mod_eq_of_lt h]
theorem addG_9 (m : Nat) (c : UInt8) (h : c.toNat ≤ 1) : addG 9 m c = m + c.toNat * 128 ^ 9 := by
  unfold addG
  have : (128 : Nat) ^ 9 = 9223372036854775808 := by decide
  rw [this, Nat.mod_eq_of_lt (show c.toNat < 128 by omega)]
  omega
theorem addG_lt (k m : Nat) (c : UInt8) (hk : k ≤ 8) (hm : m < 128 ^ k) : addG k m c < 128 ^ (k + 1) := by
  rw [addG_small k m c hk, Nat.pow_succ]
  have h2 : c.toNat % 128 ≤ 127 := by omega
  have := Nat.mul_le_mul_right (128 ^ k) h2
  omega
theorem addG_lt9 (k m : Nat) (c : UInt8) (hk : k ≤ 9) (hm : m < 128 ^ k) : addG k m c < 18446744073709551616 := by
  by_cases h : k ≤ 8
  · have := addG_lt k m c h hm
    have h2 : 128 ^ (k + 1) ≤ 128 ^ 9 := Nat.pow_le_pow_right (by omega) (by omega)
    have : (128 : Nat) ^ 9 = 9223372036854775808 := by decide
    omega
  · obtain rfl : k = 9 := by omega
    unfold addG
    have : (128 : Nat) ^ 9 = 9223372036854775808 := by decide
    rw [this] at hm ⊢
    omega

theorem addG_next (k m : Nat) (c : UInt8) (hk : k ≤ 9) (hm : m < 128 ^ k) : addG k m c < 128 ^ (k + 1) := by
  by_cases h : k ≤ 8
  · exact addG_lt k m c h hm
  · obtain rfl : k = 9 := by omega
    have h1 := addG_lt9 9 m c (by omega) hm
    have h2 : (128 : Nat) ^ (9 + 1) = 1180591620717411303424 := by decide
    omega

/-- What was read has the bytes of its number. -/
theorem decF_form : ∀ (f k m : Nat) (t : List UInt8) (n c : Nat), f + k = 10 → m < 128 ^ k → decF f k m t = some (n, c) →
    ∃ v, n = m + v * 128 ^ k ∧ (0 < k → 1 ≤ v) ∧ v < room k ∧ k < c ∧ c - k ≤ t.length ∧ t.take (c - k) = numF (f - 1) v
  | 0, _, _, _, _, _, _, _, h => by simp [decF] at h
  | f + 1, k, m, [], n, c, _, _, h => by simp [decF] at h
  | f + 1, k, m, x :: t, n, c, hf, hm, h => by
    unfold decF at h
    by_cases hx : x.toNat < 128
    · rw [if_pos hx] at h
      by_cases hb : badG k x
      · rw [if_pos hb] at h; cases h
      · rw [if_neg hb] at h
        injection h with h
        injection h with h1 h2
        subst h1 h2
        have hb' : ¬ (x.toNat = 0 ∧ 0 < k) ∧ ¬ (k = 9 ∧ 1 < x.toNat) := by
          simp [badG] at hb
          omega
        refine ⟨x.toNat, ?_, by omega, ?_, by omega, by simp, ?_⟩
        · by_cases h9 : k = 9
          · subst h9; exact addG_9 m x (by omega)
          · rw [addG_small k m x (by omega), Nat.mod_eq_of_lt hx]
        · by_cases h9 : k = 9
          · subst h9; rw [room_9]; omega
          · have : 128 ^ 1 ≤ 128 ^ (9 - k) := Nat.pow_le_pow_right (by omega) (by omega)
            unfold room
            omega
        · rw [show k + 1 - k = 1 by omega, numF_small _ _ hx]
          simp
    · rw [if_neg hx] at h
      by_cases h9 : k = 9
      · obtain rfl : f = 0 := by omega
        simp [decF] at h
      · have hk : k ≤ 8 := by omega
        obtain ⟨v, hn, hv, hr, hc, hcl, ht⟩ := decF_form f (k + 1) (addG k m x) t n c (by omega) (addG_lt k m x hk hm) h
        have hv1 := hv (by omega)
        have hx2 : x.toNat < 256 := x.toNat_lt
        refine ⟨x.toNat % 128 + 128 * v, ?_, by omega, ?_, by omega, by simp; omega, ?_⟩
        · rw [hn, addG_small k m x hk, Nat.pow_succ, Nat.add_mul]
          have e : v * (128 ^ k * 128) = 128 * v * 128 ^ k := by rw [Nat.mul_comm (128 ^ k) 128, ← Nat.mul_assoc, Nat.mul_comm v 128]
          omega
        · unfold room at hr ⊢
          rw [show 9 - k = (9 - (k + 1)) + 1 by omega, Nat.pow_succ]
          omega
        · obtain ⟨f', rfl⟩ : ∃ f', f = f' + 1 := ⟨f - 1, by omega⟩
          rw [show c - k = (c - (k + 1)) + 1 by omega, List.take_succ_cons, ht]
          show _ = numF (f' + 1) _
          rw [numF_big _ _ (by omega), show (x.toNat % 128 + 128 * v) / 128 = v by omega, show (x.toNat % 128 + 128 * v) % 128 + 128 = x.toNat by omega]
          simp

/-- What was laid is read. -/
theorem decF_back : ∀ (f k m v : Nat) (t : List UInt8), f + 1 + k = 10 → (0 < k → 1 ≤ v) → v < room k → decF (f + 1) k m (numF f v ++ t) = some (m + v * 128 ^ k, k + (numF f v).length)
  | f, k, m, v, t, hf, hv, hr => by
    by_cases h : v < 128
    · rw [numF_small _ _ h]
      have e : (UInt8.ofNat v).toNat = v := by rw [UInt8.toNat_ofNat']; omega
      have hb : badG k (UInt8.ofNat v) = false := by
        have h9 : k = 9 → v ≤ 1 := by rintro rfl; rw [room_9] at hr; omega
        simp only [badG, e]
        by_cases h0 : 0 < k
        · have := hv h0
          simp; omega
        · simp; omega
      simp only [List.singleton_append, decF, e, if_pos h, hb, List.length_singleton]
      by_cases h9 : k = 9
      · subst h9
        rw [room_9] at hr
        simp [addG_9 m (UInt8.ofNat v) (by omega), e]
      · simp [addG_small k m (UInt8.ofNat v) (by omega), e, Nat.mod_eq_of_lt h]
    · have hk : k ≤ 8 := by
        rcases Nat.lt_or_ge k 9 with h' | h'
        · omega
        · exact absurd (room_stop k v (by omega) hr (by omega)) h
      obtain ⟨f', rfl⟩ : ∃ f', f = f' + 1 := ⟨f - 1, by omega⟩
      rw [numF_big _ _ h]
      have e : (UInt8.ofNat (v % 128 + 128)).toNat = v % 128 + 128 := by rw [UInt8.toNat_ofNat']; omega
      show decF (f' + 1 + 1) k m (UInt8.ofNat (v % 128 + 128) :: (numF f' (v / 128) ++ t)) = _
      rw [decF, if_neg (by rw [e]; omega), decF_back f' (k + 1) (addG k m _) (v / 128) t (by omega) (by omega) (room_step k v (by omega) hr)]
      rw [addG_small k m _ hk, e, show (v % 128 + 128) % 128 = v % 128 by omega, Nat.pow_succ]
      have e2 : v / 128 * (128 ^ k * 128) = 128 * (v / 128) * 128 ^ k := by rw [Nat.mul_comm (128 ^ k) 128, ← Nat.mul_assoc, Nat.mul_comm (v / 128) 128]
      have e3 : v % 128 * 128 ^ k + v / 128 * (128 ^ k * 128) = v * 128 ^ k := by
        rw [e2, ← Nat.add_mul, show v % 128 + 128 * (v / 128) = v by omega]
      simp only [List.length_cons, Option.some.injEq, Prod.mk.injEq]
      omega

theorem decF_take : ∀ (f k m : Nat) (t : List UInt8), decF f k m (t.take f) = decF f k m t
  | 0, _, _, _ => by simp [decF]
  | f + 1, _, _, [] => by simp [decF]
  | f + 1, k, m, c :: t => by
    rw [List.take_succ_cons, decF, decF]
    by_cases h : c.toNat < 128
    · rw [if_pos h, if_pos h]
    · rw [if_neg h, if_neg h, decF_take f]

def takeO (l : List UInt8) (at_ : Int) : Option (Nat × Nat) := if 0 ≤ at_ ∧ at_ ≤ l.length then decF 10 0 0 (l.drop at_.toNat) else none
/-- What is read at a place: the number, the place behind it, the error. -/
def tV (l : List UInt8) (at_ : Int) : Int := match takeO l at_ with | some (n, _) => n | none => 0
def tP (l : List UInt8) (at_ : Int) : Int := match takeO l at_ with | some (_, c) => at_ + c | none => 0
def tE (l : List UInt8) (at_ : Int) : Int := match takeO l at_ with | some _ => 0 | none => 20
theorem t_none {l : List UInt8} {at_ : Int} (h : takeO l at_ = none) : tV l at_ = 0 ∧ tP l at_ = 0 ∧ tE l at_ = 20 := by simp [tV, tP, tE, h]
theorem t_some {l : List UInt8} {at_ : Int} {n c : Nat} (h : takeO l at_ = some (n, c)) : tV l at_ = n ∧ tP l at_ = at_ + c ∧ tE l at_ = 0 := by simp [tV, tP, tE, h]
theorem take_out {l : List UInt8} {at_ : Int} (h : at_ < 0 ∨ (l.length : Int) < at_) : takeO l at_ = none := by
  unfold takeO; rw [if_neg (by omega)]
theorem take_in (l : List UInt8) (i : Nat) (h : i ≤ l.length) : takeO l i = decF 10 0 0 ((l.drop i).take 10) := by
  unfold takeO; rw [if_pos (by omega), decF_take]; simp

theorem or_u64_nat (a b : Nat) (ha : a < 18446744073709551616) (hb : b < 18446744073709551616) : bits .or .u64 (a : Int) (b : Int) = ((a ||| b : Nat) : Int) := by
  have hx : a ||| b < 2 ^ 64 := Nat.or_lt_two_pow (by omega) (by omega)
  show IntKind.u64.wrap ((BitVec.ofInt 64 (a : Int) ||| BitVec.ofInt 64 (b : Int)).toNat : Int) = _
  rw [BitVec.toNat_or, BitVec.ofInt_natCast, BitVec.ofInt_natCast, BitVec.toNat_ofNat, BitVec.toNat_ofNat, IntKind.wrap_u64, Nat.mod_eq_of_lt (by omega : a < 2 ^ 64), Nat.mod_eq_of_lt (by omega : b < 2 ^ 64)]
  omega
theorem pow7 (k : Nat) : (2 : Int) ^ (7 * k) = ((128 ^ k : Nat) : Int) := by
  rw [Int.pow_mul]; norm_cast
theorem group_val (k X : Nat) (hX : X < 256) : IntKind.u64.wrap (IntKind.u64.wrap (bits .and .u8 (X : Int) 127) * 2 ^ (7 * k)) = ((X % 128 * 128 ^ k % 18446744073709551616 : Nat) : Int) := by
  have e : bits .and .u8 (X : Int) 127 = ((X % 128 : Nat) : Int) := by
    rw [show (127 : Int) = ((127 : Nat) : Int) from rfl, u8_and_nat X 127 hX (by omega), show 127 = 2 ^ 7 - 1 from rfl, Nat.and_two_pow_sub_one_eq_mod]
  rw [e, pow7, IntKind.wrap_u64, IntKind.wrap_u64, show ((X % 128 : Nat) : Int) % 18446744073709551616 = ((X % 128 : Nat) : Int) by omega, ← Int.natCast_mul]
  exact (Int.natCast_emod _ _).symm
theorem or_group (k m X : Nat) (hk : k ≤ 9) (hm : m < 128 ^ k) : m ||| (X * 128 ^ k % 18446744073709551616) = m + X * 128 ^ k % 18446744073709551616 := by
  have e : (128 : Nat) ^ k = 2 ^ (7 * k) := by rw [Nat.pow_mul]
  have e2 : (18446744073709551616 : Nat) = 2 ^ (7 * k) * 2 ^ (64 - 7 * k) := by rw [← Nat.pow_add, show 7 * k + (64 - 7 * k) = 64 by omega]
  rw [e] at hm ⊢
  rw [e2, Nat.mul_comm X, Nat.mul_mod_mul_left, Nat.or_comm, ← Nat.two_pow_add_eq_or_of_lt hm, Nat.add_comm]
theorem val_wire (k m : Nat) (c : UInt8) (hk : k ≤ 9) (hm : m < 128 ^ k) :
    bits .or .u64 (m : Int) (IntKind.u64.wrap (IntKind.u64.wrap (bits .and .u8 (c.toNat : Int) 127) * 2 ^ (7 * k))) = (addG k m c : Int) := by
  have hm64 : m < 18446744073709551616 := by
    have h1 : 128 ^ k ≤ 128 ^ 9 := Nat.pow_le_pow_right (by omega) hk
    have h2 : (128 : Nat) ^ 9 = 9223372036854775808 := by decide
    omega
  rw [group_val k c.toNat c.toNat_lt, or_u64_nat _ _ hm64 (Nat.mod_lt _ (by decide)), or_group k m _ hk hm]
  rfl
theorem val_ref (k m : Nat) (c : UInt8) (hk : k ≤ 9) (hm : m < 128 ^ k) :
    IntKind.u64.wrap ((m : Int) + IntKind.u64.wrap ((c.toNat : Int) % 128 * 2 ^ (7 * k))) = (addG k m c : Int) := by
  have h := addG_lt9 k m c hk hm
  have e : (c.toNat : Int) % 128 * 2 ^ (7 * k) = ((c.toNat % 128 * 128 ^ k : Nat) : Int) := by rw [pow7, Int.natCast_mul]; rfl
  have e2 : IntKind.u64.wrap ((c.toNat % 128 * 128 ^ k : Nat) : Int) = ((c.toNat % 128 * 128 ^ k % 18446744073709551616 : Nat) : Int) := by
    rw [IntKind.wrap_u64]; exact (Int.natCast_emod _ _).symm
  rw [e, e2, IntKind.wrap_u64]
  unfold addG at h ⊢
  omega

/-- A signed number as one from 0 on, and back. -/
def zig (s : Int) : Nat := if s < 0 then (2 * (-(s + 1)) + 1).toNat else (2 * s).toNat
def zag (n : Nat) : Int := if n % 2 = 1 then -((n / 2 : Nat) : Int) - 1 else ((n / 2 : Nat) : Int)
theorem zag_zig (s : Int) : zag (zig s) = s := by
  unfold zag zig
  by_cases h : s < 0
  · rw [if_pos h, if_pos (by omega)]; omega
  · rw [if_neg h, if_neg (by omega)]; omega
theorem zig_zag (n : Nat) : zig (zag n) = n := by
  unfold zag
  by_cases h : n % 2 = 1
  · rw [if_pos h]; unfold zig; rw [if_pos (by omega)]; omega
  · rw [if_neg h]; unfold zig; rw [if_neg (by omega)]; omega
theorem zig_lt (s : Int) (h0 : -9223372036854775808 ≤ s) (h1 : s ≤ 9223372036854775807) : zig s < 18446744073709551616 := by
  unfold zig
  by_cases h : s < 0
  · rw [if_pos h]; omega
  · rw [if_neg h]; omega
/-- The signed number that is read at a place. -/
def unzig (l : List UInt8) (at_ : Int) : Int := match takeO l at_ with | some (n, _) => zag n | none => 0
end Go.Proofs.YtfgmdaemcaamiaaDoor
