/- Pack: numbers in memory, sizes, widths: the model, and the walks of both Sizes (14, 15), of Of (32), of both Widths (16, 17). -/
import Derived.Test.YtdchaojgldfagaaDoorMem
import Derived.Test.YtdchaojgldfagaaDoorMk
import Derived.Test.YtdchaojgldfagaaDoorPaL
import Derived.Lib.Hide
namespace Go.Proofs.YtdchaojgldfagaaDoor
open Go.RowKit
set_option linter.unusedVariables false

abbrev W64 := BitVec 64
def n64s (l : List W64) : List Value := l.map fun x => .int .u64 (x.toNat : Int)
/-- The slice at A holds the numbers l. -/
def Num (w : World) (A : Option Addr) (l : List W64) : Prop :=
  ∀ k (h : k < l.length), ∃ b o, A = some ⟨b, o, none⟩ ∧ w.cell? ⟨b, o + k, none⟩ = some (.int .u64 ((l[k]).toNat : Int))
theorem Num.keep {w w' : World} {A : Option Addr} {l : List W64} (h : Num w A l) (hb : Below w.heap.size w w') : Num w' A l := by
  intro k hk
  obtain ⟨b, o, e, hc⟩ := h k hk
  exact ⟨b, o, e, (hb.cell (World.block_lt_of_cell? w _ hc)).trans hc⟩
theorem wrap_u64_bv (x : W64) : IntKind.u64.wrap (x.toNat : Int) = (x.toNat : Int) := by
  rw [IntKind.wrap_u64]; have := x.isLt; omega
theorem ofInt_bv64 (x : W64) : BitVec.ofInt 64 (x.toNat : Int) = x := by
  rw [BitVec.ofInt_natCast]; simp
theorem bits_or64 (a b : W64) : bits .or .u64 (a.toNat : Int) (b.toNat : Int) = ((a ||| b).toNat : Int) := by
  rw [show bits .or .u64 (a.toNat : Int) (b.toNat : Int) = ((BitVec.ofInt 64 (a.toNat : Int) ||| BitVec.ofInt 64 (b.toNat : Int)).toNat : Int) from wrap_u64_bv _, ofInt_bv64, ofInt_bv64]

/-- Which sizes there are. -/
def sizeV (n w : Int) : Int := if 0 ≤ n ∧ n ≤ 4096 ∧ 0 ≤ w ∧ w ≤ 64 then (n * w + 7) / 8 else 0
def sizeE (n w : Int) : Int := if 0 ≤ n ∧ n ≤ 4096 ∧ 0 ≤ w ∧ w ≤ 64 then 0 else 2
def sizeR (n w : Int) : Value := .tuple #[.int .i64 (sizeV n w), .int .i64 (sizeE n w)]
theorem sizeR_bad {n w : Int} (h : ¬ (0 ≤ n ∧ n ≤ 4096 ∧ 0 ≤ w ∧ w ≤ 64)) : sizeR n w = .tuple #[.int .i64 0, .int .i64 2] := by simp [sizeR, sizeV, sizeE, h]
theorem sizeR_good {n w : Int} (h : 0 ≤ n ∧ n ≤ 4096 ∧ 0 ≤ w ∧ w ≤ 64) : sizeR n w = .tuple #[.int .i64 ((n * w + 7) / 8), .int .i64 0] := by simp [sizeR, sizeV, sizeE, h]
theorem mul_bounds {n w : Int} (h : 0 ≤ n ∧ n ≤ 4096 ∧ 0 ≤ w ∧ w ≤ 64) : 0 ≤ n * w ∧ n * w ≤ 262144 := by
  obtain ⟨h1, h2, h3, h4⟩ := h
  refine ⟨Int.mul_nonneg h1 h3, ?_⟩
  have := Int.mul_le_mul h2 h4 h3 (by omega)
  omega

theorem wrap_i64_of {m : Int} (h0 : 0 ≤ m) (h1 : m ≤ 9223372036854775807) : IntKind.i64.wrap m = m := by rw [IntKind.wrap_i64]; omega
set_option maxHeartbeats 1000000 in
theorem size_any (n w : Int) (W : World) : Calls Tryd.prog 55 #[.int .i64 n, .int .i64 w] W fun e W' => e = .returned (sizeR n w) ∧ W' = W := by
  by_cases h : 0 ≤ n ∧ n ≤ 4096 ∧ 0 ≤ w ∧ w ≤ 64
  · obtain ⟨m0, m1⟩ := mul_bounds h
    rw [sizeR_good h]
    obtain ⟨h1, h2, h3, h4⟩ := h
    go_enter Tryd.func55, Tryd.ntmps55
    go_wp2
    all_goals first | omega | (go_ret2; exact ⟨rfl, rfl⟩)
  · rw [sizeR_bad h]
    go_enter Tryd.func55, Tryd.ntmps55
    go_wp2
    all_goals first | omega | (go_ret2; exact ⟨rfl, rfl⟩)
set_option maxHeartbeats 1000000 in
theorem refsize_any (n w : Int) (W : World) : Calls Tryd.prog 62 #[.int .i64 n, .int .i64 w] W fun e W' => e = .returned (sizeR n w) ∧ W' = W := by
  have hW : Calls Tryd.prog 67 #[.int .i64 w] W fun e W' => e = .returned (.bool (decide (0 ≤ w ∧ w ≤ 64))) ∧ W' = W := by
    go_enter Tryd.func67, Tryd.ntmps67
    go_wp2
    all_goals (go_ret; refine ⟨?_, rfl⟩; congr 2)
    all_goals simp; try omega
  by_cases h : 0 ≤ n ∧ n ≤ 4096 ∧ 0 ≤ w ∧ w ≤ 64
  · obtain ⟨m0, m1⟩ := mul_bounds h
    rw [sizeR_good h]
    obtain ⟨h1, h2, h3, h4⟩ := h
    rw [show decide (0 ≤ w ∧ w ≤ 64) = true by simp; omega] at hW
    go_enter Tryd.func62, Tryd.ntmps62
    go_wp2_with (go_at_call 67; refine hW.mono ?_; rintro e w1 ⟨rfl, rfl⟩)
    all_goals first | omega | (go_ret2; exact ⟨rfl, rfl⟩)
  · rw [sizeR_bad h]
    by_cases hw : 0 ≤ w ∧ w ≤ 64
    · rw [show decide (0 ≤ w ∧ w ≤ 64) = true by simp; omega] at hW
      go_enter Tryd.func62, Tryd.ntmps62
      go_wp2_with (go_at_call 67; refine hW.mono ?_; rintro e w1 ⟨rfl, rfl⟩)
      all_goals first | omega | (go_ret2; exact ⟨rfl, rfl⟩)
    · rw [show decide (0 ≤ w ∧ w ≤ 64) = false by simp; omega] at hW
      go_enter Tryd.func62, Tryd.ntmps62
      go_wp2_with (go_at_call 67; refine hW.mono ?_; rintro e w1 ⟨rfl, rfl⟩)
      all_goals first | omega | (go_ret2; exact ⟨rfl, rfl⟩)

/-- Of: a number of a width. -/
theorem of_any (x : W64) (w : Nat) (hw : w ≤ 1000) (W : World) : Calls Tryd.prog 65 #[.int .u64 (x.toNat : Int), .int .i64 (w : Int)] W fun e W' => e = .returned (.bool (decide (x.toNat < 2 ^ w))) ∧ W' = W := by
  have hx := x.isLt
  generalize x.toNat = y at hx
  go_enter Tryd.func65, Tryd.ntmps65
  go_wp2
  go_loopw [0, 5] (fun x i wr => ∃ k z : Nat, k ≤ w ∧ i = .int .i64 k ∧ x = .int .u64 (z : Int) ∧ z = y / 2 ^ k ∧ z ≤ y ∧ wr = W) (fun _ i _ => w - (intOf i).toNat)
  case atStart => exact ⟨0, y, by omega, rfl, rfl, by simp, Nat.le_refl _, rfl⟩
  case round =>
    obtain ⟨k, z, hk, rfl, rfl, hz, hzy, rfl⟩ := hrel
    have HZ := Lib.hid hz
    clear hz
    by_cases hlt : k < w
    · obtain ⟨z2, hz2⟩ : ∃ z2, z / 2 = z2 := ⟨_, rfl⟩
      have e2 : (z : Int) / 2 = (z2 : Int) := by omega
      have h2 : z2 ≤ y := by omega
      have HZ2 := Lib.hid hz2
      clear hz2
      go_wp2
      go_roundw
      case rel => exact ⟨k + 1, z2, by omega, by go_num, rfl, by rw [← HZ2.out, HZ.out, Nat.div_div_eq_div_mul, Nat.pow_succ], h2, by first | rfl | trivial⟩
      case measure => simp [intOf]; omega
    · obtain rfl : k = w := by omega
      have hiff : (z = 0) ↔ y < 2 ^ k := by
        rw [HZ.out, Nat.div_eq_zero_iff]
        have := Nat.two_pow_pos k
        omega
      have hd : decide (y < 2 ^ k) = ((z : Int) == 0) := by
        by_cases e : z = 0
        · rw [decide_eq_true (hiff.1 e), e]; rfl
        · rw [decide_eq_false (fun h => e (hiff.2 h))]; simp; omega
      have HD := Lib.hid hd
      clear hd hiff HZ
      go_wp2
      go_ret
      exact ⟨congrArg Ending.returned (congrArg Value.bool HD.out.symm), rfl⟩

theorem bitLen_lt_pow : ∀ (n x : Nat), x < 2 ^ n → n ≤ 64 → x < 2 ^ Lib.bitLen x
  | 0, x, h, _ => by have : x = 0 := by simpa using h; 
                     subst this; decide
  | n + 1, x, h, hn => by
    by_cases h0 : x = 0
    · subst h0; decide
    · have hx : x < 2 ^ 64 := Nat.lt_of_lt_of_le h (Nat.pow_le_pow_right (by decide) hn)
      rw [Lib.bitLen_half x h0 hx]
      have ih := bitLen_lt_pow n (x / 2) (by rw [Nat.pow_succ] at h; omega) (by omega)
      rw [Nat.add_comm, Nat.pow_succ]
      omega
theorem bitLen_le_iff {x w : Nat} (hx : x < 2 ^ 64) (hw : w ≤ 64) : Lib.bitLen x ≤ w ↔ x < 2 ^ w :=
  ⟨fun h => Nat.lt_of_lt_of_le (bitLen_lt_pow 64 x hx (Nat.le_refl _)) (Nat.pow_le_pow_right (by decide) h), fun h => Lib.bitLen_le x w hw h⟩
/-- The least width of numbers. -/
def orL (l : List W64) : W64 := l.foldl (· ||| ·) 0
def widL (l : List W64) : Nat := Lib.bitLen (orL l).toNat
theorem widL_le (l : List W64) : widL l ≤ 64 := Lib.bitLen_le _ 64 (Nat.le_refl _) (orL l).isLt
theorem orL_snoc (l : List W64) (k : Nat) (h : k < l.length) : orL (l.take (k + 1)) = orL (l.take k) ||| l[k] := by
  unfold orL
  rw [List.take_succ_eq_append_getElem h, List.foldl_append]; rfl
theorem bitLen_or (a b : W64) : Lib.bitLen (a ||| b).toNat = max (Lib.bitLen a.toNat) (Lib.bitLen b.toNat) := by
  have ha := a.isLt
  have hb := b.isLt
  have hab := (a ||| b).isLt
  have la := Lib.bitLen_le _ 64 (Nat.le_refl _) ha
  have lb := Lib.bitLen_le _ 64 (Nat.le_refl _) hb
  have lab := Lib.bitLen_le _ 64 (Nat.le_refl _) hab
  apply Nat.le_antisymm
  · rw [bitLen_le_iff hab (by omega), BitVec.toNat_or]
    exact Nat.or_lt_two_pow ((bitLen_le_iff ha (by omega)).1 (Nat.le_max_left _ _)) ((bitLen_le_iff hb (by omega)).1 (Nat.le_max_right _ _))
  · have h := (bitLen_le_iff hab lab).1 (Nat.le_refl _)
    rw [BitVec.toNat_or] at h
    have h1 : Lib.bitLen a.toNat ≤ Lib.bitLen (a ||| b).toNat := (bitLen_le_iff ha lab).2 (Nat.lt_of_le_of_lt Nat.left_le_or h)
    have h2 : Lib.bitLen b.toNat ≤ Lib.bitLen (a ||| b).toNat := (bitLen_le_iff hb lab).2 (Nat.lt_of_le_of_lt Nat.right_le_or h)
    omega
theorem widL_snoc (l : List W64) (k : Nat) (h : k < l.length) : widL (l.take (k + 1)) = max (widL (l.take k)) (Lib.bitLen (l[k]).toNat) := by
  unfold widL
  rw [orL_snoc l k h, bitLen_or]

set_option maxHeartbeats 1000000 in
theorem width_any (A : Option Addr) (cap : Nat) (l : List W64) (W : World) (hl : Num W A l) (hn : l.length ≤ 4611686018427387904) : Calls Tryd.prog 38 #[.slice A l.length cap] W fun e W' => e = .returned (.int .i64 (widL l : Int)) ∧ W' = W := by
  have HL := Lib.hid hl
  clear hl
  go_enter Tryd.func38, Tryd.ntmps38
  go_wp2
  go_loopw [3, 8] (fun x i wr => ∃ k : Nat, k ≤ l.length ∧ i = .int .i64 k ∧ x = .int .u64 ((orL (l.take k)).toNat : Int) ∧ wr = W) (fun _ i _ => l.length - (intOf i).toNat)
  case atStart => exact ⟨0, by omega, rfl, rfl, rfl⟩
  case round =>
    obtain ⟨k, hk, rfl, rfl, rfl⟩ := hrel
    by_cases hlt : k < l.length
    · obtain ⟨b, o, rfl, hc⟩ := HL.out k hlt
      have hs := orL_snoc l k hlt
      generalize l[k] = x at hc hs
      have HS := Lib.hid hs
      have hx := x.isLt
      have ho := bits_or64 (orL (l.take k)) x
      have HK : Hid (k < l.length) := hlt
      clear hs
      generalize orL (l.take k) = y at ho HS
      go_wp2
      go_roundw
      case rel => exact ⟨k + 1, HK.out, by go_num, by rw [HS.out, BitVec.toNat_or], by first | rfl | trivial⟩
      case measure => simp [intOf]; omega
    · obtain rfl : k = l.length := by omega
      have hlen := Tryd.bits_Len64 ((orL l).toNat : Int) wr (by omega) (by have := (orL l).isLt; omega)
      rw [Int.toNat_natCast] at hlen
      have HLEN := Lib.hid hlen
      clear hlen
      rw [List.take_length]
      go_wp2_with (go_at_call 54; refine HLEN.out.mono ?_; rintro e w1 ⟨rfl, rfl⟩)
      go_ret
      exact ⟨rfl, rfl⟩

set_option maxHeartbeats 1000000 in
theorem refwidth_any (A : Option Addr) (cap : Nat) (l : List W64) (W : World) (hl : Num W A l) (hn : l.length ≤ 4611686018427387904) : Calls Tryd.prog 57 #[.slice A l.length cap] W fun e W' => e = .returned (.int .i64 (widL l : Int)) ∧ W' = W := by
  have HL := Lib.hid hl
  clear hl
  go_enter Tryd.func57, Tryd.ntmps57
  go_wp2
  go_loopw [3, 4] (fun x i wr => ∃ k : Nat, k ≤ l.length ∧ i = .int .i64 k ∧ x = .int .i64 (widL (l.take k) : Int) ∧ wr = W) (fun _ i _ => l.length - (intOf i).toNat)
  case atStart => exact ⟨0, by omega, rfl, rfl, rfl⟩
  case round =>
    obtain ⟨k, hk, rfl, rfl, rfl⟩ := hrel
    by_cases hlt : k < l.length
    · obtain ⟨b, o, rfl, hc⟩ := HL.out k hlt
      have hs := widL_snoc l k hlt
      generalize l[k] = x at hc hs
      have hv := widL_le (l.take k)
      have HS := Lib.hid hs
      have hx := x.isLt
      have HK : Hid (k < l.length) := hlt
      clear hs
      generalize widL (l.take k) = v at hv HS
      have hof := fun m hm => of_any x m hm wr
      have hbl := Lib.bitLen_le x.toNat 64 (Nat.le_refl _) hx
      have hiff := fun m hm => bitLen_le_iff (w := m) hx hm
      generalize Lib.bitLen x.toNat = bl at HS hbl hiff
      generalize x.toNat = y at hc hof hx hiff
      have HOF := Lib.hid hof
      have HIFF := Lib.hid hiff
      clear hof hiff
      go_wp2_with (go_at_call 65; refine (HOF.out v (by omega)).mono ?_; rintro e w1 ⟨rfl, rfl⟩)
      go_loopw [3, 5] (fun u ok wr2 => ∃ m : Nat, v ≤ m ∧ m ≤ 64 ∧ m ≤ max v bl ∧ u = .int .i64 m ∧ ok = .bool (decide (y < 2 ^ m)) ∧ wr2 = w1) (fun u _ _ => 64 - (intOf u).toNat)
      case atStart => exact ⟨v, by omega, by omega, by omega, rfl, rfl, rfl⟩
      case round =>
        obtain ⟨m, hm1, hm2, hm3, rfl, rfl, rfl⟩ := hrel
        by_cases hy : y < 2 ^ m
        · have hmb := (HIFF.out m hm2).2 hy
          rw [decide_eq_true hy]
          go_wp2
          go_roundw
          case rel => exact ⟨k + 1, HK.out, by go_num, by rw [HS.out]; congr 2; omega, by first | rfl | trivial⟩
          case measure => simp [intOf]; omega
        · have hmb : ¬ bl ≤ m := fun h => hy ((HIFF.out m hm2).1 h)
          rw [decide_eq_false hy]
          have hm4 : m + 1 ≤ 64 := by omega
          clear hy
          go_wp2_with (go_at_call 65; refine (HOF.out (m + 1) (by omega)).mono ?_; rintro e w2 ⟨rfl, rfl⟩)
          go_roundw
          case rel => exact ⟨m + 1, by omega, by omega, by omega, by go_num, rfl, by first | rfl | trivial⟩
          case measure => simp [intOf]; omega
    · obtain rfl : k = l.length := by omega
      rw [List.take_length]
      go_wp2
      go_ret
      exact ⟨rfl, rfl⟩
end Go.Proofs.YtdchaojgldfagaaDoor
