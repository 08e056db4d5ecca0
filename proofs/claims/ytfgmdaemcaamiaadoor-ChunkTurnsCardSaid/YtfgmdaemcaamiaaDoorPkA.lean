/- Joined: Pack: numbers in memory, sizes, widths: the model, and the walks of both Sizes (14, 15), of Of (32), of both Widths (16, 17). bits.TrailingZeros64 (42), and the places of the bits that are set. The iterator over the places of the bits (41): its contract. Bits as a run of places: bytes and numbers of them: the model of pack. The walk of pack.Pack (18). A region in a loop's body that draws its order and calls nothing: as a region outside of one. Blocks, arrays by value, cells of bytes: laws that pack's walks lean on. The walk of pack.Pack (18): numbers that a width has. Which bits numbers' bytes hold; the head of the laws of pack (13). The iterator over the places of the bits of bytes (43): its contract. Unpack's parts: the iterator over bytes as the law on loops wants it; numbers by a predicate on places; two results in cells. Bytes and numbers one to one: the plain part of Unpack. The walk of pack.Unpack (20) where it answers with an error at once. The walk of the document's Pack (19). The walk of stackyardlaw01.PackWords (4). Rows of numbers of the call's own; the bytes of two lists, one behind the other. The walk of pack.Unpack (20): bytes of the length that is asked for. The walk of the document's Unpack (21). The document's Same (45): two lists of numbers. The walks of stackyardlaw01.PackReads (5) and PackBack (6). -/
import Derived.Test.YtfgmdaemcaamiaaDoorMem
import Derived.Test.YtfgmdaemcaamiaaDoorMk
import Derived.Test.YtfgmdaemcaamiaaDoorPaL
import Derived.Lib.Hide
import Derived.Laws.Bits64b
import Derived.Lib.TrailingZeros
import Derived.RangeFuncNested
import Derived.RangeFuncBound
import Derived.RangeFuncCalls
import Derived.RangeFuncLeaves
import Derived.Shelf.Abstract
import Derived.Shelf.RegionOpen
import Derived.WalkKit
import Derived.OwnWalkIn
import Derived.TacticsInMore
import Derived.LoopNIn
import Derived.LoopIn
import Derived.OrdersIn
import Derived.Laws.CopyOwn
import Derived.Laws.Rows
import Derived.StillTailTactics
import Derived.RegionTactic
import Derived.BigRegion
import Derived.Deep.QuietTactic
import Derived.BigQuiet
import Derived.Lib.LaidU8
import Derived.LaidSub
import Derived.MakeChecks
import Derived.Laws.ResultCell
import Derived.Test.YtfgmdaemcaamiaaDoorLaws
import Derived.ChangeAlike
/-! Pack: numbers in memory, sizes, widths: the model, and the walks of both Sizes (14, 15), of Of (32), of both Widths (16, 17). -/
namespace Go.Proofs.YtfgmdaemcaamiaaDoor
open Go.RowKit
set_option linter.unusedVariables false

abbrev W64 := BitVec 64
def n64s (l : List W64) : List Value := l.map fun x => .int .u64 (x.toNat : Int)
/-- The slice at A holds the numbers l. -/
def Num (w : World) (A : Option Addr) (l : List W64) : Prop :=
  ∀ k (h : k < l.length), ∃ b o, A = some ⟨b, o, none⟩ ∧ w.cell? ⟨b, o + k, none⟩ = some (.int .u64 ((l[k]).toNat : Int))
theorem Num.keep {w w' : World} {A : Option Addr} {l : List W64} (h : Num w A l) (hb : Below w.heap.size w w') : Num w' A l := by
  intro k hk
  obtain ⟨b, o, e, hc⟩ := h k hk
  exact ⟨b, o, e, (hb.cell (World.block_lt_of_cell? w _ hc)).trans hc⟩
theorem wrap_u64_bv (x : W64) : IntKind.u64.wrap (x.toNat : Int) = (x.toNat : Int) := by
  rw [IntKind.wrap_u64]; have := x.isLt; omega
theorem ofInt_bv64 (x : W64) : BitVec.ofInt 64 (x.toNat : Int) = x := by
  rw [BitVec.ofInt_natCast]; simp
theorem bits_or64 (a b : W64) : bits .or .u64 (a.toNat : Int) (b.toNat : Int) = ((a ||| b).toNat : Int) := by
  rw [show bits .or .u64 (a.toNat : Int) (b.toNat : Int) = ((BitVec.ofInt 64 (a.toNat : Int) ||| BitVec.ofInt 64 (b.toNat : Int)).toNat : Int) from wrap_u64_bv _, ofInt_bv64, ofInt_bv64]

/-- Which sizes there are. -/
def sizeV (n w : Int) : Int := if 0 ≤ n ∧ n ≤ 4096 ∧ 0 ≤ w ∧ w ≤ 64 then (n * w + 7) / 8 else 0
def sizeE (n w : Int) : Int := if 0 ≤ n ∧ n ≤ 4096 ∧ 0 ≤ w ∧ w ≤ 64 then 0 else 2
def sizeR (n w : Int) : Value := .tuple #[.int .i64 (sizeV n w), .int .i64 (sizeE n w)]
theorem sizeR_bad {n w : Int} (h : ¬ (0 ≤ n ∧ n ≤ 4096 ∧ 0 ≤ w ∧ w ≤ 64)) : sizeR n w = .tuple #[.int .i64 0, .int .i64 2] := by simp [sizeR, sizeV, sizeE, h]
theorem sizeR_good {n w : Int} (h : 0 ≤ n ∧ n ≤ 4096 ∧ 0 ≤ w ∧ w ≤ 64) : sizeR n w = .tuple #[.int .i64 ((n * w + 7) / 8), .int .i64 0] := by simp [sizeR, sizeV, sizeE, h]
theorem mul_bounds {n w : Int} (h : 0 ≤ n ∧ n ≤ 4096 ∧ 0 ≤ w ∧ w ≤ 64) : 0 ≤ n * w ∧ n * w ≤ 262144 := by
  obtain ⟨h1, h2, h3, h4⟩ := h
  refine ⟨Int.mul_nonneg h1 h3, ?_⟩
  have := Int.mul_le_mul h2 h4 h3 (by omega)
  omega

theorem wrap_i64_of {m : Int} (h0 : 0 ≤ m) (h1 : m ≤ 9223372036854775807) : IntKind.i64.wrap m = m := by rw [IntKind.wrap_i64]; omega
set_option maxHeartbeats 1000000 in
theorem size_any (n w : Int) (W : World) : Calls Tryd.prog 37 #[.int .i64 n, .int .i64 w] W fun e W' => e = .returned (sizeR n w) ∧ W' = W := by
  by_cases h : 0 ≤ n ∧ n ≤ 4096 ∧ 0 ≤ w ∧ w ≤ 64
  · obtain ⟨m0, m1⟩ := mul_bounds h
    rw [sizeR_good h]
    obtain ⟨h1, h2, h3, h4⟩ := h
    go_enter Tryd.func37, Tryd.ntmps37
    go_wp2
    all_goals first | omega | (go_ret2; exact ⟨rfl, rfl⟩)
  · rw [sizeR_bad h]
    go_enter Tryd.func37, Tryd.ntmps37
    go_wp2
    all_goals first | omega | (go_ret2; exact ⟨rfl, rfl⟩)
set_option maxHeartbeats 1000000 in
theorem refsize_any (n w : Int) (W : World) : Calls Tryd.prog 45 #[.int .i64 n, .int .i64 w] W fun e W' => e = .returned (sizeR n w) ∧ W' = W := by
  have hW : Calls Tryd.prog 75 #[.int .i64 w] W fun e W' => e = .returned (.bool (decide (0 ≤ w ∧ w ≤ 64))) ∧ W' = W := by
    go_enter Tryd.func75, Tryd.ntmps75
    go_wp2
    all_goals (go_ret; refine ⟨?_, rfl⟩; congr 2)
    all_goals simp; try omega
  by_cases h : 0 ≤ n ∧ n ≤ 4096 ∧ 0 ≤ w ∧ w ≤ 64
  · obtain ⟨m0, m1⟩ := mul_bounds h
    rw [sizeR_good h]
    obtain ⟨h1, h2, h3, h4⟩ := h
    rw [show decide (0 ≤ w ∧ w ≤ 64) = true by simp; omega] at hW
    go_enter Tryd.func45, Tryd.ntmps45
    go_wp2_with (go_at_call 75; refine hW.mono ?_; rintro e w1 ⟨rfl, rfl⟩)
    all_goals first | omega | (go_ret2; exact ⟨rfl, rfl⟩)
  · rw [sizeR_bad h]
    by_cases hw : 0 ≤ w ∧ w ≤ 64
    · rw [show decide (0 ≤ w ∧ w ≤ 64) = true by simp; omega] at hW
      go_enter Tryd.func45, Tryd.ntmps45
      go_wp2_with (go_at_call 75; refine hW.mono ?_; rintro e w1 ⟨rfl, rfl⟩)
      all_goals first | omega | (go_ret2; exact ⟨rfl, rfl⟩)
    · rw [show decide (0 ≤ w ∧ w ≤ 64) = false by simp; omega] at hW
      go_enter Tryd.func45, Tryd.ntmps45
      go_wp2_with (go_at_call 75; refine hW.mono ?_; rintro e w1 ⟨rfl, rfl⟩)
      all_goals first | omega | (go_ret2; exact ⟨rfl, rfl⟩)

/-- Of: a number of a width. -/
theorem of_any (x : W64) (w : Nat) (hw : w ≤ 1000) (W : World) : Calls Tryd.prog 46 #[.int .u64 (x.toNat : Int), .int .i64 (w : Int)] W fun e W' => e = .returned (.bool (decide (x.toNat < 2 ^ w))) ∧ W' = W := by
  have hx := x.isLt
  generalize x.toNat = y at hx
  go_enter Tryd.func46, Tryd.ntmps46
  go_wp2
  go_loopw [0, 5] (fun x i wr => ∃ k z : Nat, k ≤ w ∧ i = .int .i64 k ∧ x = .int .u64 (z : Int) ∧ z = y / 2 ^ k ∧ z ≤ y ∧ wr = W) (fun _ i _ => w - (intOf i).toNat)
  case atStart => exact ⟨0, y, by omega, rfl, rfl, by simp, Nat.le_refl _, rfl⟩
  case round =>
    obtain ⟨k, z, hk, rfl, rfl, hz, hzy, rfl⟩ := hrel
    have HZ := Lib.hid hz
    clear hz
    by_cases hlt : k < w
    · obtain ⟨z2, hz2⟩ : ∃ z2, z / 2 = z2 := ⟨_, rfl⟩
      have e2 : (z : Int) / 2 = (z2 : Int) := by omega
      have h2 : z2 ≤ y := by omega
      have HZ2 := Lib.hid hz2
      clear hz2
      go_wp2
      go_roundw
      case rel => exact ⟨k + 1, z2, by omega, by go_num, rfl, by rw [← HZ2.out, HZ.out, Nat.div_div_eq_div_mul, Nat.pow_succ], h2, by first | rfl | trivial⟩
      case measure => simp [intOf]; omega
    · obtain rfl : k = w := by omega
      have hiff : (z = 0) ↔ y < 2 ^ k := by
        rw [HZ.out, Nat.div_eq_zero_iff]
        have := Nat.two_pow_pos k
        omega
      have hd : decide (y < 2 ^ k) = ((z : Int) == 0) := by
        by_cases e : z = 0
        · rw [decide_eq_true (hiff.1 e), e]; rfl
        · rw [decide_eq_false (fun h => e (hiff.2 h))]; simp; omega
      have HD := Lib.hid hd
      clear hd hiff HZ
      go_wp2
      go_ret
      exact ⟨congrArg Ending.returned (congrArg Value.bool HD.out.symm), rfl⟩

theorem bitLen_lt_pow : ∀ (n x : Nat), x < 2 ^ n → n ≤ 64 → x < 2 ^ Lib.bitLen x
  | 0, x, h, _ => by have : x = 0 := by simpa using h; 
                     subst this; decide
  | n + 1, x, h, hn => by
    by_cases h0 : x = 0
    · subst h0; decide
    · have hx : x < 2 ^ 64 := Nat.lt_of_lt_of_le h (Nat.pow_le_pow_right (by decide) hn)
      rw [Lib.bitLen_half x h0 hx]
      have ih := bitLen_lt_pow n (x / 2) (by rw [Nat.pow_succ] at h; omega) (by omega)
      rw [Nat.add_comm, Nat.pow_succ]
      omega
theorem bitLen_le_iff {x w : Nat} (hx : x < 2 ^ 64) (hw : w ≤ 64) : Lib.bitLen x ≤ w ↔ x < 2 ^ w :=
  ⟨fun h => Nat.lt_of_lt_of_le (bitLen_lt_pow 64 x hx (Nat.le_refl _)) (Nat.pow_le_pow_right (by decide) h), fun h => Lib.bitLen_le x w hw h⟩
/-- The least width of numbers. -/
def orL (l : List W64) : W64 := l.foldl (· ||| ·) 0
def widL (l : List W64) : Nat := Lib.bitLen (orL l).toNat
theorem widL_le (l : List W64) : widL l ≤ 64 := Lib.bitLen_le _ 64 (Nat.le_refl _) (orL l).isLt
theorem orL_snoc (l : List W64) (k : Nat) (h : k < l.length) : orL (l.take (k + 1)) = orL (l.take k) ||| l[k] := by
  unfold orL
  rw [List.take_succ_eq_append_getElem h, List.foldl_append]; rfl
theorem bitLen_or (a b : W64) : Lib.bitLen (a ||| b).toNat = max (Lib.bitLen a.toNat) (Lib.bitLen b.toNat) := by
  have ha := a.isLt
  have hb := b.isLt
  have hab := (a ||| b).isLt
  have la := Lib.bitLen_le _ 64 (Nat.le_refl _) ha
  have lb := Lib.bitLen_le _ 64 (Nat.le_refl _) hb
  have lab := Lib.bitLen_le _ 64 (Nat.le_refl _) hab
  apply Nat.le_antisymm
  · rw [bitLen_le_iff hab (by omega), BitVec.toNat_or]
    exact Nat.or_lt_two_pow ((bitLen_le_iff ha (by omega)).1 (Nat.le_max_left _ _)) ((bitLen_le_iff hb (by omega)).1 (Nat.le_max_right _ _))
  · have h := (bitLen_le_iff hab lab).1 (Nat.le_refl _)
    rw [BitVec.toNat_or] at h
    have h1 : Lib.bitLen a.toNat ≤ Lib.bitLen (a ||| b).toNat := (bitLen_le_iff ha lab).2 (Nat.lt_of_le_of_lt Nat.left_le_or h)
    have h2 : Lib.bitLen b.toNat ≤ Lib.bitLen (a ||| b).toNat := (bitLen_le_iff hb lab).2 (Nat.lt_of_le_of_lt Nat.right_le_or h)
    omega
theorem widL_snoc (l : List W64) (k : Nat) (h : k < l.length) : widL (l.take (k + 1)) = max (widL (l.take k)) (Lib.bitLen (l[k]).toNat) := by
  unfold widL
  rw [orL_snoc l k h, bitLen_or]

set_option maxHeartbeats 1000000 in
theorem width_any (A : Option Addr) (cap : Nat) (l : List W64) (W : World) (hl : Num W A l) (hn : l.length ≤ 4611686018427387904) : Calls Tryd.prog 38 #[.slice A l.length cap] W fun e W' => e = .returned (.int .i64 (widL l : Int)) ∧ W' = W := by
  have HL := Lib.hid hl
  clear hl
  go_enter Tryd.func38, Tryd.ntmps38
  go_wp2
  go_loopw [3, 8] (fun x i wr => ∃ k : Nat, k ≤ l.length ∧ i = .int .i64 k ∧ x = .int .u64 ((orL (l.take k)).toNat : Int) ∧ wr = W) (fun _ i _ => l.length - (intOf i).toNat)
  case atStart => exact ⟨0, by omega, rfl, rfl, rfl⟩
  case round =>
    obtain ⟨k, hk, rfl, rfl, rfl⟩ := hrel
    by_cases hlt : k < l.length
    · obtain ⟨b, o, rfl, hc⟩ := HL.out k hlt
      have hs := orL_snoc l k hlt
      generalize l[k] = x at hc hs
      have HS := Lib.hid hs
      have hx := x.isLt
      have ho := bits_or64 (orL (l.take k)) x
      have HK : Hid (k < l.length) := hlt
      clear hs
      generalize orL (l.take k) = y at ho HS
      go_wp2
      go_roundw
      case rel => exact ⟨k + 1, HK.out, by go_num, by rw [HS.out, BitVec.toNat_or], by first | rfl | trivial⟩
      case measure => simp [intOf]; omega
    · obtain rfl : k = l.length := by omega
      have hlen := Tryd.bits_Len64 ((orL l).toNat : Int) wr (by omega) (by have := (orL l).isLt; omega)
      rw [Int.toNat_natCast] at hlen
      have HLEN := Lib.hid hlen
      clear hlen
      rw [List.take_length]
      go_wp2_with (go_at_call 61; refine HLEN.out.mono ?_; rintro e w1 ⟨rfl, rfl⟩)
      go_ret
      exact ⟨rfl, rfl⟩

set_option maxHeartbeats 1000000 in
theorem refwidth_any (A : Option Addr) (cap : Nat) (l : List W64) (W : World) (hl : Num W A l) (hn : l.length ≤ 4611686018427387904) : Calls Tryd.prog 80 #[.slice A l.length cap] W fun e W' => e = .returned (.int .i64 (widL l : Int)) ∧ W' = W := by
  have HL := Lib.hid hl
  clear hl
  go_enter Tryd.func80, Tryd.ntmps80
  go_wp2
  go_loopw [3, 4] (fun x i wr => ∃ k : Nat, k ≤ l.length ∧ i = .int .i64 k ∧ x = .int .i64 (widL (l.take k) : Int) ∧ wr = W) (fun _ i _ => l.length - (intOf i).toNat)
  case atStart => exact ⟨0, by omega, rfl, rfl, rfl⟩
  case round =>
    obtain ⟨k, hk, rfl, rfl, rfl⟩ := hrel
    by_cases hlt : k < l.length
    · obtain ⟨b, o, rfl, hc⟩ := HL.out k hlt
      have hs := widL_snoc l k hlt
      generalize l[k] = x at hc hs
      have hv := widL_le (l.take k)
      have HS := Lib.hid hs
      have hx := x.isLt
      have HK : Hid (k < l.length) := hlt
      clear hs
      generalize widL (l.take k) = v at hv HS
      have hof := fun m hm => of_any x m hm wr
      have hbl := Lib.bitLen_le x.toNat 64 (Nat.le_refl _) hx
      have hiff := fun m hm => bitLen_le_iff (w := m) hx hm
      generalize Lib.bitLen x.toNat = bl at HS hbl hiff
      generalize x.toNat = y at hc hof hx hiff
      have HOF := Lib.hid hof
      have HIFF := Lib.hid hiff
      clear hof hiff
      go_wp2_with (go_at_call 46; refine (HOF.out v (by omega)).mono ?_; rintro e w1 ⟨rfl, rfl⟩)
      go_loopw [3, 5] (fun u ok wr2 => ∃ m : Nat, v ≤ m ∧ m ≤ 64 ∧ m ≤ max v bl ∧ u = .int .i64 m ∧ ok = .bool (decide (y < 2 ^ m)) ∧ wr2 = w1) (fun u _ _ => 64 - (intOf u).toNat)
      case atStart => exact ⟨v, by omega, by omega, by omega, rfl, rfl, rfl⟩
      case round =>
        obtain ⟨m, hm1, hm2, hm3, rfl, rfl, rfl⟩ := hrel
        by_cases hy : y < 2 ^ m
        · have hmb := (HIFF.out m hm2).2 hy
          rw [decide_eq_true hy]
          go_wp2
          go_roundw
          case rel => exact ⟨k + 1, HK.out, by go_num, by rw [HS.out]; congr 2; omega, by first | rfl | trivial⟩
          case measure => simp [intOf]; omega
        · have hmb : ¬ bl ≤ m := fun h => hy ((HIFF.out m hm2).1 h)
          rw [decide_eq_false hy]
          have hm4 : m + 1 ≤ 64 := by omega
          clear hy
          go_wp2_with (go_at_call 46; refine (HOF.out (m + 1) (by omega)).mono ?_; rintro e w2 ⟨rfl, rfl⟩)
          go_roundw
          case rel => exact ⟨m + 1, by omega, by omega, by omega, by go_num, rfl, by first | rfl | trivial⟩
          case measure => simp [intOf]; omega
    · obtain rfl : k = l.length := by omega
      rw [List.take_length]
      go_wp2
      go_ret
      exact ⟨rfl, rfl⟩
end Go.Proofs.YtfgmdaemcaamiaaDoor

/-! bits.TrailingZeros64 (42), and the places of the bits that are set. -/
namespace Go.Proofs.YtfgmdaemcaamiaaDoor
open Go.RowKit
set_option linter.unusedVariables false

def TabAt (w : World) : Prop := ∀ j, j < 64 → w.cell? ⟨0, j, none⟩ = some (.int .u8 ((Lib.deBruijn64tab.getD j 0 : Nat) : Int))
theorem TabAt.keep {w w' : World} (h : TabAt w) (hb : Below w.heap.size w w') : TabAt w' := fun j hj => (hb.cell (World.block_lt_of_cell? w _ (h j hj))).trans (h j hj)
theorem TabAt.below {n : Nat} {w w' : World} (h : TabAt w) (hb : Below n w w') (hn : 0 < n) : TabAt w' := fun j hj => (hb.cell (p := ⟨0, j, none⟩) hn).trans (h j hj)

theorem tz64_key (x a : Nat) (hx : x < 18446744073709551616) (hx0 : x ≠ 0) (hlow : x &&& (18446744073709551616 - x) = a) :
    IntKind.u64.wrap (bits BinOp.and IntKind.u64 (x : Int) (IntKind.u64.wrap (-(x : Int))) * 285870213051353865) / 288230376151711744 = ((a * 285870213051353865 % 18446744073709551616 / 288230376151711744 : Nat) : Int) := by
  have e1 : IntKind.u64.wrap (-(x : Int)) = ((18446744073709551616 - x : Nat) : Int) := by rw [IntKind.wrap_u64]; omega
  rw [e1, bits_and_u64_nat x _ hx (by omega), hlow, IntKind.wrap_u64]
  omega
set_option maxHeartbeats 1000000 in
theorem tz64_core (x k idx : Nat) (w : World) (hx0 : ((x : Int) == 0) = false)
    (key : IntKind.u64.wrap (bits BinOp.and IntKind.u64 (x : Int) (IntKind.u64.wrap (-(x : Int))) * 285870213051353865) / 288230376151711744 = (idx : Int))
    (hi : idx < 64) (hk : k < 64) (hcell : w.cell? ⟨0, idx, none⟩ = some (.int .u8 k)) :
    Calls Tryd.prog 63 #[.int .u64 x] w fun e w' => e = .returned (.int .i64 k) ∧ w' = w := by
  go_enter Tryd.func63, Tryd.ntmps63
  go_wp2_with (simp only [key])
  go_ret
  exact ⟨rfl, rfl⟩
theorem tz64_any (x : Nat) (hx : x < 18446744073709551616) (hx0 : x ≠ 0) (w : World) (hT : TabAt w) :
    Calls Tryd.prog 63 #[.int .u64 x] w fun e w' => e = .returned (.int .i64 (Lib.ctz 64 x)) ∧ w' = w := by
  obtain ⟨hlow, hk⟩ := Lib.lowest_bit 64 x hx0 hx
  obtain ⟨hi, htab⟩ := Lib.deBruijn64_at _ hk
  have hcell := hT _ hi
  rw [htab] at hcell
  exact tz64_core x _ _ w (by simp; omega) (tz64_key x _ hx hx0 hlow) hi hk hcell

/-- The places of the bits that are set. -/
def bitsW (x : Nat) : List Nat := if h : x = 0 then [] else Lib.ctz 64 x :: bitsW (x &&& (x - 1))
termination_by x
decreasing_by have := @Nat.and_le_right x (x - 1); omega
theorem bitsW_zero : bitsW 0 = [] := by rw [bitsW]; simp
theorem bitsW_pos {x : Nat} (h : x ≠ 0) : bitsW x = Lib.ctz 64 x :: bitsW (x &&& (x - 1)) := by rw [bitsW]; simp [h]
theorem ctz_form {x : Nat} (hx : x < 2 ^ 64) (h0 : x ≠ 0) : ∃ m, x = 2 ^ Lib.ctz 64 x * (2 * m + 1) ∧ Lib.ctz 64 x < 64 := by
  unfold Lib.ctz
  rw [if_neg h0]
  exact Lib.ctzFrom_spec 64 x (by omega) hx
theorem low_off {x : Nat} (hx : x < 2 ^ 64) (h0 : x ≠ 0) (j : Nat) : (x &&& (x - 1)).testBit j = (x.testBit j && decide (j ≠ Lib.ctz 64 x)) := by
  obtain ⟨m, hm, _⟩ := ctz_form hx h0
  generalize Lib.ctz 64 x = k at hm ⊢
  have hp := Nat.two_pow_pos k
  have e1 : x - 1 = 2 ^ k * (2 * m) + (2 ^ k - 1) := by
    rw [hm, Nat.mul_add, Nat.mul_one]; omega
  have e0 : x = 2 ^ k * (2 * m + 1) + 0 := by rw [Nat.add_zero]; exact hm
  rw [Nat.testBit_and, e1]
  have hb1 := Nat.testBit_two_pow_mul_add (2 * m) (i := k) (b := 2 ^ k - 1) (by omega) j
  have hb0 := Nat.testBit_two_pow_mul_add (2 * m + 1) (i := k) (b := 0) hp j
  rw [← e0] at hb0
  rw [hb1, hb0]
  by_cases hj : j < k
  · simp [hj]
  · obtain ⟨d, rfl⟩ : ∃ d, j = k + d := ⟨j - k, by omega⟩
    cases d with
    | zero => simp
    | succ d =>
      have e2 : k + (d + 1) - k = d + 1 := by omega
      rw [if_neg hj, if_neg hj, e2, Nat.testBit_succ, Nat.testBit_succ, show (2 * m + 1) / 2 = m by omega, show 2 * m / 2 = m by omega]
      simp
theorem ctz_bit {x : Nat} (hx : x < 2 ^ 64) (h0 : x ≠ 0) : x.testBit (Lib.ctz 64 x) = true := by
  obtain ⟨m, hm, _⟩ := ctz_form hx h0
  generalize Lib.ctz 64 x = k at hm ⊢
  have e0 : x = 2 ^ k * (2 * m + 1) + 0 := by rw [Nat.add_zero]; exact hm
  rw [e0, Nat.testBit_two_pow_mul_add _ (Nat.two_pow_pos k), if_neg (Nat.lt_irrefl k), Nat.sub_self, Nat.testBit_zero]
  simp
theorem mem_bitsW : ∀ (n x : Nat), x ≤ n → x < 2 ^ 64 → ∀ j, j ∈ bitsW x ↔ x.testBit j = true
  | n, x, hn, hx, j => by
    by_cases h0 : x = 0
    · subst h0; rw [bitsW_zero]; simp
    · rw [bitsW_pos h0]
      have hle := @Nat.and_le_right x (x - 1)
      match n, hn with
      | 0, hn => omega
      | n + 1, hn =>
        rw [List.mem_cons, mem_bitsW n (x &&& (x - 1)) (by omega) (by omega) j, low_off hx h0]
        by_cases hj : j = Lib.ctz 64 x
        · subst hj; simp [ctz_bit hx h0]
        · simp [hj]
/-- The places of the bits of numbers that have w bits each, from the i-th on. -/
def posAt (w : Nat) : Nat → List Nat → List Nat
  | _, [] => []
  | i, x :: t => (bitsW x).map (i * w + ·) ++ posAt w (i + 1) t
theorem mem_posAt (w : Nat) : ∀ (l : List Nat) (i : Nat), (∀ x ∈ l, x < 2 ^ 64) → ∀ p, p ∈ posAt w i l ↔ ∃ k, ∃ h : k < l.length, ∃ j, (l[k]).testBit j = true ∧ p = (i + k) * w + j
  | [], i, _, p => by simp [posAt]
  | x :: t, i, hl, p => by
    rw [posAt, List.mem_append, List.mem_map, mem_posAt w t (i + 1) (fun y hy => hl y (List.mem_cons_of_mem _ hy))]
    constructor
    · rintro (⟨j, hj, rfl⟩ | ⟨k, hk, j, hj, rfl⟩)
      · exact ⟨0, by simp, j, (mem_bitsW x x (Nat.le_refl _) (hl x (by simp)) j).1 hj, by simp⟩
      · exact ⟨k + 1, by simp; omega, j, by simpa using hj, by rw [show i + 1 + k = i + (k + 1) by omega]⟩
    · rintro ⟨k, hk, j, hj, rfl⟩
      cases k with
      | zero => exact .inl ⟨j, (mem_bitsW x x (Nat.le_refl _) (hl x (by simp)) j).2 (by simpa using hj), by simp⟩
      | succ k => exact .inr ⟨k, by simpa using hk, j, by simpa using hj, by rw [show i + 1 + k = i + (k + 1) by omega]⟩
end Go.Proofs.YtfgmdaemcaamiaaDoor

/-! The iterator over the places of the bits (41): its contract. -/
namespace Go.Proofs.YtfgmdaemcaamiaaDoor
open Go.RowKit Go.Shelf
set_option linter.unusedVariables false
attribute [local go_sem] Oper.semAt_some

/-- What lay below n₀ lies as it lay, but for block B. -/
def Kept (B n₀ : Nat) (W W' : World) : Prop := ∀ k, k < n₀ → k ≠ B → W'.heap[k]? = W.heap[k]?
theorem Kept.refl (B n₀ : Nat) (W : World) : Kept B n₀ W W := fun _ _ _ => rfl
theorem Kept.trans {B n₀ : Nat} {a b c : World} (h : Kept B n₀ a b) (k : Kept B n₀ b c) : Kept B n₀ a c := fun i hi hB => (k i hi hB).trans (h i hi hB)
theorem Kept.cell {B n₀ : Nat} {a b : World} (h : Kept B n₀ a b) {p : Addr} (hp : p.block < n₀) (hB : p.block ≠ B) : b.cell? p = a.cell? p := World.cell?_of_block (h p.block hp hB)
theorem Kept.putObj {B n₀ : Nat} {w : World} (hn : n₀ ≤ w.heap.size) (W : World) (l : Nat) (o o' : Obj) (hl : w.heap.size ≤ l) (_ : W.heap[l]? = some o) (_ : o.isCells = false) (_ : o.isWalk = false) : Kept B n₀ W (W.putObj l o') :=
  fun k hk _ => World.putObj_heap_other (by omega)
def numAt (W : World) (B n₀ : Nat) (A : Option Addr) (l : List W64) : Prop :=
  ∀ k (h : k < l.length), ∃ b o, A = some ⟨b, o, none⟩ ∧ b < n₀ ∧ b ≠ B ∧ W.cell? ⟨b, o + k, none⟩ = some (.int .u64 ((l[k]).toNat : Int))

set_option maxRecDepth 100000 in
set_option maxHeartbeats 2000000 in
theorem ones41 (n : Nat) (hn : 1 ≤ n) (l Bl Bw B n₀ : Nat) (A : Option Addr) (cap w M : Nat) (ls : List W64) (xs : List (Fin M)) (hxs : xs.map Fin.val = posAt w 0 (ls.map BitVec.toNat)) (hw : w ≤ 64) (hlen : ls.length ≤ 4096) (hM : M ≤ 1000000)
    (J Jx : List (Fin M) → World → Prop) (hJd : ∀ pre W, J pre W → J pre W.drew)
    (hY : ∀ pre x W, J pre W → pre.length < xs.length → YieldAt Fence.wide (n - 1) Tryd.prog l #[.int .i64 (x.val : Int)] W fun e W' =>
      (e = .returned (.bool true) ∧ J (pre ++ [x]) W' ∧ Kept B n₀ W W') ∨ (e = .returned (.bool false) ∧ Jx (pre ++ [x]) W'))
    (W : World) (hBl : W.cell? ⟨Bl, 0, none⟩ = some (.slice A ls.length cap)) (hBw : W.cell? ⟨Bw, 0, none⟩ = some (.int .i64 (w : Int))) (lBw : Bw < n₀) (nBw : Bw ≠ B) (hN : numAt W B n₀ A ls) (hT : TabAt W) (l2 : 0 < n₀) (n2 : 0 ≠ B) (h0 : J [] W) :
    CallsIn Fence.wide n Tryd.prog 62 #[.func (.yield l) #[] #[], .pointer (some ⟨Bl, 0, none⟩), .pointer (some ⟨Bw, 0, none⟩)] W fun e W' => (∃ v, e = .returned v) ∧
      ((∃ ys, ys = xs ∧ J ys W') ∨ (∃ pre, pre <+: xs ∧ Jx pre W')) := by
  have HN := Lib.hid hN
  have HT := Lib.hid hT
  have HXS := Lib.hid hxs
  have HY := Lib.hid hY
  have HBW := Lib.hid hBw
  have HJD := Lib.hid hJd
  clear hN hT hxs hY hBw hJd
  refine callsIn_of_wp Tryd.func62 rfl trivial ?_ rfl
  simp only [Tryd.ntmps62, List.size_toArray, List.length_cons, List.length_nil, Nat.reduceAdd, Nat.reduceSub, Array.replicate_succ, Array.replicate_zero, List.push_toArray, List.append_toArray, List.nil_append, List.cons_append]
  gi_wp2
  gi_loopw [9] (fun i wr => ∃ k m : Nat, k ≤ ls.length ∧ i = .int .i64 k ∧ m ≤ xs.length ∧ (xs.drop m).map Fin.val = posAt w k ((ls.drop k).map BitVec.toNat) ∧ J (xs.take m) wr ∧ Kept B n₀ W wr)
    (fun i _ => ls.length - (intOf i).toNat)
  case atStart => exact ⟨0, 0, Nat.zero_le _, rfl, Nat.zero_le _, HXS.out, h0, Kept.refl _ _ _⟩
  case round =>
    obtain ⟨k, m, hk, rfl, hm, hd, hJs, hke⟩ := hrel
    have HJ := Lib.hid hJs
    have HKE := Lib.hid hke
    have HD := Lib.hid hd
    clear hJs hke hd
    by_cases hlt : k < ls.length
    · obtain ⟨b, o, rfl, hb1, hb2, hc⟩ := HN.out k hlt
      have hcx := (HKE.out.cell (p := ⟨b, o + k, none⟩) hb1 hb2).trans hc
      have hD2 := HD.out
      rw [List.drop_eq_getElem_cons hlt, List.map_cons, posAt] at hD2
      generalize ls[k] = x at hc hcx hD2
      have hx := x.isLt
      generalize x.toNat = y at hcx hD2 hx hc
      have HD2 := Lib.hid hD2
      have HK : Hid (k < ls.length) := hlt
      clear hD2 hc HD
      gi_wp2
      gi_loopw [6] (fun r wr2 => ∃ z m2 : Nat, r = .int .u64 (z : Int) ∧ z ≤ y ∧ m2 ≤ xs.length ∧ (xs.drop m2).map Fin.val = (bitsW z).map (k * w + ·) ++ posAt w (k + 1) ((ls.drop (k + 1)).map BitVec.toNat) ∧ J (xs.take m2) wr2 ∧ Kept B n₀ W wr2)
        (fun r _ => (intOf r).toNat)
      case atStart => exact ⟨y, m, rfl, Nat.le_refl _, hm, HD2.out, HJ.out, HKE.out⟩
      case round =>
        obtain ⟨z, m2, rfl, hz, hm2, hd2, hJ2, hke2⟩ := hrel
        by_cases hz0 : z = 0
        · subst hz0
          rw [bitsW_zero] at hd2
          simp only [List.map_nil, List.nil_append] at hd2
          gi_wp2
          go_roundw
          case rel => exact ⟨k + 1, m2, HK.out, by go_num, hm2, hd2, hJ2, hke2⟩
          case measure => simp [intOf]; omega
        · rw [bitsW_pos hz0, List.map_cons, List.cons_append] at hd2
          have hm4 : m2 < xs.length := by
            apply Nat.lt_of_not_le
            intro h
            rw [List.drop_of_length_le h] at hd2
            simp at hd2
          rw [List.drop_eq_getElem_cons hm4, List.map_cons] at hd2
          injection hd2 with hd3 hd4
          obtain ⟨x, hxx⟩ : ∃ x, xs[m2] = x := ⟨_, rfl⟩
          have htk : xs.take (m2 + 1) = xs.take m2 ++ [x] := by rw [List.take_succ_eq_append_getElem hm4, hxx]
          rw [hxx] at hd3
          have hxM := x.isLt
          obtain ⟨q, hq⟩ : ∃ q, k * w = q := ⟨_, rfl⟩
          obtain ⟨t, ht⟩ : ∃ t, Lib.ctz 64 z = t := ⟨_, rfl⟩
          obtain ⟨z2, hz2⟩ : ∃ z2, z &&& (z - 1) = z2 := ⟨_, rfl⟩
          rw [hz2] at hd4
          have hz2l : z2 < z := by have := @Nat.and_le_right z (z - 1); omega
          have eq1 : (k : Int) * (w : Int) = (q : Int) := by rw [← hq]; simp
          have hq1 : q ≤ 1000000 := by rw [hq] at hd3; omega
          have hjd := HJD.out _ _ hJ2
          obtain ⟨fn, tmps, assign, body, hy, hR⟩ := HY.out (xs.take m2) x wr.drew hjd (by rw [List.length_take]; omega)
          obtain ⟨p, hp⟩ : ∃ p, q + t = p := ⟨_, rfl⟩
          rw [hd3] at hy
          simp only [hq, ht, hp] at hy hd3
          have hp1 : p ≤ 1000000 := by omega
          have eq2 : (q : Int) + (t : Int) = (p : Int) := by rw [← hp]; simp
          have hwq : IntKind.i64.wrap (q : Int) = (q : Int) := wrap_i64_of (by omega) (by omega)
          have hwp : IntKind.i64.wrap (p : Int) = (p : Int) := wrap_i64_of (by omega) (by omega)
          have hTZ := tz64_any z (by omega) hz0 wr.drew (fun j hj => (hke2.cell (p := ⟨0, j, none⟩) l2 n2).trans (HT.out j hj))
          have hw2 := (hke2.cell (p := ⟨Bw, 0, none⟩) lBw nBw).trans HBW.out
          rw [ht] at hTZ
          have hTZ' := (callsIn_wide (n := n - 1)).2 hTZ
          have hand : bits .and .u64 (z : Int) ((z : Int) - 1) = (z2 : Int) := by rw [show (z : Int) - 1 = ((z - 1 : Nat) : Int) by omega, bits_and_u64_nat z _ (by omega) (by omega), hz2]
          have hR2 := RoundIn.mono hR (R' := fun e W' => ∃ bb : Bool, e = Ending.returned (.bool bb) ∧ ((bb = true ∧ J (xs.take m2 ++ [x]) W' ∧ Kept B n₀ wr.drew W') ∨ (bb = false ∧ Jx (xs.take m2 ++ [x]) W'))) (by
            rintro e W' (⟨rfl, h1, h2⟩ | ⟨rfl, h1⟩)
            · exact ⟨true, rfl, .inl ⟨rfl, h1, h2⟩⟩
            · exact ⟨false, rfl, .inr ⟨rfl, h1⟩⟩)
          have hmx : Tryd.prog.follows .mixedOrders = true := by kernel_rfl
          clear hR
          gi_wp2
          gi_region_with_o (first | (refine ⟨trivial, ?_⟩; gi_at_call 63; refine hTZ'.mono ?_; rintro e w' ⟨rfl, rfl⟩) | (refine hR2.mono ?_; rintro e W3 ⟨bb, rfl, h3⟩))
          all_goals rcases h3 with ⟨rfl, hj3, hk3⟩ | ⟨rfl, hx3⟩
          all_goals gi_wp2
          all_goals first
            | (refine bodyPost_ret (results_none rfl _ _ _) rfl ?_
               exact ⟨⟨_, rfl⟩, .inr ⟨_, by rw [← htk]; exact List.take_prefix _ _, hx3⟩⟩)
            | (go_roundw
               case rel => exact ⟨z2, m2 + 1, rfl, by omega, hm4, hd4, by rw [htk]; exact hj3, fun i hi hB => (hk3 i hi hB).trans (hke2 i hi hB)⟩
               case measure => simp [intOf]; omega)
    · obtain rfl : k = ls.length := by omega
      have hd := HD.out
      rw [List.drop_length] at hd
      have hm3 : m = xs.length := by
        have := congrArg List.length hd
        simp [posAt] at this
        omega
      subst hm3
      have hJ := HJ.out
      rw [List.take_length] at hJ
      gi_wp2
      go_end0
      exact ⟨⟨_, rfl⟩, .inl ⟨_, rfl, hJ⟩⟩
end Go.Proofs.YtfgmdaemcaamiaaDoor

/-! Bits as a run of places: bytes and numbers of them: the model of pack. -/
namespace Go.Proofs.YtfgmdaemcaamiaaDoor
open Go.RowKit
set_option linter.unusedVariables false

def numOf : Nat → (Nat → Bool) → Nat
  | 0, _ => 0
  | n + 1, P => numOf n P ||| (if P n then 2 ^ n else 0)
theorem numOf_bit (P : Nat → Bool) (j : Nat) : ∀ n, (numOf n P).testBit j = (decide (j < n) && P j)
  | 0 => by simp [numOf]
  | n + 1 => by
    rw [numOf, Nat.testBit_or, numOf_bit P j n]
    by_cases hP : P n
    · rw [if_pos hP, Nat.testBit_two_pow]
      by_cases h : n = j
      · subst h; simp [hP]
      · have : (j < n + 1) ↔ (j < n) := by omega
        simp [h, this]
    · rw [if_neg hP, Nat.zero_testBit, Bool.or_false]
      by_cases h : j = n
      · subst h; simp [hP]
      · have : (j < n + 1) ↔ (j < n) := by omega
        simp [this]
theorem numOf_lt (P : Nat → Bool) (n : Nat) : numOf n P < 2 ^ n := by
  apply Nat.lt_pow_two_of_testBit
  intro i hi
  rw [numOf_bit]
  simp; omega
theorem numOf_eq {n : Nat} {P : Nat → Bool} {x : Nat} (hx : x < 2 ^ n) (h : ∀ j < n, x.testBit j = P j) : numOf n P = x := by
  apply Nat.eq_of_testBit_eq
  intro j
  rw [numOf_bit]
  by_cases hj : j < n
  · simp [hj, h j hj]
  · rw [Nat.testBit_lt_two_pow (Nat.lt_of_lt_of_le hx (Nat.pow_le_pow_right (by decide) (Nat.le_of_not_lt hj)))]
    simp [hj]
theorem numOf_congr {n : Nat} {P R : Nat → Bool} (h : ∀ j < n, P j = R j) : numOf n P = numOf n R := numOf_eq (numOf_lt R n) (fun j hj => by rw [numOf_bit]; simp [hj, h j hj])

def byP (P : Nat → Bool) (j : Nat) : UInt8 := UInt8.ofNat (numOf 8 fun t => P (8 * j + t))
theorem byP_nat (P : Nat → Bool) (j : Nat) : (byP P j).toNat = numOf 8 fun t => P (8 * j + t) := by
  unfold byP
  have := numOf_lt (fun t => P (8 * j + t)) 8
  simp
  omega
theorem byP_congr {P R : Nat → Bool} {j : Nat} (h : ∀ t < 8, P (8 * j + t) = R (8 * j + t)) : byP P j = byP R j := by
  unfold byP
  rw [numOf_congr h]
/-- The bytes whose bits are those at the places of P. -/
def packL (n : Nat) (P : Nat → Bool) : List UInt8 := (List.range n).map (byP P)
theorem packL_len (n : Nat) (P : Nat → Bool) : (packL n P).length = n := by simp [packL]
theorem packL_get {n : Nat} (P : Nat → Bool) {j : Nat} (hj : j < n) : (packL n P).getD j 0 = byP P j := by simp [packL, List.getD, hj]
theorem packL_none (n : Nat) : packL n (fun _ => false) = List.replicate n 0 := by
  apply List.ext_getElem
  · simp [packL]
  · intro i h1 h2
    simp [packL, byP, numOf]
theorem packL_congr {n : Nat} {P R : Nat → Bool} (h : ∀ i < 8 * n, P i = R i) : packL n P = packL n R := by
  apply List.map_congr_left
  intro j hj
  exact byP_congr fun t ht => h _ (by simp at hj; omega)
theorem packL_set {n : Nat} (P : Nat → Bool) {j r : Nat} (hj : j < n) (hr : r < 8) : (packL n P).set j (byP P j ||| UInt8.ofNat (2 ^ r)) = packL n (fun i => P i || i == 8 * j + r) := by
  have h2 : 2 ^ r < 256 := by
    have := Nat.pow_lt_pow_right (a := 2) (by decide) hr
    simpa using this
  apply List.ext_getElem?
  intro i
  rw [List.getElem?_set]
  simp only [packL, List.length_map, List.length_range, List.getElem?_map]
  by_cases hi : i < n
  · rw [List.getElem?_range hi]
    simp only [Option.map_some]
    by_cases e : j = i
    · subst e
      rw [if_pos rfl, if_pos hj]
      congr 1
      apply UInt8.toNat_inj.1
      rw [UInt8.toNat_or, byP_nat, byP_nat, UInt8.toNat_ofNat']
      have e2 : 2 ^ r % 2 ^ 8 = 2 ^ r := Nat.mod_eq_of_lt h2
      rw [e2]
      symm
      refine numOf_eq (Nat.or_lt_two_pow (numOf_lt _ 8) h2) fun t ht => ?_
      rw [Nat.testBit_or, numOf_bit, Nat.testBit_two_pow]
      have : (8 * j + t == 8 * j + r) = decide (r = t) := by
        by_cases e : r = t
        · subst e; simp
        · simp [e]; omega
      simp [ht, this]
    · rw [if_neg e]
      congr 1
      refine byP_congr fun t ht => ?_
      have : (8 * i + t == 8 * j + r) = false := by simp; omega
      simp [this]
  · rw [List.getElem?_eq_none (by simp; omega), if_neg (by omega)]
    rfl
theorem bits_or8 (a b : UInt8) : bits .or .u8 (a.toNat : Int) (b.toNat : Int) = ((a ||| b).toNat : Int) := by
  have h : ∀ x : UInt8, BitVec.ofInt 8 (x.toNat : Int) = x.toBitVec := fun x => by
    rw [BitVec.ofInt_natCast]
    apply BitVec.eq_of_toNat_eq
    have := x.toNat_lt
    simp
  show IntKind.u8.wrap ((BitVec.ofInt 8 (a.toNat : Int) ||| BitVec.ofInt 8 (b.toNat : Int)).toNat : Int) = _
  rw [h, h, ← UInt8.toBitVec_or]
  generalize a ||| b = c
  have := c.toNat_lt
  show IntKind.u8.wrap (c.toNat : Int) = c.toNat
  simp [IntKind.wrap, IntKind.signed, IntKind.bits]
  omega
end Go.Proofs.YtfgmdaemcaamiaaDoor

/-! The walk of pack.Pack (18). -/
namespace Go.Proofs.YtfgmdaemcaamiaaDoor
open Go.RowKit Go.Shelf
set_option linter.unusedVariables false
attribute [local go_sem] Oper.semAt_some

theorem grown_drew (W : World) : W.grownBy W.drew none := ⟨rfl, rfl, rfl, Nat.le_refl _, fun _ _ _ => rfl⟩
theorem ones_stops (n : Nat) (hn : 1 ≤ n) (Bl Bw B n₀ : Nat) (A : Option Addr) (cap w M : Nat) (ls : List W64) (xs : List (Fin M)) (hxs : xs.map Fin.val = posAt w 0 (ls.map BitVec.toNat)) (hw : w ≤ 64) (hlen : ls.length ≤ 4096) (hM : M ≤ 1000000)
    (w0 : World) (hn0 : n₀ ≤ w0.heap.size) (lBl : Bl < n₀) (lBw : Bw < n₀) (nBw : Bw ≠ B) (hBl : w0.cell? ⟨Bl, 0, none⟩ = some (.slice A ls.length cap)) (hBw : w0.cell? ⟨Bw, 0, none⟩ = some (.int .i64 (w : Int))) (hN : numAt w0 B n₀ A ls) (hT : TabAt w0) (l2 : 0 < n₀) (n2 : 0 ≠ B) :
    SeqStopsK Fence.wide n Tryd.prog 62 #[.pointer (some ⟨Bl, 0, none⟩), .pointer (some ⟨Bw, 0, none⟩)] (fun x : Fin M => #[Value.int .i64 (x.val : Int)]) (Kept B n₀) (fun ys => ys = xs) (fun pre => pre <+: xs) xs.length w0 := fun l J Jx W hW hJ hJx hY h0 => by
  refine ones41 n hn l Bl Bw B n₀ A cap w M ls xs hxs hw hlen hM J Jx (fun pre W h => hJ pre W _ none h (grown_drew W) (fun r e => by cases e)) hY W ?_ ?_ lBw nBw ?_ ?_ l2 n2 h0
  · exact (hW.cell (p := ⟨Bl, 0, none⟩) (by show Bl < _; omega)).trans hBl
  · exact (hW.cell (p := ⟨Bw, 0, none⟩) (by show Bw < _; omega)).trans hBw
  · intro k hk
    obtain ⟨b, o, e, h1, h2, h3⟩ := hN k hk
    exact ⟨b, o, e, h1, h2, (hW.cell (p := ⟨b, o + k, none⟩) (by show b < _; omega)).trans h3⟩
  · exact hT.keep hW
theorem ones33 (n : Nat) (w : Nat) (A : Option Addr) (len cap : Nat) (W : World) : CallsIn Fence.wide n Tryd.prog 39 #[.int .i64 (w : Int), .slice A len cap] W fun e W' =>
    e = .returned (.func (.func 62) #[] #[.pointer (some ⟨W.heap.size + 1, 0, none⟩), .pointer (some ⟨W.heap.size, 0, none⟩)]) ∧ W' = (W.alloc (.cells #[.int .i64 (w : Int)] 3)).alloc (.cells #[.slice A len cap] 45) := by
  refine callsIn_of_wp Tryd.func39 rfl trivial ?_ rfl
  simp only [Tryd.ntmps39, List.size_toArray, List.length_cons, List.length_nil, Nat.reduceAdd, Nat.reduceSub, Array.replicate_succ, Array.replicate_zero, List.push_toArray, List.append_toArray, List.nil_append, List.cons_append]
  gi_wp2
  go_ret
  exact ⟨rfl, rfl⟩
theorem made_u8s (k : Nat) : madeCells (Value.int .u8 0).cells k = (u8s (List.replicate k 0)).toArray := by
  apply Array.ext
  · simp [madeCells, u8s, Value.cells]
  · intro i h1 h2
    have e1 : i % 1 = 0 := Nat.mod_one i
    simp [madeCells, u8s, Value.cells, e1]
theorem mk_in {F : Fence} {n : Nat} {ops : Array Oper} {rest : List Oper} {o : Oper} {a : Act} {Q : Exit → Act → World → Prop} {w : World} (hgd : o.guard = none) (l c : Operand)
    (hop : o.op = Op.makeSlice 24 l c) (k : Nat) (hl : a.eval l = .int .i64 (k : Int)) (hc : a.eval c = .int .i64 (k : Int)) (hsz : k ≤ 281474976710656)
    (h : wpListIn F n Tryd.prog ops Q rest (a.put o.dst (.slice (some ⟨w.heap.size, 0, none⟩) k k)) (w.alloc (.cells (u8s (List.replicate k 0)).toArray 5))) : wpListIn F n Tryd.prog ops Q (o :: rest) a w := by
  obtain ⟨i0, hti, hz0, hz1, hz2⟩ := info_parts Tryd.info5
  have hr := run_make (P := Tryd.prog) w 24 5 i0 (.int .u8 0) Tryd.underlying24 hti hz0 .i64 .i64 k k (by omega) (by omega) (by rw [hz2]; omega) (by omega)
  simp only [Int.toNat_natCast] at hr
  rw [hz1, Nat.mul_one, made_u8s] at hr
  refine wpListIn_plain hgd fun K hK' => ?_
  unfold Oper.wpIn
  refine ⟨?_, ?_⟩
  · simp [Oper.about, hop]
  · rw [Oper.semAt_plain F _ _ (by rw [hop]; intro c hc'; cases hc')]
    simp [execOp, hop, hl, hc, hr, Result.andThen]
    exact hK' _ _ h
theorem lift_fin (M : Nat) : ∀ L : List Nat, (∀ p ∈ L, p < M) → ∃ xs : List (Fin M), xs.map Fin.val = L
  | [], _ => ⟨[], rfl⟩
  | p :: t, h => by
    obtain ⟨xs, hx⟩ := lift_fin M t (fun q hq => h q (List.mem_cons_of_mem _ hq))
    exact ⟨⟨p, h p (by simp)⟩ :: xs, by rw [List.map_cons, hx]⟩
/-- The places that numbers of w bits each take. -/
def bitsP (w : Nat) (ls : List W64) (i : Nat) : Bool := decide (i ∈ posAt w 0 (ls.map BitVec.toNat))
theorem orL_ge (l : List W64) : ∀ k (h : k < l.length), (l[k]).toNat ≤ (orL l).toNat := by
  intro k h
  have key : ∀ (t : List W64) (a : W64), a.toNat ≤ (t.foldl (· ||| ·) a).toNat ∧ ∀ x ∈ t, x.toNat ≤ (t.foldl (· ||| ·) a).toNat := by
    intro t
    induction t with
    | nil => intro a; simp
    | cons y t ih =>
      intro a
      obtain ⟨h1, h2⟩ := ih (a ||| y)
      rw [BitVec.toNat_or] at h1
      refine ⟨Nat.le_trans Nat.left_le_or h1, ?_⟩
      intro x hx
      rcases List.mem_cons.1 hx with rfl | hx
      · exact Nat.le_trans Nat.right_le_or h1
      · exact h2 x hx
  exact (key l 0).2 _ (List.getElem_mem h)
theorem of_width {l : List W64} {w : Nat} (hw : w ≤ 64) : widL l ≤ w ↔ ∀ k (h : k < l.length), (l[k]).toNat < 2 ^ w := by
  unfold widL
  rw [bitLen_le_iff (orL l).isLt hw]
  constructor
  · intro h k hk
    exact Nat.lt_of_le_of_lt (orL_ge l k hk) h
  · intro h
    have key : ∀ (t : List W64) (a : W64), a.toNat < 2 ^ w → (∀ x ∈ t, x.toNat < 2 ^ w) → (t.foldl (· ||| ·) a).toNat < 2 ^ w := by
      intro t
      induction t with
      | nil => intro a ha _; exact ha
      | cons y t ih => 
        intro a ha ht
        exact ih (a ||| y) (by rw [BitVec.toNat_or]; exact Nat.or_lt_two_pow ha (ht y (by simp))) (fun x hx => ht x (List.mem_cons_of_mem _ hx))
    refine key l 0 (by simpa using Nat.two_pow_pos w) ?_
    intro x hx
    obtain ⟨k, hk, rfl⟩ := List.getElem_of_mem hx
    exact h k hk
theorem pos_lt {w : Nat} {ls : List W64} (hs : ∀ k (h : k < ls.length), (ls[k]).toNat < 2 ^ w) : ∀ p ∈ posAt w 0 (ls.map BitVec.toNat), p < ls.length * w := by
  intro p hp
  obtain ⟨k, hk, j, hj, rfl⟩ := (mem_posAt w _ 0 (by intro x hx; obtain ⟨y, _, rfl⟩ := List.mem_map.1 hx; exact y.isLt) p).1 hp
  simp only [List.length_map] at hk
  simp only [List.getElem_map] at hj
  have hjw : j < w := by
    apply Nat.lt_of_not_le
    intro h
    rw [Nat.testBit_lt_two_pow (Nat.lt_of_lt_of_le (hs k hk) (Nat.pow_le_pow_right (by decide) h))] at hj
    cases hj
  have : (k + 1) * w ≤ ls.length * w := Nat.mul_le_mul_right w (by omega)
  rw [Nat.add_mul] at this
  simp only [Nat.zero_add]
  omega
end Go.Proofs.YtfgmdaemcaamiaaDoor

/-! A region in a loop's body that draws its order and calls nothing: as a region outside of one. -/
namespace Go.Proofs.YtfgmdaemcaamiaaDoor
open Go.RowKit
set_option linter.unusedVariables false

/-- Operations that read, reckon or write, and nothing else. -/
def tameB : Op → Bool
  | .load .. => true
  | .store .. => true
  | .move .. => true
  | .binOp .. => true
  | .indexAddr .. => true
  | .assign .. => true
  | _ => false
def Tame : Result Next → Prop
  | .ok (.value _) _ => True
  | .ok .skip _ => True
  | .halt _ _ => True
  | _ => False
theorem tame_value (r : Result Value) : Tame (r.andThen fun a w' => .ok (.value a) w') := by cases r <;> trivial
theorem tame_unit {α : Type} (r : Result α) : Tame (r.andThen fun _ w' => .ok .skip w') := by cases r <;> trivial
theorem tame_exec {P : Program} {o : Oper} {ev : Operand → Value} {w : World} (h : tameB o.op = true) : Tame ((execOp ev o).run P w) := by
  unfold execOp
  cases ho : o.op <;> simp only [ho, tameB] at h <;> first | (exfalso; simp at h; done) | skip
  all_goals simp only [Sem.run_bind, Sem.run_pure]
  all_goals first | exact tame_value _ | exact tame_unit _ | trivial | skip
theorem tame_op {P : Program} {n l : Nat} {ops : Array Oper} {Q : Exit → Act → World → Prop} {i : Nat} {K K' : Act → World → Prop} {a : Act} {w : World} (ht : ∀ (j : Nat) (o : Oper), ops[j]? = some o → tameB o.op = true)
    (hK : ∀ a w, K a w → K' a w) (h : wpOpIn Fence.wide n P ops Q i K a w) : wpOpIn (Fence.wide.inRound l) n P ops Q i K' a w := by
  unfold wpOpIn at h ⊢
  cases hi : ops[i]? with
  | none => simp only [hi] at h; exact hK _ _ h
  | some o =>
    simp only [hi] at h ⊢
    have hto := ht i o hi
    by_cases hw : Region.wanted o (yielded ops a.tmps) = true
    · simp only [hw, if_true] at h ⊢
      unfold Oper.wpIn at h ⊢
      refine ⟨fun _ _ => trivial, ?_⟩
      have h2 := h.2
      have hnd : ∀ c, o.op ≠ .defer c := fun c e => by rw [e] at hto; cases hto
      rw [Oper.semAt_eq _ _ _ hnd] at h2 ⊢
      have ht2 := tame_exec (P := P) (ev := a.eval) (w := w) hto
      generalize (execOp a.eval o).run P w = r at h2 ht2
      cases r with
      | ok x w' => cases x <;> first | exact hK _ _ h2 | exact ht2.elim
      | halt x w' => cases x <;> exact h2
    · simp only [hw, Bool.false_eq_true, if_false] at h ⊢
      exact ⟨fun _ _ => trivial, hK _ _ h.2⟩
theorem tame_any {P : Program} {n l : Nat} {md : Region.Mode} {ops : Array Oper} {Q : Exit → Act → World → Prop} (ht : ∀ (j : Nat) (o : Oper), ops[j]? = some o → tameB o.op = true) : ∀ (fuel : Nat) (listed : Array Bool) (a : Act) (w : World),
    wpAnyIn Fence.wide n P md ops Q fuel listed a w → wpAnyIn (Fence.wide.inRound l) n P md ops Q fuel listed a w
  | 0, _, _, _, h => h
  | fuel + 1, listed, a, w, h => ⟨h.1, fun i hi => tame_op ht (tame_any ht fuel _) (h.2 i hi)⟩
theorem tame_region {P : Program} (k : Nat) {n l : Nat} {ops : Array Oper} {Q : Exit → Act → World → Prop} {id : Nat} {a : Act} {w : World} (hm : P.follows .mixedOrders = true) (ht : (ops.all fun o => tameB o.op) = true)
    (hk : ops.size = k) (h : wpAnyIn Fence.wide n P .any ops Q k (Array.replicate k false) a w.drew) : (Code.region id ops true).wpIn (Fence.wide.inRound l) n P Q a w := by
  subst hk
  exact wpIn_region_any hm (tame_any (fun j o hj => by
    obtain ⟨hlt, rfl⟩ := Array.getElem?_eq_some_iff.1 hj
    exact Array.all_eq_true.1 ht j hlt) _ _ _ _ h)
end Go.Proofs.YtfgmdaemcaamiaaDoor

/-! Blocks, arrays by value, cells of bytes: laws that pack's walks lean on. -/
namespace Go.Proofs.YtfgmdaemcaamiaaDoor
open Go.RowKit
set_option linter.unusedVariables false

/-- All but block g lies as it lay. -/
structure Sole (g : Nat) (w w' : World) : Prop where
  os : w'.os = w.os
  tape : w'.tape = w.tape
  output : w'.output = w.output
  size : w'.heap.size = w.heap.size
  block : ∀ k, k ≠ g → w'.heap[k]? = w.heap[k]?
theorem Sole.refl (g : Nat) (w : World) : Sole g w w := ⟨rfl, rfl, rfl, rfl, fun _ _ => rfl⟩
theorem Sole.drew {g : Nat} {a w : World} (h : Sole g a w) : Sole g a w.drew := ⟨h.os, h.tape, h.output, h.size, h.block⟩
theorem Sole.trans {g : Nat} {a b c : World} (h : Sole g a b) (k : Sole g b c) : Sole g a c :=
  ⟨k.os.trans h.os, k.tape.trans h.tape, k.output.trans h.output, k.size.trans h.size, fun i hi => (k.block i hi).trans (h.block i hi)⟩
theorem Sole.setCell {g : Nat} {a w : World} (h : Sole g a w) (i : Nat) (u : Value) : Sole g a (w.setCell ⟨g, i, none⟩ u) :=
  h.trans ⟨rfl, rfl, rfl, by simp [World.setCell], fun k hk => Below.heap_setCell w ⟨g, i, none⟩ u k hk⟩
theorem Sole.below {g B : Nat} {w0 w w' : World} (h : Sole g w w') (hb : Below B w0 w) (hg : B ≤ g) : Below B w0 w' :=
  hb.trans ⟨h.os, h.tape, h.output, Nat.le_of_eq h.size.symm, fun k hk => h.block k (by omega)⟩
theorem Blk.sole {w w' : World} {g k : Nat} {t : TypeId} {cs : List Value} (h : Blk w k t cs) (hs : Sole g w w') (hk : k ≠ g) : Blk w' k t cs := (hs.block k hk).trans h

theorem ld_row {ops : Array Oper} {rest : List Oper} {o : Oper} {a : Act} {Q : Exit → Act → World → Prop} {w : World} (hgd : o.guard = none) (ty : TypeId) (x : Operand) (ho : o.op = .load ty x) (n : Nat) (e : TypeId)
    (hu : Tryd.prog.underlying ty = some (.array n e)) {m : Nat} (hi : (Tryd.prog.info? ty).map (·.size) = some m) (g : Nat) (t : TypeId) (cs : List Value) (hx : a.eval x = .pointer (some ⟨g, 0, none⟩)) (hg : Blk w g t cs) (hl : cs.length = m)
    (h : wpList Tryd.prog ops Q rest (a.put o.dst (.agg cs.toArray)) w) : wpList Tryd.prog ops Q (o :: rest) a w :=
  wpList_load_row hgd ty x ho g hx t cs.toArray (0, 0) (.array n e) hg hu rfl (by rw [hi, ← hl]; simp) h
theorem st_row {ops : Array Oper} {rest : List Oper} {o : Oper} {a : Act} {Q : Exit → Act → World → Prop} {w : World} (hgd : o.guard = none) (ty : TypeId) (x y : Operand) (ho : o.op = .store ty x y) (n : Nat)
    (hi : (Tryd.prog.info? ty).map (·.size) = some n) (g : Nat) (t : TypeId) (old cs : List Value) (hx : a.eval x = .pointer (some ⟨g, 0, none⟩)) (hy : a.eval y = .agg cs.toArray) (hg : Blk w g t old) (hl : cs.length = n) (hold : old.length = n)
    (h1 : ∀ v ∈ cs, v.oneCell' = true)
    (h : ∀ w', Blk w' g t cs → Sole g w w' → wpList Tryd.prog ops Q rest (a.put o.dst undef) w') : wpList Tryd.prog ops Q (o :: rest) a w := by
  refine wpList_store_row hgd ty x y ho g cs.toArray hx hy t old.toArray hg (by rw [hi, ← hl]; simp) (by simp; omega) (by rw [Array.all_eq_true_iff_forall_mem]; intro v hv; exact h1 v (by simpa using hv)) ?_
  refine h _ (setRow_heap w g old.toArray _ t _ hg) ⟨rfl, rfl, rfl, by simp [World.setRow], fun k hk => setRow_other w g k _ hk⟩
/-- An element of a whole array. -/
theorem idx_row (ty e : TypeId) (n : Nat) (hu : Tryd.prog.underlying ty = some (.array n e)) (hs : (Tryd.prog.info? e).map (·.size) = some 1) (ha : ∀ w, (isAgg e).run Tryd.prog w = .ok false w) (cs : List Value) (hl : cs.length = n) (k : Nat) (hk : k < n) (v : Value) (hv : cs[k]? = some v) (w : World) :
    (Instr.index ty (.agg cs.toArray) (.int .i64 (k : Int))).run Tryd.prog w = .ok v w := by
  cases hq : Tryd.prog.info? e with
  | none => simp [hq] at hs
  | some i =>
    have hs1 : i.size = 1 := by simpa [hq] using hs
    have hb : (0 : Int) ≤ (k : Int) ∧ (k : Int) < (n : Int) := by omega
    simp [Instr.index, asIntOf, run_underlying hu, hb, sizeOf, typeInfo, hq, hs1, part, ha, Sem.run_bind, Result.andThen, hv]
    intro h
    omega
/-- A whole array's rest, as a slice. -/
theorem sl_from (ty e : TypeId) (n : Nat) (hu : Tryd.prog.underlying ty = some (.array n e)) (hs : (Tryd.prog.info? e).map (·.size) = some 1) (g lo : Nat) (hlo : lo ≤ n) (w : World) :
    (Instr.sliceAt ty (.pointer (some ⟨g, 0, none⟩)) (some (.int .i64 (lo : Int))) none none).run Tryd.prog w = .ok (.slice (some (if n = lo then ⟨g, 0, none⟩ else ⟨g, lo, none⟩)) (n - lo) (n - lo)) w := by
  cases hq : Tryd.prog.info? e with
  | none => simp [hq] at hs
  | some i =>
    have hs1 : i.size = 1 := by simpa [hq] using hs
    have hb : (0 : Int) ≤ (lo : Int) ∧ (lo : Int) ≤ (n : Int) := by omega
    have ha : (⟨g, 0, none⟩ : Addr).add lo = ⟨g, lo, none⟩ := by rw [Addr.add_lit, Nat.zero_add]
    simp [Instr.sliceAt, Instr.sureAddr, Instr.sliceBounds, Instr.sliceBound, asIntOf, run_underlying hu, hb, hlo, sizeOf, typeInfo, hq, hs1, Sem.run_bind, Result.andThen, ha]
theorem sl_all (ty e : TypeId) (n : Nat) (hu : Tryd.prog.underlying ty = some (.array n e)) (hs : (Tryd.prog.info? e).map (·.size) = some 1) (hn : n ≠ 0) (g : Nat) (w : World) :
    (Instr.sliceAt ty (.pointer (some ⟨g, 0, none⟩)) none none none).run Tryd.prog w = .ok (.slice (some ⟨g, 0, none⟩) n n) w := by
  cases hq : Tryd.prog.info? e with
  | none => simp [hq] at hs
  | some i =>
    have hs1 : i.size = 1 := by simpa [hq] using hs
    have ha : (⟨g, 0, none⟩ : Addr).add 0 = ⟨g, 0, none⟩ := by rw [Addr.add_lit]
    simp [Instr.sliceAt, Instr.sureAddr, Instr.sliceBounds, run_underlying hu, sizeOf, typeInfo, hq, Sem.run_bind, Result.andThen, ha]
theorem sl_to (ty e : TypeId) (n : Nat) (hu : Tryd.prog.underlying ty = some (.array n e)) (hs : (Tryd.prog.info? e).map (·.size) = some 1) (hn : n ≠ 0) (g hi : Nat) (hh : hi ≤ n) (w : World) :
    (Instr.sliceAt ty (.pointer (some ⟨g, 0, none⟩)) none (some (.int .i64 (hi : Int))) none).run Tryd.prog w = .ok (.slice (some ⟨g, 0, none⟩) hi n) w := by
  cases hq : Tryd.prog.info? e with
  | none => simp [hq] at hs
  | some i =>
    have hs1 : i.size = 1 := by simpa [hq] using hs
    have hb : (0 : Int) ≤ (hi : Int) ∧ (hi : Int) ≤ (n : Int) := by omega
    have ha : (⟨g, 0, none⟩ : Addr).add 0 = ⟨g, 0, none⟩ := by rw [Addr.add_lit]
    simp [Instr.sliceAt, Instr.sureAddr, Instr.sliceBounds, Instr.sliceBound, asIntOf, run_underlying hu, hb, hh, sizeOf, typeInfo, hq, Sem.run_bind, Result.andThen, ha]
/-- Copy of cells onto a block of the call's own; the blocks ahead of it lie as they lay. -/
theorem cp_blk {ops : Array Oper} {rest : List Oper} {o : Oper} {a : Act} {Q : Exit → Act → World → Prop} {w : World} (hgd : o.guard = none) (d s : Operand) (T E : TypeId) (hu : Tryd.prog.underlying T = some (.slice E)) (hsz : (Tryd.prog.info? E).map (·.size) = some 1)
    (ho : o.op = .call { callee := .builtin .copy, args := #[d, s], argTypes := #[T, T] }) (dp sp : Option Addr) (dLen dCap sLen sCap : Nat) (hd : a.eval d = .slice dp dLen dCap) (hs : a.eval s = .slice sp sLen sCap)
    (g off : Nat) (t : TypeId) (cur cs : List Value) (hg : Blk w g t cur) (hn : cs.length = Nat.min sLen dLen)
    (hpos : 0 < cs.length → dp = some ⟨g, off, none⟩ ∧ ∃ ad, sp = some ad ∧ ∀ j v, cs[j]? = some v → w.cell? (ad.add j) = some v) (hfit : off + cs.length ≤ cur.length) (h1 : ∀ v ∈ cs, v.oneCell' = true)
    (h : ∀ w', Blk w' g t (splice cur off cs) → Below g w w' → wpList Tryd.prog ops Q rest (a.put o.dst (goInt cs.length)) w') : wpList Tryd.prog ops Q (o :: rest) a w :=
  wpList_copy_splice hgd d s T T ho E hu hsz dp sp dLen dCap sLen sCap hd hs g off cur t hg cs hn hpos hfit h1 g w (Below.refl _ _) (Nat.le_refl _) h
/-- The cells of a block, as a slice that begins at its head reads them. -/
theorem Blk.news {w : World} {g : Nat} {t : TypeId} {cs : List Value} (h : Blk w g t cs) : ∀ j v, cs[j]? = some v → w.cell? ((⟨g, 0, none⟩ : Addr).add j) = some v := by
  intro j v hv
  rw [Addr.add_lit, Nat.zero_add, h.at_]
  exact hv
theorem u8s_at {l : List UInt8} {k : Nat} (hk : k < l.length) : (u8s l)[k]? = some (.int .u8 ((l.getD k 0).toNat : Int)) := by simp [u8s, hk]
theorem u8s_set (l : List UInt8) (i : Nat) (x : UInt8) : (u8s l).set i (.int .u8 (x.toNat : Int)) = u8s (l.set i x) := by simp [u8s, List.map_set]
theorem Blk.byt {w : World} {g : Nat} {t : TypeId} {l : List UInt8} (h : Blk w g t (u8s l)) : Byt w (some ⟨g, 0, none⟩) l := by
  intro k hk
  refine ⟨g, 0, rfl, ?_⟩
  rw [Nat.zero_add, h.at_, u8s_at hk]
  simp [hk]
theorem var_blk {W : World} {name : String} {g : Nat} {cs : Array Value} (hg : Tryd.prog.globalNamed name = some g) (hv : W.var? Tryd.prog name = some cs) (h : ∃ c t, W.heap[g]? = some (.cells c t (0, 0))) : ∃ t, Blk W g t cs.toList := by
  obtain ⟨c, t, hc⟩ := h
  simp only [World.var?, hg, Option.bind_some, hc, Option.some.injEq] at hv
  subst hv
  exact ⟨t, by simpa [Blk] using hc⟩
end Go.Proofs.YtfgmdaemcaamiaaDoor

/-! The walk of pack.Pack (18): numbers that a width has. -/
namespace Go.Proofs.YtfgmdaemcaamiaaDoor
open Go.RowKit Go.Shelf
set_option linter.unusedVariables false
attribute [local go_sem] Oper.semAt_some

set_option maxRecDepth 100000 in
set_option maxHeartbeats 2000000 in
theorem pack_bad (w : Int) (A : Option Addr) (cap : Nat) (ls : List W64) (W : World) (hl : Num W A ls) (hn : ls.length ≤ 4611686018427387904) (hbad : ¬ (0 ≤ w ∧ w ≤ 64 ∧ ls.length ≤ 4096) ∨ w < (widL ls : Int)) :
    Calls Tryd.prog 19 #[.int .i64 w, .slice A ls.length cap] W fun e W' => e = .returned (.tuple #[.slice none 0 0, .int .i64 2]) ∧ W' = W := by
  have hsz := size_any (ls.length : Int) w W
  have hwd := width_any A cap ls W hl hn
  by_cases h : (0 : Int) ≤ (ls.length : Int) ∧ (ls.length : Int) ≤ 4096 ∧ 0 ≤ w ∧ w ≤ 64
  · rw [sizeR_good h] at hsz
    have hlt : w < (widL ls : Int) := by
      rcases hbad with hb | hb
      · exfalso; omega
      · exact hb
    clear hbad h hl
    go_enter Tryd.func19, Tryd.ntmps19
    go_wp2_with (first | (go_at_call 37; refine hsz.mono ?_; rintro e w1 ⟨rfl, rfl⟩) | (go_at_call 38; refine hwd.mono ?_; rintro e w1 ⟨rfl, rfl⟩))
    all_goals first | omega | (go_ret2; exact ⟨rfl, rfl⟩)
  · rw [sizeR_bad h] at hsz
    clear hbad h hl
    go_enter Tryd.func19, Tryd.ntmps19
    go_wp2_with (first | (go_at_call 37; refine hsz.mono ?_; rintro e w1 ⟨rfl, rfl⟩) | (go_at_call 38; refine hwd.mono ?_; rintro e w1 ⟨rfl, rfl⟩))
    all_goals first | omega | (go_ret2; exact ⟨rfl, rfl⟩)

set_option maxRecDepth 100000 in
set_option maxHeartbeats 2000000 in
theorem pack_good (w : Nat) (A : Option Addr) (cap : Nat) (ls : List W64) (W : World) (hl : Num W A ls) (hw : w ≤ 64) (hlen : ls.length ≤ 4096) (hwd : widL ls ≤ w) (hT : TabAt W) :
    Calls Tryd.prog 19 #[.int .i64 (w : Int), .slice A ls.length cap] W fun e W' => e = .returned (.tuple #[.slice (some ⟨W.heap.size, 0, none⟩) ((ls.length * w + 7) / 8) ((ls.length * w + 7) / 8), .int .i64 0]) ∧ Blk W' W.heap.size 5 (u8s (packL ((ls.length * w + 7) / 8) (bitsP w ls))) ∧ Below W.heap.size W W' := by
  obtain ⟨N, hN⟩ : ∃ N, W.heap.size = N := ⟨_, rfl⟩
  rw [hN]
  obtain ⟨M, hM⟩ : ∃ M, ls.length * w = M := ⟨_, rfl⟩
  have hM1 : M ≤ 262144 := by
    rw [← hM]
    have := Nat.mul_le_mul hlen hw
    omega
  obtain ⟨xs, hxs⟩ := lift_fin M (posAt w 0 (ls.map BitVec.toNat)) (by rw [← hM]; exact pos_lt ((of_width hw).1 hwd))
  rw [hM]
  obtain ⟨sz, hsz⟩ : ∃ sz, (M + 7) / 8 = sz := ⟨_, rfl⟩
  rw [hsz]
  have h2N : 0 < N := by have := World.block_lt_of_cell? W _ (hT 0 (by omega)); rw [← hN]; exact this
  have hnum : numAt W N (N + 4) A ls := by
    intro k hk
    obtain ⟨b, o, e, hc⟩ := hl k hk
    have := World.block_lt_of_cell? W _ hc
    have hbN : b < N := by rw [← hN]; exact this
    exact ⟨b, o, e, by omega, by omega, hc⟩
  have hsize : ∀ W : World, Calls Tryd.prog 37 #[.int .i64 (ls.length : Int), .int .i64 (w : Int)] W fun e W' => e = .returned (.tuple #[.int .i64 (sz : Int), .int .i64 0]) ∧ W' = W := by
    intro W
    have h := size_any (ls.length : Int) (w : Int) W
    rw [sizeR_good (by omega), show ((ls.length : Int) * (w : Int) + 7) / 8 = (sz : Int) by rw [← hsz, ← hM]; simp] at h
    exact h
  have hwid := width_any A cap ls W hl (by omega)
  have hlt : ¬ (w : Int) < (widL ls : Int) := by omega
  have HSZ : Hid (∀ W : World, CallsIn Fence.wide 9 Tryd.prog 37 #[.int .i64 (ls.length : Int), .int .i64 (w : Int)] W fun e W' => e = .returned (.tuple #[.int .i64 (sz : Int), .int .i64 0]) ∧ W' = W) := fun W => callsIn_wide.2 (hsize W)
  have HWID : Hid (CallsIn Fence.wide 9 Tryd.prog 38 #[.slice A ls.length cap] W fun e W' => e = .returned (.int .i64 (widL ls : Int)) ∧ W' = W) := callsIn_wide.2 hwid
  have hsz2 : M ≤ 8 * sz := by omega
  have hsz3 : sz ≤ 32768 := by omega
  have HT := Lib.hid hT
  have HNUM := Lib.hid hnum
  have HM := Lib.hid hM
  have HNN := Lib.hid hN
  have hR : ∀ W' : World, Below N W W' → True := fun _ _ => trivial
  clear hsize hwid hT hnum hM hsz hl hwd hR
  refine (callsIn_wide (n := 10)).1 ?_
  refine callsIn_of_wp_marks Tryd.func19 rfl trivial ?_ rfl
  simp only [Tryd.ntmps19, List.size_toArray, List.length_cons, List.length_nil, Nat.reduceAdd, Nat.reduceSub, Array.replicate_succ, Array.replicate_zero, List.push_toArray, List.append_toArray, List.nil_append, List.cons_append]
  gi_wp2_with (first | (refine ⟨trivial, ?_⟩; gi_at_call 37; refine (HSZ.out _).mono ?_; rintro e w1 ⟨rfl, rfl⟩) | (refine ⟨trivial, ?_⟩; gi_at_call 38; refine HWID.out.mono ?_; rintro e w1 ⟨rfl, rfl⟩) | (gi_at_make; refine mk_in rfl _ _ rfl sz rfl rfl (by omega) ?_) | (refine ⟨trivial, ?_⟩; gi_at_call 39; refine (ones33 9 w A ls.length cap _).mono ?_; rintro e w1 ⟨rfl, rfl⟩))
  obtain ⟨W4, hW4⟩ : ∃ x, x = ((((w1.alloc (Obj.cells (u8s (List.replicate sz 0)).toArray 5)).alloc (Obj.cells #[Value.slice (some ⟨N, 0, none⟩) sz sz] 24)).alloc (Obj.cells #[Value.int IntKind.i64 (w : Int)] 3)).alloc (Obj.cells #[Value.slice A ls.length cap] 45)) := ⟨_, rfl⟩
  rw [← hW4]
  have s1 := HNN.out
  have b0 : Blk W4 N 5 (u8s (packL sz (fun _ => false))) := by
    rw [hW4, packL_none, ← s1]
    exact (((Blk.born w1 5 _).later _).later _).later _
  have b1 : Blk W4 (N + 1) 24 [Value.slice (some ⟨N, 0, none⟩) sz sz] := by
    rw [hW4]
    have := ((Blk.born (w1.alloc (Obj.cells (u8s (List.replicate sz 0)).toArray 5)) 24 [Value.slice (some ⟨N, 0, none⟩) sz sz]).later (Obj.cells #[Value.int IntKind.i64 (w : Int)] 3)).later (Obj.cells #[Value.slice A ls.length cap] 45)
    rw [World.size_alloc, s1] at this
    exact this
  have b2 : Blk W4 (N + 1 + 1) 3 [Value.int IntKind.i64 (w : Int)] := by
    rw [hW4]
    have := (Blk.born ((w1.alloc (Obj.cells (u8s (List.replicate sz 0)).toArray 5)).alloc (Obj.cells #[Value.slice (some ⟨N, 0, none⟩) sz sz] 24)) 3 [Value.int IntKind.i64 (w : Int)]).later (Obj.cells #[Value.slice A ls.length cap] 45)
    rw [World.size_alloc, World.size_alloc, s1] at this
    exact this
  have b3 : Blk W4 (N + 1 + 1 + 1) 45 [Value.slice A ls.length cap] := by
    rw [hW4]
    have := Blk.born (((w1.alloc (Obj.cells (u8s (List.replicate sz 0)).toArray 5)).alloc (Obj.cells #[Value.slice (some ⟨N, 0, none⟩) sz sz] 24)).alloc (Obj.cells #[Value.int IntKind.i64 (w : Int)] 3)) 45 [Value.slice A ls.length cap]
    rw [World.size_alloc, World.size_alloc, World.size_alloc, s1] at this
    exact this
  have bel : Below N w1 W4 := by
    rw [hW4]
    exact ((((Below.refl _ _).alloc (by omega) _).alloc (by simp; omega) _).alloc (by simp; omega) _).alloc (by simp; omega) _
  have s4 : W4.heap.size = N + 4 := by rw [hW4]; simp [s1]
  clear hW4
  refine wpIn_rangeFunc_ownF rfl (by omega) (gf := 62) (lb := #[.pointer (some ⟨N + 1 + 1 + 1, 0, none⟩), .pointer (some ⟨N + 1 + 1, 0, none⟩)]) rfl trivial (enters_of Tryd.func62 (by kernel_rfl) rfl)
    (ones_stops 9 (by omega) (N + 1 + 1 + 1) (N + 1 + 1) N (N + 4) A cap w M ls xs hxs hw hlen (by omega) W4 (by omega) (by omega) (by omega) (by omega) ((b3.at_ 0).trans rfl) ((b2.at_ 0).trans rfl)
      (fun k hk => by obtain ⟨b, o, e, h1, h2, h3⟩ := HNUM.out k hk; have hb := World.block_lt_of_cell? w1 _ h3; exact ⟨b, o, e, h1, h2, (bel.cell (p := ⟨b, o + k, none⟩) (by rw [← s1]; exact hb)).trans h3⟩)
      (HT.out.below bel h2N) (by omega) (by omega))
    Kept.trans (Kept.putObj (by omega)) (Below.refl _ _) (fun _ => rfl)
    (fun pre Wd => (Blk Wd N 5 (u8s (packL sz (fun i => decide (i ∈ pre.map Fin.val)))) ∧ Blk Wd (N + 1) 24 [Value.slice (some ⟨N, 0, none⟩) sz sz]) ∧ Below N w1 Wd)
    (fun _ _ _ => False)
    (OwnFrom.and (Own.from (fun s A B row hs hg hr => ⟨(grownBy_keeps_cells hg hr hs.1 rfl).trans hs.1, (grownBy_keeps_cells hg hr hs.2 rfl).trans hs.2⟩) _) (ownFrom_below (by omega) (by omega)))
    (fun _ _ _ _ _ hs _ _ => hs)
    ⟨⟨by simpa using b0, b1⟩, bel⟩
    (fun x => { tmps := #[Value.int IntKind.i64 (w : Int), Value.slice A ls.length cap, undef, undef, Value.slice none 0 0,
          Value.int IntKind.i64 0, Value.int IntKind.i64 (sz : Int), Value.int IntKind.i64 0,
          Value.pointer (some ⟨N + 1, 0, none⟩), .int .i64 (x.val : Int),
          Value.tuple #[Value.int IntKind.i64 (sz : Int), Value.int IntKind.i64 0], Value.slice A ls.length cap,
          Value.int IntKind.i64 (ls.length : Int), Value.int IntKind.i64 (w : Int),
          Value.tuple #[Value.int IntKind.i64 (sz : Int), Value.int IntKind.i64 0], Value.int IntKind.i64 (sz : Int),
          Value.int IntKind.i64 0, Value.int IntKind.i64 0, Value.bool false, Value.bool false,
          Value.slice A ls.length cap, Value.int IntKind.i64 (widL ls : Int), Value.int IntKind.i64 (w : Int), Value.bool false,
          Value.bool false, Value.int IntKind.i64 (sz : Int), Value.slice (some ⟨N, 0, none⟩) sz sz,
          Value.int IntKind.i64 (w : Int), Value.slice A ls.length cap,
          Value.func (Fn.func 62) #[] #[Value.pointer (some ⟨N + 1 + 1 + 1, 0, none⟩), Value.pointer (some ⟨N + 1 + 1, 0, none⟩)],
          .int .i64 (x.val : Int), undef, undef, undef, undef, undef, undef, undef, undef, undef, undef, undef], defers := [] }) ?assign ?body ?done ?stop
  case assign =>
    intro l x W K hK
    gi_wp2
    exact hK
  case body =>
    rintro l pre x Wd ⟨⟨hblk, hbox⟩, hbel⟩ hlt2
    have hxM := x.isLt
    have hset := fun (j r : Nat) (hj : j < sz) (hr : r < 8) => packL_set (fun i => decide (i ∈ pre.map Fin.val)) hj hr
    have hget := fun (j : Nat) (hj : j < sz) => packL_get (fun i => decide (i ∈ pre.map Fin.val)) hj
    obtain ⟨j, hj⟩ : ∃ j, x.val / 8 = j := ⟨_, rfl⟩
    obtain ⟨r, hr⟩ : ∃ r, x.val % 8 = r := ⟨_, rfl⟩
    obtain ⟨v, hv⟩ : ∃ v, x.val = v := ⟨_, rfl⟩
    have hsnoc : packL sz (fun i => decide (i ∈ (pre ++ [x]).map Fin.val)) = packL sz (fun i => decide (i ∈ pre.map Fin.val) || i == v) := by
      apply packL_congr
      intro i _
      rw [Bool.eq_iff_iff]
      rw [decide_eq_true_iff, Bool.or_eq_true, decide_eq_true_iff, beq_iff_eq, List.map_append, List.mem_append, List.map_cons, List.map_nil, List.mem_singleton, hv]
    rw [hv] at hj hr hxM
    have hjs : j < sz := by omega
    have hr8 : r < 8 := by omega
    have hjr : 8 * j + r = v := by omega
    have hset2 := hset j r hjs hr8
    have hget2 := hget j hjs
    rw [hjr] at hset2
    clear hset hget
    rw [← hsnoc] at hset2
    have hpl := packL_len sz (fun i => decide (i ∈ pre.map Fin.val))
    generalize (fun i => decide (i ∈ pre.map Fin.val)) = P at hblk hset2 hget2 hpl
    have hread : Wd.drew.cell? ⟨N, j, none⟩ = some (.int .u8 ((byP P j).toNat : Int)) := by
      have h := hblk.at_ j
      rw [u8s_at (by rw [hpl]; exact hjs), hget2] at h
      exact h
    have hfree : Wd.drew.frozen? ⟨N, j, none⟩ = false := hblk.free j
    have hbox1 : Wd.drew.cell? ⟨N + 1, 0, none⟩ = some (.slice (some ⟨N, 0, none⟩) sz sz) := hbox.at_ 0
    have d0 : (0 : Int) ≤ (v : Int) := by omega
    have d1 : (v : Int) / 8 = (j : Int) := by omega
    have d2 : (v : Int) % 8 = (r : Int) := by omega
    have j0 : (0 : Int) ≤ (j : Int) := by omega
    have j1 : (j : Int) < (sz : Int) := by omega
    have r0 : (0 : Int) ≤ (r : Int) := by omega
    have r1 : (r : Int) < 8 := by omega
    have d3 : (v : Int).tmod 8 = (r : Int) := by rw [Int.tmod_eq_emod_of_nonneg d0]; omega
    have hwj : IntKind.i64.wrap (j : Int) = (j : Int) := wrap_i64_of (by omega) (by omega)
    have h2r : 2 ^ r < 256 := by
      have := Nat.pow_lt_pow_right (a := 2) (by decide) hr8
      simpa using this
    obtain ⟨sh, hsh⟩ : ∃ sh, UInt8.ofNat (2 ^ r) = sh := ⟨_, rfl⟩
    have hshn : 2 ^ r = sh.toNat := by rw [← hsh, UInt8.toNat_ofNat']; exact (Nat.mod_eq_of_lt h2r).symm
    rw [hsh] at hset2
    generalize byP P j = by0 at hread hset2
    have hor := bits_or8 by0 sh
    have hshw : IntKind.u8.wrap ((2 : Int) ^ r) = (sh.toNat : Int) := by
      have e : ((2 : Int) ^ r) = ((2 ^ r : Nat) : Int) := by simp
      rw [e, hshn]
      have := sh.toNat_lt
      simp [IntKind.wrap, IntKind.signed, IntKind.bits]
      omega
    have hmx : Tryd.prog.follows .mixedOrders = true := by kernel_rfl
    rw [hv]
    gi_wp2
    refine tame_region 11 hmx (by kernel_rfl) rfl ?_
    refine wpAnyIn_take (i := 1) (v := .int .i64 (v : Int)) rfl rfl (by kernel_rfl) (by kernel_rfl) (by kernel_rfl) (fun _ _ _ h => h) ⟨Or.inl ⟨by rfl, by intro w; go_simp⟩, fun _ => rfl⟩ ?_
    go_simp
    refine wpAnyIn_take (i := 2) (v := .int .i64 (j : Int)) rfl rfl (by kernel_rfl) (by kernel_rfl) (by kernel_rfl) (fun _ _ _ h => h) ⟨Or.inl ⟨by rfl, by intro w; go_simp⟩, fun _ => rfl⟩ ?_
    go_simp
    refine wpAnyIn_take (i := 5) (v := .int .i64 (v : Int)) rfl rfl (by kernel_rfl) (by kernel_rfl) (by kernel_rfl) (fun _ _ _ h => h) ⟨Or.inl ⟨by rfl, by intro w; go_simp⟩, fun _ => rfl⟩ ?_
    go_simp
    refine wpAnyIn_take (i := 6) (v := .int .i64 (r : Int)) rfl rfl (by kernel_rfl) (by kernel_rfl) (by kernel_rfl) (fun _ _ _ h => h) ⟨Or.inl ⟨by rfl, by intro w; go_simp⟩, fun _ => rfl⟩ ?_
    go_simp
    refine wpAnyIn_take (i := 7) (v := .int .u8 (sh.toNat : Int)) rfl rfl (by kernel_rfl) (by kernel_rfl) (by kernel_rfl) (fun _ _ _ h => h) ⟨Or.inl ⟨by rfl, by intro w; go_simp⟩, fun _ => rfl⟩ ?_
    go_simp
    refine wpAnyIn_ready (rs := [0]) (by kernel_rfl) (by simp) (AllReadyIn.cons rfl (fun K hK => ?_) AllReadyIn.nil)
    go_simp
    refine hK _ _ ?_
    clear hK K
    refine wpAnyIn_take (i := 3) (v := .pointer (some ⟨N, j, none⟩)) rfl rfl (by kernel_rfl) (by kernel_rfl) (by kernel_rfl) (fun _ _ _ h => h) ⟨Or.inl ⟨by rfl, by intro w; go_simp⟩, fun _ => rfl⟩ ?_
    go_simp
    refine wpAnyIn_ready (rs := [4]) (by kernel_rfl) (by simp) (AllReadyIn.cons rfl (fun K hK => ?_) AllReadyIn.nil)
    go_simp
    refine hK _ _ ?_
    clear hK K
    refine wpAnyIn_take (i := 8) (v := .int .u8 ((by0 ||| sh).toNat : Int)) rfl rfl (by kernel_rfl) (by kernel_rfl) (by kernel_rfl) (fun _ _ _ h => h) ⟨Or.inl ⟨by rfl, by intro w; go_simp⟩, fun _ => rfl⟩ ?_
    go_simp
    refine wpAnyIn_take (i := 9) (v := .pointer (some ⟨N, j, none⟩)) rfl rfl (by kernel_rfl) (by kernel_rfl) (by kernel_rfl) (fun _ _ _ h => h) ⟨Or.inl ⟨by rfl, by intro w; go_simp⟩, fun _ => rfl⟩ ?_
    go_simp
    refine wpAnyIn_ready (rs := [10]) (by kernel_rfl) (by simp) (AllReadyIn.cons rfl (fun K hK => ?_) AllReadyIn.nil)
    go_simp
    refine hK _ _ ?_
    clear hK K
    refine wpAnyIn_done (by kernel_rfl) ?_ _
    have hst := hblk.store j (.int .u8 ((by0 ||| sh).toNat : Int))
    rw [u8s_set, hset2, UInt8.toNat_or] at hst
    have hso : Sole N Wd (Wd.setCell ⟨N, j, none⟩ (.int .u8 ((by0.toNat ||| sh.toNat : Nat) : Int))).drew := ((Sole.refl N Wd).setCell j _).drew
    refine (⟨(KeepsOthers.setCell _ _ _).trans (KeepsOthers.drew _), fun k _ hB => hso.block k hB, ⟨⟨hst, hbox.sole hso (by omega)⟩, hso.below hbel (Nat.le_refl _)⟩⟩ : _ ∧ _ ∧ ((_ ∧ _) ∧ _))
  case done =>
    rintro D ys Wd hD rfl ⟨⟨hblk, hbox⟩, hB⟩ hK
    have hbox1 : Wd.cell? ⟨N + 1, 0, none⟩ = some (.slice (some ⟨N, 0, none⟩) sz sz) := hbox.at_ 0
    have HB := Lib.hid hblk
    have HBEL := Lib.hid hB
    clear hblk hB
    gi_wp2
    refine ⟨by simp, .inl ⟨_, _, rfl, run_takeDeferred hK, ?_⟩⟩
    rw [hxs] at HB
    exact ⟨_, results_tmp2 rfl _ _ _, rfl, (World.putObj_heap_other (by omega)).trans HB.out, HBEL.out.trans (belowK_b (w := w1) (by omega) Wd D _ _ (by omega) hK rfl rfl)⟩
  case stop =>
    rintro D c pre Wd _ _ h _
    exact h.elim
end Go.Proofs.YtfgmdaemcaamiaaDoor

/-! Which bits numbers' bytes hold; the head of the laws of pack (13). -/
namespace Go.Proofs.YtfgmdaemcaamiaaDoor
open Go.RowKit
set_option linter.unusedVariables false

theorem bitsP_eq {w : Nat} {ls : List W64} (hs : ∀ k (h : k < ls.length), (ls[k]).toNat < 2 ^ w) (i : Nat) : bitsP w ls i = (decide (i < ls.length * w) && (ls.getD (i / w) 0).toNat.testBit (i % w)) := by
  have hm := mem_posAt w (ls.map BitVec.toNat) 0 (by intro x hx; obtain ⟨y, _, rfl⟩ := List.mem_map.1 hx; exact y.isLt) i
  unfold bitsP
  rw [Bool.eq_iff_iff, decide_eq_true_iff, hm, Bool.and_eq_true, decide_eq_true_iff]
  constructor
  · rintro ⟨k, hk, j, hj, rfl⟩
    simp only [List.length_map] at hk
    simp only [List.getElem_map] at hj
    have hjw : j < w := by
      apply Nat.lt_of_not_le
      intro h
      rw [Nat.testBit_lt_two_pow (Nat.lt_of_lt_of_le (hs k hk) (Nat.pow_le_pow_right (by decide) h))] at hj
      cases hj
    have h1 : (k + 1) * w ≤ ls.length * w := Nat.mul_le_mul_right w (by omega)
    rw [Nat.add_mul] at h1
    have e1 : ((0 + k) * w + j) / w = k := by
      rw [Nat.zero_add, Nat.add_comm, Nat.add_mul_div_right _ _ (by omega), Nat.div_eq_of_lt hjw, Nat.zero_add]
    have e2 : ((0 + k) * w + j) % w = j := by
      rw [Nat.zero_add, Nat.add_comm, Nat.add_mul_mod_self_right, Nat.mod_eq_of_lt hjw]
    rw [e1, e2]
    refine ⟨by rw [Nat.zero_add]; omega, ?_⟩
    simp only [List.getD, List.getElem?_eq_getElem hk, Option.getD_some]
    exact hj
  · rintro ⟨hi, hb⟩
    have hw : 0 < w := by
      apply Nat.pos_of_ne_zero
      intro h; subst h; simp at hi
    have hk : i / w < ls.length := (Nat.div_lt_iff_lt_mul hw).2 hi
    refine ⟨i / w, by simpa using hk, i % w, ?_, ?_⟩
    · simp only [List.getElem_map]
      simp only [List.getD, List.getElem?_eq_getElem hk, Option.getD_some] at hb
      exact hb
    · rw [Nat.zero_add, Nat.mul_comm, Nat.div_add_mod]
theorem num_born (w : World) (t : TypeId) (l : List W64) : Num (w.alloc (.cells (n64s l).toArray t)) (some ⟨w.heap.size, 0, none⟩) l := by
  intro k hk
  refine ⟨w.heap.size, 0, rfl, ?_⟩
  have := (Blk.born w t (n64s l)).at_ k
  rw [Nat.zero_add, this]
  simp [n64s, hk]

theorem wid57 : widL [5, 2, 7] = 3 := by decide +kernel
theorem wid52 : widL [5, 2] = 3 := by decide +kernel
theorem bytes57 : packL 2 (bitsP 3 [5, 2, 7]) = [213, 1] := by
  have h : packL 2 (bitsP 3 [5, 2, 7]) = packL 2 (fun i => decide (i < 9) && (([5, 2, 7] : List W64).getD (i / 3) 0).toNat.testBit (i % 3)) :=
    packL_congr fun i _ => by
      rw [bitsP_eq (by rw [← of_width (by omega)]; rw [wid57]; omega)]
      rfl
  rw [h]
  decide +kernel

end Go.Proofs.YtfgmdaemcaamiaaDoor

/-! The iterator over the places of the bits of bytes (43): its contract. -/
namespace Go.Proofs.YtfgmdaemcaamiaaDoor
open Go.RowKit Go.Shelf
set_option linter.unusedVariables false
attribute [local go_sem] Oper.semAt_some

def bytAt (W : World) (B n₀ : Nat) (A : Option Addr) (l : List UInt8) : Prop :=
  ∀ k (h : k < l.length), ∃ b o, A = some ⟨b, o, none⟩ ∧ b < n₀ ∧ b ≠ B ∧ W.cell? ⟨b, o + k, none⟩ = some (.int .u8 ((l[k]).toNat : Int))

set_option maxRecDepth 100000 in
set_option maxHeartbeats 2000000 in
theorem ones43 (n : Nat) (hn : 1 ≤ n) (l Bl Bw B n₀ : Nat) (A : Option Addr) (cap w M : Nat) (ls : List UInt8) (xs : List (Fin M)) (hxs : xs.map Fin.val = posAt w 0 (ls.map UInt8.toNat)) (hw : w ≤ 64) (hlen : ls.length ≤ 40000) (hM : M ≤ 1000000)
    (J Jx : List (Fin M) → World → Prop) (hJd : ∀ pre W, J pre W → J pre W.drew)
    (hY : ∀ pre x W, J pre W → pre.length < xs.length → YieldAt Fence.wide (n - 1) Tryd.prog l #[.int .i64 (x.val : Int)] W fun e W' =>
      (e = .returned (.bool true) ∧ J (pre ++ [x]) W' ∧ Kept B n₀ W W') ∨ (e = .returned (.bool false) ∧ Jx (pre ++ [x]) W'))
    (W : World) (hBl : W.cell? ⟨Bl, 0, none⟩ = some (.slice A ls.length cap)) (hBw : W.cell? ⟨Bw, 0, none⟩ = some (.int .i64 (w : Int))) (lBw : Bw < n₀) (nBw : Bw ≠ B) (hN : bytAt W B n₀ A ls) (hT : TabAt W) (l2 : 0 < n₀) (n2 : 0 ≠ B) (h0 : J [] W) :
    CallsIn Fence.wide n Tryd.prog 104 #[.func (.yield l) #[] #[], .pointer (some ⟨Bl, 0, none⟩), .pointer (some ⟨Bw, 0, none⟩)] W fun e W' => (∃ v, e = .returned v) ∧
      ((∃ ys, ys = xs ∧ J ys W') ∨ (∃ pre, pre <+: xs ∧ Jx pre W')) := by
  have HN := Lib.hid hN
  have HT := Lib.hid hT
  have HXS := Lib.hid hxs
  have HY := Lib.hid hY
  have HBW := Lib.hid hBw
  have HJD := Lib.hid hJd
  clear hN hT hxs hY hBw hJd
  refine callsIn_of_wp Tryd.func104 rfl trivial ?_ rfl
  simp only [Tryd.ntmps104, List.size_toArray, List.length_cons, List.length_nil, Nat.reduceAdd, Nat.reduceSub, Array.replicate_succ, Array.replicate_zero, List.push_toArray, List.append_toArray, List.nil_append, List.cons_append]
  gi_wp2
  gi_loopw [9] (fun i wr => ∃ k m : Nat, k ≤ ls.length ∧ i = .int .i64 k ∧ m ≤ xs.length ∧ (xs.drop m).map Fin.val = posAt w k ((ls.drop k).map UInt8.toNat) ∧ J (xs.take m) wr ∧ Kept B n₀ W wr)
    (fun i _ => ls.length - (intOf i).toNat)
  case atStart => exact ⟨0, 0, Nat.zero_le _, rfl, Nat.zero_le _, HXS.out, h0, Kept.refl _ _ _⟩
  case round =>
    obtain ⟨k, m, hk, rfl, hm, hd, hJs, hke⟩ := hrel
    have HJ := Lib.hid hJs
    have HKE := Lib.hid hke
    have HD := Lib.hid hd
    clear hJs hke hd
    by_cases hlt : k < ls.length
    · obtain ⟨b, o, rfl, hb1, hb2, hc⟩ := HN.out k hlt
      have hcx := (HKE.out.cell (p := ⟨b, o + k, none⟩) hb1 hb2).trans hc
      have hD2 := HD.out
      rw [List.drop_eq_getElem_cons hlt, List.map_cons, posAt] at hD2
      generalize ls[k] = x at hc hcx hD2
      have hx := x.toNat_lt
      generalize x.toNat = y at hcx hD2 hx hc
      have HD2 := Lib.hid hD2
      have HK : Hid (k < ls.length) := hlt
      clear hD2 hc HD
      gi_wp2
      gi_loopw [6] (fun r wr2 => ∃ z m2 : Nat, r = .int .u64 (z : Int) ∧ z ≤ y ∧ m2 ≤ xs.length ∧ (xs.drop m2).map Fin.val = (bitsW z).map (k * w + ·) ++ posAt w (k + 1) ((ls.drop (k + 1)).map UInt8.toNat) ∧ J (xs.take m2) wr2 ∧ Kept B n₀ W wr2)
        (fun r _ => (intOf r).toNat)
      case atStart => exact ⟨y, m, rfl, Nat.le_refl _, hm, HD2.out, HJ.out, HKE.out⟩
      case round =>
        obtain ⟨z, m2, rfl, hz, hm2, hd2, hJ2, hke2⟩ := hrel
        by_cases hz0 : z = 0
        · subst hz0
          rw [bitsW_zero] at hd2
          simp only [List.map_nil, List.nil_append] at hd2
          gi_wp2
          go_roundw
          case rel => exact ⟨k + 1, m2, HK.out, by go_num, hm2, hd2, hJ2, hke2⟩
          case measure => simp [intOf]; omega
        · rw [bitsW_pos hz0, List.map_cons, List.cons_append] at hd2
          have hm4 : m2 < xs.length := by
            apply Nat.lt_of_not_le
            intro h
            rw [List.drop_of_length_le h] at hd2
            simp at hd2
          rw [List.drop_eq_getElem_cons hm4, List.map_cons] at hd2
          injection hd2 with hd3 hd4
          obtain ⟨x, hxx⟩ : ∃ x, xs[m2] = x := ⟨_, rfl⟩
          have htk : xs.take (m2 + 1) = xs.take m2 ++ [x] := by rw [List.take_succ_eq_append_getElem hm4, hxx]
          rw [hxx] at hd3
          have hxM := x.isLt
          obtain ⟨q, hq⟩ : ∃ q, k * w = q := ⟨_, rfl⟩
          obtain ⟨t, ht⟩ : ∃ t, Lib.ctz 64 z = t := ⟨_, rfl⟩
          obtain ⟨z2, hz2⟩ : ∃ z2, z &&& (z - 1) = z2 := ⟨_, rfl⟩
          rw [hz2] at hd4
          have hz2l : z2 < z := by have := @Nat.and_le_right z (z - 1); omega
          have eq1 : (k : Int) * (w : Int) = (q : Int) := by rw [← hq]; simp
          have hq1 : q ≤ 1000000 := by rw [hq] at hd3; omega
          have hjd := HJD.out _ _ hJ2
          obtain ⟨fn, tmps, assign, body, hy, hR⟩ := HY.out (xs.take m2) x wr.drew hjd (by rw [List.length_take]; omega)
          obtain ⟨p, hp⟩ : ∃ p, q + t = p := ⟨_, rfl⟩
          rw [hd3] at hy
          simp only [hq, ht, hp] at hy hd3
          have hp1 : p ≤ 1000000 := by omega
          have eq2 : (q : Int) + (t : Int) = (p : Int) := by rw [← hp]; simp
          have hwq : IntKind.i64.wrap (q : Int) = (q : Int) := wrap_i64_of (by omega) (by omega)
          have hwp : IntKind.i64.wrap (p : Int) = (p : Int) := wrap_i64_of (by omega) (by omega)
          have hTZ := tz64_any z (by omega) hz0 wr.drew (fun j hj => (hke2.cell (p := ⟨0, j, none⟩) l2 n2).trans (HT.out j hj))
          have hw2 := (hke2.cell (p := ⟨Bw, 0, none⟩) lBw nBw).trans HBW.out
          rw [ht] at hTZ
          have hTZ' := (callsIn_wide (n := n - 1)).2 hTZ
          have hand : bits .and .u64 (z : Int) ((z : Int) - 1) = (z2 : Int) := by rw [show (z : Int) - 1 = ((z - 1 : Nat) : Int) by omega, bits_and_u64_nat z _ (by omega) (by omega), hz2]
          have hR2 := RoundIn.mono hR (R' := fun e W' => ∃ bb : Bool, e = Ending.returned (.bool bb) ∧ ((bb = true ∧ J (xs.take m2 ++ [x]) W' ∧ Kept B n₀ wr.drew W') ∨ (bb = false ∧ Jx (xs.take m2 ++ [x]) W'))) (by
            rintro e W' (⟨rfl, h1, h2⟩ | ⟨rfl, h1⟩)
            · exact ⟨true, rfl, .inl ⟨rfl, h1, h2⟩⟩
            · exact ⟨false, rfl, .inr ⟨rfl, h1⟩⟩)
          have hmx : Tryd.prog.follows .mixedOrders = true := by kernel_rfl
          clear hR
          gi_wp2
          gi_region_with_o (first | (refine ⟨trivial, ?_⟩; gi_at_call 63; refine hTZ'.mono ?_; rintro e w' ⟨rfl, rfl⟩) | (refine hR2.mono ?_; rintro e W3 ⟨bb, rfl, h3⟩))
          all_goals rcases h3 with ⟨rfl, hj3, hk3⟩ | ⟨rfl, hx3⟩
          all_goals gi_wp2
          all_goals first
            | (refine bodyPost_ret (results_none rfl _ _ _) rfl ?_
               exact ⟨⟨_, rfl⟩, .inr ⟨_, by rw [← htk]; exact List.take_prefix _ _, hx3⟩⟩)
            | (go_roundw
               case rel => exact ⟨z2, m2 + 1, rfl, by omega, hm4, hd4, by rw [htk]; exact hj3, fun i hi hB => (hk3 i hi hB).trans (hke2 i hi hB)⟩
               case measure => simp [intOf]; omega)
    · obtain rfl : k = ls.length := by omega
      have hd := HD.out
      rw [List.drop_length] at hd
      have hm3 : m = xs.length := by
        have := congrArg List.length hd
        simp [posAt] at this
        omega
      subst hm3
      have hJ := HJ.out
      rw [List.take_length] at hJ
      gi_wp2
      go_end0
      exact ⟨⟨_, rfl⟩, .inl ⟨_, rfl, hJ⟩⟩
end Go.Proofs.YtfgmdaemcaamiaaDoor

/-! Unpack's parts: the iterator over bytes as the law on loops wants it; numbers by a predicate on places; two results in cells. -/
namespace Go.Proofs.YtfgmdaemcaamiaaDoor
open Go.RowKit Go.Shelf
set_option linter.unusedVariables false
attribute [local go_sem] Oper.semAt_some

theorem ones_stops43 (n : Nat) (hn : 1 ≤ n) (Bl Bw B n₀ : Nat) (A : Option Addr) (cap w M : Nat) (ls : List UInt8) (xs : List (Fin M)) (hxs : xs.map Fin.val = posAt w 0 (ls.map UInt8.toNat)) (hw : w ≤ 64) (hlen : ls.length ≤ 40000) (hM : M ≤ 1000000)
    (w0 : World) (hn0 : n₀ ≤ w0.heap.size) (lBl : Bl < n₀) (lBw : Bw < n₀) (nBw : Bw ≠ B) (hBl : w0.cell? ⟨Bl, 0, none⟩ = some (.slice A ls.length cap)) (hBw : w0.cell? ⟨Bw, 0, none⟩ = some (.int .i64 (w : Int))) (hN : bytAt w0 B n₀ A ls) (hT : TabAt w0) (l2 : 0 < n₀) (n2 : 0 ≠ B) :
    SeqStopsK Fence.wide n Tryd.prog 104 #[.pointer (some ⟨Bl, 0, none⟩), .pointer (some ⟨Bw, 0, none⟩)] (fun x : Fin M => #[Value.int .i64 (x.val : Int)]) (Kept B n₀) (fun ys => ys = xs) (fun pre => pre <+: xs) xs.length w0 := fun l J Jx W hW hJ hJx hY h0 => by
  refine ones43 n hn l Bl Bw B n₀ A cap w M ls xs hxs hw hlen hM J Jx (fun pre W h => hJ pre W _ none h (grown_drew W) (fun r e => by cases e)) hY W ?_ ?_ lBw nBw ?_ ?_ l2 n2 h0
  · exact (hW.cell (p := ⟨Bl, 0, none⟩) (by show Bl < _; omega)).trans hBl
  · exact (hW.cell (p := ⟨Bw, 0, none⟩) (by show Bw < _; omega)).trans hBw
  · intro k hk
    obtain ⟨b, o, e, h1, h2, h3⟩ := hN k hk
    exact ⟨b, o, e, h1, h2, (hW.cell (p := ⟨b, o + k, none⟩) (by show b < _; omega)).trans h3⟩
  · exact hT.keep hW
theorem ones34 (n : Nat) (w : Nat) (A : Option Addr) (len cap : Nat) (W : World) : CallsIn Fence.wide n Tryd.prog 88 #[.int .i64 (w : Int), .slice A len cap] W fun e W' =>
    e = .returned (.func (.func 104) #[] #[.pointer (some ⟨W.heap.size + 1, 0, none⟩), .pointer (some ⟨W.heap.size, 0, none⟩)]) ∧ W' = (W.alloc (.cells #[.int .i64 (w : Int)] 3)).alloc (.cells #[.slice A len cap] 24) := by
  refine callsIn_of_wp Tryd.func88 rfl trivial ?_ rfl
  simp only [Tryd.ntmps88, List.size_toArray, List.length_cons, List.length_nil, Nat.reduceAdd, Nat.reduceSub, Array.replicate_succ, Array.replicate_zero, List.push_toArray, List.append_toArray, List.nil_append, List.cons_append]
  gi_wp2
  go_ret
  exact ⟨rfl, rfl⟩

/-- The i-th number of w bits, by the places of its bits. -/
def nuP (w : Nat) (P : Nat → Bool) (i : Nat) : W64 := BitVec.ofNat 64 (numOf w fun k => P (i * w + k))
theorem nuP_nat {w : Nat} (hw : w ≤ 64) (P : Nat → Bool) (i : Nat) : (nuP w P i).toNat = numOf w fun k => P (i * w + k) := by
  unfold nuP
  rw [BitVec.toNat_ofNat]
  exact Nat.mod_eq_of_lt (Nat.lt_of_lt_of_le (numOf_lt _ w) (Nat.pow_le_pow_right (by decide) hw))
theorem nuP_congr {w : Nat} {P R : Nat → Bool} {i : Nat} (h : ∀ k < w, P (i * w + k) = R (i * w + k)) : nuP w P i = nuP w R i := by
  unfold nuP
  rw [numOf_congr h]
def unL (w n : Nat) (P : Nat → Bool) : List W64 := (List.range n).map (nuP w P)
theorem unL_len (w n : Nat) (P : Nat → Bool) : (unL w n P).length = n := by simp [unL]
theorem unL_get {w n : Nat} (P : Nat → Bool) {j : Nat} (hj : j < n) : (unL w n P).getD j 0 = nuP w P j := by simp [unL, List.getD, hj]
theorem unL_none (w n : Nat) : unL w n (fun _ => false) = List.replicate n 0 := by
  have h : ∀ m, numOf m (fun _ => false) = 0 := by
    intro m
    induction m with
    | zero => rfl
    | succ m ih => simp [numOf, ih]
  apply List.ext_getElem
  · simp [unL]
  · intro i h1 h2
    simp [unL, nuP, h]
theorem unL_set {w n : Nat} (hw : w ≤ 64) (P : Nat → Bool) {j r : Nat} (hj : j < n) (hr : r < w) : (unL w n P).set j (nuP w P j ||| BitVec.ofNat 64 (2 ^ r)) = unL w n (fun i => P i || i == j * w + r) := by
  have h2 : 2 ^ r < 2 ^ w := Nat.pow_lt_pow_right (by decide) hr
  have h3 : 2 ^ r < 2 ^ 64 := Nat.lt_of_lt_of_le h2 (Nat.pow_le_pow_right (by decide) hw)
  apply List.ext_getElem?
  intro i
  rw [List.getElem?_set]
  simp only [unL, List.length_map, List.length_range, List.getElem?_map]
  by_cases hi : i < n
  · rw [List.getElem?_range hi]
    simp only [Option.map_some]
    by_cases e : j = i
    · subst e
      rw [if_pos rfl, if_pos hj]
      congr 1
      apply BitVec.eq_of_toNat_eq
      rw [BitVec.toNat_or, nuP_nat hw, nuP_nat hw, BitVec.toNat_ofNat, Nat.mod_eq_of_lt h3]
      symm
      refine numOf_eq (Nat.or_lt_two_pow (numOf_lt _ w) h2) fun t ht => ?_
      rw [Nat.testBit_or, numOf_bit, Nat.testBit_two_pow]
      have : (j * w + t == j * w + r) = decide (r = t) := by
        by_cases e : r = t
        · subst e; simp
        · simp [e]; omega
      simp [ht, this]
    · rw [if_neg e]
      congr 1
      refine nuP_congr fun t ht => ?_
      have : (i * w + t == j * w + r) = false := by
        rw [beq_eq_false_iff_ne]
        intro h
        have e1 : (i * w + t) / w = i := by rw [Nat.add_comm, Nat.add_mul_div_right _ _ (by omega), Nat.div_eq_of_lt ht, Nat.zero_add]
        have e2 : (j * w + r) / w = j := by rw [Nat.add_comm, Nat.add_mul_div_right _ _ (by omega), Nat.div_eq_of_lt hr, Nat.zero_add]
        rw [h, e2] at e1
        exact e e1
      simp [this]
  · rw [List.getElem?_eq_none (by simp; omega), if_neg (by omega)]
    rfl
end Go.Proofs.YtfgmdaemcaamiaaDoor

/-! Bytes and numbers one to one: the plain part of Unpack. -/
namespace Go.Proofs.YtfgmdaemcaamiaaDoor
open Go.RowKit
set_option linter.unusedVariables false

/-- Which bits bytes hold. -/
def bitsB (b : List UInt8) (i : Nat) : Bool := decide (i ∈ posAt 8 0 (b.map UInt8.toNat))
theorem bitsB_eq (b : List UInt8) (i : Nat) : bitsB b i = (decide (i < 8 * b.length) && (b.getD (i / 8) 0).toNat.testBit (i % 8)) := by
  have hm := mem_posAt 8 (b.map UInt8.toNat) 0 (by intro x hx; obtain ⟨y, _, rfl⟩ := List.mem_map.1 hx; have := y.toNat_lt; omega) i
  unfold bitsB
  rw [Bool.eq_iff_iff, decide_eq_true_iff, hm, Bool.and_eq_true, decide_eq_true_iff]
  constructor
  · rintro ⟨k, hk, j, hj, rfl⟩
    simp only [List.length_map] at hk
    simp only [List.getElem_map] at hj
    have hjw : j < 8 := by
      apply Nat.lt_of_not_le
      intro h
      rw [Nat.testBit_lt_two_pow (Nat.lt_of_lt_of_le (b[k]).toNat_lt (Nat.pow_le_pow_right (n := 2) (by decide) h))] at hj
      cases hj
    rw [show ((0 + k) * 8 + j) / 8 = k by omega, show ((0 + k) * 8 + j) % 8 = j by omega]
    refine ⟨by omega, ?_⟩
    simp only [List.getD, List.getElem?_eq_getElem hk, Option.getD_some]
    exact hj
  · rintro ⟨hi, hb⟩
    have hk : i / 8 < b.length := by omega
    refine ⟨i / 8, by simpa using hk, i % 8, ?_, by omega⟩
    simp only [List.getElem_map]
    simp only [List.getD, List.getElem?_eq_getElem hk, Option.getD_some] at hb
    exact hb
theorem posB_lt (b : List UInt8) : ∀ p ∈ posAt 8 0 (b.map UInt8.toNat), p < 8 * b.length := by
  intro p hp
  have h : bitsB b p = true := decide_eq_true hp
  rw [bitsB_eq, Bool.and_eq_true, decide_eq_true_iff] at h
  exact h.1
theorem packL_bitsB (b : List UInt8) : packL b.length (bitsB b) = b := by
  apply List.ext_getElem
  · simp [packL]
  · intro i h1 h2
    apply UInt8.toNat_inj.1
    simp only [packL, List.getElem_map, List.getElem_range]
    rw [byP_nat]
    refine numOf_eq (b[i]).toNat_lt fun t ht => ?_
    rw [bitsB_eq, show (8 * i + t) / 8 = i by omega, show (8 * i + t) % 8 = t by omega, decide_eq_true (show 8 * i + t < 8 * b.length by omega)]
    simp [List.getD, h2]
theorem bitsB_packL (n : Nat) (P : Nat → Bool) (i : Nat) : bitsB (packL n P) i = (decide (i < 8 * n) && P i) := by
  rw [bitsB_eq, packL_len]
  by_cases h : i < 8 * n
  · rw [packL_get P (show i / 8 < n by omega), byP_nat, numOf_bit, decide_eq_true (show i % 8 < 8 by omega), show 8 * (i / 8) + i % 8 = i by omega]
    simp
  · simp [h]
theorem width_unL {w : Nat} (hw : w ≤ 64) (n : Nat) (P : Nat → Bool) : widL (unL w n P) ≤ w := by
  rw [of_width hw]
  intro k hk
  simp only [unL, List.getElem_map, List.getElem_range]
  rw [nuP_nat hw]
  exact numOf_lt _ _
theorem bitsP_unL {w : Nat} (hw : w ≤ 64) (n : Nat) (P : Nat → Bool) (i : Nat) : bitsP w (unL w n P) i = (decide (i < n * w) && P i) := by
  rw [bitsP_eq ((of_width hw).1 (width_unL hw n P)), unL_len]
  by_cases h : i < n * w
  · have h0 : 0 < w := by
      apply Nat.pos_of_ne_zero
      intro e; subst e; simp at h
    have hk : i / w < n := (Nat.div_lt_iff_lt_mul h0).2 h
    rw [unL_get P hk, nuP_nat hw, numOf_bit, decide_eq_true (Nat.mod_lt i h0), Nat.mul_comm (i / w) w, Nat.div_add_mod]
    simp
  · simp [h]
theorem un_pack {w : Nat} {l : List W64} (hw : w ≤ 64) (h : widL l ≤ w) : unL w l.length (bitsP w l) = l := by
  apply List.ext_getElem
  · simp [unL]
  · intro i h1 h2
    apply BitVec.eq_of_toNat_eq
    simp only [unL, List.getElem_map, List.getElem_range]
    rw [nuP_nat hw]
    refine numOf_eq ((of_width hw).1 h i h2) fun t ht => ?_
    have hi : i * w + t < l.length * w := by
      have : (i + 1) * w ≤ l.length * w := Nat.mul_le_mul_right w h2
      rw [Nat.add_mul] at this
      omega
    rw [bitsP_eq ((of_width hw).1 h), decide_eq_true hi, Nat.add_comm, Nat.add_mul_div_right _ _ (by omega), Nat.div_eq_of_lt ht, Nat.zero_add, Nat.add_mul_mod_self_right, Nat.mod_eq_of_lt ht]
    simp [List.getD, h2]
theorem unL_congr {w n : Nat} {P R : Nat → Bool} (h : ∀ i < n * w, P i = R i) : unL w n P = unL w n R := by
  apply List.map_congr_left
  intro j hj
  refine nuP_congr fun t ht => h _ ?_
  have hj' : j < n := by simpa using hj
  have : (j + 1) * w ≤ n * w := Nat.mul_le_mul_right w hj'
  rw [Nat.add_mul] at this
  omega
/-- Bytes whose bits all lie ahead of a place. -/
def fitB (M : Nat) (b : List UInt8) : Bool := (posAt 8 0 (b.map UInt8.toNat)).all fun p => decide (p < M)
theorem fitB_iff (M : Nat) (b : List UInt8) : fitB M b = true ↔ ∀ i, bitsB b i = true → i < M := by
  unfold fitB bitsB
  rw [List.all_eq_true]
  constructor
  · intro h i hi
    exact of_decide_eq_true (h i (of_decide_eq_true hi))
  · intro h p hp
    exact decide_eq_true (h p (decide_eq_true hp))
/-- Packed again they are the bytes, just if all bits lie ahead. -/
theorem again_iff {w n : Nat} {b : List UInt8} (hw : w ≤ 64) (hb : b.length = (n * w + 7) / 8) : packL b.length (bitsP w (unL w n (bitsB b))) = b ↔ fitB (n * w) b = true := by
  rw [fitB_iff]
  constructor
  · intro h i hi
    have e := congrArg (fun l => bitsB l i) h
    simp only [bitsB_packL, bitsP_unL hw, hi] at e
    simp at e
    exact e.2
  · intro h
    conv => rhs; rw [← packL_bitsB b]
    apply packL_congr
    intro i _
    rw [bitsP_unL hw]
    by_cases hi : i < n * w
    · simp [hi]
    · have : bitsB b i = false := by
        rw [← Bool.not_eq_true]
        exact fun e => hi (h i e)
      simp [this]
theorem fit_packL {w : Nat} {l : List W64} (hw : w ≤ 64) (h : widL l ≤ w) : fitB (l.length * w) (packL ((l.length * w + 7) / 8) (bitsP w l)) = true := by
  rw [fitB_iff]
  intro i hi
  rw [bitsB_packL, bitsP_eq ((of_width hw).1 h)] at hi
  simp at hi
  exact hi.2.1
theorem un_packL {w : Nat} {l : List W64} (hw : w ≤ 64) (h : widL l ≤ w) : unL w l.length (bitsB (packL ((l.length * w + 7) / 8) (bitsP w l))) = l := by
  conv => rhs; rw [← un_pack hw h]
  apply unL_congr
  intro i hi
  rw [bitsB_packL, decide_eq_true (show i < 8 * ((l.length * w + 7) / 8) by omega)]
  simp
end Go.Proofs.YtfgmdaemcaamiaaDoor

/-! The walk of pack.Unpack (20) where it answers with an error at once. -/
namespace Go.Proofs.YtfgmdaemcaamiaaDoor
open Go.RowKit
set_option linter.unusedVariables false

theorem results_cell2 {fn : Func} {p q : Tmp} {t u : TypeId} (h : fn.results = #[.cell p t, .cell q u]) (tmps : Array Value) (P : Program) (w : World) :
    (results fn tmps).run P w =
      ((asAddr (tmps.getD p undef)).run P w).andThen fun a w₁ => ((loadVar t a).run P w₁).andThen fun v w₂ => ((asAddr (tmps.getD q undef)).run P w₂).andThen fun b w₃ => ((loadVar u b).run P w₃).andThen fun e w₄ => .ok (.tuple #[v, e]) w₄ := by
  simp only [results, h]
  simp [Sem.run_bind, Result.andThen]
set_option maxRecDepth 100000 in
set_option maxHeartbeats 2000000 in
theorem unpack_bad (n w : Int) (A : Option Addr) (cap : Nat) (b : List UInt8) (W : World) (hbad : ¬ (0 ≤ n ∧ n ≤ 4096 ∧ 0 ≤ w ∧ w ≤ 64)) :
    Calls Tryd.prog 57 #[.slice A b.length cap, .int .i64 n, .int .i64 w] W fun e W' => e = .returned (.tuple #[.slice none 0 0, .int .i64 2]) ∧ Below W.heap.size W W' := by
  have hsz := fun W => size_any n w W
  rw [sizeR_bad hbad] at hsz
  clear hbad
  go_enter Tryd.func57, Tryd.ntmps57
  go_wp2_with (go_at_call 37; refine (hsz _).mono ?_; rintro e w1 ⟨rfl, rfl⟩)
  refine bodyPost_ret (v := .tuple #[.slice none 0 0, .int .i64 2]) ?_ rfl ?_
  · rw [results_cell2 rfl]
    go_simp
  · exact ⟨rfl, ((((Below.refl _ _).alloc (Nat.le_refl _) _).alloc (by simp) _).alloc (by simp; omega) _).alloc (by simp; omega) _⟩
set_option maxRecDepth 100000 in
set_option maxHeartbeats 2000000 in
theorem unpack_len (n w : Nat) (A : Option Addr) (cap : Nat) (b : List UInt8) (W : World) (hn : n ≤ 4096) (hw : w ≤ 64) (hlen : b.length ≠ (n * w + 7) / 8) :
    Calls Tryd.prog 57 #[.slice A b.length cap, .int .i64 (n : Int), .int .i64 (w : Int)] W fun e W' => e = .returned (.tuple #[.slice none 0 0, .int .i64 10]) ∧ Below W.heap.size W W' := by
  have hsz := fun W => size_any (n : Int) (w : Int) W
  rw [sizeR_good (by omega)] at hsz
  obtain ⟨sz, hs⟩ : ∃ sz, (n * w + 7) / 8 = sz := ⟨_, rfl⟩
  rw [show ((n : Int) * (w : Int) + 7) / 8 = (sz : Int) by rw [← hs]; simp] at hsz
  rw [hs] at hlen
  have hne : ¬ (b.length : Int) = (sz : Int) := by omega
  clear hs hlen
  go_enter Tryd.func57, Tryd.ntmps57
  go_wp2_with (go_at_call 37; refine (hsz _).mono ?_; rintro e w1 ⟨rfl, rfl⟩)
  all_goals first | (exfalso; omega) | skip
  refine bodyPost_ret (v := .tuple #[.slice none 0 0, .int .i64 10]) ?_ rfl ?_
  · rw [results_cell2 rfl]
    go_simp
  · exact ⟨rfl, ((((Below.refl _ _).alloc (Nat.le_refl _) _).alloc (by simp) _).alloc (by simp; omega) _).alloc (by simp; omega) _⟩
end Go.Proofs.YtfgmdaemcaamiaaDoor

/-! The walk of the document's Pack (19). -/
namespace Go.Proofs.YtfgmdaemcaamiaaDoor
open Go.RowKit
set_option linter.unusedVariables false

theorem mk_pl {ops : Array Oper} {rest : List Oper} {o : Oper} {a : Act} {Q : Exit → Act → World → Prop} {w : World} (hgd : o.guard = none) (l c : Operand)
    (hop : o.op = Op.makeSlice 24 l c) (k : Nat) (hl : a.eval l = .int .i64 (k : Int)) (hc : a.eval c = .int .i64 (k : Int)) (hsz : k ≤ 281474976710656)
    (h : wpList Tryd.prog ops Q rest (a.put o.dst (.slice (some ⟨w.heap.size, 0, none⟩) k k)) (w.alloc (.cells (u8s (List.replicate k 0)).toArray 5))) : wpList Tryd.prog ops Q (o :: rest) a w := by
  obtain ⟨i0, hti, hz0, hz1, hz2⟩ := info_parts Tryd.info5
  have hr := run_make (P := Tryd.prog) w 24 5 i0 (.int .u8 0) Tryd.underlying24 hti hz0 .i64 .i64 k k (by omega) (by omega) (by rw [hz2]; omega) (by omega)
  simp only [Int.toNat_natCast] at hr
  rw [hz1, Nat.mul_one, made_u8s] at hr
  refine wpList_plain hgd fun K hK' => ?_
  unfold Oper.wp
  simp [execOp, hop, hl, hc, hr, Result.andThen]
  exact hK' _ _ h
def bitG (w : Nat) (ls : List W64) (p : Nat) : Bool := (ls.getD (p / w) 0).toNat.testBit (p % w)
theorem bitG_at {w : Nat} {ls : List W64} {i k : Nat} (hi : i < ls.length) (hk : k < w) : bitG w ls (i * w + k) = decide ((ls[i]).toNat / 2 ^ k % 2 = 1) := by
  unfold bitG
  have e1 : (i * w + k) / w = i := by rw [Nat.add_comm, Nat.add_mul_div_right _ _ (by omega), Nat.div_eq_of_lt hk, Nat.zero_add]
  have e2 : (i * w + k) % w = k := by rw [Nat.add_comm, Nat.add_mul_mod_self_right, Nat.mod_eq_of_lt hk]
  rw [e1, e2, Nat.testBit_eq_decide_div_mod_eq]
  simp only [List.getD, List.getElem?_eq_getElem hi, Option.getD_some]
def upP (w : Nat) (ls : List W64) (at' : Nat) (p : Nat) : Bool := decide (p < at') && bitG w ls p
theorem upP_no {w : Nat} {ls : List W64} {p : Nat} (h : bitG w ls p = false) : upP w ls (p + 1) = upP w ls p := by
  funext i
  unfold upP
  by_cases e : i = p
  · subst e; simp [h]
  · have : (i < p + 1) ↔ (i < p) := by omega
    simp [this]
theorem upP_yes {w : Nat} {ls : List W64} {p : Nat} (h : bitG w ls p = true) : (fun i => upP w ls p i || i == p) = upP w ls (p + 1) := by
  funext i
  unfold upP
  by_cases e : i = p
  · subst e; simp [h]
  · have : (i < p + 1) ↔ (i < p) := by omega
    simp [this, e]

set_option maxRecDepth 100000 in
set_option maxHeartbeats 2000000 in
theorem refpack_bad (w : Int) (A : Option Addr) (cap : Nat) (ls : List W64) (W : World) (hbad : ¬ (0 ≤ w ∧ w ≤ 64 ∧ ls.length ≤ 4096)) :
    Calls Tryd.prog 26 #[.int .i64 w, .slice A ls.length cap] W fun e W' => e = .returned (.tuple #[.slice none 0 0, .int .i64 2]) ∧ W' = W := by
  have hsz := refsize_any (ls.length : Int) w W
  rw [sizeR_bad (by omega)] at hsz
  clear hbad
  go_enter Tryd.func26, Tryd.ntmps26
  go_wp2_with (go_at_call 45; refine hsz.mono ?_; rintro e w1 ⟨rfl, rfl⟩)
  go_ret2
  exact ⟨rfl, rfl⟩

set_option maxRecDepth 100000 in
set_option maxHeartbeats 4000000 in
theorem refpack_any (w : Nat) (A : Option Addr) (cap : Nat) (ls : List W64) (W : World) (hl : Num W A ls) (hw : w ≤ 64) (hlen : ls.length ≤ 4096) :
    Calls Tryd.prog 26 #[.int .i64 (w : Int), .slice A ls.length cap] W fun e W' =>
      (widL ls ≤ w ∧ e = .returned (.tuple #[.slice (some ⟨W.heap.size, 0, none⟩) ((ls.length * w + 7) / 8) ((ls.length * w + 7) / 8), .int .i64 0]) ∧ Blk W' W.heap.size 5 (u8s (packL ((ls.length * w + 7) / 8) (bitsP w ls))) ∧ Below W.heap.size W W') ∨
      (w < widL ls ∧ e = .returned (.tuple #[.slice none 0 0, .int .i64 2]) ∧ Below W.heap.size W W') := by
  obtain ⟨N, hN⟩ : ∃ N, W.heap.size = N := ⟨_, rfl⟩
  rw [hN]
  obtain ⟨M, hM⟩ : ∃ M, ls.length * w = M := ⟨_, rfl⟩
  have hM1 : M ≤ 262144 := by
    rw [← hM]
    have := Nat.mul_le_mul hlen hw
    omega
  have hsize := refsize_any (ls.length : Int) (w : Int) W
  rw [sizeR_good (by omega)] at hsize
  rw [hM]
  obtain ⟨sz, hsz⟩ : ∃ sz, (M + 7) / 8 = sz := ⟨_, rfl⟩
  rw [show ((ls.length : Int) * (w : Int) + 7) / 8 = (sz : Int) by rw [← hsz, ← hM]; simp] at hsize
  rw [hsz]
  have hsz2 : M ≤ 8 * sz := by omega
  have hsz3 : sz ≤ 32768 := by omega
  have HSZ := Lib.hid hsize
  have HL := Lib.hid hl
  have HM := Lib.hid hM
  have HN := Lib.hid hN
  have hgoodw := of_width (l := ls) hw
  have HG := Lib.hid hgoodw
  clear hsize hl hM hsz hgoodw
  go_enter Tryd.func26, Tryd.ntmps26
  go_wp2_with (first | (go_at_call 45; refine HSZ.out.mono ?_; rintro e w1 ⟨rfl, rfl⟩) | (refine mk_pl rfl _ _ rfl sz rfl rfl (by omega) ?_))
  obtain ⟨W1, hW1⟩ : ∃ x, x = w1.alloc (.cells (u8s (List.replicate sz 0)).toArray 5) := ⟨_, rfl⟩
  rw [← hW1]
  have b0 : Blk W1 N 5 (u8s (packL sz (upP w ls 0))) := by
    have e : upP w ls 0 = fun _ => false := by funext i; simp [upP]
    rw [hW1, e, packL_none, ← HN.out]
    exact Blk.born w1 5 _
  have bel : Below N w1 W1 := by rw [hW1]; exact (Below.refl _ _).alloc (by rw [HN.out]; omega) _
  clear hW1
  go_loopw [9] (fun i wr => ∃ k : Nat, k ≤ ls.length ∧ i = .int .i64 k ∧ (∀ j (h : j < ls.length), j < k → (ls[j]).toNat < 2 ^ w) ∧ Blk wr N 5 (u8s (packL sz (upP w ls (k * w)))) ∧ Below N w1 wr) (fun i _ => ls.length - (intOf i).toNat)
  case atStart => exact ⟨0, by omega, rfl, fun j _ h => by omega, by rw [Nat.zero_mul]; exact b0, bel⟩
  case round =>
    obtain ⟨k, hk, rfl, hof, hblk, hbel⟩ := hrel
    have HOF := Lib.hid hof
    have HBLK := Lib.hid hblk
    have HBEL := Lib.hid hbel
    clear hof hblk hbel
    by_cases hlt : k < ls.length
    · obtain ⟨b, o, rfl, hc⟩ := HL.out k hlt
      have hcx := (HBEL.out.cell (p := ⟨b, o + k, none⟩) (by have := World.block_lt_of_cell? w1 _ hc; rw [HN.out] at this; exact this)).trans hc
      have hbg := fun m (hm : m < w) => bitG_at (w := w) (ls := ls) hlt hm
      have hof1 := of_any (ls[k]) w (by omega) wr
      have HW2 := Lib.hid (fun (h : widL ls ≤ w) => HG.out.1 h k hlt)
      have HNX : Hid ((ls[k]).toNat < 2 ^ w → ∀ j (h : j < ls.length), j < k + 1 → (ls[j]).toNat < 2 ^ w) := fun hx j h hj => by
        by_cases e : j = k
        · subst e; exact hx
        · exact HOF.out j h (by omega)
      have hx := (ls[k]).isLt
      generalize (ls[k]).toNat = y at hcx hbg hof1 hx HW2 HNX
      have HBG := Lib.hid hbg
      clear hbg hc
      by_cases hyw : y < 2 ^ w
      · rw [decide_eq_true hyw] at hof1
        have HO := Lib.hid hof1
        have HYW := Lib.hid hyw
        clear hof1 hyw
        have HK : Hid (k < ls.length) := hlt
        go_wp2_with (go_at_call 46; refine HO.out.mono ?_; rintro e w2 ⟨rfl, rfl⟩)
        go_loopw [11, 12] (fun x kk wr => ∃ m z : Nat, m ≤ w ∧ kk = .int .i64 m ∧ x = .int .u64 (z : Int) ∧ z = y / 2 ^ m ∧ z ≤ y ∧ Blk wr N 5 (u8s (packL sz (upP w ls (k * w + m)))) ∧ Below N w1 wr) (fun _ kk _ => w - (intOf kk).toNat)
        case atStart => exact ⟨0, y, by omega, rfl, rfl, by simp, Nat.le_refl _, HBLK.out, HBEL.out⟩
        case round =>
          obtain ⟨m, z, hm, rfl, rfl, hz, hzy, hblk, hbel⟩ := hrel
          by_cases hmw : m < w
          · have hb := HBG.out m hmw
            rw [← hz] at hb
            have HZ := Lib.hid hz
            have HM2 : Hid (m < w) := hmw
            obtain ⟨q, hq⟩ : ∃ q, k * w = q := ⟨_, rfl⟩
            have eq1 : (k : Int) * (w : Int) = (q : Int) := by rw [← hq]; simp
            have hqM : q + w ≤ M := by
              have h1 : (k + 1) * w ≤ ls.length * w := Nat.mul_le_mul_right w HK.out
              rw [HM.out, Nat.add_mul, Nat.one_mul, hq] at h1
              exact h1
            rw [hq] at hb hblk
            have HQ := Lib.hid hq
            obtain ⟨p, hp⟩ : ∃ p, q + m = p := ⟨_, rfl⟩
            have eq2 : (q : Int) + (m : Int) = (p : Int) := by rw [← hp]; simp
            rw [hp] at hb hblk
            have hp1 : p < M := by omega
            have HP := Lib.hid hp
            have hwq : IntKind.i64.wrap (q : Int) = (q : Int) := wrap_i64_of (by omega) (by omega)
            have hwp : IntKind.i64.wrap (p : Int) = (p : Int) := wrap_i64_of (by omega) (by omega)
            obtain ⟨z2, hz2⟩ : ∃ z2, z / 2 = z2 := ⟨_, rfl⟩
            have e2 : (z : Int) / 2 = (z2 : Int) := by omega
            have hz2y : z2 ≤ y := by omega
            have HZ2 := Lib.hid hz2
            have HZ3 : Hid (z2 = y / 2 ^ (m + 1)) := by show z2 = y / 2 ^ (m + 1); rw [← HZ2.out, HZ.out, Nat.div_div_eq_div_mul, Nat.pow_succ]
            have HBEL2 := Lib.hid hbel
            clear hz hq hp hz2 hbel
            by_cases hbit : z % 2 = 1
            · rw [decide_eq_true hbit] at hb
              have t1 : (z : Int) % 2 = 1 := by omega
              obtain ⟨j, hj⟩ : ∃ j, p / 8 = j := ⟨_, rfl⟩
              obtain ⟨r, hr⟩ : ∃ r, p % 8 = r := ⟨_, rfl⟩
              have hjs : j < sz := by omega
              have hr8 : r < 8 := by omega
              have hset := packL_set (n := sz) (upP w ls p) hjs hr8
              rw [show 8 * j + r = p by omega, upP_yes hb] at hset
              have hget := packL_get (n := sz) (upP w ls p) hjs
              have hpl := packL_len sz (upP w ls p)
              obtain ⟨sh, hsh⟩ : ∃ sh, UInt8.ofNat (2 ^ r) = sh := ⟨_, rfl⟩
              have h2r : 2 ^ r < 256 := by
                have := Nat.pow_lt_pow_right (a := 2) (by decide) hr8
                simpa using this
              have hshn : 2 ^ r = sh.toNat := by rw [← hsh, UInt8.toNat_ofNat']; exact (Nat.mod_eq_of_lt h2r).symm
              rw [hsh] at hset
              have hread := hblk.at_ j
              rw [u8s_at (by rw [hpl]; exact hjs), hget] at hread
              have hfree := hblk.free j
              generalize byP (upP w ls p) j = by0 at hread hset
              have hor := bits_or8 by0 sh
              have hshw : IntKind.u8.wrap ((2 : Int) ^ r) = (sh.toNat : Int) := by
                have e : ((2 : Int) ^ r) = ((2 ^ r : Nat) : Int) := by simp
                rw [e, hshn]
                have := sh.toNat_lt
                simp [IntKind.wrap, IntKind.signed, IntKind.bits]
                omega
              have hst := hblk.store j (.int .u8 ((by0 ||| sh).toNat : Int))
              rw [u8s_set, hset, UInt8.toNat_or] at hst
              have HST := Lib.hid hst
              have d0 : (0 : Int) ≤ (p : Int) := by omega
              have d1 : (p : Int) / 8 = (j : Int) := by omega
              have d2 : (p : Int) % 8 = (r : Int) := by omega
              have d3 : (p : Int).tmod 8 = (r : Int) := by rw [Int.tmod_eq_emod_of_nonneg d0]; omega
              have hwj : IntKind.i64.wrap (j : Int) = (j : Int) := wrap_i64_of (by omega) (by omega)
              have j0 : (0 : Int) ≤ (j : Int) := by omega
              have j1 : (j : Int) < (sz : Int) := by omega
              have r0 : (0 : Int) ≤ (r : Int) := by omega
              have r1 : (r : Int) < 8 := by omega
              clear hst hset hget hpl hsh h2r hshn hj hr hblk hb hbit hjs hr8
              go_wp2
              go_region
              go_wp2
              go_roundw
              case rel => exact ⟨m + 1, z2, HM2.out, by go_num, rfl, HZ3.out, hz2y, by rw [HQ.out, show q + (m + 1) = p + 1 by rw [← HP.out]; omega]; exact HST.out, (HBEL2.out.setCell (p := ⟨N, j, none⟩) (Nat.le_refl _) _).drew⟩
              case measure => have := HM2.out; simp [intOf]; omega
            · rw [decide_eq_false hbit] at hb
              have t1 : (z : Int) % 2 = 0 := by omega
              have HNO := Lib.hid (upP_no hb)
              have HBLK2 := Lib.hid hblk
              clear hb hbit hblk
              go_wp2
              go_roundw
              case rel => exact ⟨m + 1, z2, HM2.out, by go_num, rfl, HZ3.out, hz2y, by rw [HQ.out, show q + (m + 1) = p + 1 by rw [← HP.out]; omega, HNO.out]; exact HBLK2.out, HBEL2.out⟩
              case measure => have := HM2.out; simp [intOf]; omega
          · obtain rfl : m = w := by omega
            have HBLK2 := Lib.hid hblk
            have HBEL2 := Lib.hid hbel
            clear hz hblk hbel
            go_wp2
            go_roundw
            case rel => exact ⟨k + 1, HK.out, by go_num, HNX.out HYW.out, by rw [Nat.add_mul, Nat.one_mul]; exact HBLK2.out, HBEL2.out⟩
            case measure => have := HK.out; simp [intOf]; omega
      · rw [decide_eq_false hyw] at hof1
        have HO := Lib.hid hof1
        have hbadw : w < widL ls := by
          apply Nat.lt_of_not_le
          intro h
          exact hyw (HW2.out h)
        have HBW := Lib.hid hbadw
        clear hof1 hyw hbadw
        go_wp2_with (go_at_call 46; refine HO.out.mono ?_; rintro e w2 ⟨rfl, rfl⟩)
        go_ret2
        exact .inr ⟨HBW.out, rfl, HBEL.out⟩
    · obtain rfl : k = ls.length := by omega
      have hwd : widL ls ≤ w := HG.out.2 fun j h => HOF.out j h h
      have hfin : packL sz (upP w ls (ls.length * w)) = packL sz (bitsP w ls) := by
        apply packL_congr
        intro i _
        rw [bitsP_eq (HG.out.1 hwd)]
        rfl
      rw [hfin] at HBLK
      have HWD := Lib.hid hwd
      clear hwd hfin
      go_wp2
      go_ret2
      exact .inl ⟨HWD.out, rfl, HBLK.out, HBEL.out⟩
end Go.Proofs.YtfgmdaemcaamiaaDoor

/-! The walk of stackyardlaw01.PackWords (4). -/
namespace Go.Proofs.YtfgmdaemcaamiaaDoor
open Go.RowKit
set_option linter.unusedVariables false

/-- What packing hands back: bytes, and whether. -/
def PackR (W : World) (bs : List UInt8) (er : Int) (e : Ending) (W' : World) : Prop :=
  ∃ A' c', e = .returned (.tuple #[.slice A' bs.length c', .int .i64 er]) ∧ Byt W' A' bs ∧ bs.length ≤ c' ∧ c' ≤ 32768 ∧ (A' = none → c' = 0) ∧ Below W.heap.size W W'
theorem packs_any (w : Int) (A : Option Addr) (cap : Nat) (ls : List W64) (W0 : World) (hl : Num W0 A ls) (hn : ls.length ≤ 4611686018427387904) (hT : TabAt W0) :
    ∃ bs er, (∀ W : World, Below W0.heap.size W0 W → Calls Tryd.prog 19 #[.int .i64 w, .slice A ls.length cap] W (PackR W bs er)) ∧ (∀ W : World, Below W0.heap.size W0 W → Calls Tryd.prog 26 #[.int .i64 w, .slice A ls.length cap] W (PackR W bs er)) := by
  by_cases hok : 0 ≤ w ∧ w ≤ 64 ∧ ls.length ≤ 4096
  · obtain ⟨v, rfl⟩ : ∃ v : Nat, w = (v : Int) := ⟨w.toNat, by omega⟩
    by_cases hwd : widL ls ≤ v
    · have hM : (ls.length * v + 7) / 8 ≤ 32768 := by
        have := Nat.mul_le_mul hok.2.2 (show v ≤ 64 by omega)
        omega
      refine ⟨packL ((ls.length * v + 7) / 8) (bitsP v ls), 0, fun W hb => ?_, fun W hb => ?_⟩
      · refine (pack_good v A cap ls W (hl.keep hb) (by omega) hok.2.2 hwd (hT.keep hb)).mono ?_
        rintro e W' ⟨rfl, h1, h2⟩
        exact ⟨_, _, by rw [packL_len], h1.byt, by rw [packL_len]; exact Nat.le_refl _, hM, by simp, h2⟩
      · refine (refpack_any v A cap ls W (hl.keep hb) (by omega) hok.2.2).mono ?_
        rintro e W' (⟨_, rfl, h1, h2⟩ | ⟨h, _⟩)
        · exact ⟨_, _, by rw [packL_len], h1.byt, by rw [packL_len]; exact Nat.le_refl _, hM, by simp, h2⟩
        · omega
    · refine ⟨[], 2, fun W hb => ?_, fun W hb => ?_⟩
      · refine (pack_bad v A cap ls W (hl.keep hb) hn (.inr (by omega))).mono ?_
        rintro e W' ⟨rfl, rfl⟩
        exact ⟨_, _, rfl, Byt.empty _ _, Nat.le_refl _, by omega, fun _ => rfl, Below.refl _ _⟩
      · refine (refpack_any v A cap ls W (hl.keep hb) (by omega) hok.2.2).mono ?_
        rintro e W' (⟨h, _⟩ | ⟨_, rfl, h2⟩)
        · omega
        · exact ⟨_, _, rfl, Byt.empty _ _, Nat.le_refl _, by omega, fun _ => rfl, h2⟩
  · refine ⟨[], 2, fun W hb => ?_, fun W hb => ?_⟩
    · refine (pack_bad w A cap ls W (hl.keep hb) hn (.inl hok)).mono ?_
      rintro e W' ⟨rfl, rfl⟩
      exact ⟨_, _, rfl, Byt.empty _ _, Nat.le_refl _, by omega, fun _ => rfl, Below.refl _ _⟩
    · refine (refpack_bad w A cap ls W hok).mono ?_
      rintro e W' ⟨rfl, rfl⟩
      exact ⟨_, _, rfl, Byt.empty _ _, Nat.le_refl _, by omega, fun _ => rfl, Below.refl _ _⟩

end Go.Proofs.YtfgmdaemcaamiaaDoor

/-! Rows of numbers of the call's own; the bytes of two lists, one behind the other. -/
namespace Go.Proofs.YtfgmdaemcaamiaaDoor
open Go.RowKit
set_option linter.unusedVariables false

def OwnN (w : World) (B : Nat) (v : Value) (l : List W64) : Prop := w.ownsRow B 43 1 v l.length (n64s l)
theorem n64s_app (l m : List W64) : n64s (l ++ m) = n64s l ++ n64s m := by simp [n64s]
theorem n64s_len (l : List W64) : (n64s l).length = l.length := by simp [n64s]
theorem n64s_one (l : List W64) : ∀ u ∈ n64s l, u.oneCell' = true := by
  intro u hu
  obtain ⟨c, _, rfl⟩ := List.mem_map.1 hu
  rfl
theorem info52 : (Tryd.prog.info? 43).map (fun i => (i.zero, i.size, i.bytes)) = some (some (.int .u64 0), 1, 8) := by kernel_rfl
theorem Num.nil {w : World} {l : List W64} (h : Num w none l) : l = [] := by
  cases l with
  | nil => rfl
  | cons a t => obtain ⟨b, o, e, _⟩ := h 0 (by simp); cases e
theorem Num.news {w : World} {ad : Addr} {l : List W64} (h : Num w (some ad) l) : ∀ j u, (n64s l)[j]? = some u → w.cell? (ad.add j) = some u := by
  intro j u hu
  have hj : j < l.length := by
    have := (List.getElem?_eq_some_iff.1 hu).1
    rwa [n64s_len] at this
  obtain ⟨b, o, e, hc⟩ := h j hj
  injection e with e
  subst e
  rw [Addr.add_lit, hc, ← hu]
  simp [n64s, hj]
theorem OwnN.form {w : World} {B : Nat} {v : Value} {l : List W64} (h : OwnN w B v l) : ∃ A c, v = .slice A l.length c ∧ Num w A l ∧ (A = none → c = 0) := by
  rcases h.2 with ⟨rfl, h0⟩ | ⟨g, cap, cur, rfl, hb, hg, hn, hm, hs, ht⟩
  · have : l = [] := List.length_eq_zero_iff.1 h0
    subst this
    exact ⟨none, 0, rfl, fun k hk => by simp at hk, fun _ => rfl⟩
  · refine ⟨some ⟨g, 0, none⟩, cap, rfl, ?_, by simp⟩
    intro k hk
    refine ⟨g, 0, rfl, ?_⟩
    have := World.ownsRow.cells h (g := g) rfl k (.int .u64 ((l[k]).toNat : Int)) (by simp [n64s, hk])
    rwa [Addr.add_lit] at this
theorem mk_num {ops : Array Oper} {rest : List Oper} {o : Oper} {a : Act} {Q : Exit → Act → World → Prop} {w : World} (w0 : World) (hgd : o.guard = none) (l c : Operand)
    (hop : o.op = Op.makeSlice 45 l c) (C : Int) (n : Nat) (hl : a.eval l = .int .i64 0) (hc : a.eval c = .int .i64 C) (hC : C = (n : Int)) (hsz : n ≤ 2814749767106) (hbel : Below w0.heap.size w0 w)
    (h : ∀ v w', OwnN w' w0.heap.size v [] → Below w0.heap.size w0 w' → wpList Tryd.prog ops Q rest (a.put o.dst v) w') : wpList Tryd.prog ops Q (o :: rest) a w := by
  obtain ⟨i0, hti, hz0, hz1, hz2⟩ := info_parts info52
  refine wpList_make_own w hgd l c 45 hop w0.heap.size 43 i0 (.int .u64 0) 1 Tryd.underlying45 hti hz0 hz1 .i64 .i64 C n hl hc hC (by rw [hz2]; omega) (by unfold maxLen; omega) hbel.size ?_
  intro w' h1 h2
  exact h _ w' h1 (hbel.grown h2 hbel.size (by simp))
theorem app_num {ops : Array Oper} {rest : List Oper} {o : Oper} {a : Act} {Q : Exit → Act → World → Prop} {w : World} (w0 : World) (hgd : o.guard = none) (s x : Operand)
    (ho : o.op = .call { callee := .builtin .append, args := #[s, x], argTypes := #[45, 45] }) (v : Value) (d : List W64) (hs : a.eval s = v) (hown : OwnN w w0.heap.size v d) (hbel : Below w0.heap.size w0 w)
    (A : Option Addr) (m c : Nat) (q : List W64) (hx : a.eval x = .slice A m c) (hm : m = q.length) (hq : Num w A q) (hn : A = none → c = 0) (hsz : d.length + q.length ≤ 17000000000000)
    (h : ∀ v' w', OwnN w' w0.heap.size v' (d ++ q) → Below w0.heap.size w0 w' → wpList Tryd.prog ops Q rest (a.put o.dst v') w') : wpList Tryd.prog ops Q (o :: rest) a w := by
  obtain ⟨i0, hti, hz0, hz1, hz2⟩ := info_parts info52
  subst hm
  cases A with
  | none =>
    obtain rfl := hq.nil
    obtain rfl := hn rfl
    refine wpList_append_own_none hgd s x 45 ho w0.heap.size 43 i0 1 Tryd.underlying45 hti v d.length (n64s d) hs hown hx (h v w ?_ hbel)
    rw [List.append_nil]; exact hown
  | some ad =>
    refine wpList_append_own w hgd s x 45 ho w0.heap.size 43 i0 (.int .u64 0) 1 8 Tryd.underlying45 hti hz0 hz1 hz2 rfl (by decide) v d.length (n64s d) hs hown ad q.length c (n64s q) hx (by rw [n64s_len]; omega) hq.news (n64s_one q) (by unfold maxLen; omega) (by omega) hbel.size ?_
    intro v' w' h1 h2 h5
    refine h v' w' ?_ (hbel.grown h2 hbel.size (fun k hk => (World.ownsRow.lt hown k hk).1))
    show w'.ownsRow w0.heap.size 43 1 v' (d ++ q).length (n64s (d ++ q))
    rw [List.length_append, n64s_app]; exact h1

theorem orL_app (a c : List W64) : orL (a ++ c) = orL a ||| orL c := by
  have key : ∀ (t : List W64) (x : W64), t.foldl (· ||| ·) x = x ||| orL t := by
    intro t
    induction t with
    | nil => intro x; simp [orL]
    | cons y t ih =>
      intro x
      have e : orL (y :: t) = (0 ||| y) ||| orL t := ih (0 ||| y)
      rw [e]
      show t.foldl (· ||| ·) (x ||| y) = _
      rw [ih (x ||| y)]
      simp [BitVec.or_assoc]
  unfold orL
  rw [List.foldl_append]
  exact key c _
theorem widL_app (a c : List W64) : widL (a ++ c) = max (widL a) (widL c) := by
  unfold widL
  rw [orL_app, bitLen_or]
theorem packL_add (m n : Nat) (P : Nat → Bool) : packL (m + n) P = packL m P ++ packL n (fun i => P (8 * m + i)) := by
  unfold packL
  rw [List.range_add, List.map_append, List.map_map]
  congr 1
  apply List.map_congr_left
  intro j _
  show byP P (m + j) = byP (fun i => P (8 * m + i)) j
  unfold byP
  congr 1
  apply numOf_congr
  intro t _
  show P (8 * (m + j) + t) = P (8 * m + (8 * j + t))
  congr 1
  omega
theorem size8 (n t : Nat) : (n * (8 * t) + 7) / 8 = n * t := by
  rw [show n * (8 * t) = 8 * (n * t) by rw [Nat.mul_left_comm]]
  omega
theorem packL_app {t : Nat} {a c : List W64} (ht : t ≤ 8) (ha : widL a ≤ 8 * t) (hc : widL c ≤ 8 * t) :
    packL (((a ++ c).length * (8 * t) + 7) / 8) (bitsP (8 * t) (a ++ c)) = packL ((a.length * (8 * t) + 7) / 8) (bitsP (8 * t) a) ++ packL ((c.length * (8 * t) + 7) / 8) (bitsP (8 * t) c) := by
  have hac : widL (a ++ c) ≤ 8 * t := by rw [widL_app]; omega
  have e1 := bitsP_eq ((of_width (by omega)).1 hac)
  have e2 := bitsP_eq ((of_width (by omega)).1 ha)
  have e3 := bitsP_eq ((of_width (by omega)).1 hc)
  rw [size8, size8, size8, List.length_append, Nat.add_mul, packL_add]
  have hm : ∀ n : Nat, 8 * (n * t) = n * (8 * t) := fun n => (Nat.mul_left_comm n 8 t).symm
  congr 1
  · apply packL_congr
    intro i hi
    rw [hm] at hi
    have ht0 : 0 < 8 * t := by
      apply Nat.pos_of_ne_zero
      intro h; rw [h, Nat.mul_zero] at hi; omega
    have hk : i / (8 * t) < a.length := (Nat.div_lt_iff_lt_mul ht0).2 hi
    have hi2 : i < (a ++ c).length * (8 * t) := by rw [List.length_append, Nat.add_mul]; omega
    rw [e1, e2, decide_eq_true hi, decide_eq_true hi2]
    simp only [List.getD, List.getElem?_append_left hk]
  · apply packL_congr
    intro i hi
    rw [hm] at hi
    have ht0 : 0 < 8 * t := by
      apply Nat.pos_of_ne_zero
      intro h; rw [h, Nat.mul_zero] at hi; omega
    rw [hm]
    have hi2 : a.length * (8 * t) + i < (a ++ c).length * (8 * t) := by rw [List.length_append, Nat.add_mul]; omega
    rw [e1, e3, decide_eq_true hi, decide_eq_true hi2]
    have q1 : (a.length * (8 * t) + i) / (8 * t) = a.length + i / (8 * t) := by
      rw [Nat.add_comm, Nat.add_mul_div_right _ _ ht0, Nat.add_comm]
    have q2 : (a.length * (8 * t) + i) % (8 * t) = i % (8 * t) := by
      rw [Nat.add_comm, Nat.add_mul_mod_self_right]
    rw [q1, q2]
    simp only [List.getD, List.getElem?_append_right (Nat.le_add_right _ _), Nat.add_sub_cancel_left]

def bsOf (v : Nat) (l : List W64) : List UInt8 := if widL l ≤ v then packL ((l.length * v + 7) / 8) (bitsP v l) else []
def erOf (v : Nat) (l : List W64) : Int := if widL l ≤ v then 0 else 2
theorem pk_any (v : Nat) (A : Option Addr) (cap : Nat) (ls : List W64) (W : World) (hl : Num W A ls) (hv : v ≤ 64) (hn : ls.length ≤ 4096) (hT : TabAt W) :
    Calls Tryd.prog 19 #[.int .i64 (v : Int), .slice A ls.length cap] W (PackR W (bsOf v ls) (erOf v ls)) := by
  by_cases hwd : widL ls ≤ v
  · have hM : (ls.length * v + 7) / 8 ≤ 32768 := by
      have := Nat.mul_le_mul hn hv
      omega
    have e1 : bsOf v ls = packL ((ls.length * v + 7) / 8) (bitsP v ls) := if_pos hwd
    have e2 : erOf v ls = 0 := if_pos hwd
    rw [e1, e2]
    refine (pack_good v A cap ls W hl hv hn hwd hT).mono ?_
    rintro e W' ⟨rfl, h1, h2⟩
    exact ⟨_, _, by rw [packL_len], h1.byt, by rw [packL_len]; exact Nat.le_refl _, hM, by simp, h2⟩
  · have e1 : bsOf v ls = [] := if_neg hwd
    have e2 : erOf v ls = 2 := if_neg hwd
    rw [e1, e2]
    refine (pack_bad v A cap ls W hl (by omega) (.inr (by omega))).mono ?_
    rintro e W' ⟨rfl, rfl⟩
    exact ⟨_, _, rfl, Byt.empty _ _, Nat.le_refl _, by omega, fun _ => rfl, Below.refl _ _⟩
end Go.Proofs.YtfgmdaemcaamiaaDoor

/-! The walk of pack.Unpack (20): bytes of the length that is asked for. -/
namespace Go.Proofs.YtfgmdaemcaamiaaDoor
open Go.RowKit Go.Shelf
set_option linter.unusedVariables false
attribute [local go_sem] Oper.semAt_some

theorem n64s_at {l : List W64} {k : Nat} (hk : k < l.length) : (n64s l)[k]? = some (.int .u64 ((l.getD k 0).toNat : Int)) := by simp [n64s, hk]
theorem n64s_set (l : List W64) (i : Nat) (x : W64) : (n64s l).set i (.int .u64 (x.toNat : Int)) = n64s (l.set i x) := by simp [n64s, List.map_set]
theorem made_n64 (k : Nat) : madeCells (Value.int .u64 0).cells k = (n64s (List.replicate k 0)).toArray := by
  apply Array.ext'
  apply List.ext_getElem
  · simp [madeCells, n64s]
  · intro i h1 h2
    have e1 : i % 1 = 0 := Nat.mod_one i
    simp [madeCells, n64s, Value.cells, e1]
theorem mk_in22 {F : Fence} {n : Nat} {ops : Array Oper} {rest : List Oper} {o : Oper} {a : Act} {Q : Exit → Act → World → Prop} {w : World} (hgd : o.guard = none) (l c : Operand)
    (hop : o.op = Op.makeSlice 45 l c) (k : Nat) (hl : a.eval l = .int .i64 (k : Int)) (hc : a.eval c = .int .i64 (k : Int)) (hsz : k ≤ 281474976710)
    (h : wpListIn F n Tryd.prog ops Q rest (a.put o.dst (.slice (some ⟨w.heap.size, 0, none⟩) k k)) (w.alloc (.cells (n64s (List.replicate k 0)).toArray 43))) : wpListIn F n Tryd.prog ops Q (o :: rest) a w := by
  obtain ⟨i0, hti, hz0, hz1, hz2⟩ := info_parts info52
  have hr := run_make (P := Tryd.prog) w 45 43 i0 (.int .u64 0) Tryd.underlying45 hti hz0 .i64 .i64 k k (by omega) (by omega) (by rw [hz2]; omega) (by omega)
  simp only [Int.toNat_natCast] at hr
  rw [hz1, Nat.mul_one, made_n64] at hr
  refine wpListIn_plain hgd fun K hK' => ?_
  unfold Oper.wpIn
  refine ⟨?_, ?_⟩
  · simp [Oper.about, hop]
  · rw [Oper.semAt_plain F _ _ (by rw [hop]; intro c hc'; cases hc')]
    simp [execOp, hop, hl, hc, hr, Result.andThen]
    exact hK' _ _ h

/-- Blocks that are made one behind the other. -/
def allocs : World → List Obj → World
  | w, [] => w
  | w, o :: t => allocs (w.alloc o) t
theorem allocs_size : ∀ (os : List Obj) (w : World), (allocs w os).heap.size = w.heap.size + os.length
  | [], w => rfl
  | o :: t, w => by rw [allocs, allocs_size t, World.size_alloc, List.length_cons]; omega
theorem allocs_below : ∀ (os : List Obj) (w w0 : World) (n : Nat), n ≤ w.heap.size → Below n w0 w → Below n w0 (allocs w os)
  | [], w, w0, n, _, h => h
  | o :: t, w, w0, n, hn, h => allocs_below t _ _ _ (by rw [World.size_alloc]; omega) (h.alloc hn o)
theorem allocs_blk : ∀ (os : List Obj) (w : World) (i : Nat) (t : TypeId) (cs : List Value), os[i]? = some (.cells cs.toArray t) → Blk (allocs w os) (w.heap.size + i) t cs
  | [], w, i, t, cs, h => by simp at h
  | o :: os, w, 0, t, cs, h => by
    obtain rfl : o = .cells cs.toArray t := by simpa using h
    exact (Blk.born w t cs).below (allocs_below os _ _ _ (Nat.le_refl _) (Below.refl _ _)) (by rw [World.size_alloc]; omega)
  | o :: os, w, i + 1, t, cs, h => by
    have := allocs_blk os (w.alloc o) i t cs (by simpa using h)
    rw [World.size_alloc] at this
    rw [show w.heap.size + (i + 1) = w.heap.size + 1 + i by omega]
    exact this

/-- What Unpack hands back for bytes of the right length. -/
def UnR (W : World) (n w : Nat) (b : List UInt8) (e : Ending) (W' : World) : Prop :=
  (fitB (n * w) b = true ∧ ∃ g, e = .returned (.tuple #[.slice (some ⟨g, 0, none⟩) n n, .int .i64 0]) ∧ W.heap.size ≤ g ∧ Blk W' g 43 (n64s (unL w n (bitsB b))) ∧ Below W.heap.size W W') ∨
  (fitB (n * w) b = false ∧ e = .returned (.tuple #[.slice none 0 0, .int .i64 10]) ∧ Below W.heap.size W W')

set_option maxRecDepth 100000 in
set_option maxHeartbeats 4000000 in
theorem unpack_good (n w : Nat) (A : Option Addr) (cap : Nat) (b : List UInt8) (W : World) (hb : Byt W A b) (hn : n ≤ 4096) (hw : w ≤ 64) (hlen : b.length = (n * w + 7) / 8) (hT : TabAt W) :
    Calls Tryd.prog 57 #[.slice A b.length cap, .int .i64 (n : Int), .int .i64 (w : Int)] W (UnR W n w b) := by
  unfold UnR
  obtain ⟨N, hN⟩ : ∃ N, W.heap.size = N := ⟨_, rfl⟩
  rw [hN]
  obtain ⟨M, hM⟩ : ∃ M, n * w = M := ⟨_, rfl⟩
  have hM1 : M ≤ 262144 := by
    rw [← hM]
    have := Nat.mul_le_mul hn hw
    omega
  obtain ⟨sz, hsz⟩ : ∃ sz, b.length = sz := ⟨_, rfl⟩
  obtain ⟨xs, hxs⟩ := lift_fin (8 * sz) (posAt 8 0 (b.map UInt8.toNat)) (by rw [← hsz]; exact posB_lt b)
  have hszM : sz = (M + 7) / 8 := by rw [← hM, ← hlen, hsz]
  rw [hM]
  have h2N : 0 < N := by have := World.block_lt_of_cell? W _ (hT 0 (by omega)); rw [← hN]; exact this
  have hbyt : bytAt W (N + 4) (N + 8) A b := by
    intro k hk
    obtain ⟨b, o, e, hc⟩ := hb k hk
    have := World.block_lt_of_cell? W _ hc
    have hbN : b < N := by rw [← hN]; exact this
    exact ⟨b, o, e, by omega, by omega, hc⟩
  have hsize : ∀ W : World, Calls Tryd.prog 37 #[.int .i64 (n : Int), .int .i64 (w : Int)] W fun e W' => e = .returned (.tuple #[.int .i64 (sz : Int), .int .i64 0]) ∧ W' = W := by
    intro W
    have h := size_any (n : Int) (w : Int) W
    rw [sizeR_good (by omega), show ((n : Int) * (w : Int) + 7) / 8 = (sz : Int) by rw [hszM, ← hM]; simp] at h
    exact h
  have HSZ : Hid (∀ W : World, CallsIn Fence.wide 9 Tryd.prog 37 #[.int .i64 (n : Int), .int .i64 (w : Int)] W fun e W' => e = .returned (.tuple #[.int .i64 (sz : Int), .int .i64 0]) ∧ W' = W) := fun W => callsIn_wide.2 (hsize W)
  have hsz2 : M ≤ 8 * sz := by omega
  have hsz3 : sz ≤ 32769 := by omega
  have HT := Lib.hid hT
  have HBYT := Lib.hid hbyt
  have HM := Lib.hid hM
  have HNN := Lib.hid hN
  have HBL := Lib.hid hsz
  have HSM := Lib.hid hszM
  have hfit := fitB_iff M b
  have HFIT := Lib.hid hfit
  rw [hsz]
  clear hsize hT hbyt hM hsz hb hlen hszM hfit
  refine (callsIn_wide (n := 10)).1 ?_
  refine callsIn_of_wp_marks Tryd.func57 rfl trivial ?_ rfl
  simp only [Tryd.ntmps57, List.size_toArray, List.length_cons, List.length_nil, Nat.reduceAdd, Nat.reduceSub, Array.replicate_succ, Array.replicate_zero, List.push_toArray, List.append_toArray, List.nil_append, List.cons_append]
  gi_wp2_with (first | (refine ⟨trivial, ?_⟩; gi_at_call 37; refine (HSZ.out _).mono ?_; rintro e w1 ⟨rfl, rfl⟩) | (gi_at_make; refine mk_in22 rfl _ _ rfl n rfl rfl (by omega) ?_) | (refine ⟨trivial, ?_⟩; gi_at_call 88; refine (ones34 9 8 A sz cap _).mono ?_; rintro e w2 ⟨rfl, rfl⟩))
  simp only [Nat.add_assoc, Nat.reduceAdd]
  obtain ⟨W4, hW4⟩ : ∃ x, x = allocs W [Obj.cells [Value.int IntKind.i64 (n : Int)].toArray 3, Obj.cells [Value.int IntKind.i64 (w : Int)].toArray 3, Obj.cells [Value.slice none 0 0].toArray 45, Obj.cells [Value.int IntKind.i64 0].toArray 25, Obj.cells (n64s (List.replicate n 0)).toArray 43, Obj.cells [Value.slice (some ⟨N + 4, 0, none⟩) n n].toArray 45, Obj.cells [Value.int IntKind.i64 8].toArray 3, Obj.cells [Value.slice A sz cap].toArray 24] := ⟨_, rfl⟩
  have hb0 : Blk W4 N 3 [Value.int IntKind.i64 (n : Int)] := by rw [hW4, ← HNN.out]; exact allocs_blk _ W 0 _ _ rfl
  have hb1 : Blk W4 (N + 1) 3 [Value.int IntKind.i64 (w : Int)] := by rw [hW4, ← HNN.out]; exact allocs_blk _ W 1 _ _ rfl
  have hb2 : Blk W4 (N + 2) 45 [Value.slice none 0 0] := by rw [hW4, ← HNN.out]; exact allocs_blk _ W 2 _ _ rfl
  have hb3 : Blk W4 (N + 3) 25 [Value.int IntKind.i64 0] := by rw [hW4, ← HNN.out]; exact allocs_blk _ W 3 _ _ rfl
  have hb4 : Blk W4 (N + 4) 43 (n64s (unL w n (fun _ => false))) := by rw [hW4, ← HNN.out, unL_none]; exact allocs_blk _ W 4 _ _ rfl
  have hb5 : Blk W4 (N + 5) 45 [Value.slice (some ⟨N + 4, 0, none⟩) n n] := by rw [hW4, ← HNN.out]; exact allocs_blk _ W 5 _ _ rfl
  have hb6 : Blk W4 (N + 6) 3 [Value.int IntKind.i64 8] := by rw [hW4, ← HNN.out]; exact allocs_blk _ W 6 _ _ rfl
  have hb7 : Blk W4 (N + 7) 24 [Value.slice A sz cap] := by rw [hW4, ← HNN.out]; exact allocs_blk _ W 7 _ _ rfl
  have bel : Below N W W4 := by rw [hW4]; exact allocs_below _ W W N (by rw [HNN.out]; omega) (Below.refl _ _)
  have s4 : W4.heap.size = N + 8 := by rw [hW4, allocs_size, HNN.out]; rfl
  have hbl := HBL.out
  change Code.wpIn Fence.wide 10 Tryd.prog _ _ _ (allocs W [Obj.cells [Value.int IntKind.i64 (n : Int)].toArray 3, Obj.cells [Value.int IntKind.i64 (w : Int)].toArray 3, Obj.cells [Value.slice none 0 0].toArray 45, Obj.cells [Value.int IntKind.i64 0].toArray 25, Obj.cells (n64s (List.replicate n 0)).toArray 43, Obj.cells [Value.slice (some ⟨N + 4, 0, none⟩) n n].toArray 45, Obj.cells [Value.int IntKind.i64 8].toArray 3, Obj.cells [Value.slice A sz cap].toArray 24])
  rw [← hW4]
  clear hW4
  refine wpIn_rangeFunc_ownF rfl (by omega) (gf := 104) (lb := #[.pointer (some ⟨N + 7, 0, none⟩), .pointer (some ⟨N + 6, 0, none⟩)]) rfl trivial (enters_of Tryd.func104 (by kernel_rfl) rfl)
    (ones_stops43 9 (by omega) (N + 7) (N + 6) (N + 4) (N + 8) A cap 8 (8 * sz) b xs hxs (by omega) (by omega) (by omega) W4 (by omega) (by omega) (by omega) (by omega) (by rw [hbl]; exact (hb7.at_ 0).trans rfl) ((hb6.at_ 0).trans rfl)
      (fun k hk => by obtain ⟨b, o, e, h1, h2, h3⟩ := HBYT.out k hk; have hb := World.block_lt_of_cell? W _ h3; exact ⟨b, o, e, h1, h2, (bel.cell (p := ⟨b, o + k, none⟩) (by rw [← HNN.out]; exact hb)).trans h3⟩)
      (HT.out.below bel h2N) (by omega) (by omega))
    Kept.trans (Kept.putObj (by omega)) (Below.refl _ _) (fun _ => rfl)
    (fun pre Wd => (Blk Wd N 3 [Value.int IntKind.i64 (n : Int)] ∧ Blk Wd (N + 1) 3 [Value.int IntKind.i64 (w : Int)] ∧ Blk Wd (N + 2) 45 [Value.slice none 0 0] ∧ Blk Wd (N + 3) 25 [Value.int IntKind.i64 0] ∧ Blk Wd (N + 4) 43 (n64s (unL w n (fun i => decide (i ∈ pre.map Fin.val)))) ∧ Blk Wd (N + 5) 45 [Value.slice (some ⟨N + 4, 0, none⟩) n n]) ∧ (∀ p ∈ pre, p.val < M) ∧ Below N W Wd)
    (fun c pre Wd => (c = .ret ∧ ∃ p ∈ pre, M ≤ p.val) ∧ (Blk Wd (N + 2) 45 [Value.slice none 0 0] ∧ Blk Wd (N + 3) 25 [Value.int IntKind.i64 10]) ∧ Below N W Wd)
    (OwnFrom.and (Own.from (fun s A B row hs hg hr => ⟨(grownBy_keeps_cells hg hr hs.1 rfl).trans hs.1, (grownBy_keeps_cells hg hr hs.2.1 rfl).trans hs.2.1, (grownBy_keeps_cells hg hr hs.2.2.1 rfl).trans hs.2.2.1, (grownBy_keeps_cells hg hr hs.2.2.2.1 rfl).trans hs.2.2.2.1, (grownBy_keeps_cells hg hr hs.2.2.2.2.1 rfl).trans hs.2.2.2.2.1, (grownBy_keeps_cells hg hr hs.2.2.2.2.2 rfl).trans hs.2.2.2.2.2⟩) _) (OwnFrom.and (ownFrom_pure _ _) (ownFrom_below (by omega) (by omega))))
    (fun c => OwnFrom.and (ownFrom_pure _ _) (OwnFrom.and (Own.from (fun s A B row hs hg hr => ⟨(grownBy_keeps_cells hg hr hs.1 rfl).trans hs.1, (grownBy_keeps_cells hg hr hs.2 rfl).trans hs.2⟩) _) (ownFrom_below (by omega) (by omega))))
    ⟨⟨hb0, hb1, hb2, hb3, by simpa using hb4, hb5⟩, by simp, bel⟩
    (fun x => { tmps := #[Value.slice A sz cap, Value.int IntKind.i64 (n : Int), Value.int IntKind.i64 (w : Int), undef,
          Value.pointer (some ⟨N, 0, none⟩), Value.pointer (some ⟨N + 1, 0, none⟩),
          Value.pointer (some ⟨N + 2, 0, none⟩),
          Value.pointer (some ⟨N + 3, 0, none⟩), Value.int IntKind.i64 (sz : Int), Value.int IntKind.i64 0,
          Value.pointer (some ⟨N + 5, 0, none⟩), .int .i64 (x.val : Int),
          Value.tuple #[Value.int IntKind.i64 (sz : Int), Value.int IntKind.i64 0], Value.int IntKind.i64 (n : Int),
          Value.int IntKind.i64 (w : Int), Value.tuple #[Value.int IntKind.i64 (sz : Int), Value.int IntKind.i64 0],
          Value.int IntKind.i64 (sz : Int), Value.int IntKind.i64 0, Value.int IntKind.i64 0, Value.bool false, undef,
          Value.slice A sz cap, Value.int IntKind.i64 (sz : Int), Value.int IntKind.i64 (sz : Int), Value.bool false,
          Value.int IntKind.i64 (n : Int), Value.slice (some ⟨N + 4, 0, none⟩) n n,
          Value.slice A sz cap,
          Value.func (Fn.func 104) #[]
            #[Value.pointer (some ⟨N + 7, 0, none⟩),
              Value.pointer (some ⟨N + 6, 0, none⟩)],
          .int .i64 (x.val : Int), undef, undef, undef, undef, undef, undef, undef, undef, undef, undef, undef, undef, undef, undef,
          undef, undef, undef, undef], defers := [] }) ?assign ?body ?done ?stop
  case assign =>
    intro l x W K hK
    gi_wp2
    exact hK
  case body =>
    rintro l pre x Wd ⟨⟨hb0, hb1, hb2, hb3, hb4, hb5⟩, hlt1, hbel⟩ hlt2
    have hxM := x.isLt
    obtain ⟨v, hv⟩ : ∃ v, x.val = v := ⟨_, rfl⟩
    have hc0 : Wd.cell? ⟨N, 0, none⟩ = some (.int .i64 (n : Int)) := (hb0.at_ 0).trans rfl
    have hc1 : Wd.cell? ⟨N + 1, 0, none⟩ = some (.int .i64 (w : Int)) := (hb1.at_ 0).trans rfl
    have enw : (n : Int) * (w : Int) = (M : Int) := by rw [← HM.out]; simp
    have hwM : IntKind.i64.wrap (M : Int) = (M : Int) := wrap_i64_of (by omega) (by omega)
    by_cases hvM : v < M
    · have hq1 : ¬ (M : Int) ≤ (v : Int) := by omega
      have hw0 : 0 < w := by
        apply Nat.pos_of_ne_zero
        intro h; subst h; have := HM.out; simp at this; omega
      obtain ⟨j, hj⟩ : ∃ j, v / w = j := ⟨_, rfl⟩
      obtain ⟨r, hr⟩ : ∃ r, v % w = r := ⟨_, rfl⟩
      have hjn : j < n := by rw [← hj]; exact (Nat.div_lt_iff_lt_mul hw0).2 (by rw [HM.out]; exact hvM)
      have hrw : r < w := by rw [← hr]; exact Nat.mod_lt v hw0
      have hjr : j * w + r = v := by rw [← hj, ← hr, Nat.mul_comm, Nat.div_add_mod]
      have hset2 := unL_set (n := n) hw (fun i => decide (i ∈ pre.map Fin.val)) hjn hrw
      have hget2 := unL_get (w := w) (fun i => decide (i ∈ pre.map Fin.val)) hjn
      have hsnoc : unL w n (fun i => decide (i ∈ (pre ++ [x]).map Fin.val)) = unL w n (fun i => decide (i ∈ pre.map Fin.val) || i == v) := by
        apply unL_congr
        intro i _
        rw [Bool.eq_iff_iff]
        rw [decide_eq_true_iff, Bool.or_eq_true, decide_eq_true_iff, beq_iff_eq, List.map_append, List.mem_append, List.map_cons, List.map_nil, List.mem_singleton, hv]
      rw [hjr, ← hsnoc] at hset2
      have hpl := unL_len w n (fun i => decide (i ∈ pre.map Fin.val))
      generalize (fun i => decide (i ∈ pre.map Fin.val)) = P at hb4 hset2 hget2 hpl
      have hread : Wd.drew.cell? ⟨N + 4, j, none⟩ = some (.int .u64 ((nuP w P j).toNat : Int)) := by
        have h := hb4.at_ j
        rw [n64s_at (by rw [hpl]; exact hjn), hget2] at h
        exact h
      have hfree : Wd.drew.frozen? ⟨N + 4, j, none⟩ = false := hb4.free j
      have hbox5 : Wd.drew.cell? ⟨N + 5, 0, none⟩ = some (.slice (some ⟨N + 4, 0, none⟩) n n) := (hb5.at_ 0).trans rfl
      have hbox1 : Wd.drew.cell? ⟨N + 1, 0, none⟩ = some (.int .i64 (w : Int)) := hc1
      have d0 : (0 : Int) ≤ (v : Int) := by omega
      have d1 : (v : Int) / (w : Int) = (j : Int) := by rw [← hj]; simp
      have d1' : (v : Int).tdiv (w : Int) = (j : Int) := by rw [Int.tdiv_eq_ediv_of_nonneg d0]; exact d1
      have d2 : (v : Int) % (w : Int) = (r : Int) := by rw [← hr]; simp
      have d3 : (v : Int).tmod (w : Int) = (r : Int) := by rw [Int.tmod_eq_emod_of_nonneg d0]; exact d2
      have wz : ((w : Int) == 0) = false := by simp; omega
      have wz2 : ¬ (w : Int) = 0 := by omega
      have wz3 : ¬ w = 0 := by omega
      have j0 : (0 : Int) ≤ (j : Int) := by omega
      have j1 : (j : Int) < (n : Int) := by omega
      have r0 : (0 : Int) ≤ (r : Int) := by omega
      have r1 : (r : Int) < 64 := by omega
      have hwj : IntKind.i64.wrap (j : Int) = (j : Int) := wrap_i64_of (by omega) (by omega)
      have h2r : 2 ^ r < 2 ^ 64 := Nat.pow_lt_pow_right (by decide) (by omega)
      obtain ⟨sh, hsh⟩ : ∃ sh, BitVec.ofNat 64 (2 ^ r) = sh := ⟨_, rfl⟩
      have hshn : 2 ^ r = sh.toNat := by rw [← hsh, BitVec.toNat_ofNat]; exact (Nat.mod_eq_of_lt h2r).symm
      rw [hsh] at hset2
      generalize nuP w P j = by0 at hread hset2
      have hor := bits_or64 by0 sh
      have hshw : IntKind.u64.wrap ((2 : Int) ^ r) = (sh.toNat : Int) := by
        have e : ((2 : Int) ^ r) = ((2 ^ r : Nat) : Int) := by simp
        rw [e, hshn]
        exact wrap_u64_bv sh
      have hmx : Tryd.prog.follows .mixedOrders = true := by kernel_rfl
      have HV := Lib.hid hv
      have HLT := Lib.hid hlt1
      have HBEL := Lib.hid hbel
      have HSET := Lib.hid hset2
      have HB4 := Lib.hid hb4
      have HBS := Lib.hid (And.intro hb0 (And.intro hb1 (And.intro hb2 (And.intro hb3 hb5))))
      have hvX : (x.val : Int) = (v : Int) := by rw [hv]
      rw [hv]
      clear hv hlt1 hbel hset2 hb4 hb0 hb1 hb2 hb3 hb5 hj hr hjr hget2 hsnoc hpl hsh h2r hshn hvX
      gi_wp2
      have HEND : KeepsOthers Wd (Wd.setCell ⟨N + 4, j, none⟩ (.int .u64 ((by0.toNat ||| sh.toNat : Nat) : Int))).drew ∧ Kept (N + 4) (N + 8) Wd (Wd.setCell ⟨N + 4, j, none⟩ (.int .u64 ((by0.toNat ||| sh.toNat : Nat) : Int))).drew ∧ (Blk (Wd.setCell ⟨N + 4, j, none⟩ (.int .u64 ((by0.toNat ||| sh.toNat : Nat) : Int))).drew N 3 [Value.int IntKind.i64 (n : Int)] ∧ Blk (Wd.setCell ⟨N + 4, j, none⟩ (.int .u64 ((by0.toNat ||| sh.toNat : Nat) : Int))).drew (N + 1) 3 [Value.int IntKind.i64 (w : Int)] ∧ Blk (Wd.setCell ⟨N + 4, j, none⟩ (.int .u64 ((by0.toNat ||| sh.toNat : Nat) : Int))).drew (N + 2) 45 [Value.slice none 0 0] ∧ Blk (Wd.setCell ⟨N + 4, j, none⟩ (.int .u64 ((by0.toNat ||| sh.toNat : Nat) : Int))).drew (N + 3) 25 [Value.int IntKind.i64 0] ∧ Blk (Wd.setCell ⟨N + 4, j, none⟩ (.int .u64 ((by0.toNat ||| sh.toNat : Nat) : Int))).drew (N + 4) 43 (n64s (unL w n (fun i => decide (i ∈ (pre ++ [x]).map Fin.val)))) ∧ Blk (Wd.setCell ⟨N + 4, j, none⟩ (.int .u64 ((by0.toNat ||| sh.toNat : Nat) : Int))).drew (N + 5) 45 [Value.slice (some ⟨N + 4, 0, none⟩) n n]) ∧ (∀ p ∈ pre ++ [x], p.val < M) ∧ Below N W (Wd.setCell ⟨N + 4, j, none⟩ (.int .u64 ((by0.toNat ||| sh.toNat : Nat) : Int))).drew := by
        have hst := HB4.out.store j (.int .u64 ((by0 ||| sh).toNat : Int))
        rw [n64s_set, HSET.out, BitVec.toNat_or] at hst
        have hso : Sole (N + 4) Wd (Wd.setCell ⟨N + 4, j, none⟩ (.int .u64 ((by0.toNat ||| sh.toNat : Nat) : Int))).drew := ((Sole.refl (N + 4) Wd).setCell j _).drew
        refine ⟨(KeepsOthers.setCell _ _ _).trans (KeepsOthers.drew _), fun k _ hB => hso.block k hB, ⟨HBS.out.1.sole hso (by omega), HBS.out.2.1.sole hso (by omega), HBS.out.2.2.1.sole hso (by omega), HBS.out.2.2.2.1.sole hso (by omega), hst, HBS.out.2.2.2.2.sole hso (by omega)⟩, ?_, hso.below HBEL.out (by omega)⟩
        intro p hp
        rcases List.mem_append.1 hp with hp | hp
        · exact HLT.out p hp
        · rw [List.mem_singleton] at hp
          rw [hp, HV.out]; exact hvM
      refine tame_region 13 hmx (by kernel_rfl) rfl ?_
      refine wpAnyIn_take (i := 1) (v := .int .i64 (v : Int)) rfl rfl (by kernel_rfl) (by kernel_rfl) (by kernel_rfl) (fun _ _ _ h => h) ⟨Or.inl ⟨by rfl, by intro w; go_simp⟩, fun _ => rfl⟩ ?_
      go_simp
      refine wpAnyIn_take (i := 6) (v := .int .i64 (v : Int)) rfl rfl (by kernel_rfl) (by kernel_rfl) (by kernel_rfl) (fun _ _ _ h => h) ⟨Or.inl ⟨by rfl, by intro w; go_simp⟩, fun _ => rfl⟩ ?_
      go_simp
      refine wpAnyIn_ready (rs := [0, 2, 7]) (by kernel_rfl) (by simp) (AllReadyIn.cons rfl (fun K hK => ?_) (AllReadyIn.cons rfl (fun K hK => ?_) (AllReadyIn.cons rfl (fun K hK => ?_) AllReadyIn.nil)))
      · go_simp
        refine hK _ _ ?_
        clear hK K
        refine wpAnyIn_ready (rs := [2, 7]) (by kernel_rfl) (by simp) (AllReadyIn.cons rfl (fun K hK => ?_) (AllReadyIn.cons rfl (fun K hK => ?_) AllReadyIn.nil))
        · go_simp
          refine hK _ _ ?_
          clear hK K
          refine wpAnyIn_take (i := 3) (v := .int .i64 (j : Int)) rfl rfl (by kernel_rfl) (by kernel_rfl) (by kernel_rfl) (fun _ _ _ h => h) ⟨Or.inl ⟨by rfl, by intro w; go_simp⟩, fun _ => rfl⟩ ?_
          go_simp
          refine wpAnyIn_take (i := 4) (v := .pointer (some ⟨N + 4, j, none⟩)) rfl rfl (by kernel_rfl) (by kernel_rfl) (by kernel_rfl) (fun _ _ _ h => h) ⟨Or.inl ⟨by rfl, by intro w; go_simp⟩, fun _ => rfl⟩ ?_
          go_simp
          refine wpAnyIn_ready (rs := [5, 7]) (by kernel_rfl) (by simp) (AllReadyIn.cons rfl (fun K hK => ?_) (AllReadyIn.cons rfl (fun K hK => ?_) AllReadyIn.nil))
          · go_simp
            refine hK _ _ ?_
            clear hK K
            refine wpAnyIn_ready (rs := [7]) (by kernel_rfl) (by simp) (AllReadyIn.cons rfl (fun K hK => ?_) AllReadyIn.nil)
            go_simp
            refine hK _ _ ?_
            clear hK K
            refine wpAnyIn_take (i := 8) (v := .int .i64 (r : Int)) rfl rfl (by kernel_rfl) (by kernel_rfl) (by kernel_rfl) (fun _ _ _ h => h) ⟨Or.inl ⟨by rfl, by intro w; go_simp⟩, fun _ => rfl⟩ ?_
            go_simp
            refine wpAnyIn_take (i := 9) (v := .int .u64 (sh.toNat : Int)) rfl rfl (by kernel_rfl) (by kernel_rfl) (by kernel_rfl) (fun _ _ _ h => h) ⟨Or.inl ⟨by rfl, by intro w; go_simp⟩, fun _ => rfl⟩ ?_
            go_simp
            refine wpAnyIn_take (i := 10) (v := .int .u64 ((by0 ||| sh).toNat : Int)) rfl rfl (by kernel_rfl) (by kernel_rfl) (by kernel_rfl) (fun _ _ _ h => h) ⟨Or.inl ⟨by rfl, by intro w; go_simp⟩, fun _ => rfl⟩ ?_
            go_simp
            refine wpAnyIn_take (i := 11) (v := .pointer (some ⟨N + 4, j, none⟩)) rfl rfl (by kernel_rfl) (by kernel_rfl) (by kernel_rfl) (fun _ _ _ h => h) ⟨Or.inl ⟨by rfl, by intro w; go_simp⟩, fun _ => rfl⟩ ?_
            go_simp
            refine wpAnyIn_ready (rs := [12]) (by kernel_rfl) (by simp) (AllReadyIn.cons rfl (fun K hK => ?_) AllReadyIn.nil)
            go_simp
            refine hK _ _ ?_
            clear hK K
            refine wpAnyIn_done (by kernel_rfl) ?_ _
            exact HEND
          · go_simp
            refine hK _ _ ?_
            clear hK K
            refine wpAnyIn_take (i := 8) (v := .int .i64 (r : Int)) rfl rfl (by kernel_rfl) (by kernel_rfl) (by kernel_rfl) (fun _ _ _ h => h) ⟨Or.inl ⟨by rfl, by intro w; go_simp⟩, fun _ => rfl⟩ ?_
            go_simp
            refine wpAnyIn_take (i := 9) (v := .int .u64 (sh.toNat : Int)) rfl rfl (by kernel_rfl) (by kernel_rfl) (by kernel_rfl) (fun _ _ _ h => h) ⟨Or.inl ⟨by rfl, by intro w; go_simp⟩, fun _ => rfl⟩ ?_
            go_simp
            refine wpAnyIn_ready (rs := [5]) (by kernel_rfl) (by simp) (AllReadyIn.cons rfl (fun K hK => ?_) AllReadyIn.nil)
            go_simp
            refine hK _ _ ?_
            clear hK K
            refine wpAnyIn_take (i := 10) (v := .int .u64 ((by0 ||| sh).toNat : Int)) rfl rfl (by kernel_rfl) (by kernel_rfl) (by kernel_rfl) (fun _ _ _ h => h) ⟨Or.inl ⟨by rfl, by intro w; go_simp⟩, fun _ => rfl⟩ ?_
            go_simp
            refine wpAnyIn_take (i := 11) (v := .pointer (some ⟨N + 4, j, none⟩)) rfl rfl (by kernel_rfl) (by kernel_rfl) (by kernel_rfl) (fun _ _ _ h => h) ⟨Or.inl ⟨by rfl, by intro w; go_simp⟩, fun _ => rfl⟩ ?_
            go_simp
            refine wpAnyIn_ready (rs := [12]) (by kernel_rfl) (by simp) (AllReadyIn.cons rfl (fun K hK => ?_) AllReadyIn.nil)
            go_simp
            refine hK _ _ ?_
            clear hK K
            refine wpAnyIn_done (by kernel_rfl) ?_ _
            exact HEND
        · go_simp
          refine hK _ _ ?_
          clear hK K
          refine wpAnyIn_take (i := 8) (v := .int .i64 (r : Int)) rfl rfl (by kernel_rfl) (by kernel_rfl) (by kernel_rfl) (fun _ _ _ h => h) ⟨Or.inl ⟨by rfl, by intro w; go_simp⟩, fun _ => rfl⟩ ?_
          go_simp
          refine wpAnyIn_take (i := 9) (v := .int .u64 (sh.toNat : Int)) rfl rfl (by kernel_rfl) (by kernel_rfl) (by kernel_rfl) (fun _ _ _ h => h) ⟨Or.inl ⟨by rfl, by intro w; go_simp⟩, fun _ => rfl⟩ ?_
          go_simp
          refine wpAnyIn_ready (rs := [2]) (by kernel_rfl) (by simp) (AllReadyIn.cons rfl (fun K hK => ?_) AllReadyIn.nil)
          go_simp
          refine hK _ _ ?_
          clear hK K
          refine wpAnyIn_take (i := 3) (v := .int .i64 (j : Int)) rfl rfl (by kernel_rfl) (by kernel_rfl) (by kernel_rfl) (fun _ _ _ h => h) ⟨Or.inl ⟨by rfl, by intro w; go_simp⟩, fun _ => rfl⟩ ?_
          go_simp
          refine wpAnyIn_take (i := 4) (v := .pointer (some ⟨N + 4, j, none⟩)) rfl rfl (by kernel_rfl) (by kernel_rfl) (by kernel_rfl) (fun _ _ _ h => h) ⟨Or.inl ⟨by rfl, by intro w; go_simp⟩, fun _ => rfl⟩ ?_
          go_simp
          refine wpAnyIn_ready (rs := [5]) (by kernel_rfl) (by simp) (AllReadyIn.cons rfl (fun K hK => ?_) AllReadyIn.nil)
          go_simp
          refine hK _ _ ?_
          clear hK K
          refine wpAnyIn_take (i := 10) (v := .int .u64 ((by0 ||| sh).toNat : Int)) rfl rfl (by kernel_rfl) (by kernel_rfl) (by kernel_rfl) (fun _ _ _ h => h) ⟨Or.inl ⟨by rfl, by intro w; go_simp⟩, fun _ => rfl⟩ ?_
          go_simp
          refine wpAnyIn_take (i := 11) (v := .pointer (some ⟨N + 4, j, none⟩)) rfl rfl (by kernel_rfl) (by kernel_rfl) (by kernel_rfl) (fun _ _ _ h => h) ⟨Or.inl ⟨by rfl, by intro w; go_simp⟩, fun _ => rfl⟩ ?_
          go_simp
          refine wpAnyIn_ready (rs := [12]) (by kernel_rfl) (by simp) (AllReadyIn.cons rfl (fun K hK => ?_) AllReadyIn.nil)
          go_simp
          refine hK _ _ ?_
          clear hK K
          refine wpAnyIn_done (by kernel_rfl) ?_ _
          exact HEND
      · go_simp
        refine hK _ _ ?_
        clear hK K
        refine wpAnyIn_take (i := 3) (v := .int .i64 (j : Int)) rfl rfl (by kernel_rfl) (by kernel_rfl) (by kernel_rfl) (fun _ _ _ h => h) ⟨Or.inl ⟨by rfl, by intro w; go_simp⟩, fun _ => rfl⟩ ?_
        go_simp
        refine wpAnyIn_ready (rs := [0, 7]) (by kernel_rfl) (by simp) (AllReadyIn.cons rfl (fun K hK => ?_) (AllReadyIn.cons rfl (fun K hK => ?_) AllReadyIn.nil))
        · go_simp
          refine hK _ _ ?_
          clear hK K
          refine wpAnyIn_take (i := 4) (v := .pointer (some ⟨N + 4, j, none⟩)) rfl rfl (by kernel_rfl) (by kernel_rfl) (by kernel_rfl) (fun _ _ _ h => h) ⟨Or.inl ⟨by rfl, by intro w; go_simp⟩, fun _ => rfl⟩ ?_
          go_simp
          refine wpAnyIn_ready (rs := [5, 7]) (by kernel_rfl) (by simp) (AllReadyIn.cons rfl (fun K hK => ?_) (AllReadyIn.cons rfl (fun K hK => ?_) AllReadyIn.nil))
          · go_simp
            refine hK _ _ ?_
            clear hK K
            refine wpAnyIn_ready (rs := [7]) (by kernel_rfl) (by simp) (AllReadyIn.cons rfl (fun K hK => ?_) AllReadyIn.nil)
            go_simp
            refine hK _ _ ?_
            clear hK K
            refine wpAnyIn_take (i := 8) (v := .int .i64 (r : Int)) rfl rfl (by kernel_rfl) (by kernel_rfl) (by kernel_rfl) (fun _ _ _ h => h) ⟨Or.inl ⟨by rfl, by intro w; go_simp⟩, fun _ => rfl⟩ ?_
            go_simp
            refine wpAnyIn_take (i := 9) (v := .int .u64 (sh.toNat : Int)) rfl rfl (by kernel_rfl) (by kernel_rfl) (by kernel_rfl) (fun _ _ _ h => h) ⟨Or.inl ⟨by rfl, by intro w; go_simp⟩, fun _ => rfl⟩ ?_
            go_simp
            refine wpAnyIn_take (i := 10) (v := .int .u64 ((by0 ||| sh).toNat : Int)) rfl rfl (by kernel_rfl) (by kernel_rfl) (by kernel_rfl) (fun _ _ _ h => h) ⟨Or.inl ⟨by rfl, by intro w; go_simp⟩, fun _ => rfl⟩ ?_
            go_simp
            refine wpAnyIn_take (i := 11) (v := .pointer (some ⟨N + 4, j, none⟩)) rfl rfl (by kernel_rfl) (by kernel_rfl) (by kernel_rfl) (fun _ _ _ h => h) ⟨Or.inl ⟨by rfl, by intro w; go_simp⟩, fun _ => rfl⟩ ?_
            go_simp
            refine wpAnyIn_ready (rs := [12]) (by kernel_rfl) (by simp) (AllReadyIn.cons rfl (fun K hK => ?_) AllReadyIn.nil)
            go_simp
            refine hK _ _ ?_
            clear hK K
            refine wpAnyIn_done (by kernel_rfl) ?_ _
            exact HEND
          · go_simp
            refine hK _ _ ?_
            clear hK K
            refine wpAnyIn_take (i := 8) (v := .int .i64 (r : Int)) rfl rfl (by kernel_rfl) (by kernel_rfl) (by kernel_rfl) (fun _ _ _ h => h) ⟨Or.inl ⟨by rfl, by intro w; go_simp⟩, fun _ => rfl⟩ ?_
            go_simp
            refine wpAnyIn_take (i := 9) (v := .int .u64 (sh.toNat : Int)) rfl rfl (by kernel_rfl) (by kernel_rfl) (by kernel_rfl) (fun _ _ _ h => h) ⟨Or.inl ⟨by rfl, by intro w; go_simp⟩, fun _ => rfl⟩ ?_
            go_simp
            refine wpAnyIn_ready (rs := [5]) (by kernel_rfl) (by simp) (AllReadyIn.cons rfl (fun K hK => ?_) AllReadyIn.nil)
            go_simp
            refine hK _ _ ?_
            clear hK K
            refine wpAnyIn_take (i := 10) (v := .int .u64 ((by0 ||| sh).toNat : Int)) rfl rfl (by kernel_rfl) (by kernel_rfl) (by kernel_rfl) (fun _ _ _ h => h) ⟨Or.inl ⟨by rfl, by intro w; go_simp⟩, fun _ => rfl⟩ ?_
            go_simp
            refine wpAnyIn_take (i := 11) (v := .pointer (some ⟨N + 4, j, none⟩)) rfl rfl (by kernel_rfl) (by kernel_rfl) (by kernel_rfl) (fun _ _ _ h => h) ⟨Or.inl ⟨by rfl, by intro w; go_simp⟩, fun _ => rfl⟩ ?_
            go_simp
            refine wpAnyIn_ready (rs := [12]) (by kernel_rfl) (by simp) (AllReadyIn.cons rfl (fun K hK => ?_) AllReadyIn.nil)
            go_simp
            refine hK _ _ ?_
            clear hK K
            refine wpAnyIn_done (by kernel_rfl) ?_ _
            exact HEND
        · go_simp
          refine hK _ _ ?_
          clear hK K
          refine wpAnyIn_take (i := 8) (v := .int .i64 (r : Int)) rfl rfl (by kernel_rfl) (by kernel_rfl) (by kernel_rfl) (fun _ _ _ h => h) ⟨Or.inl ⟨by rfl, by intro w; go_simp⟩, fun _ => rfl⟩ ?_
          go_simp
          refine wpAnyIn_take (i := 9) (v := .int .u64 (sh.toNat : Int)) rfl rfl (by kernel_rfl) (by kernel_rfl) (by kernel_rfl) (fun _ _ _ h => h) ⟨Or.inl ⟨by rfl, by intro w; go_simp⟩, fun _ => rfl⟩ ?_
          go_simp
          refine wpAnyIn_ready (rs := [0]) (by kernel_rfl) (by simp) (AllReadyIn.cons rfl (fun K hK => ?_) AllReadyIn.nil)
          go_simp
          refine hK _ _ ?_
          clear hK K
          refine wpAnyIn_take (i := 4) (v := .pointer (some ⟨N + 4, j, none⟩)) rfl rfl (by kernel_rfl) (by kernel_rfl) (by kernel_rfl) (fun _ _ _ h => h) ⟨Or.inl ⟨by rfl, by intro w; go_simp⟩, fun _ => rfl⟩ ?_
          go_simp
          refine wpAnyIn_ready (rs := [5]) (by kernel_rfl) (by simp) (AllReadyIn.cons rfl (fun K hK => ?_) AllReadyIn.nil)
          go_simp
          refine hK _ _ ?_
          clear hK K
          refine wpAnyIn_take (i := 10) (v := .int .u64 ((by0 ||| sh).toNat : Int)) rfl rfl (by kernel_rfl) (by kernel_rfl) (by kernel_rfl) (fun _ _ _ h => h) ⟨Or.inl ⟨by rfl, by intro w; go_simp⟩, fun _ => rfl⟩ ?_
          go_simp
          refine wpAnyIn_take (i := 11) (v := .pointer (some ⟨N + 4, j, none⟩)) rfl rfl (by kernel_rfl) (by kernel_rfl) (by kernel_rfl) (fun _ _ _ h => h) ⟨Or.inl ⟨by rfl, by intro w; go_simp⟩, fun _ => rfl⟩ ?_
          go_simp
          refine wpAnyIn_ready (rs := [12]) (by kernel_rfl) (by simp) (AllReadyIn.cons rfl (fun K hK => ?_) AllReadyIn.nil)
          go_simp
          refine hK _ _ ?_
          clear hK K
          refine wpAnyIn_done (by kernel_rfl) ?_ _
          exact HEND
      · go_simp
        refine hK _ _ ?_
        clear hK K
        refine wpAnyIn_take (i := 8) (v := .int .i64 (r : Int)) rfl rfl (by kernel_rfl) (by kernel_rfl) (by kernel_rfl) (fun _ _ _ h => h) ⟨Or.inl ⟨by rfl, by intro w; go_simp⟩, fun _ => rfl⟩ ?_
        go_simp
        refine wpAnyIn_take (i := 9) (v := .int .u64 (sh.toNat : Int)) rfl rfl (by kernel_rfl) (by kernel_rfl) (by kernel_rfl) (fun _ _ _ h => h) ⟨Or.inl ⟨by rfl, by intro w; go_simp⟩, fun _ => rfl⟩ ?_
        go_simp
        refine wpAnyIn_ready (rs := [0, 2]) (by kernel_rfl) (by simp) (AllReadyIn.cons rfl (fun K hK => ?_) (AllReadyIn.cons rfl (fun K hK => ?_) AllReadyIn.nil))
        · go_simp
          refine hK _ _ ?_
          clear hK K
          refine wpAnyIn_ready (rs := [2]) (by kernel_rfl) (by simp) (AllReadyIn.cons rfl (fun K hK => ?_) AllReadyIn.nil)
          go_simp
          refine hK _ _ ?_
          clear hK K
          refine wpAnyIn_take (i := 3) (v := .int .i64 (j : Int)) rfl rfl (by kernel_rfl) (by kernel_rfl) (by kernel_rfl) (fun _ _ _ h => h) ⟨Or.inl ⟨by rfl, by intro w; go_simp⟩, fun _ => rfl⟩ ?_
          go_simp
          refine wpAnyIn_take (i := 4) (v := .pointer (some ⟨N + 4, j, none⟩)) rfl rfl (by kernel_rfl) (by kernel_rfl) (by kernel_rfl) (fun _ _ _ h => h) ⟨Or.inl ⟨by rfl, by intro w; go_simp⟩, fun _ => rfl⟩ ?_
          go_simp
          refine wpAnyIn_ready (rs := [5]) (by kernel_rfl) (by simp) (AllReadyIn.cons rfl (fun K hK => ?_) AllReadyIn.nil)
          go_simp
          refine hK _ _ ?_
          clear hK K
          refine wpAnyIn_take (i := 10) (v := .int .u64 ((by0 ||| sh).toNat : Int)) rfl rfl (by kernel_rfl) (by kernel_rfl) (by kernel_rfl) (fun _ _ _ h => h) ⟨Or.inl ⟨by rfl, by intro w; go_simp⟩, fun _ => rfl⟩ ?_
          go_simp
          refine wpAnyIn_take (i := 11) (v := .pointer (some ⟨N + 4, j, none⟩)) rfl rfl (by kernel_rfl) (by kernel_rfl) (by kernel_rfl) (fun _ _ _ h => h) ⟨Or.inl ⟨by rfl, by intro w; go_simp⟩, fun _ => rfl⟩ ?_
          go_simp
          refine wpAnyIn_ready (rs := [12]) (by kernel_rfl) (by simp) (AllReadyIn.cons rfl (fun K hK => ?_) AllReadyIn.nil)
          go_simp
          refine hK _ _ ?_
          clear hK K
          refine wpAnyIn_done (by kernel_rfl) ?_ _
          exact HEND
        · go_simp
          refine hK _ _ ?_
          clear hK K
          refine wpAnyIn_take (i := 3) (v := .int .i64 (j : Int)) rfl rfl (by kernel_rfl) (by kernel_rfl) (by kernel_rfl) (fun _ _ _ h => h) ⟨Or.inl ⟨by rfl, by intro w; go_simp⟩, fun _ => rfl⟩ ?_
          go_simp
          refine wpAnyIn_ready (rs := [0]) (by kernel_rfl) (by simp) (AllReadyIn.cons rfl (fun K hK => ?_) AllReadyIn.nil)
          go_simp
          refine hK _ _ ?_
          clear hK K
          refine wpAnyIn_take (i := 4) (v := .pointer (some ⟨N + 4, j, none⟩)) rfl rfl (by kernel_rfl) (by kernel_rfl) (by kernel_rfl) (fun _ _ _ h => h) ⟨Or.inl ⟨by rfl, by intro w; go_simp⟩, fun _ => rfl⟩ ?_
          go_simp
          refine wpAnyIn_ready (rs := [5]) (by kernel_rfl) (by simp) (AllReadyIn.cons rfl (fun K hK => ?_) AllReadyIn.nil)
          go_simp
          refine hK _ _ ?_
          clear hK K
          refine wpAnyIn_take (i := 10) (v := .int .u64 ((by0 ||| sh).toNat : Int)) rfl rfl (by kernel_rfl) (by kernel_rfl) (by kernel_rfl) (fun _ _ _ h => h) ⟨Or.inl ⟨by rfl, by intro w; go_simp⟩, fun _ => rfl⟩ ?_
          go_simp
          refine wpAnyIn_take (i := 11) (v := .pointer (some ⟨N + 4, j, none⟩)) rfl rfl (by kernel_rfl) (by kernel_rfl) (by kernel_rfl) (fun _ _ _ h => h) ⟨Or.inl ⟨by rfl, by intro w; go_simp⟩, fun _ => rfl⟩ ?_
          go_simp
          refine wpAnyIn_ready (rs := [12]) (by kernel_rfl) (by simp) (AllReadyIn.cons rfl (fun K hK => ?_) AllReadyIn.nil)
          go_simp
          refine hK _ _ ?_
          clear hK K
          refine wpAnyIn_done (by kernel_rfl) ?_ _
          exact HEND
    · have hq1 : (M : Int) ≤ (v : Int) := by omega
      have hf2 := hb2.free 0
      have hf3 := hb3.free 0
      rw [hv]
      have HV := Lib.hid hv
      have HLT := Lib.hid hlt1
      have HBEL := Lib.hid hbel
      have HBS := Lib.hid (And.intro hb2 hb3)
      have hc2 : Wd.cell? ⟨N + 2, 0, none⟩ = some (.slice none 0 0) := (hb2.at_ 0).trans rfl
      have hc3 : Wd.cell? ⟨N + 3, 0, none⟩ = some (.int .i64 0) := (hb3.at_ 0).trans rfl
      clear hv hlt1 hbel hb4 hb0 hb1 hb2 hb3 hb5
      gi_wp2
      have hs2 : Sole (N + 2) Wd (Wd.setCell ⟨N + 2, 0, none⟩ (.slice none 0 0)) := (Sole.refl (N + 2) Wd).setCell 0 _
      have hs3 : Sole (N + 3) (Wd.setCell ⟨N + 2, 0, none⟩ (.slice none 0 0)) ((Wd.setCell ⟨N + 2, 0, none⟩ (.slice none 0 0)).setCell ⟨N + 3, 0, none⟩ (.int .i64 10)) := (Sole.refl (N + 3) _).setCell 0 _
      have k2 := (HBS.out.1.store 0 (.slice none 0 0)).sole hs3 (by omega)
      have k3 := (HBS.out.2.sole hs2 (by omega)).store 0 (.int .i64 10)
      exact (show KeepsOthers Wd _ ∧ ((Code.ret = Code.ret ∧ ∃ p ∈ pre ++ [x], M ≤ p.val) ∧ (Blk _ (N + 2) 45 _ ∧ Blk _ (N + 3) 25 _) ∧ Below N W _) from ⟨(KeepsOthers.setCell _ _ _).trans (KeepsOthers.setCell _ _ _), ⟨rfl, x, by simp, by rw [HV.out]; omega⟩, ⟨k2, k3⟩, hs3.below (hs2.below HBEL.out (by omega)) (by omega)⟩)
  case done =>
    rintro D ys Wd hD rfl ⟨⟨hb0, hb1, hb2, hb3, hb4, hb5⟩, hlt1, hB⟩ hK
    have hc5 : Wd.cell? ⟨N + 5, 0, none⟩ = some (.slice (some ⟨N + 4, 0, none⟩) n n) := (hb5.at_ 0).trans rfl
    have hf2 := hb2.free 0
    have hf3 := hb3.free 0
    have hc2 : Wd.cell? ⟨N + 2, 0, none⟩ = some (.slice none 0 0) := (hb2.at_ 0).trans rfl
    have hc3 : Wd.cell? ⟨N + 3, 0, none⟩ = some (.int .i64 0) := (hb3.at_ 0).trans rfl
    have HB4 := Lib.hid hb4
    have HBS := Lib.hid (And.intro hb2 hb3)
    have HBEL := Lib.hid hB
    have HLT := Lib.hid hlt1
    clear hb0 hb1 hb2 hb3 hb4 hb5 hB hlt1
    gi_wp2
    have hs2 : Sole (N + 2) Wd (Wd.setCell ⟨N + 2, 0, none⟩ (.slice (some ⟨N + 4, 0, none⟩) n n)) := (Sole.refl (N + 2) Wd).setCell 0 _
    have hs3 : Sole (N + 3) (Wd.setCell ⟨N + 2, 0, none⟩ (.slice (some ⟨N + 4, 0, none⟩) n n)) ((Wd.setCell ⟨N + 2, 0, none⟩ (.slice (some ⟨N + 4, 0, none⟩) n n)).setCell ⟨N + 3, 0, none⟩ (.int .i64 0)) := (Sole.refl (N + 3) _).setCell 0 _
    have k2 := (HBS.out.1.store 0 (.slice (some ⟨N + 4, 0, none⟩) n n)).sole hs3 (by omega)
    have k3 := (HBS.out.2.sole hs2 (by omega)).store 0 (.int .i64 0)
    have k4 := (HB4.out.sole hs2 (by omega)).sole hs3 (by omega)
    have kB := hs3.below (hs2.below HBEL.out (by omega)) (by omega)
    have kD := (hs3.block D (by omega)).trans ((hs2.block D (by omega)).trans hK)
    generalize (Wd.setCell ⟨N + 2, 0, none⟩ (.slice (some ⟨N + 4, 0, none⟩) n n)).setCell ⟨N + 3, 0, none⟩ (.int .i64 0) = W6 at k2 k3 k4 kB kD
    have hfx : fitB M b = true := by
      rw [HFIT.out]
      intro i hi
      have hi2 : i ∈ ys.map Fin.val := by rw [hxs]; exact of_decide_eq_true hi
      obtain ⟨p, hp, rfl⟩ := List.mem_map.1 hi2
      exact HLT.out p hp
    rw [hxs] at k4
    refine ⟨by simp, .inl ⟨_, _, rfl, run_takeDeferred kD, ?_⟩⟩
    have c2 : (W6.putObj D (Obj.deferred none)).cell? ⟨N + 2, 0, none⟩ = some (.slice (some ⟨N + 4, 0, none⟩) n n) := (Blk.at_ (show Blk (W6.putObj D (Obj.deferred none)) (N + 2) 45 _ from (World.putObj_heap_other (by omega)).trans k2) 0).trans rfl
    have c3 : (W6.putObj D (Obj.deferred none)).cell? ⟨N + 3, 0, none⟩ = some (.int .i64 0) := (Blk.at_ (show Blk (W6.putObj D (Obj.deferred none)) (N + 3) 25 _ from (World.putObj_heap_other (by omega)).trans k3) 0).trans rfl
    have hB2 : Below N W (W6.putObj D (Obj.deferred none)) := kB.trans (belowK_b (w := W) (by omega) W6 D _ _ (by omega) kD rfl rfl)
    have hb4 : Blk (W6.putObj D (Obj.deferred none)) (N + 4) 43 (n64s (unL w n (bitsB b))) := (World.putObj_heap_other (by omega)).trans k4
    refine ⟨.tuple #[.slice (some ⟨N + 4, 0, none⟩) n n, .int .i64 0], ?_, .inl ⟨hfx, _, rfl, by omega, hb4, hB2⟩⟩
    clear k2 k3 k4 kB kD hs2 hs3 HB4
    rw [results_cell2 rfl]
    go_simp
  case stop =>
    rintro D c pre Wd hD hpre ⟨⟨rfl, p, hp, hpM⟩, ⟨hb2, hb3⟩, hB⟩ hK
    refine wpIn_ret ?_
    have hfx : fitB M b = false := by
      rw [← Bool.not_eq_true]
      intro h
      have := HFIT.out.1 h p.val (decide_eq_true (by rw [← hxs]; exact List.mem_map_of_mem (hpre.subset hp)))
      omega
    have c2 : (Wd.putObj D (Obj.deferred none)).cell? ⟨N + 2, 0, none⟩ = some (.slice none 0 0) := (Blk.at_ (show Blk (Wd.putObj D (Obj.deferred none)) (N + 2) 45 _ from (World.putObj_heap_other (by omega)).trans hb2) 0).trans rfl
    have c3 : (Wd.putObj D (Obj.deferred none)).cell? ⟨N + 3, 0, none⟩ = some (.int .i64 10) := (Blk.at_ (show Blk (Wd.putObj D (Obj.deferred none)) (N + 3) 25 _ from (World.putObj_heap_other (by omega)).trans hb3) 0).trans rfl
    have hB2 : Below N W (Wd.putObj D (Obj.deferred none)) := hB.trans (belowK_b (w := W) (by omega) Wd D _ _ (by omega) hK rfl rfl)
    refine ⟨by simp, .inl ⟨_, _, rfl, run_takeDeferred hK, ?_⟩⟩
    refine ⟨.tuple #[.slice none 0 0, .int .i64 10], ?_, .inr ⟨hfx, rfl, hB2⟩⟩
    clear hb2 hb3 hB hK
    rw [results_cell2 rfl]
    go_simp
end Go.Proofs.YtfgmdaemcaamiaaDoor

/-! The walk of the document's Unpack (21). -/
namespace Go.Proofs.YtfgmdaemcaamiaaDoor
open Go.RowKit
set_option linter.unusedVariables false

theorem str_ne {a b : List UInt8} (h : ¬ a = b) : ((str a).toList == (str b).toList) = false := by
  rw [ByteArray.toList_eq, ByteArray.toList_eq, beq_eq_false_iff_ne]
  exact h
theorem mk_pl22 {ops : Array Oper} {rest : List Oper} {o : Oper} {a : Act} {Q : Exit → Act → World → Prop} {w : World} (hgd : o.guard = none) (l c : Operand)
    (hop : o.op = Op.makeSlice 45 l c) (k : Nat) (hl : a.eval l = .int .i64 (k : Int)) (hc : a.eval c = .int .i64 (k : Int)) (hsz : k ≤ 281474976710)
    (h : wpList Tryd.prog ops Q rest (a.put o.dst (.slice (some ⟨w.heap.size, 0, none⟩) k k)) (w.alloc (.cells (n64s (List.replicate k 0)).toArray 43))) : wpList Tryd.prog ops Q (o :: rest) a w := by
  obtain ⟨i0, hti, hz0, hz1, hz2⟩ := info_parts info52
  have hr := run_make (P := Tryd.prog) w 45 43 i0 (.int .u64 0) Tryd.underlying45 hti hz0 .i64 .i64 k k (by omega) (by omega) (by rw [hz2]; omega) (by omega)
  simp only [Int.toNat_natCast] at hr
  rw [hz1, Nat.mul_one, made_n64] at hr
  refine wpList_plain hgd fun K hK' => ?_
  unfold Oper.wp
  simp [execOp, hop, hl, hc, hr, Result.andThen]
  exact hK' _ _ h
def upB (b : List UInt8) (at' : Nat) (p : Nat) : Bool := decide (p < at') && bitsB b p
theorem upB_no {b : List UInt8} {p : Nat} (h : bitsB b p = false) : upB b (p + 1) = upB b p := by
  funext i
  unfold upB
  by_cases e : i = p
  · subst e; simp [h]
  · have : (i < p + 1) ↔ (i < p) := by omega
    simp [this]
theorem upB_yes {b : List UInt8} {p : Nat} (h : bitsB b p = true) : (fun i => upB b p i || i == p) = upB b (p + 1) := by
  funext i
  unfold upB
  by_cases e : i = p
  · subst e; simp [h]
  · have : (i < p + 1) ↔ (i < p) := by omega
    simp [this, e]
theorem bit_of {b : List UInt8} {p : Nat} (h : p / 8 < b.length) : bitsB b p = decide ((b[p / 8]).toNat / 2 ^ (p % 8) % 2 = 1) := by
  rw [bitsB_eq, decide_eq_true (show p < 8 * b.length by omega), Nat.testBit_eq_decide_div_mod_eq]
  simp [List.getD, h]
theorem and1 : ∀ d < 256, bits .and .u8 ((d : Nat) : Int) 1 = ((d % 2 : Nat) : Int) := by decide +kernel

end Go.Proofs.YtfgmdaemcaamiaaDoor

/-! The document's Same (45): two lists of numbers. -/
namespace Go.Proofs.YtfgmdaemcaamiaaDoor
open Go.RowKit
set_option linter.unusedVariables false

theorem take_ne {l m : List W64} {k : Nat} (h1 : k < l.length) (h2 : k < m.length) (h : ¬ (l[k]).toNat = (m[k]).toNat) : l ≠ m := by
  rintro rfl
  exact h rfl
end Go.Proofs.YtfgmdaemcaamiaaDoor

/-! The walks of stackyardlaw01.PackReads (5) and PackBack (6). -/
namespace Go.Proofs.YtfgmdaemcaamiaaDoor
open Go.RowKit
set_option linter.unusedVariables false

def pkOk (w : Int) (l : List W64) : Prop := 0 ≤ w ∧ w ≤ 64 ∧ l.length ≤ 4096 ∧ (widL l : Int) ≤ w
instance (w : Int) (l : List W64) : Decidable (pkOk w l) := by unfold pkOk; infer_instance
def pkB (w : Int) (l : List W64) : List UInt8 := if pkOk w l then packL ((l.length * w.toNat + 7) / 8) (bitsP w.toNat l) else []
def pkE (w : Int) (l : List W64) : Int := if pkOk w l then 0 else 2
def unOk (n w : Int) : Prop := 0 ≤ n ∧ n ≤ 4096 ∧ 0 ≤ w ∧ w ≤ 64
instance (n w : Int) : Decidable (unOk n w) := by unfold unOk; infer_instance
def unFit (n w : Int) (b : List UInt8) : Prop := unOk n w ∧ b.length = (n.toNat * w.toNat + 7) / 8 ∧ fitB (n.toNat * w.toNat) b = true
instance (n w : Int) (b : List UInt8) : Decidable (unFit n w b) := by unfold unFit; infer_instance
def unV (n w : Int) (b : List UInt8) : List W64 := if unFit n w b then unL w.toNat n.toNat (bitsB b) else []
def unE (n w : Int) (b : List UInt8) : Int := if unOk n w then if unFit n w b then 0 else 10 else 2

theorem unE_zero {n w : Int} {b : List UInt8} : unE n w b = 0 ↔ unFit n w b := by
  unfold unE
  by_cases h : unOk n w
  · rw [if_pos h]
    by_cases h2 : unFit n w b
    · simp [h2]
    · simp [h2]
  · rw [if_neg h]
    constructor
    · intro h2; omega
    · intro h2; exact absurd h2.1 h
theorem pkE_zero {w : Int} {l : List W64} : pkE w l = 0 ↔ pkOk w l := by
  unfold pkE
  by_cases h : pkOk w l
  · simp [h]
  · simp [h]
theorem back1 {w : Int} {l : List W64} (h : pkE w l = 0) : unE (l.length : Int) w (pkB w l) = 0 ∧ unV (l.length : Int) w (pkB w l) = l := by
  rw [pkE_zero] at h
  obtain ⟨h1, h2, h3, h4⟩ := h
  obtain ⟨v, rfl⟩ : ∃ v : Nat, w = (v : Int) := ⟨w.toNat, by omega⟩
  have e : pkB (v : Int) l = packL ((l.length * v + 7) / 8) (bitsP v l) := if_pos ⟨h1, h2, h3, h4⟩
  have hwd : widL l ≤ v := by omega
  have hf : unFit (l.length : Int) (v : Int) (pkB (v : Int) l) := by
    refine ⟨⟨by omega, by omega, h1, h2⟩, ?_, ?_⟩
    · rw [e, packL_len]; rfl
    · rw [e]; exact fit_packL (by omega) hwd
  refine ⟨unE_zero.2 hf, ?_⟩
  unfold unV
  rw [if_pos hf, e]
  exact un_packL (by omega) hwd
theorem back2 {n w : Int} {b : List UInt8} (h : unE n w b = 0) : ((unV n w b).length : Int) = n ∧ pkE w (unV n w b) = 0 ∧ pkB w (unV n w b) = b := by
  rw [unE_zero] at h
  have h' := h
  obtain ⟨⟨h1, h2, h3, h4⟩, h5, h6⟩ := h
  obtain ⟨v, rfl⟩ : ∃ v : Nat, w = (v : Int) := ⟨w.toNat, by omega⟩
  obtain ⟨m, rfl⟩ : ∃ m : Nat, n = (m : Int) := ⟨n.toNat, by omega⟩
  simp only [Int.toNat_natCast] at h5 h6
  have e : unV (m : Int) (v : Int) b = unL v m (bitsB b) := if_pos h'
  have hok : pkOk (v : Int) (unL v m (bitsB b)) := ⟨h3, h4, by rw [unL_len]; omega, by have := width_unL (show v ≤ 64 by omega) m (bitsB b); omega⟩
  rw [e]
  refine ⟨by rw [unL_len], pkE_zero.2 hok, ?_⟩
  unfold pkB
  rw [if_pos hok, unL_len]
  simp only [Int.toNat_natCast]
  rw [← h5]
  exact (again_iff (by omega) h5).2 h6
theorem unV_bad {n w : Int} {b : List UInt8} (h : ¬ unE n w b = 0) : unV n w b = [] := by
  rw [unE_zero] at h
  exact if_neg h
theorem unV_len {n w : Int} {b : List UInt8} : (unV n w b).length ≤ 4096 := by
  by_cases h : unE n w b = 0
  · have h1 := (back2 h).1
    have h2 := (unE_zero.1 h).1.2.1
    omega
  · rw [unV_bad h]; simp

/-- The width of numbers, and these packed. -/
def packD (d : List W64) : List UInt8 := UInt8.ofNat (widL d) :: pkB (widL d : Int) d
theorem packE_self {d : List W64} (h : d.length ≤ 4096) : pkE (widL d : Int) d = 0 := by
  rw [pkE_zero]
  have := widL_le d
  exact ⟨by omega, by omega, h, Int.le_refl _⟩
theorem pkB_small {w : Int} {d : List W64} (h : d.length ≤ 4096) (hw : w ≤ 64) : (pkB w d).length ≤ 32769 := by
  unfold pkB
  split
  · rw [packL_len]
    rename_i hk
    have h1 : d.length * w.toNat ≤ 4096 * 64 := Nat.mul_le_mul h (by omega)
    omega
  · simp

/-- What Unpack hands back: numbers, and whether. -/
def UnpR (W : World) (l : List W64) (er : Int) (e : Ending) (W' : World) : Prop :=
  ∃ A' c', e = .returned (.tuple #[.slice A' l.length c', .int .i64 er]) ∧ Num W' A' l ∧ Below W.heap.size W W'
theorem UnR.unp {W : World} {n w : Nat} {b : List UInt8} (hn : n ≤ 4096) (hw : w ≤ 64) (hl : b.length = (n * w + 7) / 8) {e : Ending} {W' : World} (h : UnR W n w b e W') : UnpR W (unV (n : Int) (w : Int) b) (unE (n : Int) (w : Int) b) e W' := by
  have hok : unOk (n : Int) (w : Int) := ⟨by omega, by omega, by omega, by omega⟩
  rcases h with ⟨hf, g, rfl, hg, hblk, hb⟩ | ⟨hf, rfl, hb⟩
  · have hfit : unFit (n : Int) (w : Int) b := ⟨hok, hl, hf⟩
    rw [unE_zero.2 hfit, show unV (n : Int) (w : Int) b = unL w n (bitsB b) from if_pos hfit]
    refine ⟨_, _, by rw [unL_len], ?_, hb⟩
    intro i hi
    refine ⟨g, 0, rfl, ?_⟩
    rw [Nat.zero_add, hblk.at_ i, n64s_at hi]
    simp [List.getD, hi]
  · have hfit : ¬ unFit (n : Int) (w : Int) b := fun h => by have := h.2.2; simp only [Int.toNat_natCast] at this; rw [hf] at this; cases this
    rw [show unE (n : Int) (w : Int) b = 10 by unfold unE; rw [if_pos hok, if_neg hfit], show unV (n : Int) (w : Int) b = [] from if_neg hfit]
    exact ⟨_, _, rfl, fun k hk => by simp at hk, hb⟩
theorem pk_all (w : Int) (A : Option Addr) (cap : Nat) (ls : List W64) (W : World) (hl : Num W A ls) (hn : ls.length ≤ 4611686018427387904) (hT : TabAt W) :
    Calls Tryd.prog 19 #[.int .i64 w, .slice A ls.length cap] W (PackR W (pkB w ls) (pkE w ls)) := by
  by_cases hok : pkOk w ls
  · have hE := pkE_zero.2 hok
    obtain ⟨h1, h2, h3, h4⟩ := hok
    obtain ⟨v, rfl⟩ : ∃ v : Nat, w = (v : Int) := ⟨w.toNat, by omega⟩
    have hM : (ls.length * v + 7) / 8 ≤ 32768 := by
      have := Nat.mul_le_mul h3 (show v ≤ 64 by omega)
      omega
    rw [hE, show pkB (v : Int) ls = packL ((ls.length * v + 7) / 8) (bitsP v ls) from if_pos ⟨h1, h2, h3, h4⟩]
    refine (pack_good v A cap ls W hl (by omega) h3 (by omega) hT).mono ?_
    rintro e W' ⟨rfl, h1, h2⟩
    exact ⟨_, _, by rw [packL_len], h1.byt, by rw [packL_len]; exact Nat.le_refl _, hM, by simp, h2⟩
  · rw [show pkE w ls = 2 from if_neg hok, show pkB w ls = [] from if_neg hok]
    refine (pack_bad w A cap ls W hl hn ?_).mono ?_
    · unfold pkOk at hok
      by_cases h : 0 ≤ w ∧ w ≤ 64 ∧ ls.length ≤ 4096
      · exact .inr (by omega)
      · exact .inl h
    · rintro e W' ⟨rfl, rfl⟩
      exact ⟨_, _, rfl, Byt.empty _ _, Nat.le_refl _, by omega, fun _ => rfl, Below.refl _ _⟩

end Go.Proofs.YtfgmdaemcaamiaaDoor
