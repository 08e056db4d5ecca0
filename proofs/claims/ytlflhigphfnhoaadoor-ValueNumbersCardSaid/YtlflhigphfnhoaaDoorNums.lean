/- The walk of stackyardlaw04.ValueNumbers (8). -/
import Derived.Test.YtlflhigphfnhoaaDoorNums0
import Derived.Test.YtlflhigphfnhoaaDoorDig
import Derived.Test.YtlflhigphfnhoaaDoorOrders
import Derived.Outline
namespace Go.Proofs.YtlflhigphfnhoaaDoor
open Go.RowKit
set_option linter.unusedVariables false

theorem Pow.next' {w w' : World} (h : Pow w) (hb : Below w.heap.size w w') : Pow w' := h.next hb

set_option maxHeartbeats 4000000 in
set_option maxRecDepth 100000 in
theorem nums_any (a b : Int) (w : World) (hp : Pow w) (ha0 : -9223372036854775808 ≤ a) (ha1 : a ≤ 9223372036854775807) (hb0 : -9223372036854775808 ≤ b) (hb1 : b ≤ 9223372036854775807) :
    Calls Tryd.prog 8 #[.int .i64 a, .int .i64 b] w fun e w' => e = .returned (.bool true) ∧ Below w.heap.size w w' := by
  have hsh := shown4_any w
  by_cases ha : a < 0
  · by_cases hb : b < 0
    · go_enter Tryd.func8, Tryd.ntmps8
      go_wp2_with (go_at_call 9; refine hsh.mono ?_; rintro e w1 ⟨rfl, hw1⟩)
      obtain ⟨A, hA⟩ : ∃ A : Nat, -(a + 1) = (A : Int) := ⟨(-(a + 1)).toNat, by omega⟩
      obtain ⟨B, hB⟩ : ∃ B : Nat, -(b + 1) = (B : Int) := ⟨(-(b + 1)).toNat, by omega⟩
      rw [hA, hB]
      have hA1 : (A : Int) ≤ 9223372036854775807 := by omega
      have hB1 : (B : Int) ≤ 9223372036854775807 := by omega
      clear hA hB
      have HP := Lib.hid hp
      have T0 := two_born w1 1 A ⟨#[]⟩ 1 B ⟨#[]⟩
      have sA := fun W (h : Two w1 1 A ⟨#[]⟩ 1 B ⟨#[]⟩ W) => (show_int A W ((HP.out.next hw1).next' h.2.2) (by omega) (by omega)).mono fun e w' h' => And.intro h'.1 (h.next h'.2)
      have sB := fun W (h : Two w1 1 A ⟨#[]⟩ 1 B ⟨#[]⟩ W) => (show_int B W ((HP.out.next hw1).next' h.2.2) (by omega) (by omega)).mono fun e w' h' => And.intro h'.1 (h.next h'.2)
      have hc := fun W (h : Two w1 1 A ⟨#[]⟩ 1 B ⟨#[]⟩ W) => (compare_any 1 A ⟨#[]⟩ 1 B ⟨#[]⟩ W).mono fun e w' h' => And.intro h'.1 (h.next h'.2)
      have hz := itoa_size A
      have hz' := itoa_size B
      have hl := itoa_toList A
      have hl' := itoa_toList B
      have ht := tests A B
      have hcn := cmp_nums A B
      rw [← hz, ← hz', ← hl, ← hl'] at ht
      clear hz hz' hl hl' hp
      generalize (⟨(Lib.itoa (A : Int)).toArray⟩ : ByteArray) = S at sA ht
      generalize (⟨(Lib.itoa (B : Int)).toArray⟩ : ByteArray) = U at sB ht
      generalize cmpV 1 A (ByteArray.toList ⟨#[]⟩) 1 B (ByteArray.toList ⟨#[]⟩) = p at hc hcn
      have HW := Lib.hid hw1
      clear hw1 HP
      rcases ht with ⟨hlt, ht⟩ | ⟨hge, ht⟩
      · obtain rfl := hcn.1 hlt
        clear hcn hlt
        rcases ht with ht | ⟨he, ht⟩
        · have t1 : decide (S.size < U.size) = true := decide_eq_true (by omega)
          go_wp2_with (first | (go_at_call 18; refine (sA _ T0).mono ?_; rintro e W1 ⟨rfl, T1⟩; obtain ⟨a0, a1, a2, b0, b1, b2⟩ := T1.cells; clear sA) | (go_at_call 18; refine (sB _ T1).mono ?_; rintro e W2 ⟨rfl, T2⟩; obtain ⟨a0, a1, a2, b0, b1, b2⟩ := T2.cells; clear sB) | (go_at_call 12; refine (hc _ T2).mono ?_; rintro e W3 ⟨rfl, T3⟩))
          go_ret
          exact ⟨rfl, HW.out.trans (T3.2.2.mono HW.out.size)⟩
        · have t1 : decide (S.size < U.size) = false := decide_eq_false (by omega)
          have t2 : ((S.size : Int) == (U.size : Int)) = true := by simp; omega
          have t3 : (S.size == U.size) = true := by simp; omega
          clear he
          go_wp2_with (first | (go_at_call 18; refine (sA _ T0).mono ?_; rintro e W1 ⟨rfl, T1⟩; obtain ⟨a0, a1, a2, b0, b1, b2⟩ := T1.cells; clear sA) | (go_at_call 18; refine (sB _ T1).mono ?_; rintro e W2 ⟨rfl, T2⟩; obtain ⟨a0, a1, a2, b0, b1, b2⟩ := T2.cells; clear sB) | (go_at_call 12; refine (hc _ T2).mono ?_; rintro e W3 ⟨rfl, T3⟩))
          go_ret
          exact ⟨rfl, HW.out.trans (T3.2.2.mono HW.out.size)⟩
      · have hp0 := hcn.2 hge
        have hpd : decide (p < 0) = false := decide_eq_false (by omega)
        clear hcn hge
        rcases ht with ht | ⟨he, ht⟩
        · have t1 : decide (S.size < U.size) = false := decide_eq_false (by omega)
          have t2 : ((S.size : Int) == (U.size : Int)) = false := by simp; omega
          have t3 : (S.size == U.size) = false := by simp; omega
          go_wp2_with (first | (go_at_call 18; refine (sA _ T0).mono ?_; rintro e W1 ⟨rfl, T1⟩; obtain ⟨a0, a1, a2, b0, b1, b2⟩ := T1.cells; clear sA) | (go_at_call 18; refine (sB _ T1).mono ?_; rintro e W2 ⟨rfl, T2⟩; obtain ⟨a0, a1, a2, b0, b1, b2⟩ := T2.cells; clear sB) | (go_at_call 12; refine (hc _ T2).mono ?_; rintro e W3 ⟨rfl, T3⟩))
          go_ret
          exact ⟨rfl, HW.out.trans (T3.2.2.mono HW.out.size)⟩
        · have t1 : decide (S.size < U.size) = false := decide_eq_false (by omega)
          have t2 : ((S.size : Int) == (U.size : Int)) = true := by simp; omega
          have t3 : (S.size == U.size) = true := by simp; omega
          clear he
          go_wp2_with (first | (go_at_call 18; refine (sA _ T0).mono ?_; rintro e W1 ⟨rfl, T1⟩; obtain ⟨a0, a1, a2, b0, b1, b2⟩ := T1.cells; clear sA) | (go_at_call 18; refine (sB _ T1).mono ?_; rintro e W2 ⟨rfl, T2⟩; obtain ⟨a0, a1, a2, b0, b1, b2⟩ := T2.cells; clear sB) | (go_at_call 12; refine (hc _ T2).mono ?_; rintro e W3 ⟨rfl, T3⟩))
          go_ret
          exact ⟨rfl, HW.out.trans (T3.2.2.mono HW.out.size)⟩
    · go_enter Tryd.func8, Tryd.ntmps8
      go_wp2_with (go_at_call 9; refine hsh.mono ?_; rintro e w1 ⟨rfl, hw1⟩)
      obtain ⟨A, hA⟩ : ∃ A : Nat, -(a + 1) = (A : Int) := ⟨(-(a + 1)).toNat, by omega⟩
      obtain ⟨B, rfl⟩ : ∃ B : Nat, b = (B : Int) := ⟨b.toNat, by omega⟩
      rw [hA]
      have hA1 : (A : Int) ≤ 9223372036854775807 := by omega
      have hB1 : (B : Int) ≤ 9223372036854775807 := by omega
      clear hA
      have HP := Lib.hid hp
      have T0 := two_born w1 1 A ⟨#[]⟩ 1 B ⟨#[]⟩
      have sA := fun W (h : Two w1 1 A ⟨#[]⟩ 1 B ⟨#[]⟩ W) => (show_int A W ((HP.out.next hw1).next' h.2.2) (by omega) (by omega)).mono fun e w' h' => And.intro h'.1 (h.next h'.2)
      have sB := fun W (h : Two w1 1 A ⟨#[]⟩ 1 B ⟨#[]⟩ W) => (show_int B W ((HP.out.next hw1).next' h.2.2) (by omega) (by omega)).mono fun e w' h' => And.intro h'.1 (h.next h'.2)
      have hc := fun W (h : Two w1 1 A ⟨#[]⟩ 1 B ⟨#[]⟩ W) => (compare_any 1 A ⟨#[]⟩ 1 B ⟨#[]⟩ W).mono fun e w' h' => And.intro h'.1 (h.next h'.2)
      have hz := itoa_size A
      have hz' := itoa_size B
      have hl := itoa_toList A
      have hl' := itoa_toList B
      have ht := tests A B
      have hcn := cmp_nums A B
      rw [← hz, ← hz', ← hl, ← hl'] at ht
      clear hz hz' hl hl' hp
      generalize (⟨(Lib.itoa (A : Int)).toArray⟩ : ByteArray) = S at sA ht
      generalize (⟨(Lib.itoa (B : Int)).toArray⟩ : ByteArray) = U at sB ht
      generalize cmpV 1 A (ByteArray.toList ⟨#[]⟩) 1 B (ByteArray.toList ⟨#[]⟩) = p at hc hcn
      have HW := Lib.hid hw1
      clear hw1 HP
      rcases ht with ⟨hlt, ht⟩ | ⟨hge, ht⟩
      · obtain rfl := hcn.1 hlt
        clear hcn hlt
        rcases ht with ht | ⟨he, ht⟩
        · have t1 : decide (S.size < U.size) = true := decide_eq_true (by omega)
          go_wp2_with (first | (go_at_call 18; refine (sA _ T0).mono ?_; rintro e W1 ⟨rfl, T1⟩; obtain ⟨a0, a1, a2, b0, b1, b2⟩ := T1.cells; clear sA) | (go_at_call 18; refine (sB _ T1).mono ?_; rintro e W2 ⟨rfl, T2⟩; obtain ⟨a0, a1, a2, b0, b1, b2⟩ := T2.cells; clear sB) | (go_at_call 12; refine (hc _ T2).mono ?_; rintro e W3 ⟨rfl, T3⟩))
          go_ret
          exact ⟨rfl, HW.out.trans (T3.2.2.mono HW.out.size)⟩
        · have t1 : decide (S.size < U.size) = false := decide_eq_false (by omega)
          have t2 : ((S.size : Int) == (U.size : Int)) = true := by simp; omega
          have t3 : (S.size == U.size) = true := by simp; omega
          clear he
          go_wp2_with (first | (go_at_call 18; refine (sA _ T0).mono ?_; rintro e W1 ⟨rfl, T1⟩; obtain ⟨a0, a1, a2, b0, b1, b2⟩ := T1.cells; clear sA) | (go_at_call 18; refine (sB _ T1).mono ?_; rintro e W2 ⟨rfl, T2⟩; obtain ⟨a0, a1, a2, b0, b1, b2⟩ := T2.cells; clear sB) | (go_at_call 12; refine (hc _ T2).mono ?_; rintro e W3 ⟨rfl, T3⟩))
          go_ret
          exact ⟨rfl, HW.out.trans (T3.2.2.mono HW.out.size)⟩
      · have hp0 := hcn.2 hge
        have hpd : decide (p < 0) = false := decide_eq_false (by omega)
        clear hcn hge
        rcases ht with ht | ⟨he, ht⟩
        · have t1 : decide (S.size < U.size) = false := decide_eq_false (by omega)
          have t2 : ((S.size : Int) == (U.size : Int)) = false := by simp; omega
          have t3 : (S.size == U.size) = false := by simp; omega
          go_wp2_with (first | (go_at_call 18; refine (sA _ T0).mono ?_; rintro e W1 ⟨rfl, T1⟩; obtain ⟨a0, a1, a2, b0, b1, b2⟩ := T1.cells; clear sA) | (go_at_call 18; refine (sB _ T1).mono ?_; rintro e W2 ⟨rfl, T2⟩; obtain ⟨a0, a1, a2, b0, b1, b2⟩ := T2.cells; clear sB) | (go_at_call 12; refine (hc _ T2).mono ?_; rintro e W3 ⟨rfl, T3⟩))
          go_ret
          exact ⟨rfl, HW.out.trans (T3.2.2.mono HW.out.size)⟩
        · have t1 : decide (S.size < U.size) = false := decide_eq_false (by omega)
          have t2 : ((S.size : Int) == (U.size : Int)) = true := by simp; omega
          have t3 : (S.size == U.size) = true := by simp; omega
          clear he
          go_wp2_with (first | (go_at_call 18; refine (sA _ T0).mono ?_; rintro e W1 ⟨rfl, T1⟩; obtain ⟨a0, a1, a2, b0, b1, b2⟩ := T1.cells; clear sA) | (go_at_call 18; refine (sB _ T1).mono ?_; rintro e W2 ⟨rfl, T2⟩; obtain ⟨a0, a1, a2, b0, b1, b2⟩ := T2.cells; clear sB) | (go_at_call 12; refine (hc _ T2).mono ?_; rintro e W3 ⟨rfl, T3⟩))
          go_ret
          exact ⟨rfl, HW.out.trans (T3.2.2.mono HW.out.size)⟩
  · by_cases hb : b < 0
    · go_enter Tryd.func8, Tryd.ntmps8
      go_wp2_with (go_at_call 9; refine hsh.mono ?_; rintro e w1 ⟨rfl, hw1⟩)
      obtain ⟨A, rfl⟩ : ∃ A : Nat, a = (A : Int) := ⟨a.toNat, by omega⟩
      obtain ⟨B, hB⟩ : ∃ B : Nat, -(b + 1) = (B : Int) := ⟨(-(b + 1)).toNat, by omega⟩
      rw [hB]
      have hA1 : (A : Int) ≤ 9223372036854775807 := by omega
      have hB1 : (B : Int) ≤ 9223372036854775807 := by omega
      clear hB
      have HP := Lib.hid hp
      have T0 := two_born w1 1 A ⟨#[]⟩ 1 B ⟨#[]⟩
      have sA := fun W (h : Two w1 1 A ⟨#[]⟩ 1 B ⟨#[]⟩ W) => (show_int A W ((HP.out.next hw1).next' h.2.2) (by omega) (by omega)).mono fun e w' h' => And.intro h'.1 (h.next h'.2)
      have sB := fun W (h : Two w1 1 A ⟨#[]⟩ 1 B ⟨#[]⟩ W) => (show_int B W ((HP.out.next hw1).next' h.2.2) (by omega) (by omega)).mono fun e w' h' => And.intro h'.1 (h.next h'.2)
      have hc := fun W (h : Two w1 1 A ⟨#[]⟩ 1 B ⟨#[]⟩ W) => (compare_any 1 A ⟨#[]⟩ 1 B ⟨#[]⟩ W).mono fun e w' h' => And.intro h'.1 (h.next h'.2)
      have hz := itoa_size A
      have hz' := itoa_size B
      have hl := itoa_toList A
      have hl' := itoa_toList B
      have ht := tests A B
      have hcn := cmp_nums A B
      rw [← hz, ← hz', ← hl, ← hl'] at ht
      clear hz hz' hl hl' hp
      generalize (⟨(Lib.itoa (A : Int)).toArray⟩ : ByteArray) = S at sA ht
      generalize (⟨(Lib.itoa (B : Int)).toArray⟩ : ByteArray) = U at sB ht
      generalize cmpV 1 A (ByteArray.toList ⟨#[]⟩) 1 B (ByteArray.toList ⟨#[]⟩) = p at hc hcn
      have HW := Lib.hid hw1
      clear hw1 HP
      rcases ht with ⟨hlt, ht⟩ | ⟨hge, ht⟩
      · obtain rfl := hcn.1 hlt
        clear hcn hlt
        rcases ht with ht | ⟨he, ht⟩
        · have t1 : decide (S.size < U.size) = true := decide_eq_true (by omega)
          go_wp2_with (first | (go_at_call 18; refine (sA _ T0).mono ?_; rintro e W1 ⟨rfl, T1⟩; obtain ⟨a0, a1, a2, b0, b1, b2⟩ := T1.cells; clear sA) | (go_at_call 18; refine (sB _ T1).mono ?_; rintro e W2 ⟨rfl, T2⟩; obtain ⟨a0, a1, a2, b0, b1, b2⟩ := T2.cells; clear sB) | (go_at_call 12; refine (hc _ T2).mono ?_; rintro e W3 ⟨rfl, T3⟩))
          go_ret
          exact ⟨rfl, HW.out.trans (T3.2.2.mono HW.out.size)⟩
        · have t1 : decide (S.size < U.size) = false := decide_eq_false (by omega)
          have t2 : ((S.size : Int) == (U.size : Int)) = true := by simp; omega
          have t3 : (S.size == U.size) = true := by simp; omega
          clear he
          go_wp2_with (first | (go_at_call 18; refine (sA _ T0).mono ?_; rintro e W1 ⟨rfl, T1⟩; obtain ⟨a0, a1, a2, b0, b1, b2⟩ := T1.cells; clear sA) | (go_at_call 18; refine (sB _ T1).mono ?_; rintro e W2 ⟨rfl, T2⟩; obtain ⟨a0, a1, a2, b0, b1, b2⟩ := T2.cells; clear sB) | (go_at_call 12; refine (hc _ T2).mono ?_; rintro e W3 ⟨rfl, T3⟩))
          go_ret
          exact ⟨rfl, HW.out.trans (T3.2.2.mono HW.out.size)⟩
      · have hp0 := hcn.2 hge
        have hpd : decide (p < 0) = false := decide_eq_false (by omega)
        clear hcn hge
        rcases ht with ht | ⟨he, ht⟩
        · have t1 : decide (S.size < U.size) = false := decide_eq_false (by omega)
          have t2 : ((S.size : Int) == (U.size : Int)) = false := by simp; omega
          have t3 : (S.size == U.size) = false := by simp; omega
          go_wp2_with (first | (go_at_call 18; refine (sA _ T0).mono ?_; rintro e W1 ⟨rfl, T1⟩; obtain ⟨a0, a1, a2, b0, b1, b2⟩ := T1.cells; clear sA) | (go_at_call 18; refine (sB _ T1).mono ?_; rintro e W2 ⟨rfl, T2⟩; obtain ⟨a0, a1, a2, b0, b1, b2⟩ := T2.cells; clear sB) | (go_at_call 12; refine (hc _ T2).mono ?_; rintro e W3 ⟨rfl, T3⟩))
          go_ret
          exact ⟨rfl, HW.out.trans (T3.2.2.mono HW.out.size)⟩
        · have t1 : decide (S.size < U.size) = false := decide_eq_false (by omega)
          have t2 : ((S.size : Int) == (U.size : Int)) = true := by simp; omega
          have t3 : (S.size == U.size) = true := by simp; omega
          clear he
          go_wp2_with (first | (go_at_call 18; refine (sA _ T0).mono ?_; rintro e W1 ⟨rfl, T1⟩; obtain ⟨a0, a1, a2, b0, b1, b2⟩ := T1.cells; clear sA) | (go_at_call 18; refine (sB _ T1).mono ?_; rintro e W2 ⟨rfl, T2⟩; obtain ⟨a0, a1, a2, b0, b1, b2⟩ := T2.cells; clear sB) | (go_at_call 12; refine (hc _ T2).mono ?_; rintro e W3 ⟨rfl, T3⟩))
          go_ret
          exact ⟨rfl, HW.out.trans (T3.2.2.mono HW.out.size)⟩
    · go_enter Tryd.func8, Tryd.ntmps8
      go_wp2_with (go_at_call 9; refine hsh.mono ?_; rintro e w1 ⟨rfl, hw1⟩)
      obtain ⟨A, rfl⟩ : ∃ A : Nat, a = (A : Int) := ⟨a.toNat, by omega⟩
      obtain ⟨B, rfl⟩ : ∃ B : Nat, b = (B : Int) := ⟨b.toNat, by omega⟩
      have hA1 : (A : Int) ≤ 9223372036854775807 := by omega
      have hB1 : (B : Int) ≤ 9223372036854775807 := by omega
      have HP := Lib.hid hp
      have T0 := two_born w1 1 A ⟨#[]⟩ 1 B ⟨#[]⟩
      have sA := fun W (h : Two w1 1 A ⟨#[]⟩ 1 B ⟨#[]⟩ W) => (show_int A W ((HP.out.next hw1).next' h.2.2) (by omega) (by omega)).mono fun e w' h' => And.intro h'.1 (h.next h'.2)
      have sB := fun W (h : Two w1 1 A ⟨#[]⟩ 1 B ⟨#[]⟩ W) => (show_int B W ((HP.out.next hw1).next' h.2.2) (by omega) (by omega)).mono fun e w' h' => And.intro h'.1 (h.next h'.2)
      have hc := fun W (h : Two w1 1 A ⟨#[]⟩ 1 B ⟨#[]⟩ W) => (compare_any 1 A ⟨#[]⟩ 1 B ⟨#[]⟩ W).mono fun e w' h' => And.intro h'.1 (h.next h'.2)
      have hz := itoa_size A
      have hz' := itoa_size B
      have hl := itoa_toList A
      have hl' := itoa_toList B
      have ht := tests A B
      have hcn := cmp_nums A B
      rw [← hz, ← hz', ← hl, ← hl'] at ht
      clear hz hz' hl hl' hp
      generalize (⟨(Lib.itoa (A : Int)).toArray⟩ : ByteArray) = S at sA ht
      generalize (⟨(Lib.itoa (B : Int)).toArray⟩ : ByteArray) = U at sB ht
      generalize cmpV 1 A (ByteArray.toList ⟨#[]⟩) 1 B (ByteArray.toList ⟨#[]⟩) = p at hc hcn
      have HW := Lib.hid hw1
      clear hw1 HP
      rcases ht with ⟨hlt, ht⟩ | ⟨hge, ht⟩
      · obtain rfl := hcn.1 hlt
        clear hcn hlt
        rcases ht with ht | ⟨he, ht⟩
        · have t1 : decide (S.size < U.size) = true := decide_eq_true (by omega)
          go_wp2_with (first | (go_at_call 18; refine (sA _ T0).mono ?_; rintro e W1 ⟨rfl, T1⟩; obtain ⟨a0, a1, a2, b0, b1, b2⟩ := T1.cells; clear sA) | (go_at_call 18; refine (sB _ T1).mono ?_; rintro e W2 ⟨rfl, T2⟩; obtain ⟨a0, a1, a2, b0, b1, b2⟩ := T2.cells; clear sB) | (go_at_call 12; refine (hc _ T2).mono ?_; rintro e W3 ⟨rfl, T3⟩))
          go_ret
          exact ⟨rfl, HW.out.trans (T3.2.2.mono HW.out.size)⟩
        · have t1 : decide (S.size < U.size) = false := decide_eq_false (by omega)
          have t2 : ((S.size : Int) == (U.size : Int)) = true := by simp; omega
          have t3 : (S.size == U.size) = true := by simp; omega
          clear he
          go_wp2_with (first | (go_at_call 18; refine (sA _ T0).mono ?_; rintro e W1 ⟨rfl, T1⟩; obtain ⟨a0, a1, a2, b0, b1, b2⟩ := T1.cells; clear sA) | (go_at_call 18; refine (sB _ T1).mono ?_; rintro e W2 ⟨rfl, T2⟩; obtain ⟨a0, a1, a2, b0, b1, b2⟩ := T2.cells; clear sB) | (go_at_call 12; refine (hc _ T2).mono ?_; rintro e W3 ⟨rfl, T3⟩))
          go_ret
          exact ⟨rfl, HW.out.trans (T3.2.2.mono HW.out.size)⟩
      · have hp0 := hcn.2 hge
        have hpd : decide (p < 0) = false := decide_eq_false (by omega)
        clear hcn hge
        rcases ht with ht | ⟨he, ht⟩
        · have t1 : decide (S.size < U.size) = false := decide_eq_false (by omega)
          have t2 : ((S.size : Int) == (U.size : Int)) = false := by simp; omega
          have t3 : (S.size == U.size) = false := by simp; omega
          go_wp2_with (first | (go_at_call 18; refine (sA _ T0).mono ?_; rintro e W1 ⟨rfl, T1⟩; obtain ⟨a0, a1, a2, b0, b1, b2⟩ := T1.cells; clear sA) | (go_at_call 18; refine (sB _ T1).mono ?_; rintro e W2 ⟨rfl, T2⟩; obtain ⟨a0, a1, a2, b0, b1, b2⟩ := T2.cells; clear sB) | (go_at_call 12; refine (hc _ T2).mono ?_; rintro e W3 ⟨rfl, T3⟩))
          go_ret
          exact ⟨rfl, HW.out.trans (T3.2.2.mono HW.out.size)⟩
        · have t1 : decide (S.size < U.size) = false := decide_eq_false (by omega)
          have t2 : ((S.size : Int) == (U.size : Int)) = true := by simp; omega
          have t3 : (S.size == U.size) = true := by simp; omega
          clear he
          go_wp2_with (first | (go_at_call 18; refine (sA _ T0).mono ?_; rintro e W1 ⟨rfl, T1⟩; obtain ⟨a0, a1, a2, b0, b1, b2⟩ := T1.cells; clear sA) | (go_at_call 18; refine (sB _ T1).mono ?_; rintro e W2 ⟨rfl, T2⟩; obtain ⟨a0, a1, a2, b0, b1, b2⟩ := T2.cells; clear sB) | (go_at_call 12; refine (hc _ T2).mono ?_; rintro e W3 ⟨rfl, T3⟩))
          go_ret
          exact ⟨rfl, HW.out.trans (T3.2.2.mono HW.out.size)⟩
end Go.Proofs.YtlflhigphfnhoaaDoor
