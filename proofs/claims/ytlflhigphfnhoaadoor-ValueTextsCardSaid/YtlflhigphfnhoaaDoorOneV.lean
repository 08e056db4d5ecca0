/- The walk of stackyardlaw04.ValueOne (6). -/
import Derived.Test.YtlflhigphfnhoaaDoorOrders
import Derived.Test.YtlflhigphfnhoaaDoorOneC
import Derived.Outline
namespace Go.Proofs.YtlflhigphfnhoaaDoor
open Go.RowKit
set_option linter.unusedVariables false

/-- Three values lie boxed in the call's first three blocks. -/
def Three (w : World) (k n : Int) (s : ByteArray) (k' n' : Int) (s' : ByteArray) (k2 n2 : Int) (s2 : ByteArray) (W : World) : Prop := Blk W w.heap.size 23 [.int .i64 k, .int .i64 n, .string s] ∧ Blk W (w.heap.size + 1) 23 [.int .i64 k', .int .i64 n', .string s'] ∧ Blk W (w.heap.size + 2) 23 [.int .i64 k2, .int .i64 n2, .string s2] ∧ Below w.heap.size w W
theorem Three.next {w : World} {k n : Int} {s : ByteArray} {k' n' : Int} {s' : ByteArray} {k2 n2 : Int} {s2 : ByteArray} {W W' : World} (h : Three w k n s k' n' s' k2 n2 s2 W) (hb : Below W.heap.size W W') : Three w k n s k' n' s' k2 n2 s2 W' :=
  ⟨h.1.below hb (lt_of_block h.1), h.2.1.below hb (lt_of_block h.2.1), h.2.2.1.below hb (lt_of_block h.2.2.1), h.2.2.2.trans (hb.mono h.2.2.2.size)⟩
theorem Three.cells {w : World} {k n : Int} {s : ByteArray} {k' n' : Int} {s' : ByteArray} {k2 n2 : Int} {s2 : ByteArray} {W : World} (h : Three w k n s k' n' s' k2 n2 s2 W) : W.cell? ⟨w.heap.size, 0, none⟩ = some (.int .i64 k) ∧ W.cell? ⟨w.heap.size, 1, none⟩ = some (.int .i64 n) ∧ W.cell? ⟨w.heap.size, 2, none⟩ = some (.string s) ∧ W.cell? ⟨w.heap.size + 1, 0, none⟩ = some (.int .i64 k') ∧ W.cell? ⟨w.heap.size + 1, 1, none⟩ = some (.int .i64 n') ∧ W.cell? ⟨w.heap.size + 1, 2, none⟩ = some (.string s') ∧ W.cell? ⟨w.heap.size + 2, 0, none⟩ = some (.int .i64 k2) ∧ W.cell? ⟨w.heap.size + 2, 1, none⟩ = some (.int .i64 n2) ∧ W.cell? ⟨w.heap.size + 2, 2, none⟩ = some (.string s2) :=
  ⟨h.1.at_ 0, h.1.at_ 1, h.1.at_ 2, h.2.1.at_ 0, h.2.1.at_ 1, h.2.1.at_ 2, h.2.2.1.at_ 0, h.2.2.1.at_ 1, h.2.2.1.at_ 2⟩
theorem three_born (w : World) (k n : Int) (s : ByteArray) (k' n' : Int) (s' : ByteArray) (k2 n2 : Int) (s2 : ByteArray) : Three w k n s k' n' s' k2 n2 s2 (((w.alloc (.cells #[.int .i64 k, .int .i64 n, .string s] 23)).alloc (.cells #[.int .i64 k', .int .i64 n', .string s'] 23)).alloc (.cells #[.int .i64 k2, .int .i64 n2, .string s2] 23)) := by
  have h := two_born w k n s k' n' s'
  have e : ((w.alloc (.cells #[.int .i64 k, .int .i64 n, .string s] 23)).alloc (.cells #[.int .i64 k', .int .i64 n', .string s'] 23)).heap.size = w.heap.size + 2 := by simp
  have h3 := Blk.born ((w.alloc (.cells #[.int .i64 k, .int .i64 n, .string s] 23)).alloc (.cells #[.int .i64 k', .int .i64 n', .string s'] 23)) 23 [.int .i64 k2, .int .i64 n2, .string s2]
  rw [e] at h3
  exact ⟨h.1.later _, h.2.1.later _, h3, h.2.2.alloc (by omega) _⟩
theorem cmpV_range (k n : Int) (s : List UInt8) (k' n' : Int) (s' : List UInt8) : -1 ≤ cmpV k n s k' n' s' ∧ cmpV k n s k' n' s' ≤ 1 := by
  unfold cmpV orI
  have := cmpL_range s s'
  rcases cmpI_cases k k' with ⟨e, _⟩ | ⟨e, _⟩ | ⟨e, _⟩ <;> rcases cmpI_cases n n' with ⟨e', _⟩ | ⟨e', _⟩ | ⟨e', _⟩ <;> rw [e, e'] <;> simp <;> omega
theorem tol_inj {a b : ByteArray} (h : a.toList = b.toList) : a = b := by
  rw [ByteArray.toList_eq, ByteArray.toList_eq] at h
  exact Go.WideShapes.bytes_inj h

set_option maxHeartbeats 8000000 in
set_option maxRecDepth 100000 in
theorem one_any (k n : Int) (s : ByteArray) (k' n' : Int) (s' : ByteArray) (k2 n2 : Int) (s2 : ByteArray) (w : World) (hs : s.size ≤ maxLen) (hs' : s'.size ≤ maxLen) (hs2 : s2.size ≤ maxLen) :
    Calls Tryd.prog 6 #[.agg #[.int .i64 k, .int .i64 n, .string s], .agg #[.int .i64 k', .int .i64 n', .string s'], .agg #[.int .i64 k2, .int .i64 n2, .string s2]] w fun e w' => e = .returned (.bool true) ∧ Below w.heap.size w w' := by
  have hsh := fun W (h : Three w k n s k' n' s' k2 n2 s2 W) => (shown4_any W).mono fun e w' h' => And.intro h'.1 (h.next h'.2)
  have p0 := fun W (h : Three w k n s k' n' s' k2 n2 s2 W) => (right_any k n s W hs).mono fun e w' h' => And.intro h'.1 (h.next h'.2)
  have p1 := fun W (h : Three w k n s k' n' s' k2 n2 s2 W) => (right_any k' n' s' W hs').mono fun e w' h' => And.intro h'.1 (h.next h'.2)
  have p2 := fun W (h : Three w k n s k' n' s' k2 n2 s2 W) => (right_any k2 n2 s2 W hs2).mono fun e w' h' => And.intro h'.1 (h.next h'.2)
  have q1 := fun W (h : Three w k n s k' n' s' k2 n2 s2 W) => (compare_any k n s k' n' s' W).mono fun e w' h' => And.intro h'.1 (h.next h'.2)
  have q2 := fun W (h : Three w k n s k' n' s' k2 n2 s2 W) => (compare_any k' n' s' k2 n2 s2 W).mono fun e w' h' => And.intro h'.1 (h.next h'.2)
  have q3 := fun W (h : Three w k n s k' n' s' k2 n2 s2 W) => (compare_any k n s k2 n2 s2 W).mono fun e w' h' => And.intro h'.1 (h.next h'.2)
  have q4 := fun W (h : Three w k n s k' n' s' k2 n2 s2 W) => (compare_any k' n' s' k n s W).mono fun e w' h' => And.intro h'.1 (h.next h'.2)
  have HT := Lib.hid (three_born w k n s k' n' s' k2 n2 s2)
  have ht := cmpV_turn k n s.toList k' n' s'.toList
  have hz := cmpV_zero k n s.toList k' n' s'.toList
  have ha := cmpV_trans k n s.toList k' n' s'.toList k2 n2 s2.toList
  have hb := cmpV_trans k2 n2 s2.toList k' n' s'.toList k n s.toList
  rw [cmpV_turn k' n' s'.toList k2 n2 s2.toList, cmpV_turn k n s.toList k' n' s'.toList, cmpV_turn k n s.toList k2 n2 s2.toList] at hb
  have r1 := cmpV_range k n s.toList k' n' s'.toList
  have r2 := cmpV_range k' n' s'.toList k2 n2 s2.toList
  have r3 := cmpV_range k n s.toList k2 n2 s2.toList
  rw [ht] at q4
  generalize cmpV k n s.toList k' n' s'.toList = p at q1 q4 hz ha hb r1
  generalize cmpV k' n' s'.toList k2 n2 s2.toList = q at q2 ha hb r2
  generalize cmpV k n s.toList k2 n2 s2.toList = r at q3 ha hb r3
  generalize rightB k n s.toList = x at p0
  generalize rightB k' n' s'.toList = y at p1
  generalize rightB k2 n2 s2.toList = z at p2
  clear hs hs' hs2 ht
  cases x
  · clear hz ha hb r1 r2 r3
    go_enter Tryd.func6, Tryd.ntmps6
    go_wp2_with (first | (go_at_call 9; refine (hsh _ HT.out).mono ?_; rintro e W1 ⟨rfl, T1⟩; obtain ⟨a0, a1, a2, b0, b1, b2, c0, c1, c2⟩ := T1.cells; clear hsh) | (go_at_call 11; refine (p0 _ T1).mono ?_; rintro e W2 ⟨rfl, T2⟩; obtain ⟨a0, a1, a2, b0, b1, b2, c0, c1, c2⟩ := T2.cells; clear p0))
    go_ret
    exact ⟨rfl, T2.2.2.2⟩
  cases y
  · clear hz ha hb r1 r2 r3
    go_enter Tryd.func6, Tryd.ntmps6
    go_wp2_with (first | (go_at_call 9; refine (hsh _ HT.out).mono ?_; rintro e W1 ⟨rfl, T1⟩; obtain ⟨a0, a1, a2, b0, b1, b2, c0, c1, c2⟩ := T1.cells; clear hsh) | (go_at_call 11; refine (p0 _ T1).mono ?_; rintro e W2 ⟨rfl, T2⟩; obtain ⟨a0, a1, a2, b0, b1, b2, c0, c1, c2⟩ := T2.cells; clear p0) | (go_at_call 11; refine (p1 _ T2).mono ?_; rintro e W3 ⟨rfl, T3⟩; obtain ⟨a0, a1, a2, b0, b1, b2, c0, c1, c2⟩ := T3.cells; clear p1))
    go_ret
    exact ⟨rfl, T3.2.2.2⟩
  cases z
  · clear hz ha hb r1 r2 r3
    go_enter Tryd.func6, Tryd.ntmps6
    go_wp2_with (first | (go_at_call 9; refine (hsh _ HT.out).mono ?_; rintro e W1 ⟨rfl, T1⟩; obtain ⟨a0, a1, a2, b0, b1, b2, c0, c1, c2⟩ := T1.cells; clear hsh) | (go_at_call 11; refine (p0 _ T1).mono ?_; rintro e W2 ⟨rfl, T2⟩; obtain ⟨a0, a1, a2, b0, b1, b2, c0, c1, c2⟩ := T2.cells; clear p0) | (go_at_call 11; refine (p1 _ T2).mono ?_; rintro e W3 ⟨rfl, T3⟩; obtain ⟨a0, a1, a2, b0, b1, b2, c0, c1, c2⟩ := T3.cells; clear p1) | (go_at_call 11; refine (p2 _ T3).mono ?_; rintro e W4 ⟨rfl, T4⟩; obtain ⟨a0, a1, a2, b0, b1, b2, c0, c1, c2⟩ := T4.cells; clear p2))
    go_ret
    exact ⟨rfl, T4.2.2.2⟩
  have HX := Lib.hid (And.intro hz (And.intro ha (And.intro hb (And.intro r1 (And.intro r2 r3)))))
  clear hz ha hb r1 r2 r3
  go_enter Tryd.func6, Tryd.ntmps6
  go_wp2_with (first | (go_at_call 9; refine (hsh _ HT.out).mono ?_; rintro e W1 ⟨rfl, T1⟩; obtain ⟨a0, a1, a2, b0, b1, b2, c0, c1, c2⟩ := T1.cells; clear hsh) | (go_at_call 11; refine (p0 _ T1).mono ?_; rintro e W2 ⟨rfl, T2⟩; obtain ⟨a0, a1, a2, b0, b1, b2, c0, c1, c2⟩ := T2.cells; clear p0) | (go_at_call 11; refine (p1 _ T2).mono ?_; rintro e W3 ⟨rfl, T3⟩; obtain ⟨a0, a1, a2, b0, b1, b2, c0, c1, c2⟩ := T3.cells; clear p1) | (go_at_call 11; refine (p2 _ T3).mono ?_; rintro e W4 ⟨rfl, T4⟩; obtain ⟨a0, a1, a2, b0, b1, b2, c0, c1, c2⟩ := T4.cells; clear p2) | (go_at_call 12; refine (q1 _ T4).mono ?_; rintro e W5 ⟨rfl, T5⟩; obtain ⟨a0, a1, a2, b0, b1, b2, c0, c1, c2⟩ := T5.cells; clear q1) | (go_at_call 12; refine (q2 _ T5).mono ?_; rintro e W6 ⟨rfl, T6⟩; obtain ⟨a0, a1, a2, b0, b1, b2, c0, c1, c2⟩ := T6.cells; clear q2) | (go_at_call 12; refine (q3 _ T6).mono ?_; rintro e W7 ⟨rfl, T7⟩; obtain ⟨a0, a1, a2, b0, b1, b2, c0, c1, c2⟩ := T7.cells; clear q3))
  obtain ⟨hz, ha, hb, r1, r2, r3⟩ := HX.out
  clear T1 T2 T3 T4 T5 T6
  by_cases hp : p = 0
  · obtain ⟨e1, e2, e3⟩ := hz.1 hp
    have t1 : (k == k') = true := by simp [e1]
    have t2 : (n == n') = true := by simp [e2]
    have t3 : (s.toList == s'.toList) = true := by simp [e3]
    subst hp
    have hq3 := cases_qr r2 r3 ha hb
    clear hz e1 e2 e3 ha hb r1 r2 r3 HX
    rcases hq3 with ⟨rfl, rfl⟩ | ⟨rfl, rfl⟩ | ⟨rfl, rfl⟩
    all_goals
      go_wp2_with (go_at_call 12; refine (q4 _ T7).mono ?_; rintro e W8 ⟨rfl, T8⟩; obtain ⟨a0, a1, a2, b0, b1, b2, c0, c1, c2⟩ := T8.cells; clear q4)
      go_ret
      exact ⟨rfl, T8.2.2.2⟩
  · have hne := mt hz.2 hp
    have hq3 := cases_pqr r1 r2 r3 hp ha hb
    clear hz ha hb r1 r2 r3 hp HX
    by_cases e1 : k = k'
    · have t1 : (k == k') = true := by simp [e1]
      by_cases e2 : n = n'
      · have t2 : (n == n') = true := by simp [e2]
        have t3 : (s.toList == s'.toList) = false := by
          rw [beq_eq_false_iff_ne]
          exact fun e3 => hne ⟨e1, e2, e3⟩
        clear e1 e2 hne
        rcases hq3 with ⟨rfl, rfl, rfl⟩ | ⟨rfl, rfl, rfl⟩ | ⟨rfl, rfl, rfl⟩ | ⟨rfl, rfl, rfl⟩ | ⟨rfl, rfl, rfl⟩ | ⟨rfl, rfl, rfl⟩ | ⟨rfl, rfl, rfl⟩ | ⟨rfl, rfl, rfl⟩ | ⟨rfl, rfl, rfl⟩ | ⟨rfl, rfl, rfl⟩
        all_goals
          go_wp2_with (go_at_call 12; refine (q4 _ T7).mono ?_; rintro e W8 ⟨rfl, T8⟩; obtain ⟨a0, a1, a2, b0, b1, b2, c0, c1, c2⟩ := T8.cells; clear q4)
          go_ret
          exact ⟨rfl, T8.2.2.2⟩
      · have t2 : (n == n') = false := by rw [beq_eq_false_iff_ne]; exact e2
        clear e1 e2 hne
        rcases hq3 with ⟨rfl, rfl, rfl⟩ | ⟨rfl, rfl, rfl⟩ | ⟨rfl, rfl, rfl⟩ | ⟨rfl, rfl, rfl⟩ | ⟨rfl, rfl, rfl⟩ | ⟨rfl, rfl, rfl⟩ | ⟨rfl, rfl, rfl⟩ | ⟨rfl, rfl, rfl⟩ | ⟨rfl, rfl, rfl⟩ | ⟨rfl, rfl, rfl⟩
        all_goals
          go_wp2_with (go_at_call 12; refine (q4 _ T7).mono ?_; rintro e W8 ⟨rfl, T8⟩; obtain ⟨a0, a1, a2, b0, b1, b2, c0, c1, c2⟩ := T8.cells; clear q4)
          go_ret
          exact ⟨rfl, T8.2.2.2⟩
    · have t1 : (k == k') = false := by rw [beq_eq_false_iff_ne]; exact e1
      clear e1 hne
      rcases hq3 with ⟨rfl, rfl, rfl⟩ | ⟨rfl, rfl, rfl⟩ | ⟨rfl, rfl, rfl⟩ | ⟨rfl, rfl, rfl⟩ | ⟨rfl, rfl, rfl⟩ | ⟨rfl, rfl, rfl⟩ | ⟨rfl, rfl, rfl⟩ | ⟨rfl, rfl, rfl⟩ | ⟨rfl, rfl, rfl⟩ | ⟨rfl, rfl, rfl⟩
      all_goals
        go_wp2_with (go_at_call 12; refine (q4 _ T7).mono ?_; rintro e W8 ⟨rfl, T8⟩; obtain ⟨a0, a1, a2, b0, b1, b2, c0, c1, c2⟩ := T8.cells; clear q4)
        go_ret
        exact ⟨rfl, T8.2.2.2⟩
end Go.Proofs.YtlflhigphfnhoaaDoor
