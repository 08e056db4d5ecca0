/- The walk of stackyardlaw04.ValueOrders (3). -/
import Derived.Test.YtlflhigphfnhoaaDoorShown4
import Derived.Deep.RegionHeld3
namespace Go.Proofs.YtlflhigphfnhoaaDoor
open Go.RowKit
set_option linter.unusedVariables false

/-- Two values lie boxed in the call's first two blocks. -/
def Two (w : World) (k n : Int) (s : ByteArray) (k' n' : Int) (s' : ByteArray) (W : World) : Prop := Blk W w.heap.size 23 [.int .i64 k, .int .i64 n, .string s] ∧ Blk W (w.heap.size + 1) 23 [.int .i64 k', .int .i64 n', .string s'] ∧ Below w.heap.size w W
theorem Two.next {w : World} {k n : Int} {s : ByteArray} {k' n' : Int} {s' : ByteArray} {W W' : World} (h : Two w k n s k' n' s' W) (hb : Below W.heap.size W W') : Two w k n s k' n' s' W' :=
  ⟨h.1.below hb (lt_of_block h.1), h.2.1.below hb (lt_of_block h.2.1), h.2.2.trans (hb.mono h.2.2.size)⟩
theorem Two.cells {w : World} {k n : Int} {s : ByteArray} {k' n' : Int} {s' : ByteArray} {W : World} (h : Two w k n s k' n' s' W) : W.cell? ⟨w.heap.size, 0, none⟩ = some (.int .i64 k) ∧ W.cell? ⟨w.heap.size, 1, none⟩ = some (.int .i64 n) ∧ W.cell? ⟨w.heap.size, 2, none⟩ = some (.string s) ∧ W.cell? ⟨w.heap.size + 1, 0, none⟩ = some (.int .i64 k') ∧ W.cell? ⟨w.heap.size + 1, 1, none⟩ = some (.int .i64 n') ∧ W.cell? ⟨w.heap.size + 1, 2, none⟩ = some (.string s') :=
  ⟨h.1.at_ 0, h.1.at_ 1, h.1.at_ 2, h.2.1.at_ 0, h.2.1.at_ 1, h.2.1.at_ 2⟩
theorem Two.drew {w : World} {k n : Int} {s : ByteArray} {k' n' : Int} {s' : ByteArray} {W : World} (h : Two w k n s k' n' s' W) : Two w k n s k' n' s' W.drew := ⟨h.1, h.2.1, h.2.2.drew⟩
theorem two_born (w : World) (k n : Int) (s : ByteArray) (k' n' : Int) (s' : ByteArray) : Two w k n s k' n' s' ((w.alloc (.cells #[.int .i64 k, .int .i64 n, .string s] 23)).alloc (.cells #[.int .i64 k', .int .i64 n', .string s'] 23)) :=
  have h := two_kept [.int .i64 k, .int .i64 n, .string s] [.int .i64 k', .int .i64 n', .string s'] (Below.refl _ _)
  ⟨h.1, h.2.1, h.2.2⟩

set_option maxHeartbeats 4000000 in
set_option maxRecDepth 100000 in
theorem orders_any (k n : Int) (s : ByteArray) (k' n' : Int) (s' : ByteArray) (w : World) (hs : s.size ≤ maxLen) (hs' : s'.size ≤ maxLen) :
    Calls Tryd.prog 3 #[.agg #[.int .i64 k, .int .i64 n, .string s], .agg #[.int .i64 k', .int .i64 n', .string s']] w fun e w' => e = .returned (.bool true) ∧ Below w.heap.size w w' := by
  have hsh := fun W (h : Two w k n s k' n' s' W) => (shown4_any W).mono fun e w' h' => And.intro h'.1 (h.next h'.2)
  have r1 := fun W (h : Two w k n s k' n' s' W) => (refright_any k n s W hs).mono fun e w' h' => And.intro h'.1 (h.next h'.2)
  have r2 := fun W (h : Two w k n s k' n' s' W) => (refright_any k' n' s' W hs').mono fun e w' h' => And.intro h'.1 (h.next h'.2)
  have p1 := fun W (h : Two w k n s k' n' s' W) => (right_any k n s W hs).mono fun e w' h' => And.intro h'.1 (h.next h'.2)
  have p2 := fun W (h : Two w k n s k' n' s' W) => (right_any k' n' s' W hs').mono fun e w' h' => And.intro h'.1 (h.next h'.2)
  have q1 := fun W (h : Two w k n s k' n' s' W) => (compare_any k n s k' n' s' W).mono fun e w' h' => And.intro h'.1 (h.next h'.2)
  have q2 := fun W (h : Two w k n s k' n' s' W) => (refcompare_any k n s k' n' s' W).mono fun e w' h' => And.intro h'.1 (h.next h'.2)
  have hT := two_born w k n s k' n' s'
  have hcmp : rightB k n s.toList = true → rightB k' n' s'.toList = true → cmpV k n s.toList k' n' s'.toList = refCmp k n s.toList k' n' s'.toList := cmp_ref
  generalize rightB k n s.toList = x at r1 p1 hcmp
  generalize rightB k' n' s'.toList = y at r2 p2 hcmp
  generalize cmpV k n s.toList k' n' s'.toList = c at q1 hcmp
  generalize refCmp k n s.toList k' n' s'.toList = d at q2 hcmp
  clear hs hs'
  have HT := Lib.hid hT
  clear hT
  cases x
  · clear hcmp q1 q2
    cases y
    all_goals
      go_enter Tryd.func3, Tryd.ntmps3
      go_wp2_with (first | (go_at_call 9; refine (hsh _ HT.out).mono ?_; rintro e W1 ⟨rfl, T1⟩; obtain ⟨a0, a1, a2, b0, b1, b2⟩ := T1.cells; clear hsh) | (go_at_call 10; refine (r1 _ T1).mono ?_; rintro e W2 ⟨rfl, T2⟩; obtain ⟨a0, a1, a2, b0, b1, b2⟩ := T2.cells; clear r1) | (go_at_call 10; refine (r2 _ T2).mono ?_; rintro e W3 ⟨rfl, T3⟩; obtain ⟨a0, a1, a2, b0, b1, b2⟩ := T3.cells; clear r2) | (go_at_call 11; refine (p1 _ T3).mono ?_; rintro e W4 ⟨rfl, T4⟩; obtain ⟨a0, a1, a2, b0, b1, b2⟩ := T4.cells; clear p1) | (go_at_call 11; refine (p2 _ T4).mono ?_; rintro e W5 ⟨rfl, T5⟩; obtain ⟨a0, a1, a2, b0, b1, b2⟩ := T5.cells; clear p2))
      go_quiet (fail)
      go_wp2_with fail
      go_ret
      exact ⟨rfl, Below.drewN' T5.2.2 _⟩
  · cases y
    · clear hcmp q1 q2
      go_enter Tryd.func3, Tryd.ntmps3
      go_wp2_with (first | (go_at_call 9; refine (hsh _ HT.out).mono ?_; rintro e W1 ⟨rfl, T1⟩; obtain ⟨a0, a1, a2, b0, b1, b2⟩ := T1.cells; clear hsh) | (go_at_call 10; refine (r1 _ T1).mono ?_; rintro e W2 ⟨rfl, T2⟩; obtain ⟨a0, a1, a2, b0, b1, b2⟩ := T2.cells; clear r1) | (go_at_call 10; refine (r2 _ T2).mono ?_; rintro e W3 ⟨rfl, T3⟩; obtain ⟨a0, a1, a2, b0, b1, b2⟩ := T3.cells; clear r2) | (go_at_call 11; refine (p1 _ T3).mono ?_; rintro e W4 ⟨rfl, T4⟩; obtain ⟨a0, a1, a2, b0, b1, b2⟩ := T4.cells; clear p1) | (go_at_call 11; refine (p2 _ T4).mono ?_; rintro e W5 ⟨rfl, T5⟩; obtain ⟨a0, a1, a2, b0, b1, b2⟩ := T5.cells; clear p2))
      go_quiet (fail)
      go_wp2_with fail
      go_ret
      exact ⟨rfl, Below.drewN' T5.2.2 _⟩
    · obtain rfl := hcmp rfl rfl
      have Q1 := fun W (h : Two w k n s k' n' s' W) => (q1 W h).mono fun e w' h' => And.intro h'.1 (And.intro h'.2 h'.2.cells)
      have Q2 := fun W (h : Two w k n s k' n' s' W) => (q2 W h).mono fun e w' h' => And.intro h'.1 (And.intro h'.2 h'.2.cells)
      clear hcmp q1 q2
      go_enter Tryd.func3, Tryd.ntmps3
      go_wp2_with (first | (go_at_call 9; refine (hsh _ HT.out).mono ?_; rintro e W1 ⟨rfl, T1⟩; obtain ⟨a0, a1, a2, b0, b1, b2⟩ := T1.cells; clear hsh) | (go_at_call 10; refine (r1 _ T1).mono ?_; rintro e W2 ⟨rfl, T2⟩; obtain ⟨a0, a1, a2, b0, b1, b2⟩ := T2.cells; clear r1) | (go_at_call 10; refine (r2 _ T2).mono ?_; rintro e W3 ⟨rfl, T3⟩; obtain ⟨a0, a1, a2, b0, b1, b2⟩ := T3.cells; clear r2) | (go_at_call 11; refine (p1 _ T3).mono ?_; rintro e W4 ⟨rfl, T4⟩; obtain ⟨a0, a1, a2, b0, b1, b2⟩ := T4.cells; clear p1) | (go_at_call 11; refine (p2 _ T4).mono ?_; rintro e W5 ⟨rfl, T5⟩; obtain ⟨a0, a1, a2, b0, b1, b2⟩ := T5.cells; clear p2))
      have T5d := T5.drew
      clear T1 T2 T3 T4 T5 HT
      go_region_held3 (fun W => Two w k n s k' n' s' W ∧ W.cell? ⟨w.heap.size, 0, none⟩ = some (.int .i64 k) ∧ W.cell? ⟨w.heap.size, 1, none⟩ = some (.int .i64 n) ∧ W.cell? ⟨w.heap.size, 2, none⟩ = some (.string s) ∧ W.cell? ⟨w.heap.size + 1, 0, none⟩ = some (.int .i64 k') ∧ W.cell? ⟨w.heap.size + 1, 1, none⟩ = some (.int .i64 n') ∧ W.cell? ⟨w.heap.size + 1, 2, none⟩ = some (.string s')) (go_keep) (first | (go_at_call 12; refine (Q1 _ ?_).mono ?_; (first | assumption | (simp [*])); rintro e w8 ⟨rfl, t8, h0, h1, h2, h3, h4, h5⟩) | (go_at_call 13; refine (Q2 _ ?_).mono ?_; (first | assumption | (simp [*])); rintro e w9 ⟨rfl, t9, h0, h1, h2, h3, h4, h5⟩))
      go_wp2_with fail
      go_ret
      exact ⟨rfl, t9.2.2⟩
end Go.Proofs.YtlflhigphfnhoaaDoor
