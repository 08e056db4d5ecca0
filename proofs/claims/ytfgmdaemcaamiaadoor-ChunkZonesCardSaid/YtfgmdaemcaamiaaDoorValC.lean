/- The walks of value.Compare (12) and the document's Compare (13). -/
import Derived.Test.YtfgmdaemcaamiaaDoorValB
import Derived.StillTailTactics
namespace Go.Proofs.YtfgmdaemcaamiaaDoor
open Go.RowKit
set_option linter.unusedVariables false

set_option maxHeartbeats 400000 in
set_option maxRecDepth 100000 in
theorem compare_any (k n : Int) (s : ByteArray) (k' n' : Int) (s' : ByteArray) (w : World) : Calls Tryd.prog 31 #[.agg #[.int .i64 k, .int .i64 n, .string s], .agg #[.int .i64 k', .int .i64 n', .string s']] w fun e w' => e = .returned (.int .i64 (cmpV k n s.toList k' n' s'.toList)) ∧ Below w.heap.size w w' := by
  obtain ⟨W2, hW2⟩ : ∃ W2, W2 = ((w.alloc (.cells #[.int .i64 k, .int .i64 n, .string s] 30)).alloc (.cells #[.int .i64 k', .int .i64 n', .string s'] 30)).drew := ⟨_, rfl⟩
  have HB : Hid (Below w.heap.size w W2) := by
    rw [hW2]
    exact (((Below.refl _ _).alloc (Nat.le_refl _) _).alloc (by simp) _).drew
  have hb1 : Blk W2 w.heap.size 30 [.int .i64 k, .int .i64 n, .string s] := by rw [hW2]; exact (Blk.born w 30 [.int .i64 k, .int .i64 n, .string s]).later _
  have hb2 : Blk W2 (w.heap.size + 1) 30 [.int .i64 k', .int .i64 n', .string s'] := by
    rw [hW2]
    have := Blk.born (w.alloc (.cells #[.int .i64 k, .int .i64 n, .string s] 30)) 30 [.int .i64 k', .int .i64 n', .string s']
    have e : (w.alloc (.cells #[.int .i64 k, .int .i64 n, .string s] 30)).heap.size = w.heap.size + 1 := by simp
    rw [e] at this
    exact this
  have a0 : W2.cell? ⟨w.heap.size, 0, none⟩ = some (.int .i64 k) := hb1.at_ 0
  have a1 : W2.cell? ⟨w.heap.size, 1, none⟩ = some (.int .i64 n) := hb1.at_ 1
  have a2 : W2.cell? ⟨w.heap.size, 2, none⟩ = some (.string s) := hb1.at_ 2
  have b0 : W2.cell? ⟨w.heap.size + 1, 0, none⟩ = some (.int .i64 k') := hb2.at_ 0
  have b1 : W2.cell? ⟨w.heap.size + 1, 1, none⟩ = some (.int .i64 n') := hb2.at_ 1
  have b2 : W2.cell? ⟨w.heap.size + 1, 2, none⟩ = some (.string s') := hb2.at_ 2
  have c1 := (cmp_int k k' W2).mono fun e w' h => And.intro h.1 h.2.symm
  have c2 := (cmp_i64 n n' W2).mono fun e w' h => And.intro h.1 h.2.symm
  have c3 := (cmp_str s s' W2).mono fun e w' h => And.intro h.1 h.2.symm
  have HH : Hid (W2 = ((w.alloc (.cells #[.int .i64 k, .int .i64 n, .string s] 30)).alloc (.cells #[.int .i64 k', .int .i64 n', .string s'] 30)).drew) := hW2
  have d0 := (Blk.born W2 3 [.int .i64 (cmpI k k'), .int .i64 (cmpI n n'), .int .i64 (cmpL s.toList s'.toList)])
  have co := or_any W2.heap.size 0 3 (cmpI k k') (cmpI n n') (cmpL s.toList s'.toList) (W2.alloc (.cells #[.int .i64 (cmpI k k'), .int .i64 (cmpI n n'), .int .i64 (cmpL s.toList s'.toList)] 3)) (d0.at_ 0) (d0.at_ 1) (d0.at_ 2)
  clear hW2 hb1 hb2 d0
  go_enter Tryd.func31, Tryd.ntmps31
  go_wp2
  refine wp_region_still_tail 15 (by kernel_rfl) (by kernel_rfl) ?_
  change wpStill _ _ (((w.alloc (.cells #[.int .i64 k, .int .i64 n, .string s] 30)).alloc (.cells #[.int .i64 k', .int .i64 n', .string s'] 30)).drew) _ _ _
  rw [← HH.out]
  simp only [List.take_succ_cons, List.take_zero, List.drop_succ_cons, List.drop_zero]
  still_step
  still_step
  still_step
  still_step
  still_call c1
  still_step
  still_step
  still_step
  still_step
  still_call c2
  still_step
  still_step
  still_step
  still_step
  still_call c3
  refine wpStill_nil ?_
  change wpList _ _ _ _ _ (((w.alloc (.cells #[.int .i64 k, .int .i64 n, .string s] 30)).alloc (.cells #[.int .i64 k', .int .i64 n', .string s'] 30)).drew)
  rw [← HH.out]
  go_wp2_with (go_at_call 52; refine co.mono ?_; rintro e w2 ⟨rfl, rfl⟩)
  go_ret
  exact ⟨rfl, HB.out.alloc HB.out.size _⟩

theorem two_kept {w w3 : World} (cs cs' : List Value) (hb : Below ((w.alloc (.cells cs.toArray 30)).alloc (.cells cs'.toArray 30)).heap.size ((w.alloc (.cells cs.toArray 30)).alloc (.cells cs'.toArray 30)) w3) : Blk w3 w.heap.size 30 cs ∧ Blk w3 (w.heap.size + 1) 30 cs' ∧ Below w.heap.size w w3 := by
  have e : (w.alloc (.cells cs.toArray 30)).heap.size = w.heap.size + 1 := by simp
  have e2 : ((w.alloc (.cells cs.toArray 30)).alloc (.cells cs'.toArray 30)).heap.size = w.heap.size + 1 + 1 := by simp
  have h1 := (Blk.born w 30 cs).later (.cells cs'.toArray 30)
  have h2 := Blk.born (w.alloc (.cells cs.toArray 30)) 30 cs'
  rw [e] at h2
  exact ⟨h1.below hb (by omega), h2.below hb (by omega), (((Below.refl _ _).alloc (Nat.le_refl _) _).alloc (by omega) _).trans (hb.mono (by omega))⟩

set_option maxHeartbeats 1000000 in
theorem refcompare_any (k n : Int) (s : ByteArray) (k' n' : Int) (s' : ByteArray) (w : World) : Calls Tryd.prog 15 #[.agg #[.int .i64 k, .int .i64 n, .string s], .agg #[.int .i64 k', .int .i64 n', .string s']] w fun e w' => e = .returned (.int .i64 (refCmp k n s.toList k' n' s'.toList)) ∧ Below w.heap.size w w' := by
  have f1 := fun w => less_any k n s k' n' s' w
  have f2 := fun w => less_any k' n' s' k n s w
  have H : Hid (refCmp k n s.toList k' n' s'.toList = if lessB k n s.toList k' n' s'.toList then -1 else if lessB k' n' s'.toList k n s.toList then 1 else 0) := rfl
  generalize lessB k n s.toList k' n' s'.toList = x at f1 H
  generalize lessB k' n' s'.toList k n s.toList = y at f2 H
  have fin : ∀ w3 w4, Below w.heap.size w w3 → Below w3.heap.size w3 w4 → Below w.heap.size w w4 := fun w3 w4 h g => h.trans (g.mono h.size)
  have FIN := Lib.hid fin
  clear fin
  have H2 : Hid ((if x = true then (-1 : Int) else if y = true then 1 else 0) = refCmp k n s.toList k' n' s'.toList) := H.out.symm
  clear H
  cases x <;> cases y <;> simp only [if_true, if_false, reduceCtorEq] at H2
  all_goals
    go_enter Tryd.func15, Tryd.ntmps15
    go_wp2_with (first | (go_at_call 35; refine (f1 _).mono ?_; rintro e w3 ⟨rfl, hb3⟩; obtain ⟨p1, p2, p3⟩ := two_kept [.int .i64 k, .int .i64 n, .string s] [.int .i64 k', .int .i64 n', .string s'] hb3; have a0 := p1.at_ 0; have a1 := p1.at_ 1; have a2 := p1.at_ 2; have b0 := p2.at_ 0; have b1 := p2.at_ 1; have b2 := p2.at_ 2; have P3 := Lib.hid p3; clear f1 p1 p2 p3 hb3) | (go_at_call 35; refine (f2 _).mono ?_; rintro e w4 ⟨rfl, hb4⟩; have P4 := FIN.out _ _ P3.out hb4; clear f2 hb4))
    go_ret
    exact ⟨ret_i64 H2.out, P4⟩
end Go.Proofs.YtfgmdaemcaamiaaDoor
