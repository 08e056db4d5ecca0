/- The walks of Send (13) and Cut (12) on the lines 1-2, 2-3, 3-1, and what they leave alone. -/
import Derived.Test.YtplfigikjlfmjaaNetF
namespace Go.Proofs.Ytplfigikjlfmjaa
open Go.RowKit
set_option linter.unusedVariables false

theorem isnet_lostF {w0 w : World} {g : Nat} {v : Value} {k : Nat} {xs : List Value} {n lost : Int} {cut : List Value} (h : IsNet w0 w g v k xs n lost cut) (m : Int) : IsNet w0 (w.setCell ⟨g, 51, none⟩ (.int .i64 m)) g v k xs n m cut ∧ Fr w (w.setCell ⟨g, 51, none⟩ (.int .i64 m)) g v v := ⟨isnet_lost h m, Fr.store⟩
theorem NetC.setCut (v : Value) (n : Int) (cut : List Value) (lost : Int) (i : Nat) (u : Value) (h : i < cut.length) : (NetC v n cut lost).set (2 + i) u = NetC v n (cut.set i u) lost := by
  unfold NetC
  rw [show 2 + i = i + 1 + 1 by omega, List.set_cons_succ, List.set_cons_succ, List.set_append_left _ _ h]
theorem isnet_cut {w0 w : World} {g : Nat} {v : Value} {k : Nat} {xs : List Value} {n lost : Int} {cut : List Value} (h : IsNet w0 w g v k xs n lost cut) (i : Nat) (hi : i < 49) (u : Value) (o : Nat) (ho : o = 2 + i) : IsNet w0 (w.setCell ⟨g, o, none⟩ u) g v k xs n lost (cut.set i u) ∧ Fr w (w.setCell ⟨g, o, none⟩ u) g v v := by
  subst ho
  refine ⟨⟨?_, by rw [List.length_set]; exact h.len, ownsRow_setCell_other h.own (by simpa using h.ne) _, h.bel.setCell h.here _, h.here⟩, Fr.store⟩
  have := h.blk.store (2 + i) u
  rwa [NetC.setCut _ _ _ _ _ _ (by rw [h.len]; exact hi)] at this

set_option maxHeartbeats 4000000 in
set_option maxRecDepth 100000 in
theorem sendo_12 (w0 : World) (g : Nat) (v : Value) (k : Nat) (xs : List Value) (n lost : Int) (cut : List Value) (s : ByteArray) (w : World) (h : IsNet w0 w g v k xs n lost cut) (hn : 3 ≤ n) (hcut : Open cut 1) (hk : k < 2000) (hs : s.size ≤ 600000) :
    Calls Try.prog 13 #[.pointer (some ⟨g, 0, none⟩), .agg #[.int .i64 1, .int .i64 2, .string s]] w fun e w' => e = .returned (.int .i64 0) ∧ ∃ v', IsNet w0 w' g v' (k + 1) (xs ++ msgC 1 2 s) n lost cut ∧ Fr w w' g v v' := by
  obtain ⟨A, c, rfl⟩ := own_form h.own
  have hb1 : Below w.heap.size w (w.alloc (Obj.cells #[Value.int IntKind.i64 1, Value.int IntKind.i64 2, Value.string s] 41)) := (Below.refl _ _).alloc (Nat.le_refl _) _
  have h1 := h.later hb1
  have n0 : (w.alloc (Obj.cells #[Value.int IntKind.i64 1, Value.int IntKind.i64 2, Value.string s] 41)).cell? ⟨w.heap.size, 0, none⟩ = some (.int .i64 1) := (Blk.born w 41 (msgC 1 2 s)).at_ 0
  have n1 : (w.alloc (Obj.cells #[Value.int IntKind.i64 1, Value.int IntKind.i64 2, Value.string s] 41)).cell? ⟨w.heap.size, 1, none⟩ = some (.int .i64 2) := (Blk.born w 41 (msgC 1 2 s)).at_ 1
  have n2 : (w.alloc (Obj.cells #[Value.int IntKind.i64 1, Value.int IntKind.i64 2, Value.string s] 41)).cell? ⟨w.heap.size, 2, none⟩ = some (.string s) := (Blk.born w 41 (msgC 1 2 s)).at_ 2
  have hgw := lt_of_block h.blk
  have hg1 : g < (w.alloc (Obj.cells #[Value.int IntKind.i64 1, Value.int IntKind.i64 2, Value.string s] 41)).heap.size := by simp; omega
  have g0 : (w.alloc (Obj.cells #[Value.int IntKind.i64 1, Value.int IntKind.i64 2, Value.string s] 41)).cell? ⟨g, 0, none⟩ = some (.slice A k c) := by rw [h1.blk.at_]; rfl
  have g1 : (w.alloc (Obj.cells #[Value.int IntKind.i64 1, Value.int IntKind.i64 2, Value.string s] 41)).cell? ⟨g, 1, none⟩ = some (.int .i64 n) := by rw [h1.blk.at_]; rfl
  have gc : (w.alloc (Obj.cells #[Value.int IntKind.i64 1, Value.int IntKind.i64 2, Value.string s] 41)).cell? ⟨g, 3, none⟩ = some (.bool false) := by
    rw [h1.blk.at_, show 3 = 2 + 1 from rfl, NetC.cut _ _ _ _ _ (by rw [h.len]; omega)]; exact hcut
  have gf : (w.alloc (Obj.cells #[Value.int IntKind.i64 1, Value.int IntKind.i64 2, Value.string s] 41)).frozen? ⟨g, 0, none⟩ = false := h1.blk.free 0
  have HB := Lib.hid hb1
  have HI := Lib.hid h1
  clear h h1 hb1
  have hlk := Lib.hid (islink_yes g n 1 2 _ g1 (by omega) (by omega) (by omega) (by omega) (by omega))
  have hnl := Lib.hid (isnil_some g n _ g1 (by omega))
  have hfull := Lib.hid (fun m => (isfull_any g k c A ((w.alloc (Obj.cells #[Value.int IntKind.i64 1, Value.int IntKind.i64 2, Value.string s] 41)).drewN m) g0).mono fun e w' h => And.intro h.1 h.2.symm)
  have hnf : decide (2000 ≤ k) = false := by simp; omega
  rw [hnf] at hfull
  go_enter Try.func13, Try.ntmps13
  go_wp2_with (first | (go_at_call 24; refine hnl.out.mono ?_; rintro e w2 ⟨rfl, rfl⟩) | (go_at_call 26; refine hlk.out.mono ?_; rintro e w2 ⟨rfl, rfl⟩))
  go_quiet ((go_at_call 27; exact Calls.quiet_of_same (hfull.out _)))
  have hadd := Lib.hid (fun m => isnet_addF 1 2 s (HI.out.later ((Below.refl _ _).drewN' m)) (by omega))
  go_wp2_with fail
  go_region_with (go_at_call 28; refine (hadd.out _).mono ?_; rintro e w3 ⟨rfl, v3, hN, hF⟩)
  all_goals go_wp2
  all_goals go_ret
  all_goals exact ⟨rfl, v3, hN, Fr.up (HB.out.drewN' _) hF⟩

set_option maxHeartbeats 4000000 in
set_option maxRecDepth 100000 in
theorem sendc_12 (w0 : World) (g : Nat) (v : Value) (k : Nat) (xs : List Value) (n lost : Int) (cut : List Value) (s : ByteArray) (w : World) (h : IsNet w0 w g v k xs n lost cut) (hn : 3 ≤ n) (hcut : cut[1]? = some (.bool true)) (hs : s.size ≤ 600000) (hl0 : 0 ≤ lost) (hl1 : lost ≤ 1000000) :
    Calls Try.prog 13 #[.pointer (some ⟨g, 0, none⟩), .agg #[.int .i64 1, .int .i64 2, .string s]] w fun e w' => e = .returned (.int .i64 0) ∧ IsNet w0 w' g v k xs n (lost + 1) cut ∧ Fr w w' g v v := by
  obtain ⟨A, c, rfl⟩ := own_form h.own
  have hb1 : Below w.heap.size w (w.alloc (Obj.cells #[Value.int IntKind.i64 1, Value.int IntKind.i64 2, Value.string s] 41)) := (Below.refl _ _).alloc (Nat.le_refl _) _
  have h1 := h.later hb1
  have n0 : (w.alloc (Obj.cells #[Value.int IntKind.i64 1, Value.int IntKind.i64 2, Value.string s] 41)).cell? ⟨w.heap.size, 0, none⟩ = some (.int .i64 1) := (Blk.born w 41 (msgC 1 2 s)).at_ 0
  have n1 : (w.alloc (Obj.cells #[Value.int IntKind.i64 1, Value.int IntKind.i64 2, Value.string s] 41)).cell? ⟨w.heap.size, 1, none⟩ = some (.int .i64 2) := (Blk.born w 41 (msgC 1 2 s)).at_ 1
  have n2 : (w.alloc (Obj.cells #[Value.int IntKind.i64 1, Value.int IntKind.i64 2, Value.string s] 41)).cell? ⟨w.heap.size, 2, none⟩ = some (.string s) := (Blk.born w 41 (msgC 1 2 s)).at_ 2
  have hgw := lt_of_block h.blk
  have hg1 : g < (w.alloc (Obj.cells #[Value.int IntKind.i64 1, Value.int IntKind.i64 2, Value.string s] 41)).heap.size := by simp; omega
  have g0 : (w.alloc (Obj.cells #[Value.int IntKind.i64 1, Value.int IntKind.i64 2, Value.string s] 41)).cell? ⟨g, 0, none⟩ = some (.slice A k c) := by rw [h1.blk.at_]; rfl
  have g1 : (w.alloc (Obj.cells #[Value.int IntKind.i64 1, Value.int IntKind.i64 2, Value.string s] 41)).cell? ⟨g, 1, none⟩ = some (.int .i64 n) := by rw [h1.blk.at_]; rfl
  have gc : (w.alloc (Obj.cells #[Value.int IntKind.i64 1, Value.int IntKind.i64 2, Value.string s] 41)).cell? ⟨g, 3, none⟩ = some (.bool true) := by
    rw [h1.blk.at_, show 3 = 2 + 1 from rfl, NetC.cut _ _ _ _ _ (by rw [h.len]; omega)]; exact hcut
  have gf : (w.alloc (Obj.cells #[Value.int IntKind.i64 1, Value.int IntKind.i64 2, Value.string s] 41)).frozen? ⟨g, 51, none⟩ = false := h1.blk.free 51
  have gl : (w.alloc (Obj.cells #[Value.int IntKind.i64 1, Value.int IntKind.i64 2, Value.string s] 41)).cell? ⟨g, 51, none⟩ = some (.int .i64 lost) := by rw [h1.blk.at_, NetC.lost _ _ _ _ h.len]
  have hwr : wrap64 (lost + 1) = lost + 1 := by simp only [wrap64]; omega
  have HB := Lib.hid hb1
  have HI := Lib.hid h1
  clear h h1 hb1
  have hlk := Lib.hid (islink_yes g n 1 2 _ g1 (by omega) (by omega) (by omega) (by omega) (by omega))
  have hnl := Lib.hid (isnil_some g n _ g1 (by omega))
  go_enter Try.func13, Try.ntmps13
  go_wp2_with (first | (go_at_call 24; refine hnl.out.mono ?_; rintro e w2 ⟨rfl, rfl⟩) | (go_at_call 26; refine hlk.out.mono ?_; rintro e w2 ⟨rfl, rfl⟩))
  go_quiet (fail)
  go_wp2_with fail
  go_ret
  exact ⟨rfl, (isnet_lost HI.out (lost + 1)).later ((Below.refl _ _).drewN' _), Fr.down (Fr.up HB.out (isnet_lostF HI.out (lost + 1)).2) ((Below.refl _ _).drewN' _)⟩

set_option maxHeartbeats 4000000 in
theorem cut_12 (w0 : World) (g : Nat) (v : Value) (k : Nat) (xs : List Value) (n lost : Int) (cut : List Value) (c : Bool) (w : World) (h : IsNet w0 w g v k xs n lost cut) (hn : 3 ≤ n) :
    Calls Try.prog 12 #[.pointer (some ⟨g, 0, none⟩), .int .i64 1, .int .i64 2, .bool c] w fun e w' => e = .returned (.int .i64 0) ∧ IsNet w0 w' g v k xs n lost (cut.set 1 (.bool c)) ∧ Fr w w' g v v := by
  have hgw := lt_of_block h.blk
  have g1 : w.cell? ⟨g, 1, none⟩ = some (.int .i64 n) := by rw [h.blk.at_]; rfl
  have gc : (w.cell? ⟨g, 3, none⟩).isSome = true := by
    rw [h.blk.at_, show 3 = 2 + 1 from rfl, NetC.cut _ _ _ _ _ (by rw [h.len]; omega), List.getElem?_eq_getElem (by rw [h.len]; omega)]; rfl
  obtain ⟨u, gu⟩ := Option.isSome_iff_exists.1 gc
  have gf : w.frozen? ⟨g, 3, none⟩ = false := h.blk.free 3
  have hlk := Lib.hid (islink_yes g n 1 2 _ g1 (by omega) (by omega) (by omega) (by omega) (by omega))
  have hnl := Lib.hid (isnil_some g n _ g1 (by omega))
  have HI := Lib.hid h
  clear h gc
  go_enter Try.func12, Try.ntmps12
  go_wp2_with (first | (go_at_call 24; refine hnl.out.mono ?_; rintro e w2 ⟨rfl, rfl⟩) | (go_at_call 26; refine hlk.out.mono ?_; rintro e w2 ⟨rfl, rfl⟩))
  go_ret
  exact ⟨rfl, isnet_cut HI.out 1 (by omega) (.bool c) 3 rfl⟩

set_option maxHeartbeats 4000000 in
set_option maxRecDepth 100000 in
theorem sendo_23 (w0 : World) (g : Nat) (v : Value) (k : Nat) (xs : List Value) (n lost : Int) (cut : List Value) (s : ByteArray) (w : World) (h : IsNet w0 w g v k xs n lost cut) (hn : 3 ≤ n) (hcut : Open cut 9) (hk : k < 2000) (hs : s.size ≤ 600000) :
    Calls Try.prog 13 #[.pointer (some ⟨g, 0, none⟩), .agg #[.int .i64 2, .int .i64 3, .string s]] w fun e w' => e = .returned (.int .i64 0) ∧ ∃ v', IsNet w0 w' g v' (k + 1) (xs ++ msgC 2 3 s) n lost cut ∧ Fr w w' g v v' := by
  obtain ⟨A, c, rfl⟩ := own_form h.own
  have hb1 : Below w.heap.size w (w.alloc (Obj.cells #[Value.int IntKind.i64 2, Value.int IntKind.i64 3, Value.string s] 41)) := (Below.refl _ _).alloc (Nat.le_refl _) _
  have h1 := h.later hb1
  have n0 : (w.alloc (Obj.cells #[Value.int IntKind.i64 2, Value.int IntKind.i64 3, Value.string s] 41)).cell? ⟨w.heap.size, 0, none⟩ = some (.int .i64 2) := (Blk.born w 41 (msgC 2 3 s)).at_ 0
  have n1 : (w.alloc (Obj.cells #[Value.int IntKind.i64 2, Value.int IntKind.i64 3, Value.string s] 41)).cell? ⟨w.heap.size, 1, none⟩ = some (.int .i64 3) := (Blk.born w 41 (msgC 2 3 s)).at_ 1
  have n2 : (w.alloc (Obj.cells #[Value.int IntKind.i64 2, Value.int IntKind.i64 3, Value.string s] 41)).cell? ⟨w.heap.size, 2, none⟩ = some (.string s) := (Blk.born w 41 (msgC 2 3 s)).at_ 2
  have hgw := lt_of_block h.blk
  have hg1 : g < (w.alloc (Obj.cells #[Value.int IntKind.i64 2, Value.int IntKind.i64 3, Value.string s] 41)).heap.size := by simp; omega
  have g0 : (w.alloc (Obj.cells #[Value.int IntKind.i64 2, Value.int IntKind.i64 3, Value.string s] 41)).cell? ⟨g, 0, none⟩ = some (.slice A k c) := by rw [h1.blk.at_]; rfl
  have g1 : (w.alloc (Obj.cells #[Value.int IntKind.i64 2, Value.int IntKind.i64 3, Value.string s] 41)).cell? ⟨g, 1, none⟩ = some (.int .i64 n) := by rw [h1.blk.at_]; rfl
  have gc : (w.alloc (Obj.cells #[Value.int IntKind.i64 2, Value.int IntKind.i64 3, Value.string s] 41)).cell? ⟨g, 11, none⟩ = some (.bool false) := by
    rw [h1.blk.at_, show 11 = 2 + 9 from rfl, NetC.cut _ _ _ _ _ (by rw [h.len]; omega)]; exact hcut
  have gf : (w.alloc (Obj.cells #[Value.int IntKind.i64 2, Value.int IntKind.i64 3, Value.string s] 41)).frozen? ⟨g, 0, none⟩ = false := h1.blk.free 0
  have HB := Lib.hid hb1
  have HI := Lib.hid h1
  clear h h1 hb1
  have hlk := Lib.hid (islink_yes g n 2 3 _ g1 (by omega) (by omega) (by omega) (by omega) (by omega))
  have hnl := Lib.hid (isnil_some g n _ g1 (by omega))
  have hfull := Lib.hid (fun m => (isfull_any g k c A ((w.alloc (Obj.cells #[Value.int IntKind.i64 2, Value.int IntKind.i64 3, Value.string s] 41)).drewN m) g0).mono fun e w' h => And.intro h.1 h.2.symm)
  have hnf : decide (2000 ≤ k) = false := by simp; omega
  rw [hnf] at hfull
  go_enter Try.func13, Try.ntmps13
  go_wp2_with (first | (go_at_call 24; refine hnl.out.mono ?_; rintro e w2 ⟨rfl, rfl⟩) | (go_at_call 26; refine hlk.out.mono ?_; rintro e w2 ⟨rfl, rfl⟩))
  go_quiet ((go_at_call 27; exact Calls.quiet_of_same (hfull.out _)))
  have hadd := Lib.hid (fun m => isnet_addF 2 3 s (HI.out.later ((Below.refl _ _).drewN' m)) (by omega))
  go_wp2_with fail
  go_region_with (go_at_call 28; refine (hadd.out _).mono ?_; rintro e w3 ⟨rfl, v3, hN, hF⟩)
  all_goals go_wp2
  all_goals go_ret
  all_goals exact ⟨rfl, v3, hN, Fr.up (HB.out.drewN' _) hF⟩

set_option maxHeartbeats 4000000 in
set_option maxRecDepth 100000 in
theorem sendc_23 (w0 : World) (g : Nat) (v : Value) (k : Nat) (xs : List Value) (n lost : Int) (cut : List Value) (s : ByteArray) (w : World) (h : IsNet w0 w g v k xs n lost cut) (hn : 3 ≤ n) (hcut : cut[9]? = some (.bool true)) (hs : s.size ≤ 600000) (hl0 : 0 ≤ lost) (hl1 : lost ≤ 1000000) :
    Calls Try.prog 13 #[.pointer (some ⟨g, 0, none⟩), .agg #[.int .i64 2, .int .i64 3, .string s]] w fun e w' => e = .returned (.int .i64 0) ∧ IsNet w0 w' g v k xs n (lost + 1) cut ∧ Fr w w' g v v := by
  obtain ⟨A, c, rfl⟩ := own_form h.own
  have hb1 : Below w.heap.size w (w.alloc (Obj.cells #[Value.int IntKind.i64 2, Value.int IntKind.i64 3, Value.string s] 41)) := (Below.refl _ _).alloc (Nat.le_refl _) _
  have h1 := h.later hb1
  have n0 : (w.alloc (Obj.cells #[Value.int IntKind.i64 2, Value.int IntKind.i64 3, Value.string s] 41)).cell? ⟨w.heap.size, 0, none⟩ = some (.int .i64 2) := (Blk.born w 41 (msgC 2 3 s)).at_ 0
  have n1 : (w.alloc (Obj.cells #[Value.int IntKind.i64 2, Value.int IntKind.i64 3, Value.string s] 41)).cell? ⟨w.heap.size, 1, none⟩ = some (.int .i64 3) := (Blk.born w 41 (msgC 2 3 s)).at_ 1
  have n2 : (w.alloc (Obj.cells #[Value.int IntKind.i64 2, Value.int IntKind.i64 3, Value.string s] 41)).cell? ⟨w.heap.size, 2, none⟩ = some (.string s) := (Blk.born w 41 (msgC 2 3 s)).at_ 2
  have hgw := lt_of_block h.blk
  have hg1 : g < (w.alloc (Obj.cells #[Value.int IntKind.i64 2, Value.int IntKind.i64 3, Value.string s] 41)).heap.size := by simp; omega
  have g0 : (w.alloc (Obj.cells #[Value.int IntKind.i64 2, Value.int IntKind.i64 3, Value.string s] 41)).cell? ⟨g, 0, none⟩ = some (.slice A k c) := by rw [h1.blk.at_]; rfl
  have g1 : (w.alloc (Obj.cells #[Value.int IntKind.i64 2, Value.int IntKind.i64 3, Value.string s] 41)).cell? ⟨g, 1, none⟩ = some (.int .i64 n) := by rw [h1.blk.at_]; rfl
  have gc : (w.alloc (Obj.cells #[Value.int IntKind.i64 2, Value.int IntKind.i64 3, Value.string s] 41)).cell? ⟨g, 11, none⟩ = some (.bool true) := by
    rw [h1.blk.at_, show 11 = 2 + 9 from rfl, NetC.cut _ _ _ _ _ (by rw [h.len]; omega)]; exact hcut
  have gf : (w.alloc (Obj.cells #[Value.int IntKind.i64 2, Value.int IntKind.i64 3, Value.string s] 41)).frozen? ⟨g, 51, none⟩ = false := h1.blk.free 51
  have gl : (w.alloc (Obj.cells #[Value.int IntKind.i64 2, Value.int IntKind.i64 3, Value.string s] 41)).cell? ⟨g, 51, none⟩ = some (.int .i64 lost) := by rw [h1.blk.at_, NetC.lost _ _ _ _ h.len]
  have hwr : wrap64 (lost + 1) = lost + 1 := by simp only [wrap64]; omega
  have HB := Lib.hid hb1
  have HI := Lib.hid h1
  clear h h1 hb1
  have hlk := Lib.hid (islink_yes g n 2 3 _ g1 (by omega) (by omega) (by omega) (by omega) (by omega))
  have hnl := Lib.hid (isnil_some g n _ g1 (by omega))
  go_enter Try.func13, Try.ntmps13
  go_wp2_with (first | (go_at_call 24; refine hnl.out.mono ?_; rintro e w2 ⟨rfl, rfl⟩) | (go_at_call 26; refine hlk.out.mono ?_; rintro e w2 ⟨rfl, rfl⟩))
  go_quiet (fail)
  go_wp2_with fail
  go_ret
  exact ⟨rfl, (isnet_lost HI.out (lost + 1)).later ((Below.refl _ _).drewN' _), Fr.down (Fr.up HB.out (isnet_lostF HI.out (lost + 1)).2) ((Below.refl _ _).drewN' _)⟩

set_option maxHeartbeats 4000000 in
theorem cut_23 (w0 : World) (g : Nat) (v : Value) (k : Nat) (xs : List Value) (n lost : Int) (cut : List Value) (c : Bool) (w : World) (h : IsNet w0 w g v k xs n lost cut) (hn : 3 ≤ n) :
    Calls Try.prog 12 #[.pointer (some ⟨g, 0, none⟩), .int .i64 2, .int .i64 3, .bool c] w fun e w' => e = .returned (.int .i64 0) ∧ IsNet w0 w' g v k xs n lost (cut.set 9 (.bool c)) ∧ Fr w w' g v v := by
  have hgw := lt_of_block h.blk
  have g1 : w.cell? ⟨g, 1, none⟩ = some (.int .i64 n) := by rw [h.blk.at_]; rfl
  have gc : (w.cell? ⟨g, 11, none⟩).isSome = true := by
    rw [h.blk.at_, show 11 = 2 + 9 from rfl, NetC.cut _ _ _ _ _ (by rw [h.len]; omega), List.getElem?_eq_getElem (by rw [h.len]; omega)]; rfl
  obtain ⟨u, gu⟩ := Option.isSome_iff_exists.1 gc
  have gf : w.frozen? ⟨g, 11, none⟩ = false := h.blk.free 11
  have hlk := Lib.hid (islink_yes g n 2 3 _ g1 (by omega) (by omega) (by omega) (by omega) (by omega))
  have hnl := Lib.hid (isnil_some g n _ g1 (by omega))
  have HI := Lib.hid h
  clear h gc
  go_enter Try.func12, Try.ntmps12
  go_wp2_with (first | (go_at_call 24; refine hnl.out.mono ?_; rintro e w2 ⟨rfl, rfl⟩) | (go_at_call 26; refine hlk.out.mono ?_; rintro e w2 ⟨rfl, rfl⟩))
  go_ret
  exact ⟨rfl, isnet_cut HI.out 9 (by omega) (.bool c) 11 rfl⟩

set_option maxHeartbeats 4000000 in
set_option maxRecDepth 100000 in
theorem sendo_31 (w0 : World) (g : Nat) (v : Value) (k : Nat) (xs : List Value) (n lost : Int) (cut : List Value) (s : ByteArray) (w : World) (h : IsNet w0 w g v k xs n lost cut) (hn : 3 ≤ n) (hcut : Open cut 14) (hk : k < 2000) (hs : s.size ≤ 600000) :
    Calls Try.prog 13 #[.pointer (some ⟨g, 0, none⟩), .agg #[.int .i64 3, .int .i64 1, .string s]] w fun e w' => e = .returned (.int .i64 0) ∧ ∃ v', IsNet w0 w' g v' (k + 1) (xs ++ msgC 3 1 s) n lost cut ∧ Fr w w' g v v' := by
  obtain ⟨A, c, rfl⟩ := own_form h.own
  have hb1 : Below w.heap.size w (w.alloc (Obj.cells #[Value.int IntKind.i64 3, Value.int IntKind.i64 1, Value.string s] 41)) := (Below.refl _ _).alloc (Nat.le_refl _) _
  have h1 := h.later hb1
  have n0 : (w.alloc (Obj.cells #[Value.int IntKind.i64 3, Value.int IntKind.i64 1, Value.string s] 41)).cell? ⟨w.heap.size, 0, none⟩ = some (.int .i64 3) := (Blk.born w 41 (msgC 3 1 s)).at_ 0
  have n1 : (w.alloc (Obj.cells #[Value.int IntKind.i64 3, Value.int IntKind.i64 1, Value.string s] 41)).cell? ⟨w.heap.size, 1, none⟩ = some (.int .i64 1) := (Blk.born w 41 (msgC 3 1 s)).at_ 1
  have n2 : (w.alloc (Obj.cells #[Value.int IntKind.i64 3, Value.int IntKind.i64 1, Value.string s] 41)).cell? ⟨w.heap.size, 2, none⟩ = some (.string s) := (Blk.born w 41 (msgC 3 1 s)).at_ 2
  have hgw := lt_of_block h.blk
  have hg1 : g < (w.alloc (Obj.cells #[Value.int IntKind.i64 3, Value.int IntKind.i64 1, Value.string s] 41)).heap.size := by simp; omega
  have g0 : (w.alloc (Obj.cells #[Value.int IntKind.i64 3, Value.int IntKind.i64 1, Value.string s] 41)).cell? ⟨g, 0, none⟩ = some (.slice A k c) := by rw [h1.blk.at_]; rfl
  have g1 : (w.alloc (Obj.cells #[Value.int IntKind.i64 3, Value.int IntKind.i64 1, Value.string s] 41)).cell? ⟨g, 1, none⟩ = some (.int .i64 n) := by rw [h1.blk.at_]; rfl
  have gc : (w.alloc (Obj.cells #[Value.int IntKind.i64 3, Value.int IntKind.i64 1, Value.string s] 41)).cell? ⟨g, 16, none⟩ = some (.bool false) := by
    rw [h1.blk.at_, show 16 = 2 + 14 from rfl, NetC.cut _ _ _ _ _ (by rw [h.len]; omega)]; exact hcut
  have gf : (w.alloc (Obj.cells #[Value.int IntKind.i64 3, Value.int IntKind.i64 1, Value.string s] 41)).frozen? ⟨g, 0, none⟩ = false := h1.blk.free 0
  have HB := Lib.hid hb1
  have HI := Lib.hid h1
  clear h h1 hb1
  have hlk := Lib.hid (islink_yes g n 3 1 _ g1 (by omega) (by omega) (by omega) (by omega) (by omega))
  have hnl := Lib.hid (isnil_some g n _ g1 (by omega))
  have hfull := Lib.hid (fun m => (isfull_any g k c A ((w.alloc (Obj.cells #[Value.int IntKind.i64 3, Value.int IntKind.i64 1, Value.string s] 41)).drewN m) g0).mono fun e w' h => And.intro h.1 h.2.symm)
  have hnf : decide (2000 ≤ k) = false := by simp; omega
  rw [hnf] at hfull
  go_enter Try.func13, Try.ntmps13
  go_wp2_with (first | (go_at_call 24; refine hnl.out.mono ?_; rintro e w2 ⟨rfl, rfl⟩) | (go_at_call 26; refine hlk.out.mono ?_; rintro e w2 ⟨rfl, rfl⟩))
  go_quiet ((go_at_call 27; exact Calls.quiet_of_same (hfull.out _)))
  have hadd := Lib.hid (fun m => isnet_addF 3 1 s (HI.out.later ((Below.refl _ _).drewN' m)) (by omega))
  go_wp2_with fail
  go_region_with (go_at_call 28; refine (hadd.out _).mono ?_; rintro e w3 ⟨rfl, v3, hN, hF⟩)
  all_goals go_wp2
  all_goals go_ret
  all_goals exact ⟨rfl, v3, hN, Fr.up (HB.out.drewN' _) hF⟩

set_option maxHeartbeats 4000000 in
set_option maxRecDepth 100000 in
theorem sendc_31 (w0 : World) (g : Nat) (v : Value) (k : Nat) (xs : List Value) (n lost : Int) (cut : List Value) (s : ByteArray) (w : World) (h : IsNet w0 w g v k xs n lost cut) (hn : 3 ≤ n) (hcut : cut[14]? = some (.bool true)) (hs : s.size ≤ 600000) (hl0 : 0 ≤ lost) (hl1 : lost ≤ 1000000) :
    Calls Try.prog 13 #[.pointer (some ⟨g, 0, none⟩), .agg #[.int .i64 3, .int .i64 1, .string s]] w fun e w' => e = .returned (.int .i64 0) ∧ IsNet w0 w' g v k xs n (lost + 1) cut ∧ Fr w w' g v v := by
  obtain ⟨A, c, rfl⟩ := own_form h.own
  have hb1 : Below w.heap.size w (w.alloc (Obj.cells #[Value.int IntKind.i64 3, Value.int IntKind.i64 1, Value.string s] 41)) := (Below.refl _ _).alloc (Nat.le_refl _) _
  have h1 := h.later hb1
  have n0 : (w.alloc (Obj.cells #[Value.int IntKind.i64 3, Value.int IntKind.i64 1, Value.string s] 41)).cell? ⟨w.heap.size, 0, none⟩ = some (.int .i64 3) := (Blk.born w 41 (msgC 3 1 s)).at_ 0
  have n1 : (w.alloc (Obj.cells #[Value.int IntKind.i64 3, Value.int IntKind.i64 1, Value.string s] 41)).cell? ⟨w.heap.size, 1, none⟩ = some (.int .i64 1) := (Blk.born w 41 (msgC 3 1 s)).at_ 1
  have n2 : (w.alloc (Obj.cells #[Value.int IntKind.i64 3, Value.int IntKind.i64 1, Value.string s] 41)).cell? ⟨w.heap.size, 2, none⟩ = some (.string s) := (Blk.born w 41 (msgC 3 1 s)).at_ 2
  have hgw := lt_of_block h.blk
  have hg1 : g < (w.alloc (Obj.cells #[Value.int IntKind.i64 3, Value.int IntKind.i64 1, Value.string s] 41)).heap.size := by simp; omega
  have g0 : (w.alloc (Obj.cells #[Value.int IntKind.i64 3, Value.int IntKind.i64 1, Value.string s] 41)).cell? ⟨g, 0, none⟩ = some (.slice A k c) := by rw [h1.blk.at_]; rfl
  have g1 : (w.alloc (Obj.cells #[Value.int IntKind.i64 3, Value.int IntKind.i64 1, Value.string s] 41)).cell? ⟨g, 1, none⟩ = some (.int .i64 n) := by rw [h1.blk.at_]; rfl
  have gc : (w.alloc (Obj.cells #[Value.int IntKind.i64 3, Value.int IntKind.i64 1, Value.string s] 41)).cell? ⟨g, 16, none⟩ = some (.bool true) := by
    rw [h1.blk.at_, show 16 = 2 + 14 from rfl, NetC.cut _ _ _ _ _ (by rw [h.len]; omega)]; exact hcut
  have gf : (w.alloc (Obj.cells #[Value.int IntKind.i64 3, Value.int IntKind.i64 1, Value.string s] 41)).frozen? ⟨g, 51, none⟩ = false := h1.blk.free 51
  have gl : (w.alloc (Obj.cells #[Value.int IntKind.i64 3, Value.int IntKind.i64 1, Value.string s] 41)).cell? ⟨g, 51, none⟩ = some (.int .i64 lost) := by rw [h1.blk.at_, NetC.lost _ _ _ _ h.len]
  have hwr : wrap64 (lost + 1) = lost + 1 := by simp only [wrap64]; omega
  have HB := Lib.hid hb1
  have HI := Lib.hid h1
  clear h h1 hb1
  have hlk := Lib.hid (islink_yes g n 3 1 _ g1 (by omega) (by omega) (by omega) (by omega) (by omega))
  have hnl := Lib.hid (isnil_some g n _ g1 (by omega))
  go_enter Try.func13, Try.ntmps13
  go_wp2_with (first | (go_at_call 24; refine hnl.out.mono ?_; rintro e w2 ⟨rfl, rfl⟩) | (go_at_call 26; refine hlk.out.mono ?_; rintro e w2 ⟨rfl, rfl⟩))
  go_quiet (fail)
  go_wp2_with fail
  go_ret
  exact ⟨rfl, (isnet_lost HI.out (lost + 1)).later ((Below.refl _ _).drewN' _), Fr.down (Fr.up HB.out (isnet_lostF HI.out (lost + 1)).2) ((Below.refl _ _).drewN' _)⟩

set_option maxHeartbeats 4000000 in
theorem cut_31 (w0 : World) (g : Nat) (v : Value) (k : Nat) (xs : List Value) (n lost : Int) (cut : List Value) (c : Bool) (w : World) (h : IsNet w0 w g v k xs n lost cut) (hn : 3 ≤ n) :
    Calls Try.prog 12 #[.pointer (some ⟨g, 0, none⟩), .int .i64 3, .int .i64 1, .bool c] w fun e w' => e = .returned (.int .i64 0) ∧ IsNet w0 w' g v k xs n lost (cut.set 14 (.bool c)) ∧ Fr w w' g v v := by
  have hgw := lt_of_block h.blk
  have g1 : w.cell? ⟨g, 1, none⟩ = some (.int .i64 n) := by rw [h.blk.at_]; rfl
  have gc : (w.cell? ⟨g, 16, none⟩).isSome = true := by
    rw [h.blk.at_, show 16 = 2 + 14 from rfl, NetC.cut _ _ _ _ _ (by rw [h.len]; omega), List.getElem?_eq_getElem (by rw [h.len]; omega)]; rfl
  obtain ⟨u, gu⟩ := Option.isSome_iff_exists.1 gc
  have gf : w.frozen? ⟨g, 16, none⟩ = false := h.blk.free 16
  have hlk := Lib.hid (islink_yes g n 3 1 _ g1 (by omega) (by omega) (by omega) (by omega) (by omega))
  have hnl := Lib.hid (isnil_some g n _ g1 (by omega))
  have HI := Lib.hid h
  clear h gc
  go_enter Try.func12, Try.ntmps12
  go_wp2_with (first | (go_at_call 24; refine hnl.out.mono ?_; rintro e w2 ⟨rfl, rfl⟩) | (go_at_call 26; refine hlk.out.mono ?_; rintro e w2 ⟨rfl, rfl⟩))
  go_ret
  exact ⟨rfl, isnet_cut HI.out 14 (by omega) (.bool c) 16 rfl⟩

end Go.Proofs.Ytplfigikjlfmjaa
