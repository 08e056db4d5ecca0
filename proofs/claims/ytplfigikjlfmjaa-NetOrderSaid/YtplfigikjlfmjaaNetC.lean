/- The walks of Send (35) where the network is full, of Copy (66) and of Lost (37). -/
import Derived.Test.YtplfigikjlfmjaaNetShown
namespace Go.Proofs.Ytplfigikjlfmjaa
open Go.RowKit
set_option linter.unusedVariables false

theorem NetC.setLost (v : Value) (n : Int) (cut : List Value) (lost m : Int) (h : cut.length = 49) : (NetC v n cut lost).set 51 (.int .i64 m) = NetC v n cut m := by
  unfold NetC
  rw [show (51 : Nat) = 49 + 1 + 1 from rfl, List.set_cons_succ, List.set_cons_succ, List.set_append_right _ _ (by omega), h]
  rfl
theorem isnet_lost {w0 w : World} {g : Nat} {v : Value} {k : Nat} {xs : List Value} {n lost : Int} {cut : List Value} (h : IsNet w0 w g v k xs n lost cut) (m : Int) : IsNet w0 (w.setCell ⟨g, 51, none⟩ (.int .i64 m)) g v k xs n m cut := by
  refine ⟨?_, h.len, ownsRow_setCell_other h.own (by simpa using h.ne) _, h.bel.setCell h.here _, h.here⟩
  have := h.blk.store 51 (.int .i64 m)
  rwa [NetC.setLost _ _ _ _ _ h.len] at this

set_option maxHeartbeats 4000000 in
set_option maxRecDepth 100000 in
theorem send_12_full (w0 : World) (g : Nat) (v : Value) (k : Nat) (xs : List Value) (n lost : Int) (cut : List Value) (s : ByteArray) (w : World) (h : IsNet w0 w g v k xs n lost cut) (hn : 2 ≤ n) (hcut : Open cut 1) (hk : 2000 ≤ k) (hs : s.size ≤ 600000) (hl0 : 0 ≤ lost) (hl1 : lost ≤ 1000000) :
    Calls Try.prog 13 #[.pointer (some ⟨g, 0, none⟩), .agg #[.int .i64 1, .int .i64 2, .string s]] w fun e w' => e = .returned (.int .i64 0) ∧ IsNet w0 w' g v k xs n (lost + 1) cut := by
  obtain ⟨A, c, rfl⟩ := own_form h.own
  have hb1 : Below w.heap.size w (w.alloc (Obj.cells #[Value.int IntKind.i64 1, Value.int IntKind.i64 2, Value.string s] 41)) := (Below.refl _ _).alloc (Nat.le_refl _) _
  have h1 := h.later hb1
  have n0 : (w.alloc (Obj.cells #[Value.int IntKind.i64 1, Value.int IntKind.i64 2, Value.string s] 41)).cell? ⟨w.heap.size, 0, none⟩ = some (.int .i64 1) := (Blk.born w 41 (msgC 1 2 s)).at_ 0
  have n1 : (w.alloc (Obj.cells #[Value.int IntKind.i64 1, Value.int IntKind.i64 2, Value.string s] 41)).cell? ⟨w.heap.size, 1, none⟩ = some (.int .i64 2) := (Blk.born w 41 (msgC 1 2 s)).at_ 1
  have n2 : (w.alloc (Obj.cells #[Value.int IntKind.i64 1, Value.int IntKind.i64 2, Value.string s] 41)).cell? ⟨w.heap.size, 2, none⟩ = some (.string s) := (Blk.born w 41 (msgC 1 2 s)).at_ 2
  have hgw := lt_of_block h.blk
  have hg1 : g < (w.alloc (Obj.cells #[Value.int IntKind.i64 1, Value.int IntKind.i64 2, Value.string s] 41)).heap.size := by simp; omega
  have g0 : (w.alloc (Obj.cells #[Value.int IntKind.i64 1, Value.int IntKind.i64 2, Value.string s] 41)).cell? ⟨g, 0, none⟩ = some (.slice A k c) := by rw [h1.blk.at_]; rfl
  have g1 : (w.alloc (Obj.cells #[Value.int IntKind.i64 1, Value.int IntKind.i64 2, Value.string s] 41)).cell? ⟨g, 1, none⟩ = some (.int .i64 n) := by rw [h1.blk.at_]; rfl
  have gc : (w.alloc (Obj.cells #[Value.int IntKind.i64 1, Value.int IntKind.i64 2, Value.string s] 41)).cell? ⟨g, 3, none⟩ = some (.bool false) := by
    rw [h1.blk.at_, show 3 = 2 + 1 from rfl, NetC.cut _ _ _ _ _ (by rw [h.len]; omega)]; exact hcut
  have gf : (w.alloc (Obj.cells #[Value.int IntKind.i64 1, Value.int IntKind.i64 2, Value.string s] 41)).frozen? ⟨g, 51, none⟩ = false := h1.blk.free 51
  have gl : (w.alloc (Obj.cells #[Value.int IntKind.i64 1, Value.int IntKind.i64 2, Value.string s] 41)).cell? ⟨g, 51, none⟩ = some (.int .i64 lost) := by rw [h1.blk.at_, NetC.lost _ _ _ _ h.len]
  have hwr : wrap64 (lost + 1) = lost + 1 := by simp only [wrap64]; omega
  have HI := Lib.hid h1
  clear h h1 hb1
  have hlk := Lib.hid (islink_yes g n 1 2 _ g1 (by omega) (by omega) (by omega) (by omega) (by omega))
  have hnl := Lib.hid (isnil_some g n _ g1 (by omega))
  have hfull := Lib.hid (fun m => (isfull_any g k c A ((w.alloc (Obj.cells #[Value.int IntKind.i64 1, Value.int IntKind.i64 2, Value.string s] 41)).drewN m) g0).mono fun e w' h => And.intro h.1 h.2.symm)
  have hnf : decide (2000 ≤ k) = true := by simp; omega
  rw [hnf] at hfull
  go_enter Try.func13, Try.ntmps13
  go_wp2_with (first | (go_at_call 24; refine hnl.out.mono ?_; rintro e w2 ⟨rfl, rfl⟩) | (go_at_call 26; refine hlk.out.mono ?_; rintro e w2 ⟨rfl, rfl⟩))
  go_quiet ((go_at_call 27; exact Calls.quiet_of_same (hfull.out _)))
  go_wp2_with fail
  go_ret
  exact ⟨rfl, (isnet_lost HI.out (lost + 1)).later ((Below.refl _ _).drewN' _)⟩

set_option maxHeartbeats 1000000 in
theorem lost_any (g : Nat) (n lost : Int) (w : World) (hn : w.cell? ⟨g, 1, none⟩ = some (.int .i64 n)) (hl : w.cell? ⟨g, 51, none⟩ = some (.int .i64 lost)) (h1 : 1 ≤ n) :
    Calls Try.prog 10 #[.pointer (some ⟨g, 0, none⟩)] w fun e w' => e = .returned (.int .i64 lost) ∧ w = w' := by
  have hnil := isnil_some g n w hn h1
  clear h1
  go_enter Try.func10, Try.ntmps10
  go_wp2_with (go_at_call 24; refine hnil.mono ?_; rintro e w2 ⟨rfl, rfl⟩)
  go_ret
  exact ⟨rfl, rfl⟩
theorem isnet_lostn {w0 w : World} {g : Nat} {v : Value} {k : Nat} {xs : List Value} {n lost : Int} {cut : List Value} (h : IsNet w0 w g v k xs n lost cut) (hn : 1 ≤ n) :
    Calls Try.prog 10 #[.pointer (some ⟨g, 0, none⟩)] w fun e w' => e = .returned (.int .i64 lost) ∧ w = w' :=
  lost_any g n lost w (by rw [h.blk.at_]; rfl) (by rw [h.blk.at_, NetC.lost _ _ _ _ h.len]) hn

/-- The first message of a network, as Look reads it. -/
theorem isnet_look {w0 w : World} {g : Nat} {v : Value} {k : Nat} {xs : List Value} {n lost : Int} {cut : List Value} (h : IsNet w0 w g v k xs n lost cut) (hn : 1 ≤ n) (i : Nat) (hi : i < k) (x y : Int) (s : ByteArray)
    (c0 : xs[i * 3]? = some (.int .i64 x)) (c1 : xs[i * 3 + 1]? = some (.int .i64 y)) (c2 : xs[i * 3 + 2]? = some (.string s)) :
    Calls Try.prog 11 #[.pointer (some ⟨g, 0, none⟩), .int .i64 i] w fun e w' => e = .returned (.tuple #[.agg #[.int .i64 x, .int .i64 y, .string s], .bool true]) ∧ Below w.heap.size w w' := by
  obtain ⟨g', cap, cur, rfl, hg0, hg', hkc, hcap, hsz, htk⟩ : ∃ g' cap cur, v = .slice (some ⟨g', 0, none⟩) k cap ∧ w0.heap.size ≤ g' ∧ w.heap[g']? = some (.cells cur 41 (0, 0)) ∧ k ≤ cap ∧ cap ≤ maxLen ∧ cur.size = cap * 3 ∧ cur.toList.take (k * 3) = xs := by
    rcases h.own.2 with ⟨_, hk⟩ | hr
    · omega
    · exact hr
  have hB : Blk w g' 41 cur.toList := by simpa [Blk] using hg'
  have hge : ∀ t u, t < k * 3 → xs[t]? = some u → cur.toList[t]? = some u := by
    intro t u ht hu
    rw [← htk, List.getElem?_take, if_pos ht] at hu
    exact hu
  exact look_yes g k cap i n g' 0 x y s w (by rw [h.blk.at_]; rfl) (by rw [h.blk.at_]; rfl) hn hi hkc (by rw [Nat.zero_add, hB.at_]; exact hge _ _ (by omega) c0) (by rw [Nat.zero_add, hB.at_]; exact hge _ _ (by omega) c1) (by rw [Nat.zero_add, hB.at_]; exact hge _ _ (by omega) c2)

set_option maxHeartbeats 4000000 in
set_option maxRecDepth 100000 in
theorem copy_full (w0 : World) (g : Nat) (v : Value) (k : Nat) (xs : List Value) (n lost : Int) (cut : List Value) (x y : Int) (s : ByteArray) (w : World) (h : IsNet w0 w g v k xs n lost cut) (hn : 1 ≤ n) (hk : 2000 ≤ k)
    (c0 : xs[0]? = some (.int .i64 x)) (c1 : xs[1]? = some (.int .i64 y)) (c2 : xs[2]? = some (.string s)) :
    Calls Try.prog 18 #[.pointer (some ⟨g, 0, none⟩), .int .i64 0] w fun e w' => e = .returned (.bool false) ∧ IsNet w0 w' g v k xs n lost cut := by
  have hlk := isnet_look h hn 0 (by omega) x y s c0 c1 c2
  obtain ⟨A, c, rfl⟩ := own_form h.own
  have hfull : ∀ w2, Below w.heap.size w w2 → Calls Try.prog 27 #[.pointer (some ⟨g, 0, none⟩)] w2 fun e w' => e = .returned (.bool true) ∧ w2 = w' := by
    intro w2 hb
    have h2 := h.later hb
    have := isfull_any g k c A w2 (by rw [h2.blk.at_]; rfl)
    rw [show decide (2000 ≤ k) = true by simp; omega] at this
    exact this
  have HI := Lib.hid h
  clear h
  go_enter Try.func18, Try.ntmps18
  go_wp2_with (first | (go_at_call 11; refine hlk.mono ?_; rintro e w2 ⟨rfl, hb2⟩; have hb3 := hb2.alloc hb2.size (Obj.cells #[.int .i64 x, .int .i64 y, .string s] 41)) | (go_at_call 27; refine (hfull _ hb3).mono ?_; rintro e w4 ⟨rfl, rfl⟩))
  go_ret
  exact ⟨rfl, HI.out.later hb3⟩

set_option maxHeartbeats 4000000 in
set_option maxRecDepth 100000 in
theorem copy_some (w0 : World) (g : Nat) (v : Value) (k : Nat) (xs : List Value) (n lost : Int) (cut : List Value) (x y : Int) (s : ByteArray) (w : World) (h : IsNet w0 w g v k xs n lost cut) (hn : 1 ≤ n) (hk0 : 0 < k) (hk : k < 2000)
    (c0 : xs[0]? = some (.int .i64 x)) (c1 : xs[1]? = some (.int .i64 y)) (c2 : xs[2]? = some (.string s)) :
    Calls Try.prog 18 #[.pointer (some ⟨g, 0, none⟩), .int .i64 0] w fun e w' => e = .returned (.bool true) ∧ ∃ v', IsNet w0 w' g v' (k + 1) (xs ++ msgC x y s) n lost cut := by
  have hlk := isnet_look h hn 0 (by omega) x y s c0 c1 c2
  obtain ⟨A, c, rfl⟩ := own_form h.own
  have hfull : ∀ w2, Below w.heap.size w w2 → Calls Try.prog 27 #[.pointer (some ⟨g, 0, none⟩)] w2 fun e w' => e = .returned (.bool false) ∧ w2 = w' := by
    intro w2 hb
    have h2 := h.later hb
    have := isfull_any g k c A w2 (by rw [h2.blk.at_]; rfl)
    rw [show decide (2000 ≤ k) = false by simp; omega] at this
    exact this
  have HI := Lib.hid h
  have hgw := lt_of_block h.blk
  clear h
  go_enter Try.func18, Try.ntmps18
  go_wp2_with (first | (go_at_call 11; refine hlk.mono ?_; rintro e w2 ⟨rfl, hb2⟩; have hb3 := hb2.alloc hb2.size (Obj.cells #[.int .i64 x, .int .i64 y, .string s] 41); have hadd := Lib.hid (fun m => isnet_add x y s (HI.out.later (hb3.drewN' m)) (by omega))) | (go_at_call 27; refine (hfull _ hb3).mono ?_; rintro e w4 ⟨rfl, rfl⟩))
  go_region_with (go_at_call 28; refine (hadd.out _).mono ?_; rintro e w3 ⟨rfl, v3, hN⟩)
  all_goals go_wp2
  all_goals go_ret
  all_goals exact ⟨rfl, v3, hN⟩
end Go.Proofs.Ytplfigikjlfmjaa
