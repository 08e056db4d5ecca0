/- The walks of Send (35) on lines that are not cut, of a network with room. -/
import Derived.Test.YtplfigikjlfmjaaNetA
import Derived.Deep.RegionWith
namespace Go.Proofs.Ytplfigikjlfmjaa
open Go.RowKit
set_option linter.unusedVariables false

theorem _root_.Go.RowKit.Below.drewN' {B : Nat} {a w : World} (h : Below B a w) (k : Nat) : Below B a (w.drewN k) := h.trans ⟨rfl, rfl, rfl, Nat.le_refl _, fun _ _ => rfl⟩
/-- A network in block g, made since the world w0: its messages v (k of them, whose cells are xs), n members, lost messages, cut lines. -/
structure IsNet (w0 w : World) (g : Nat) (v : Value) (k : Nat) (xs : List Value) (n lost : Int) (cut : List Value) : Prop where
  blk : Blk w g 55 (NetC v n cut lost)
  len : cut.length = 49
  own : w.ownsRow w0.heap.size 41 3 v k xs
  bel : Below w0.heap.size w0 w
  here : w0.heap.size ≤ g
theorem IsNet.later {w0 w w' : World} {g : Nat} {v : Value} {k : Nat} {xs : List Value} {n lost : Int} {cut : List Value} (h : IsNet w0 w g v k xs n lost cut) (hb : Below w.heap.size w w') : IsNet w0 w' g v k xs n lost cut :=
  ⟨h.blk.below hb (lt_of_block h.blk), h.len, own_below h.own hb, h.bel.trans (hb.mono h.bel.size), h.here⟩
theorem own_ne {w : World} {g B : Nat} {cs : List Value} {v : Value} {k : Nat} {xs : List Value} (hb : Blk w g 55 cs) (h : w.ownsRow B 41 3 v k xs) : v.ownBlock ≠ some g := by
  rcases h.2 with ⟨rfl, _⟩ | ⟨g', cap, cur, rfl, _, hg, _⟩
  · simp [Value.ownBlock]
  · intro e
    simp only [Value.ownBlock, Option.some.injEq] at e
    subst e
    unfold Blk at hb
    rw [hg] at hb
    simp at hb
theorem IsNet.ne {w0 w : World} {g : Nat} {v : Value} {k : Nat} {xs : List Value} {n lost : Int} {cut : List Value} (h : IsNet w0 w g v k xs n lost cut) : v.ownBlock ≠ some g := own_ne h.blk h.own
theorem isnet_add {w0 w : World} {g : Nat} {v : Value} {k : Nat} {xs : List Value} {n lost : Int} {cut : List Value} (x y : Int) (s : ByteArray) (h : IsNet w0 w g v k xs n lost cut) (hk : k ≤ 3000) :
    Calls Try.prog 28 #[.pointer (some ⟨g, 0, none⟩), .agg #[.int .i64 x, .int .i64 y, .string s]] w fun e w' => e = .returned (.tuple #[]) ∧ ∃ v', IsNet w0 w' g v' (k + 1) (xs ++ msgC x y s) n lost cut := by
  refine (add_any g w0.heap.size v k xs x y s w (by rw [h.blk.at_]; rfl) (h.blk.free 0) h.own h.bel.size hk h.ne).mono ?_
  rintro e w' ⟨he, v', w1, hown, hgr, rfl⟩
  have hb1 : Blk w1 g 55 (NetC v n cut lost) := (hgr.block g (lt_of_block h.blk) (fun e => h.ne e.symm)).trans h.blk
  have hbel1 : Below w0.heap.size w0 w1 := h.bel.grown hgr h.bel.size (fun j hj => (World.ownsRow.lt h.own j hj).1)
  have hne : v'.ownBlock ≠ some g := own_ne hb1 hown
  refine ⟨he, v', hb1.store 0 v', h.len, ownsRow_setCell_other hown (by simpa using hne) v', hbel1.setCell h.here v', h.here⟩
/-- The line from a to b is open. -/
def Open (cut : List Value) (i : Nat) : Prop := cut[i]? = some (.bool false)

set_option maxHeartbeats 4000000 in
set_option maxRecDepth 100000 in
theorem send_12 (w0 : World) (g : Nat) (v : Value) (k : Nat) (xs : List Value) (n lost : Int) (cut : List Value) (s : ByteArray) (w : World) (h : IsNet w0 w g v k xs n lost cut) (hn : 2 ≤ n) (hcut : Open cut 1) (hk : k < 2000) (hs : s.size ≤ 600000) :
    Calls Try.prog 13 #[.pointer (some ⟨g, 0, none⟩), .agg #[.int .i64 1, .int .i64 2, .string s]] w fun e w' => e = .returned (.int .i64 0) ∧ ∃ v', IsNet w0 w' g v' (k + 1) (xs ++ msgC 1 2 s) n lost cut := by
  obtain ⟨A, c, rfl⟩ := own_form h.own
  have hb1 : Below w.heap.size w (w.alloc (Obj.cells #[Value.int IntKind.i64 1, Value.int IntKind.i64 2, Value.string s] 41)) := (Below.refl _ _).alloc (Nat.le_refl _) _
  have h1 := h.later hb1
  have n0 : (w.alloc (Obj.cells #[Value.int IntKind.i64 1, Value.int IntKind.i64 2, Value.string s] 41)).cell? ⟨w.heap.size, 0, none⟩ = some (.int .i64 1) := (Blk.born w 41 (msgC 1 2 s)).at_ 0
  have n1 : (w.alloc (Obj.cells #[Value.int IntKind.i64 1, Value.int IntKind.i64 2, Value.string s] 41)).cell? ⟨w.heap.size, 1, none⟩ = some (.int .i64 2) := (Blk.born w 41 (msgC 1 2 s)).at_ 1
  have n2 : (w.alloc (Obj.cells #[Value.int IntKind.i64 1, Value.int IntKind.i64 2, Value.string s] 41)).cell? ⟨w.heap.size, 2, none⟩ = some (.string s) := (Blk.born w 41 (msgC 1 2 s)).at_ 2
  have hgw := lt_of_block h.blk
  have hg1 : g < (w.alloc (Obj.cells #[Value.int IntKind.i64 1, Value.int IntKind.i64 2, Value.string s] 41)).heap.size := by simp; omega
  have g0 : (w.alloc (Obj.cells #[Value.int IntKind.i64 1, Value.int IntKind.i64 2, Value.string s] 41)).cell? ⟨g, 0, none⟩ = some (.slice A k c) := by rw [h1.blk.at_]; rfl
  have g1 : (w.alloc (Obj.cells #[Value.int IntKind.i64 1, Value.int IntKind.i64 2, Value.string s] 41)).cell? ⟨g, 1, none⟩ = some (.int .i64 n) := by rw [h1.blk.at_]; rfl
  have gc : (w.alloc (Obj.cells #[Value.int IntKind.i64 1, Value.int IntKind.i64 2, Value.string s] 41)).cell? ⟨g, 3, none⟩ = some (.bool false) := by
    rw [h1.blk.at_, show 3 = 2 + 1 from rfl, NetC.cut _ _ _ _ _ (by rw [h.len]; omega)]; exact hcut
  have gf : (w.alloc (Obj.cells #[Value.int IntKind.i64 1, Value.int IntKind.i64 2, Value.string s] 41)).frozen? ⟨g, 0, none⟩ = false := h1.blk.free 0
  have HB := Lib.hid hb1
  have HI := Lib.hid h1
  clear h h1 hb1
  have hlk := Lib.hid (islink_yes g n 1 2 _ g1 (by omega) (by omega) (by omega) (by omega) (by omega))
  have hnl := Lib.hid (isnil_some g n _ g1 (by omega))
  have hfull := Lib.hid (fun m => (isfull_any g k c A ((w.alloc (Obj.cells #[Value.int IntKind.i64 1, Value.int IntKind.i64 2, Value.string s] 41)).drewN m) g0).mono fun e w' h => And.intro h.1 h.2.symm)
  have hnf : decide (2000 ≤ k) = false := by simp; omega
  rw [hnf] at hfull
  go_enter Try.func13, Try.ntmps13
  go_wp2_with (first | (go_at_call 24; refine hnl.out.mono ?_; rintro e w2 ⟨rfl, rfl⟩) | (go_at_call 26; refine hlk.out.mono ?_; rintro e w2 ⟨rfl, rfl⟩))
  go_quiet ((go_at_call 27; exact Calls.quiet_of_same (hfull.out _)))
  have hadd := Lib.hid (fun m => isnet_add 1 2 s (HI.out.later ((Below.refl _ _).drewN' m)) (by omega))
  go_wp2_with fail
  go_region_with (go_at_call 28; refine (hadd.out _).mono ?_; rintro e w3 ⟨rfl, v3, hN⟩)
  all_goals go_wp2
  all_goals go_ret
  all_goals exact ⟨rfl, v3, hN⟩

set_option maxHeartbeats 4000000 in
set_option maxRecDepth 100000 in
theorem send_21 (w0 : World) (g : Nat) (v : Value) (k : Nat) (xs : List Value) (n lost : Int) (cut : List Value) (s : ByteArray) (w : World) (h : IsNet w0 w g v k xs n lost cut) (hn : 2 ≤ n) (hcut : Open cut 7) (hk : k < 2000) (hs : s.size ≤ 600000) :
    Calls Try.prog 13 #[.pointer (some ⟨g, 0, none⟩), .agg #[.int .i64 2, .int .i64 1, .string s]] w fun e w' => e = .returned (.int .i64 0) ∧ ∃ v', IsNet w0 w' g v' (k + 1) (xs ++ msgC 2 1 s) n lost cut := by
  obtain ⟨A, c, rfl⟩ := own_form h.own
  have hb1 : Below w.heap.size w (w.alloc (Obj.cells #[Value.int IntKind.i64 2, Value.int IntKind.i64 1, Value.string s] 41)) := (Below.refl _ _).alloc (Nat.le_refl _) _
  have h1 := h.later hb1
  have n0 : (w.alloc (Obj.cells #[Value.int IntKind.i64 2, Value.int IntKind.i64 1, Value.string s] 41)).cell? ⟨w.heap.size, 0, none⟩ = some (.int .i64 2) := (Blk.born w 41 (msgC 2 1 s)).at_ 0
  have n1 : (w.alloc (Obj.cells #[Value.int IntKind.i64 2, Value.int IntKind.i64 1, Value.string s] 41)).cell? ⟨w.heap.size, 1, none⟩ = some (.int .i64 1) := (Blk.born w 41 (msgC 2 1 s)).at_ 1
  have n2 : (w.alloc (Obj.cells #[Value.int IntKind.i64 2, Value.int IntKind.i64 1, Value.string s] 41)).cell? ⟨w.heap.size, 2, none⟩ = some (.string s) := (Blk.born w 41 (msgC 2 1 s)).at_ 2
  have hgw := lt_of_block h.blk
  have hg1 : g < (w.alloc (Obj.cells #[Value.int IntKind.i64 2, Value.int IntKind.i64 1, Value.string s] 41)).heap.size := by simp; omega
  have g0 : (w.alloc (Obj.cells #[Value.int IntKind.i64 2, Value.int IntKind.i64 1, Value.string s] 41)).cell? ⟨g, 0, none⟩ = some (.slice A k c) := by rw [h1.blk.at_]; rfl
  have g1 : (w.alloc (Obj.cells #[Value.int IntKind.i64 2, Value.int IntKind.i64 1, Value.string s] 41)).cell? ⟨g, 1, none⟩ = some (.int .i64 n) := by rw [h1.blk.at_]; rfl
  have gc : (w.alloc (Obj.cells #[Value.int IntKind.i64 2, Value.int IntKind.i64 1, Value.string s] 41)).cell? ⟨g, 9, none⟩ = some (.bool false) := by
    rw [h1.blk.at_, show 9 = 2 + 7 from rfl, NetC.cut _ _ _ _ _ (by rw [h.len]; omega)]; exact hcut
  have gf : (w.alloc (Obj.cells #[Value.int IntKind.i64 2, Value.int IntKind.i64 1, Value.string s] 41)).frozen? ⟨g, 0, none⟩ = false := h1.blk.free 0
  have HB := Lib.hid hb1
  have HI := Lib.hid h1
  clear h h1 hb1
  have hlk := Lib.hid (islink_yes g n 2 1 _ g1 (by omega) (by omega) (by omega) (by omega) (by omega))
  have hnl := Lib.hid (isnil_some g n _ g1 (by omega))
  have hfull := Lib.hid (fun m => (isfull_any g k c A ((w.alloc (Obj.cells #[Value.int IntKind.i64 2, Value.int IntKind.i64 1, Value.string s] 41)).drewN m) g0).mono fun e w' h => And.intro h.1 h.2.symm)
  have hnf : decide (2000 ≤ k) = false := by simp; omega
  rw [hnf] at hfull
  go_enter Try.func13, Try.ntmps13
  go_wp2_with (first | (go_at_call 24; refine hnl.out.mono ?_; rintro e w2 ⟨rfl, rfl⟩) | (go_at_call 26; refine hlk.out.mono ?_; rintro e w2 ⟨rfl, rfl⟩))
  go_quiet ((go_at_call 27; exact Calls.quiet_of_same (hfull.out _)))
  have hadd := Lib.hid (fun m => isnet_add 2 1 s (HI.out.later ((Below.refl _ _).drewN' m)) (by omega))
  go_wp2_with fail
  go_region_with (go_at_call 28; refine (hadd.out _).mono ?_; rintro e w3 ⟨rfl, v3, hN⟩)
  all_goals go_wp2
  all_goals go_ret
  all_goals exact ⟨rfl, v3, hN⟩

end Go.Proofs.Ytplfigikjlfmjaa
