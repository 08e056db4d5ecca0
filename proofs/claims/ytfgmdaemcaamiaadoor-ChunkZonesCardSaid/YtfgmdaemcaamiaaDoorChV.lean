/- The walk of stackyardlaw08.ChunkZones. -/
import Derived.Test.YtfgmdaemcaamiaaDoorChW
import Derived.Test.YtfgmdaemcaamiaaDoorChS
import Derived.Laws.StructEq
namespace Go.Proofs.YtfgmdaemcaamiaaDoor
open Go.RowKit
set_option linter.unusedVariables false

theorem zonT_some (l : List Vl) : ∃ (zn er : Int) (a b : Vl), zonT l = .tuple #[zonV zn a b, .int .i64 er] := by
  unfold zonT
  by_cases h : zonR l = true
  · rw [if_pos h]; exact ⟨_, _, _, _, rfl⟩
  · rw [if_neg h]; exact ⟨_, _, _, _, rfl⟩

set_option maxRecDepth 100000 in
set_option maxHeartbeats 4000000 in
theorem chzones_any (A : Option Addr) (cap : Nat) (l : List Vl) (W : World) (hl : Vls W A l) (hn : l.length ≤ 4000000000000000000) (hT : TabAt W) :
    Calls Tryd.prog 4 #[.slice A l.length cap] W fun e W' => e = .returned (.bool true) ∧ Below W.heap.size W W' := by
  have HSH := Lib.hid (shown8_any W hT)
  obtain ⟨zn, er, a, b, hz⟩ := zonT_some l
  have h1 := fun w (h : Below W.heap.size W w) => zone_any A cap l w (hl.keep h) hn
  have h2 := fun w (h : Below W.heap.size W w) => rzone_any A cap l w (hl.keep h) hn
  rw [hz] at h1 h2
  unfold zonV at h1 h2
  have H1 := Lib.hid h1
  have H2 := Lib.hid h2
  clear h1 h2 hl hT hz
  generalize l.length = n at *
  go_enter Tryd.func4, Tryd.ntmps4
  go_wp2_with (first | (go_at_call 8; refine HSH.out.mono ?_; rintro e w1 ⟨rfl, hb⟩; have HB := Lib.hid hb; clear hb) | (go_at_call 11; refine (H1.out w1 HB.out).mono ?_; rintro e w2 ⟨rfl, hb2⟩; have HB2 := Lib.hid (below_to HB.out hb2); clear hb2; refine Hid.out ?_))
  refine Lib.hid ?_
  go_wp2_with fail
  have hbx := Blk.born w2 32 (zonC zn a b)
  have hbd := HB2.out.alloc HB2.out.size (Obj.cells (zonC zn a b).toArray 32)
  refine (H2.out _ hbd).mono ?_
  rintro e w3 ⟨rfl, hb3⟩
  have HB3 := Lib.hid (hbd.trans (hb3.mono hbd.size))
  have hx3 := (hbx.below hb3 (by rw [World.size_alloc]; omega)).later (Obj.cells (zonC zn a b).toArray 32)
  have hy3 := Blk.born w3 32 (zonC zn a b)
  have HB4 := Lib.hid (HB3.out.alloc HB3.out.size (Obj.cells (zonC zn a b).toArray 32))
  clear hbx hbd hb3
  have c0 := (hx3.at_ 0).trans (rfl : _ = some (Value.int .i64 zn))
  have c1 := (hx3.at_ 1).trans (rfl : _ = some (Value.int .i64 a.kind))
  have c2 := (hx3.at_ 2).trans (rfl : _ = some (Value.int .i64 a.num))
  have c3 := (hx3.at_ 3).trans (rfl : _ = some (Value.string a.text))
  have c4 := (hx3.at_ 4).trans (rfl : _ = some (Value.int .i64 b.kind))
  have c5 := (hx3.at_ 5).trans (rfl : _ = some (Value.int .i64 b.num))
  have c6 := (hx3.at_ 6).trans (rfl : _ = some (Value.string b.text))
  have d0 := (hy3.at_ 0).trans (rfl : _ = some (Value.int .i64 zn))
  have d1 := (hy3.at_ 1).trans (rfl : _ = some (Value.int .i64 a.kind))
  have d2 := (hy3.at_ 2).trans (rfl : _ = some (Value.int .i64 a.num))
  have d3 := (hy3.at_ 3).trans (rfl : _ = some (Value.string a.text))
  have d4 := (hy3.at_ 4).trans (rfl : _ = some (Value.int .i64 b.kind))
  have d5 := (hy3.at_ 5).trans (rfl : _ = some (Value.int .i64 b.num))
  have d6 := (hy3.at_ 6).trans (rfl : _ = some (Value.string b.text))
  unfold zonC at c0 c1 c2 c3 c4 c5 c6 d0 d1 d2 d3 d4 d5 d6
  clear hx3 hy3
  go_wp2
  go_ret
  exact ⟨rfl, HB4.out⟩
end Go.Proofs.YtfgmdaemcaamiaaDoor
