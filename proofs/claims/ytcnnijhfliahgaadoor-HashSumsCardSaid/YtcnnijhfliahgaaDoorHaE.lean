/- The walks of the document's rotr (50) and mixed (47). -/
import Derived.Test.YtcnnijhfliahgaaDoorHaK
namespace Go.Proofs.YtcnnijhfliahgaaDoor
open Go.RowKit
set_option linter.unusedVariables false

set_option maxRecDepth 100000 in
theorem rotr16 (x : W32) (w : World) : Calls Tryd.prog 50 #[.int .u32 (x.toNat : Int), .int .i64 16] w fun e w' => e = .returned (.int .u32 ((ror x 16).toNat : Int)) ∧ Sole 0 w w' ∧ w'.heap = w.heap := by
  have hx := x.isLt
  obtain ⟨a, ha⟩ : ∃ a : W32, x <<< 16 = a := ⟨_, rfl⟩
  obtain ⟨b, hb⟩ : ∃ b : W32, x >>> 16 = b := ⟨_, rfl⟩
  have e1 : IntKind.u32.wrap ((x.toNat : Int) * 65536) = (a.toNat : Int) := by rw [IntKind.wrap_u32', ← ha]; exact shl_bv x 16 _ (by rfl)
  have e2 : (x.toNat : Int) / 65536 = (b.toNat : Int) := by rw [← hb]; exact shr_bv x 16 _ (by rfl)
  have e4 : IntKind.u32.wrap ((x.toNat : Int) / 65536) = (b.toNat : Int) := by rw [e2, wrap_u32_bv]
  have e5 : IntKind.u32.wrap (b.toNat : Int) = (b.toNat : Int) := wrap_u32_bv b
  have e6 : IntKind.i64.wrap 16 = 16 := by rfl
  obtain ⟨c, hc⟩ : ∃ c : W32, b ||| a = c := ⟨_, rfl⟩
  have e3 : bits .or .u32 (b.toNat : Int) (a.toNat : Int) = (c.toNat : Int) := by rw [bits_or32, hc]
  have E : Hid (ror x 16 = c) := by unfold ror; rw [ha, hb, hc]; exact rfl
  clear ha hb hc
  go_enter Tryd.func50, Tryd.ntmps50
  go_wp2
  refine wp_region_still_lit (by kernel_rfl) (by kernel_rfl) ?_
  repeat still_step
  refine wpStill_nil ?_
  go_wp2
  go_ret
  exact ⟨by rw [E.out]; rfl, ⟨rfl, rfl, rfl, rfl, fun _ _ => rfl⟩, rfl⟩

set_option maxRecDepth 100000 in
theorem rotr12 (x : W32) (w : World) : Calls Tryd.prog 50 #[.int .u32 (x.toNat : Int), .int .i64 12] w fun e w' => e = .returned (.int .u32 ((ror x 12).toNat : Int)) ∧ Sole 0 w w' ∧ w'.heap = w.heap := by
  have hx := x.isLt
  obtain ⟨a, ha⟩ : ∃ a : W32, x <<< 20 = a := ⟨_, rfl⟩
  obtain ⟨b, hb⟩ : ∃ b : W32, x >>> 12 = b := ⟨_, rfl⟩
  have e1 : IntKind.u32.wrap ((x.toNat : Int) * 1048576) = (a.toNat : Int) := by rw [IntKind.wrap_u32', ← ha]; exact shl_bv x 20 _ (by rfl)
  have e2 : (x.toNat : Int) / 4096 = (b.toNat : Int) := by rw [← hb]; exact shr_bv x 12 _ (by rfl)
  have e4 : IntKind.u32.wrap ((x.toNat : Int) / 4096) = (b.toNat : Int) := by rw [e2, wrap_u32_bv]
  have e5 : IntKind.u32.wrap (b.toNat : Int) = (b.toNat : Int) := wrap_u32_bv b
  have e6 : IntKind.i64.wrap 20 = 20 := by rfl
  obtain ⟨c, hc⟩ : ∃ c : W32, b ||| a = c := ⟨_, rfl⟩
  have e3 : bits .or .u32 (b.toNat : Int) (a.toNat : Int) = (c.toNat : Int) := by rw [bits_or32, hc]
  have E : Hid (ror x 12 = c) := by unfold ror; rw [ha, hb, hc]; exact rfl
  clear ha hb hc
  go_enter Tryd.func50, Tryd.ntmps50
  go_wp2
  refine wp_region_still_lit (by kernel_rfl) (by kernel_rfl) ?_
  repeat still_step
  refine wpStill_nil ?_
  go_wp2
  go_ret
  exact ⟨by rw [E.out]; rfl, ⟨rfl, rfl, rfl, rfl, fun _ _ => rfl⟩, rfl⟩

set_option maxRecDepth 100000 in
theorem rotr8 (x : W32) (w : World) : Calls Tryd.prog 50 #[.int .u32 (x.toNat : Int), .int .i64 8] w fun e w' => e = .returned (.int .u32 ((ror x 8).toNat : Int)) ∧ Sole 0 w w' ∧ w'.heap = w.heap := by
  have hx := x.isLt
  obtain ⟨a, ha⟩ : ∃ a : W32, x <<< 24 = a := ⟨_, rfl⟩
  obtain ⟨b, hb⟩ : ∃ b : W32, x >>> 8 = b := ⟨_, rfl⟩
  have e1 : IntKind.u32.wrap ((x.toNat : Int) * 16777216) = (a.toNat : Int) := by rw [IntKind.wrap_u32', ← ha]; exact shl_bv x 24 _ (by rfl)
  have e2 : (x.toNat : Int) / 256 = (b.toNat : Int) := by rw [← hb]; exact shr_bv x 8 _ (by rfl)
  have e4 : IntKind.u32.wrap ((x.toNat : Int) / 256) = (b.toNat : Int) := by rw [e2, wrap_u32_bv]
  have e5 : IntKind.u32.wrap (b.toNat : Int) = (b.toNat : Int) := wrap_u32_bv b
  have e6 : IntKind.i64.wrap 24 = 24 := by rfl
  obtain ⟨c, hc⟩ : ∃ c : W32, b ||| a = c := ⟨_, rfl⟩
  have e3 : bits .or .u32 (b.toNat : Int) (a.toNat : Int) = (c.toNat : Int) := by rw [bits_or32, hc]
  have E : Hid (ror x 8 = c) := by unfold ror; rw [ha, hb, hc]; exact rfl
  clear ha hb hc
  go_enter Tryd.func50, Tryd.ntmps50
  go_wp2
  refine wp_region_still_lit (by kernel_rfl) (by kernel_rfl) ?_
  repeat still_step
  refine wpStill_nil ?_
  go_wp2
  go_ret
  exact ⟨by rw [E.out]; rfl, ⟨rfl, rfl, rfl, rfl, fun _ _ => rfl⟩, rfl⟩

set_option maxRecDepth 100000 in
theorem rotr7 (x : W32) (w : World) : Calls Tryd.prog 50 #[.int .u32 (x.toNat : Int), .int .i64 7] w fun e w' => e = .returned (.int .u32 ((ror x 7).toNat : Int)) ∧ Sole 0 w w' ∧ w'.heap = w.heap := by
  have hx := x.isLt
  obtain ⟨a, ha⟩ : ∃ a : W32, x <<< 25 = a := ⟨_, rfl⟩
  obtain ⟨b, hb⟩ : ∃ b : W32, x >>> 7 = b := ⟨_, rfl⟩
  have e1 : IntKind.u32.wrap ((x.toNat : Int) * 33554432) = (a.toNat : Int) := by rw [IntKind.wrap_u32', ← ha]; exact shl_bv x 25 _ (by rfl)
  have e2 : (x.toNat : Int) / 128 = (b.toNat : Int) := by rw [← hb]; exact shr_bv x 7 _ (by rfl)
  have e4 : IntKind.u32.wrap ((x.toNat : Int) / 128) = (b.toNat : Int) := by rw [e2, wrap_u32_bv]
  have e5 : IntKind.u32.wrap (b.toNat : Int) = (b.toNat : Int) := wrap_u32_bv b
  have e6 : IntKind.i64.wrap 25 = 25 := by rfl
  obtain ⟨c, hc⟩ : ∃ c : W32, b ||| a = c := ⟨_, rfl⟩
  have e3 : bits .or .u32 (b.toNat : Int) (a.toNat : Int) = (c.toNat : Int) := by rw [bits_or32, hc]
  have E : Hid (ror x 7 = c) := by unfold ror; rw [ha, hb, hc]; exact rfl
  clear ha hb hc
  go_enter Tryd.func50, Tryd.ntmps50
  go_wp2
  refine wp_region_still_lit (by kernel_rfl) (by kernel_rfl) ?_
  repeat still_step
  refine wpStill_nil ?_
  go_wp2
  go_ret
  exact ⟨by rw [E.out]; rfl, ⟨rfl, rfl, rfl, rfl, fun _ _ => rfl⟩, rfl⟩
end Go.Proofs.YtcnnijhfliahgaaDoor
