/- The walk of hash's state.bytes (36). -/
import Derived.Test.YtcnnijhfliahgaaDoorHaW
namespace Go.Proofs.YtcnnijhfliahgaaDoor
open Go.RowKit
set_option linter.unusedVariables false

def zero32 : List UInt8 := List.replicate 32 0
theorem born32 (w : World) : Blk (w.alloc (Obj.cells #[Value.int .u8 0, Value.int .u8 0, Value.int .u8 0, Value.int .u8 0, Value.int .u8 0, Value.int .u8 0, Value.int .u8 0, Value.int .u8 0, Value.int .u8 0, Value.int .u8 0, Value.int .u8 0, Value.int .u8 0, Value.int .u8 0, Value.int .u8 0, Value.int .u8 0, Value.int .u8 0, Value.int .u8 0, Value.int .u8 0, Value.int .u8 0, Value.int .u8 0, Value.int .u8 0, Value.int .u8 0, Value.int .u8 0, Value.int .u8 0, Value.int .u8 0, Value.int .u8 0, Value.int .u8 0, Value.int .u8 0, Value.int .u8 0, Value.int .u8 0, Value.int .u8 0, Value.int .u8 0] 42)) w.heap.size 42 (u8s zero32) := heap_alloc_new w _
def byW (x : W32) (j : Nat) : UInt8 := UInt8.ofNat (x.toNat / 2 ^ (8 * j))
def outP (h : List W32) (k : Nat) : List UInt8 := (List.range 32).map fun i => if i < 4 * k then byW (wat h (i / 4)) (i % 4) else 0
theorem outP_len (h : List W32) (k : Nat) : (outP h k).length = 32 := by simp [outP]
theorem outP_zero (h : List W32) : outP h 0 = zero32 := by
  apply List.ext_getElem?
  intro i
  simp only [outP, zero32, List.getElem?_map, List.getElem?_replicate, Nat.mul_zero, Nat.not_lt_zero, if_false]
  by_cases hi : i < 32
  · rw [List.getElem?_range hi, if_pos hi]; rfl
  · rw [List.getElem?_eq_none (by simp; omega), if_neg hi]; rfl
theorem outP_full (h : List W32) : outP h 8 = outL h := by
  apply List.map_congr_left
  intro i hi
  rw [if_pos (by simp at hi; omega)]
  rfl
def four (x : W32) : List UInt8 := [byW x 0, byW x 1, byW x 2, byW x 3]
theorem u8s_splice (l q : List UInt8) (o : Nat) : splice (u8s l) o (u8s q) = u8s (splice l o q) := by
  simp [splice, u8s, List.map_take, List.map_drop]
theorem outP_succ (h : List W32) (k : Nat) (hk : k < 8) : splice (outP h k) (4 * k) (four (wat h k)) = outP h (k + 1) := by
  apply List.ext_getElem?
  intro i
  have hl := outP_len h k
  simp only [splice, List.getElem?_append, List.getElem?_take, List.getElem?_drop, List.length_take, hl]
  have hfl : (four (wat h k)).length = 4 := rfl
  rw [hfl]
  by_cases h1 : i < 4 * k
  · rw [if_pos (by omega), if_pos h1]
    simp only [outP, List.getElem?_map]
    rw [List.getElem?_range (by omega)]
    simp only [Option.map_some]
    rw [if_pos h1, if_pos (by omega)]
  · rw [if_neg (by omega)]
    by_cases h2 : i < 4 * k + 4
    · rw [if_pos (by omega)]
      simp only [outP, List.getElem?_map]
      rw [List.getElem?_range (by omega)]
      simp only [Option.map_some]
      rw [if_pos (by omega), show i / 4 = k by omega, show i - min (4 * k) 32 = i % 4 by omega]
      have h3 : i % 4 < 4 := by omega
      generalize i % 4 = j at h3
      obtain rfl | rfl | rfl | rfl : j = 0 ∨ j = 1 ∨ j = 2 ∨ j = 3 := by omega
      all_goals rfl
    · rw [if_neg (by omega)]
      simp only [outP, List.getElem?_map]
      by_cases h3 : i < 32
      · rw [show 4 * k + 4 + (i - min (4 * k) 32 - 4) = i by omega, List.getElem?_range h3]
        simp only [Option.map_some]
        rw [if_neg h1, if_neg (by omega)]
      · rw [List.getElem?_eq_none (by simp; omega), List.getElem?_eq_none (by simp; omega)]
        rfl

theorem byW_val (x : W32) (j : Nat) : ((byW x j).toNat : Int) = (x.toNat : Int) / ((2 ^ (8 * j) : Nat) : Int) % 256 := by
  unfold byW
  rw [UInt8.toNat_ofNat']
  omega
theorem four_cells (x : W32) : #[Value.int IntKind.u8 ((x.toNat : Int) % 256), Value.int IntKind.u8 ((x.toNat : Int) / 256 % 256), Value.int IntKind.u8 ((x.toNat : Int) / 65536 % 256), Value.int IntKind.u8 ((x.toNat : Int) / 16777216)] = (u8s (four x)).toArray := by
  have h := x.isLt
  simp only [four, u8s, List.map_cons, List.map_nil, byW_val]
  rw [show (x.toNat : Int) / ((2 ^ (8 * 0) : Nat) : Int) = (x.toNat : Int) by simp, show (x.toNat : Int) / ((2 ^ (8 * 1) : Nat) : Int) = (x.toNat : Int) / 256 by rfl, show (x.toNat : Int) / ((2 ^ (8 * 2) : Nat) : Int) = (x.toNat : Int) / 65536 by rfl, show (x.toNat : Int) / ((2 ^ (8 * 3) : Nat) : Int) % 256 = (x.toNat : Int) / 16777216 by (show (x.toNat : Int) / 16777216 % 256 = _; omega)]

set_option maxHeartbeats 4000000 in
set_option maxRecDepth 100000 in
theorem bytes_any (h : List W32) (w : World) (hl : h.length = 8) :
    Calls Tryd.prog 36 #[.agg (u32s h).toArray] w fun e w' => e = .returned (.agg (u8s (outL h)).toArray) ∧ Below w.heap.size w w' := by
  have hb := ((Blk.born w 62 (u32s h)).later (Obj.cells #[Value.int .u8 0, Value.int .u8 0, Value.int .u8 0, Value.int .u8 0, Value.int .u8 0, Value.int .u8 0, Value.int .u8 0, Value.int .u8 0, Value.int .u8 0, Value.int .u8 0, Value.int .u8 0, Value.int .u8 0, Value.int .u8 0, Value.int .u8 0, Value.int .u8 0, Value.int .u8 0, Value.int .u8 0, Value.int .u8 0, Value.int .u8 0, Value.int .u8 0, Value.int .u8 0, Value.int .u8 0, Value.int .u8 0, Value.int .u8 0, Value.int .u8 0, Value.int .u8 0, Value.int .u8 0, Value.int .u8 0, Value.int .u8 0, Value.int .u8 0, Value.int .u8 0, Value.int .u8 0] 42)).later (Obj.cells #[Value.int .u8 0, Value.int .u8 0, Value.int .u8 0, Value.int .u8 0, Value.int .u8 0, Value.int .u8 0, Value.int .u8 0, Value.int .u8 0, Value.int .u8 0, Value.int .u8 0, Value.int .u8 0, Value.int .u8 0, Value.int .u8 0, Value.int .u8 0, Value.int .u8 0, Value.int .u8 0, Value.int .u8 0, Value.int .u8 0, Value.int .u8 0, Value.int .u8 0, Value.int .u8 0, Value.int .u8 0, Value.int .u8 0, Value.int .u8 0, Value.int .u8 0, Value.int .u8 0, Value.int .u8 0, Value.int .u8 0, Value.int .u8 0, Value.int .u8 0, Value.int .u8 0, Value.int .u8 0] 42)
  have HB := Lib.hid hb
  clear hb
  have hul : (u32s h).length = 8 := by rw [u32s_len, hl]
  have HUL := Lib.hid hul
  have HL := Lib.hid hl
  clear hul hl
  go_enter Tryd.func36, Tryd.ntmps36
  go_wp2_with (refine ld_row rfl 62 _ rfl 8 60 ar62 sz62 w.heap.size 62 (u32s h) rfl HB.out HUL.out ?_)
  have h16 := born32 ((w.alloc (Obj.cells (u32s h).toArray 62)).alloc (Obj.cells #[Value.int .u8 0, Value.int .u8 0, Value.int .u8 0, Value.int .u8 0, Value.int .u8 0, Value.int .u8 0, Value.int .u8 0, Value.int .u8 0, Value.int .u8 0, Value.int .u8 0, Value.int .u8 0, Value.int .u8 0, Value.int .u8 0, Value.int .u8 0, Value.int .u8 0, Value.int .u8 0, Value.int .u8 0, Value.int .u8 0, Value.int .u8 0, Value.int .u8 0, Value.int .u8 0, Value.int .u8 0, Value.int .u8 0, Value.int .u8 0, Value.int .u8 0, Value.int .u8 0, Value.int .u8 0, Value.int .u8 0, Value.int .u8 0, Value.int .u8 0, Value.int .u8 0, Value.int .u8 0] 42))
  have h15 := (born32 (w.alloc (Obj.cells (u32s h).toArray 62))).later (Obj.cells #[Value.int .u8 0, Value.int .u8 0, Value.int .u8 0, Value.int .u8 0, Value.int .u8 0, Value.int .u8 0, Value.int .u8 0, Value.int .u8 0, Value.int .u8 0, Value.int .u8 0, Value.int .u8 0, Value.int .u8 0, Value.int .u8 0, Value.int .u8 0, Value.int .u8 0, Value.int .u8 0, Value.int .u8 0, Value.int .u8 0, Value.int .u8 0, Value.int .u8 0, Value.int .u8 0, Value.int .u8 0, Value.int .u8 0, Value.int .u8 0, Value.int .u8 0, Value.int .u8 0, Value.int .u8 0, Value.int .u8 0, Value.int .u8 0, Value.int .u8 0, Value.int .u8 0, Value.int .u8 0] 42)
  simp only [World.size_alloc] at h16 h15
  have hbel : Below w.heap.size w (((w.alloc (Obj.cells (u32s h).toArray 62)).alloc (Obj.cells #[Value.int .u8 0, Value.int .u8 0, Value.int .u8 0, Value.int .u8 0, Value.int .u8 0, Value.int .u8 0, Value.int .u8 0, Value.int .u8 0, Value.int .u8 0, Value.int .u8 0, Value.int .u8 0, Value.int .u8 0, Value.int .u8 0, Value.int .u8 0, Value.int .u8 0, Value.int .u8 0, Value.int .u8 0, Value.int .u8 0, Value.int .u8 0, Value.int .u8 0, Value.int .u8 0, Value.int .u8 0, Value.int .u8 0, Value.int .u8 0, Value.int .u8 0, Value.int .u8 0, Value.int .u8 0, Value.int .u8 0, Value.int .u8 0, Value.int .u8 0, Value.int .u8 0, Value.int .u8 0] 42)).alloc (Obj.cells #[Value.int .u8 0, Value.int .u8 0, Value.int .u8 0, Value.int .u8 0, Value.int .u8 0, Value.int .u8 0, Value.int .u8 0, Value.int .u8 0, Value.int .u8 0, Value.int .u8 0, Value.int .u8 0, Value.int .u8 0, Value.int .u8 0, Value.int .u8 0, Value.int .u8 0, Value.int .u8 0, Value.int .u8 0, Value.int .u8 0, Value.int .u8 0, Value.int .u8 0, Value.int .u8 0, Value.int .u8 0, Value.int .u8 0, Value.int .u8 0, Value.int .u8 0, Value.int .u8 0, Value.int .u8 0, Value.int .u8 0, Value.int .u8 0, Value.int .u8 0, Value.int .u8 0, Value.int .u8 0] 42)) := (((Below.refl _ _).alloc (Nat.le_refl _) _).alloc (by simp) _).alloc (by simp; omega) _
  generalize hW : (((w.alloc (Obj.cells (u32s h).toArray 62)).alloc (Obj.cells #[Value.int .u8 0, Value.int .u8 0, Value.int .u8 0, Value.int .u8 0, Value.int .u8 0, Value.int .u8 0, Value.int .u8 0, Value.int .u8 0, Value.int .u8 0, Value.int .u8 0, Value.int .u8 0, Value.int .u8 0, Value.int .u8 0, Value.int .u8 0, Value.int .u8 0, Value.int .u8 0, Value.int .u8 0, Value.int .u8 0, Value.int .u8 0, Value.int .u8 0, Value.int .u8 0, Value.int .u8 0, Value.int .u8 0, Value.int .u8 0, Value.int .u8 0, Value.int .u8 0, Value.int .u8 0, Value.int .u8 0, Value.int .u8 0, Value.int .u8 0, Value.int .u8 0, Value.int .u8 0] 42)).alloc (Obj.cells #[Value.int .u8 0, Value.int .u8 0, Value.int .u8 0, Value.int .u8 0, Value.int .u8 0, Value.int .u8 0, Value.int .u8 0, Value.int .u8 0, Value.int .u8 0, Value.int .u8 0, Value.int .u8 0, Value.int .u8 0, Value.int .u8 0, Value.int .u8 0, Value.int .u8 0, Value.int .u8 0, Value.int .u8 0, Value.int .u8 0, Value.int .u8 0, Value.int .u8 0, Value.int .u8 0, Value.int .u8 0, Value.int .u8 0, Value.int .u8 0, Value.int .u8 0, Value.int .u8 0, Value.int .u8 0, Value.int .u8 0, Value.int .u8 0, Value.int .u8 0, Value.int .u8 0, Value.int .u8 0] 42)) = W at h16 h15 hbel ⊢
  clear hW HB
  go_loopw [7] (fun i wr => ∃ k : Nat, k ≤ 8 ∧ i = .int .i64 k ∧ Blk wr (w.heap.size + 1 + 1) 42 (u8s (outP h k)) ∧ Blk wr (w.heap.size + 1) 42 (u8s zero32) ∧ Below w.heap.size w wr ∧ w.heap.size + 1 + 1 < wr.heap.size) (fun i _ => 8 - (intOf i).toNat)
  case atStart => exact ⟨0, by omega, rfl, by rw [outP_zero]; exact h16, h15, hbel, lt_of_block h16⟩
  case round =>
    obtain ⟨k, hk, rfl, hm, hr, hB, hsz⟩ := hrel
    have HM := Lib.hid hm
    have HR := Lib.hid hr
    have HBel := Lib.hid hB
    clear hm hr hB h16 h15 hbel
    by_cases hlt : k < 8
    · have k0 : (0 : Int) ≤ (k : Int) := by omega
      have k1 : (k : Int) < 8 := by omega
      have ix := idx_row 62 60 8 ar62 u32_size u32_agg (u32s h) HUL.out k hlt _ (u32s_get (by rw [HL.out]; exact hlt))
      obtain ⟨x, hx⟩ : ∃ x, wat h k = x := ⟨_, rfl⟩
      rw [hx] at ix
      have HX := Lib.hid hx
      clear hx
      have sl := fun w' => sl_from 42 5 32 ar42 u8_size (w.heap.size + 1 + 1) (4 * k) (by omega) w'
      rw [if_neg (by omega)] at sl
      have e4 : ((4 * k : Nat) : Int) = 4 * (k : Int) := by omega
      rw [e4] at sl
      clear e4
      have hC : #[Value.int IntKind.u8 ((x.toNat : Int) % 256), Value.int IntKind.u8 ((x.toNat : Int) / 256 % 256), Value.int IntKind.u8 ((x.toNat : Int) / 65536 % 256), Value.int IntKind.u8 ((x.toNat : Int) / 16777216)] = (u8s (four x)).toArray := four_cells x
      have HS : Hid (Blk (wr.alloc (Obj.cells #[Value.int IntKind.u8 ((x.toNat : Int) % 256), Value.int IntKind.u8 ((x.toNat : Int) / 256 % 256), Value.int IntKind.u8 ((x.toNat : Int) / 65536 % 256), Value.int IntKind.u8 ((x.toNat : Int) / 16777216)] 5)) wr.heap.size 5 (u8s (four x))) := by
        rw [hC]; exact heap_alloc_new wr _
      have HM2 : Hid (Blk (wr.alloc (Obj.cells #[Value.int IntKind.u8 ((x.toNat : Int) % 256), Value.int IntKind.u8 ((x.toNat : Int) / 256 % 256), Value.int IntKind.u8 ((x.toNat : Int) / 65536 % 256), Value.int IntKind.u8 ((x.toNat : Int) / 16777216)] 5)) (w.heap.size + 1 + 1) 42 (u8s (outP h k))) := HM.out.later _
      have HR2 : Hid (Blk (wr.alloc (Obj.cells #[Value.int IntKind.u8 ((x.toNat : Int) % 256), Value.int IntKind.u8 ((x.toNat : Int) / 256 % 256), Value.int IntKind.u8 ((x.toNat : Int) / 65536 % 256), Value.int IntKind.u8 ((x.toNat : Int) / 16777216)] 5)) (w.heap.size + 1) 42 (u8s zero32)) := HR.out.later _
      have HB2 : Hid (Below w.heap.size w (wr.alloc (Obj.cells #[Value.int IntKind.u8 ((x.toNat : Int) % 256), Value.int IntKind.u8 ((x.toNat : Int) / 256 % 256), Value.int IntKind.u8 ((x.toNat : Int) / 65536 % 256), Value.int IntKind.u8 ((x.toNat : Int) / 16777216)] 5))) := HBel.out.alloc HBel.out.size _
      clear hC
      go_wp2_with (refine cp_blk rfl (.tmp 13) (.tmp 25) 30 5 Tryd.underlying30 u8_size rfl _ _ _ _ _ _ rfl rfl (w.heap.size + 1 + 1) (4 * k) 42 (u8s (outP h k)) (u8s (four x)) HM2.out (by rw [u8s_len]; exact (Nat.min_eq_left (by show 4 ≤ 32 - 4 * k; omega)).symm) (fun _ => ⟨rfl, _, rfl, HS.out.news⟩) (by rw [u8s_len, u8s_len, outP_len]; show 4 * k + 4 ≤ 32; omega) (u8s_one _) ?_; intro w7 hb7 hl7; have HB7 := Lib.hid hb7; have HL7 := Lib.hid hl7; clear hb7 hl7)
      go_roundw
      case rel =>
        refine ⟨k + 1, by omega, by go_num, ?_, HR2.out.below HL7.out (by omega), HB2.out.trans (HL7.out.mono (by omega)), Nat.lt_of_lt_of_le hsz (Nat.le_trans (by simp) HL7.out.size)⟩
        have := HB7.out
        rw [u8s_splice, ← HX.out, outP_succ h k hlt] at this
        exact this
      case measure => simp [intOf]; omega
    · have hk8 : k = 8 := by omega
      subst hk8
      go_wp2_with (first | (refine ld_row rfl 42 _ rfl 32 5 ar42 sz42 _ 42 (u8s (outP h 8)) rfl HM.out (by rw [u8s_len, outP_len]) ?_) | (refine st_row rfl 42 _ _ rfl 32 sz42 _ 42 (u8s zero32) (u8s (outP h 8)) rfl rfl HR.out (by rw [u8s_len, outP_len]) (by rfl) (u8s_one _) ?_; intro w9 hg9 hs9; have HG := Lib.hid hg9; clear hg9))
      rw [outP_full] at HG
      exact bodyPost_ret (v := .agg (u8s (outL h)).toArray) (results_cell_row Tryd.results36 _ _ (w.heap.size + 1) 42 _ (0, 0) (.array 32 5) rfl HG.out ar42 rfl (by rw [sz42]; simp [u8s_len, outL])) rfl ⟨rfl, hs9.below HBel.out (by omega)⟩
end Go.Proofs.YtcnnijhfliahgaaDoor
