/- The walk of hash's state.mixed (35). -/
import Derived.Test.YtcnnijhfliahgaaDoorHaB
import Derived.Deep.Cut
namespace Go.Proofs.YtcnnijhfliahgaaDoor
open Go.RowKit
set_option linter.unusedVariables false

def zero8 : List W32 := List.replicate 8 0
theorem born8 (w : World) : Blk (w.alloc (Obj.cells #[Value.int .u32 0, Value.int .u32 0, Value.int .u32 0, Value.int .u32 0, Value.int .u32 0, Value.int .u32 0, Value.int .u32 0, Value.int .u32 0] 62)) w.heap.size 62 (u32s zero8) := heap_alloc_new w _
theorem u32s_splice (l q : List W32) (o : Nat) : splice (u32s l) o (u32s q) = u32s (splice l o q) := by
  simp [splice, u32s, List.map_take, List.map_drop]
theorem born71 (w : World) : Blk (w.alloc (Obj.cells #[Value.int .u32 0, Value.int .u32 0, Value.int .u32 0, Value.int .u32 0, Value.int .u32 0, Value.int .u32 0, Value.int .u32 0, Value.int .u32 0, Value.int .u32 0, Value.int .u32 0, Value.int .u32 0, Value.int .u32 0, Value.int .u32 0, Value.int .u32 0, Value.int .u32 0, Value.int .u32 0] 71)) w.heap.size 71 (u32s zero16) := heap_alloc_new w _

def vinit (h : List W32) (k : Nat) : List W32 := h ++ (ivs.take k ++ List.replicate (8 - k) 0)
theorem list8 {h : List W32} (hl : h.length = 8) : ∃ a0 a1 a2 a3 a4 a5 a6 a7, h = [a0, a1, a2, a3, a4, a5, a6, a7] := by
  match h, hl with
  | [a0, a1, a2, a3, a4, a5, a6, a7], _ => exact ⟨a0, a1, a2, a3, a4, a5, a6, a7, rfl⟩
theorem vinit_zero (h : List W32) (hl : h.length = 8) : splice zero16 0 h = vinit h 0 := by
  obtain ⟨a0, a1, a2, a3, a4, a5, a6, a7, rfl⟩ := list8 hl
  rfl
theorem vinit_succ (h : List W32) (hl : h.length = 8) (k : Nat) (hk : k < 8) : (vinit h k).set (8 + k) (wat ivs k) = vinit h (k + 1) := by
  obtain ⟨a0, a1, a2, a3, a4, a5, a6, a7, rfl⟩ := list8 hl
  obtain rfl | rfl | rfl | rfl | rfl | rfl | rfl | rfl : k = 0 ∨ k = 1 ∨ k = 2 ∨ k = 3 ∨ k = 4 ∨ k = 5 ∨ k = 6 ∨ k = 7 := by omega
  all_goals rfl
theorem vinit_len (h : List W32) (hl : h.length = 8) (k : Nat) (hk : k ≤ 8) : (vinit h k).length = 16 := by
  have : ivs.length = 8 := rfl
  simp [vinit, hl, this]
  omega
theorem vinit_full (h : List W32) : vinit h 8 = h ++ ivs := by
  have : ivs.take 8 = ivs := rfl
  simp [vinit, this]

theorem born73 (w : World) : Blk (w.alloc (Obj.cells #[Value.int .u8 0, Value.int .u8 0, Value.int .u8 0, Value.int .u8 0, Value.int .u8 0, Value.int .u8 0, Value.int .u8 0, Value.int .u8 0, Value.int .u8 0, Value.int .u8 0, Value.int .u8 0, Value.int .u8 0, Value.int .u8 0, Value.int .u8 0, Value.int .u8 0, Value.int .u8 0] 73)) w.heap.size 73 (u8s (List.replicate 16 0)) := heap_alloc_new w _
theorem lo_xor (X : W32) (n : Nat) : bits .xor .u32 (X.toNat : Int) ((n : Int) % 4294967296) = ((X ^^^ loW n).toNat : Int) := by
  rw [← bits_xor32, loW, BitVec.toNat_ofNat]
  rfl
theorem hi_xor (X : W32) (n : Nat) (hn : n < 18446744073709551616) : bits .xor .u32 (X.toNat : Int) ((n : Int) / 4294967296) = ((X ^^^ hiW n).toNat : Int) := by
  rw [← bits_xor32, hiW, BitVec.toNat_ofNat, Nat.mod_eq_of_lt (by omega)]
  rfl
theorem not_xor (X : W32) : bits .xor .u32 (if IntKind.u32.signed = true then -1 else IntKind.u32.max) (X.toNat : Int) = ((~~~ X).toNat : Int) := by
  have h := bits_xor32 (BitVec.allOnes 32) X
  rw [BitVec.allOnes_xor] at h
  exact h
theorem perm_cell {w : World} {P : Nat} {r : Nat} (h : Blk w P 73 (u8s (permR r))) (hr : r < 10) (j : Nat) (hj : j < 16) : w.cell? ⟨P, j, none⟩ = some (.int .u8 (((perms.getD r []).getD j 0 : Nat) : Int)) := by
  rw [h.at_, u8s_at (by rw [permR_len r hr]; exact hj), (permR_at r hr j hj).1]
theorem startL_true (h : List W32) (n : Nat) (hl : h.length = 8) : startL h n true = (((vinit h 8).set 12 (wat (vinit h 8) 12 ^^^ loW n)).set 13 (wat (vinit h 8) 13 ^^^ hiW n)).set 14 (~~~ (wat (vinit h 8) 14)) := by
  rw [vinit_full]
  simp only [startL, if_true]
  rw [wat_ne _ 12 13 _ (by omega), wat_ne _ 13 14 _ (by omega), wat_ne _ 12 14 _ (by omega)]
theorem startL_false (h : List W32) (n : Nat) (hl : h.length = 8) : startL h n false = ((vinit h 8).set 12 (wat (vinit h 8) 12 ^^^ loW n)).set 13 (wat (vinit h 8) 13 ^^^ hiW n) := by
  rw [vinit_full]
  simp only [startL, Bool.false_eq_true, if_false]
  rw [wat_ne _ 12 13 _ (by omega)]
theorem startL_len (h : List W32) (n : Nat) (last : Bool) (hl : h.length = 8) : (startL h n last).length = 16 := by
  cases last with
  | true => rw [startL_true h n hl]; simp only [List.length_set]; exact vinit_len h hl 8 (by omega)
  | false => rw [startL_false h n hl]; simp only [List.length_set]; exact vinit_len h hl 8 (by omega)
theorem round8 (m : List W32) (v : List W32) (s : List Nat) : roundL m v s = stepL m s (stepL m s (stepL m s (stepL m s (stepL m s (stepL m s (stepL m s (stepL m s v 0) 1) 2) 3) 4) 5) 6) 7 := by
  show stepsL m s v 8 = _
  rw [stepsL_succ m s v 7, stepsL_succ m s v 6, stepsL_succ m s v 5, stepsL_succ m s v 4, stepsL_succ m s v 3, stepsL_succ m s v 2, stepsL_succ m s v 1, stepsL_succ m s v 0]
  exact rfl
def hpart (h v : List W32) (k : Nat) : List W32 := (List.range 8).map fun i => if i < k then wat h i ^^^ (wat v i ^^^ wat v (i + 8)) else wat h i
theorem hpart_len (h v : List W32) (k : Nat) : (hpart h v k).length = 8 := by simp [hpart]
theorem hpart_zero (h v : List W32) (hl : h.length = 8) : hpart h v 0 = h := by
  obtain ⟨a0, a1, a2, a3, a4, a5, a6, a7, rfl⟩ := list8 hl
  rfl
theorem hpart_at (h v : List W32) (k : Nat) (hk : k < 8) : wat (hpart h v k) k = wat h k := by
  simp only [wat, hpart, List.getD_eq_getElem?_getD, List.getElem?_map, List.getElem?_range hk, Option.map_some, Option.getD_some, Nat.lt_irrefl, if_false]
theorem hpart_succ (h v : List W32) (k : Nat) (hk : k < 8) : (hpart h v k).set k (wat h k ^^^ (wat v k ^^^ wat v (k + 8))) = hpart h v (k + 1) := by
  apply List.ext_getElem?
  intro i
  rw [List.getElem?_set]
  simp only [hpart, List.length_map, List.length_range, List.getElem?_map]
  by_cases hi : i < 8
  · rw [List.getElem?_range hi]
    simp only [Option.map_some]
    by_cases e : k = i
    · subst e; rw [if_pos rfl, if_pos hk, if_pos (by omega)]
    · rw [if_neg e]
      by_cases e2 : i < k
      · rw [if_pos e2, if_pos (by omega)]
      · rw [if_neg e2, if_neg (by omega)]
  · rw [List.getElem?_eq_none (by simp; omega), if_neg (by omega)]
    rfl
theorem hpart_full (h : List W32) (b : List UInt8) (n : Nat) (last : Bool) : hpart h (roundsL (wordsL b) (startL h n last) 10) 8 = blockL h b n last := by
  simp only [hpart, blockL]
  apply List.map_congr_left
  intro i hi
  rw [if_pos (by simpa using hi)]

set_option maxHeartbeats 8000000 in
set_option maxRecDepth 100000 in
theorem mixed_true (h : List W32) (b : List UInt8) (n : Nat) (w : World) (hl : h.length = 8) (bl : b.length = 64) (hn : n < 18446744073709551616) {t0 t1 : TypeId} (g0 : Blk w 0 t0 (u32s ivs)) (g1 : Blk w 1 t1 (u8s permB)) :
    Calls Tryd.prog 35 #[.agg (u32s h).toArray, .agg (u8s b).toArray, .int .u64 (n : Int), .bool true] w fun e w' => e = .returned (.agg (u32s (blockL h b n true)).toArray) ∧ Below w.heap.size w w' := by
  have HL := Lib.hid hl
  have BL := Lib.hid bl
  have G0 := Lib.hid g0
  have G1 := Lib.hid g1
  have sz2 := lt_of_block g1
  clear hl bl g0 g1
  have bh : Blk (((w.alloc (Obj.cells (u32s h).toArray 62)).alloc (Obj.cells (u8s b).toArray 63)).alloc (Obj.cells #[Value.int .u32 0, Value.int .u32 0, Value.int .u32 0, Value.int .u32 0, Value.int .u32 0, Value.int .u32 0, Value.int .u32 0, Value.int .u32 0] 62)) w.heap.size 62 (u32s h) := ((Blk.born w 62 (u32s h)).later _).later _
  have bb : Blk (((w.alloc (Obj.cells (u32s h).toArray 62)).alloc (Obj.cells (u8s b).toArray 63)).alloc (Obj.cells #[Value.int .u32 0, Value.int .u32 0, Value.int .u32 0, Value.int .u32 0, Value.int .u32 0, Value.int .u32 0, Value.int .u32 0, Value.int .u32 0] 62)) (w.heap.size + 1) 63 (u8s b) := by
    have := (Blk.born (w.alloc (Obj.cells (u32s h).toArray 62)) 63 (u8s b)).later (Obj.cells #[Value.int .u32 0, Value.int .u32 0, Value.int .u32 0, Value.int .u32 0, Value.int .u32 0, Value.int .u32 0, Value.int .u32 0, Value.int .u32 0] 62)
    simpa using this
  have br : Blk (((w.alloc (Obj.cells (u32s h).toArray 62)).alloc (Obj.cells (u8s b).toArray 63)).alloc (Obj.cells #[Value.int .u32 0, Value.int .u32 0, Value.int .u32 0, Value.int .u32 0, Value.int .u32 0, Value.int .u32 0, Value.int .u32 0, Value.int .u32 0] 62)) (w.heap.size + 1 + 1) 62 (u32s zero8) := by
    have := born8 ((w.alloc (Obj.cells (u32s h).toArray 62)).alloc (Obj.cells (u8s b).toArray 63))
    simpa using this
  have hbel : Below w.heap.size w (((w.alloc (Obj.cells (u32s h).toArray 62)).alloc (Obj.cells (u8s b).toArray 63)).alloc (Obj.cells #[Value.int .u32 0, Value.int .u32 0, Value.int .u32 0, Value.int .u32 0, Value.int .u32 0, Value.int .u32 0, Value.int .u32 0, Value.int .u32 0] 62)) := (((Below.refl _ _).alloc (Nat.le_refl _) _).alloc (by simp) _).alloc (by simp; omega) _
  obtain ⟨W0, hW0⟩ : ∃ W0, W0 = (((w.alloc (Obj.cells (u32s h).toArray 62)).alloc (Obj.cells (u8s b).toArray 63)).alloc (Obj.cells #[Value.int .u32 0, Value.int .u32 0, Value.int .u32 0, Value.int .u32 0, Value.int .u32 0, Value.int .u32 0, Value.int .u32 0, Value.int .u32 0] 62)) := ⟨_, rfl⟩
  rw [← hW0] at bh bb br hbel
  have s0 : W0.heap.size = w.heap.size + 1 + 1 + 1 := by rw [hW0]; simp
  have HW0 := Lib.hid hW0
  have BH := Lib.hid bh
  have BB := Lib.hid bb
  have BR := Lib.hid br
  have BEL := Lib.hid hbel
  have S0 := Lib.hid s0
  clear hW0 bh bb br hbel s0
  have hwords := words_any b W0 BL.out
  have s0 := S0.out
  go_enter Tryd.func35, Tryd.ntmps35
  go_upto_region 1 with (fail)

  rw [← HW0.out]
  go_wp2_with (first | (refine ld_row rfl 63 (.tmp 5) rfl 64 5 ar63 sz63 (w.heap.size + 1) 63 (u8s b) rfl BB.out (by rw [u8s_len, BL.out]) ?_) | (go_at_call 44; refine hwords.mono ?_; rintro e w2 ⟨rfl, hb2⟩; have HB2 := Lib.hid hb2; clear hb2) | (refine st_row rfl 71 (.tmp 9) (.tmp 17) rfl 16 sz71 w2.heap.size 71 (u32s zero16) (u32s (wordsL b)) rfl rfl (born71 w2) (by rw [u32s_len]; exact wpart_len _ _) (by rfl) (u32s_one _) ?_; intro w3 hM hs3; have HM3 := Lib.hid hM; have HS3 := Lib.hid hs3; clear hM hs3))

  obtain ⟨V, hV⟩ : ∃ V, w3.heap.size = V := ⟨_, rfl⟩
  obtain ⟨M, hM⟩ : ∃ M, w2.heap.size = M := ⟨_, rfl⟩
  obtain ⟨N, hN⟩ : ∃ N, w.heap.size = N := ⟨_, rfl⟩
  have hVM : V = M + 1 := by rw [← hV, ← hM, HS3.out.size]; simp
  have hMN : N + 3 ≤ M := by have := HB2.out.size; omega
  have HB3 : Hid (Below M w2 w3) := by
    rw [← hM]
    exact HS3.out.below ((Below.refl _ _).alloc (Nat.le_refl _) _) (Nat.le_refl _)
  have HBA : Hid (Below N W0 w3) := (HB2.out.mono (by omega)).trans (HB3.out.mono (by omega))
  have HBN : Hid (Below N w w3) := by have := BEL.out; rw [hN] at this; exact this.trans HBA.out
  have HB0 : Hid (Below (N + 3) W0 w3) := (HB2.out.mono (by omega)).trans (HB3.out.mono (by omega))
  obtain ⟨W4, hW4⟩ : ∃ W4, W4 = w3.alloc (Obj.cells #[Value.int .u32 0, Value.int .u32 0, Value.int .u32 0, Value.int .u32 0, Value.int .u32 0, Value.int .u32 0, Value.int .u32 0, Value.int .u32 0, Value.int .u32 0, Value.int .u32 0, Value.int .u32 0, Value.int .u32 0, Value.int .u32 0, Value.int .u32 0, Value.int .u32 0, Value.int .u32 0] 71) := ⟨_, rfl⟩
  have bv : Blk W4 V 71 (u32s zero16) := by rw [hW4, ← hV]; exact born71 w3
  have bm : Blk W4 M 71 (u32s (wordsL b)) := by rw [hW4]; have := HM3.out.later (Obj.cells #[Value.int .u32 0, Value.int .u32 0, Value.int .u32 0, Value.int .u32 0, Value.int .u32 0, Value.int .u32 0, Value.int .u32 0, Value.int .u32 0, Value.int .u32 0, Value.int .u32 0, Value.int .u32 0, Value.int .u32 0, Value.int .u32 0, Value.int .u32 0, Value.int .u32 0, Value.int .u32 0] 71); rw [hM] at this; exact this
  have bh : Blk W4 N 62 (u32s h) := by rw [hW4]; have := BH.out; rw [hN] at this; exact (this.below HB0.out (by omega)).later _
  have br : Blk W4 (N + 1 + 1) 62 (u32s zero8) := by rw [hW4]; have := BR.out; rw [hN] at this; exact (this.below HB0.out (by omega)).later _
  have c0 : Blk W4 0 t0 (u32s ivs) := by rw [hW4]; exact (G0.out.below HBN.out (by omega)).later _
  have c1 : Blk W4 1 t1 (u8s permB) := by rw [hW4]; exact (G1.out.below HBN.out (by omega)).later _
  have cb : Below N w W4 := by rw [hW4]; exact HBN.out.alloc (by omega) _
  rw [← hW4]
  have BV := Lib.hid bv
  have BM := Lib.hid bm
  have BHH := Lib.hid bh
  have BRR := Lib.hid br
  have C0 := Lib.hid c0
  have C1 := Lib.hid c1
  have CB := Lib.hid cb
  have HVM := Lib.hid hVM
  have HMN := Lib.hid hMN
  have hN2 : 2 ≤ N := by omega
  have HN2 := Lib.hid hN2
  clear bv bm bh br c0 c1 cb hW4 hVM hMN hN2 HB3 HBA HBN HB0 HM3 HS3 HB2 hwords s0 sz2 S0 BEL BR BB BH HW0
  subst hM hN
  rw [hV]
  clear hV
  have sl1 := fun w' => sl_to 71 60 16 ar71 u32_size (by omega) V 8 (by omega) w'
  have sl2 := fun w' => sl_all 62 60 8 ar62 u32_size (by omega) w.heap.size w'
  go_still_tail 2, (by kernel_rfl)
  change wpList _ _ _ _ _ W4.drew
  go_wp2_with (first | (refine cp_blk rfl (.tmp 18) (.tmp 19) 66 60 Tryd.underlying66 u32_size rfl _ _ _ _ _ _ rfl rfl V 0 71 (u32s zero16) (u32s h) BV.out (by rw [u32s_len, HL.out]; rfl) (fun _ => ⟨rfl, _, rfl, Blk.news (w := W4.drew) BHH.out⟩) (by rw [u32s_len, HL.out]; decide) (u32s_one _) ?_; intro w5 hb5 hl5; have HB5 := Lib.hid hb5; have HL5 := Lib.hid hl5; clear hb5 hl5; have C05 : Hid (Blk w5 0 t0 (u32s ivs)) := Blk.below (w := W4.drew) C0.out HL5.out (by have := HVM.out; have := HMN.out; omega)) | (refine ld_row rfl 61 (.global 0) rfl 8 60 ar61 sz61 0 t0 (u32s ivs) rfl C05.out (by rfl) ?_))
  have hv0 := HB5.out
  rw [u32s_splice, vinit_zero h HL.out] at hv0
  have HV0 := Lib.hid hv0
  clear hv0 HB5 sl1 sl2
  go_loopw [22] (fun i wr => ∃ k : Nat, k ≤ 8 ∧ i = .int .i64 k ∧ Blk wr V 71 (u32s (vinit h k)) ∧ Sole V w5 wr) (fun i _ => 8 - (intOf i).toNat)
  case atStart => exact ⟨0, by omega, rfl, HV0.out, Sole.refl _ _⟩
  case round =>
    obtain ⟨k, hk, rfl, hv, hso⟩ := hrel
    have HV := Lib.hid hv
    have HSO := Lib.hid hso
    clear hv hso
    by_cases hlt : k < 8
    · have k0 : (0 : Int) ≤ (k : Int) := by omega
      have k1 : (k : Int) < 8 := by omega
      have ix := idx_row 61 60 8 ar61 u32_size u32_agg (u32s ivs) rfl k hlt _ (u32s_get (by exact hlt))
      have cf := HV.out.free (8 + k)
      have cc := u32s_at HV.out (i := 8 + k) (by rw [vinit_len h HL.out k hk]; omega)
      obtain ⟨x, hx⟩ : ∃ x, wat ivs k = x := ⟨_, rfl⟩
      rw [hx] at ix
      have HX := Lib.hid hx
      clear hx
      go_wp2
      go_roundw
      case rel =>
        refine ⟨k + 1, by omega, by go_num, ?_, HSO.out.setCell _ _⟩
        have := HV.out.store (8 + k) (.int .u32 (x.toNat : Int))
        rw [u32s_set, ← HX.out, vinit_succ h HL.out k hlt, HX.out] at this
        exact this
      case measure => simp [intOf]; omega
    · have hk8 : k = 8 := by omega
      subst hk8
      have x12 := u32s_at HV.out (i := 12) (by rw [vinit_len h HL.out 8 hk]; omega)
      have f12 := HV.out.free 12
      obtain ⟨X12, hX12⟩ : ∃ x, wat (vinit h 8) 12 = x := ⟨_, rfl⟩
      rw [hX12] at x12
      have x13 := u32s_at HV.out (i := 13) (by rw [vinit_len h HL.out 8 hk]; omega)
      have f13 := HV.out.free 13
      obtain ⟨X13, hX13⟩ : ∃ x, wat (vinit h 8) 13 = x := ⟨_, rfl⟩
      rw [hX13] at x13
      have x14 := u32s_at HV.out (i := 14) (by rw [vinit_len h HL.out 8 hk]; omega)
      have f14 := HV.out.free 14
      obtain ⟨X14, hX14⟩ : ∃ x, wat (vinit h 8) 14 = x := ⟨_, rfl⟩
      rw [hX14] at x14
      have HX12 := Lib.hid hX12
      have HX13 := Lib.hid hX13
      have HX14 := Lib.hid hX14
      clear hX12 hX13 hX14
      have n0 : (0 : Int) ≤ (n : Int) := by omega
      have n1 : (n : Int) ≤ 18446744073709551615 := by omega
      obtain ⟨Y12, hY12⟩ : ∃ x, X12 ^^^ loW n = x := ⟨_, rfl⟩
      obtain ⟨Y13, hY13⟩ : ∃ x, X13 ^^^ hiW n = x := ⟨_, rfl⟩
      obtain ⟨Y14, hY14⟩ : ∃ x, ~~~ X14 = x := ⟨_, rfl⟩
      have r12 := lo_xor X12 n
      rw [hY12] at r12
      have r13 := hi_xor X13 n hn
      rw [hY13] at r13
      have r14 := not_xor X14
      rw [hY14] at r14
      have SPEC : Hid ((((vinit h 8).set 12 Y12).set 13 Y13).set 14 Y14 = startL h n true) := by
        have := startL_true h n HL.out
        rw [HX12.out, HX13.out, HX14.out, hY12, hY13, hY14] at this
        exact this.symm
      clear hY12 hY13 hY14
      have B12 := HV.out.store 12 (.int .u32 (Y12.toNat : Int))
      have B13 := B12.store 13 (.int .u32 (Y13.toNat : Int))
      have S13 := (HSO.out.setCell 12 (.int .u32 (Y12.toNat : Int))).setCell 13 (.int .u32 (Y13.toNat : Int))
      have B13 := B13.store 14 (.int .u32 (Y14.toNat : Int))
      have S13 := S13.setCell 14 (.int .u32 (Y14.toNat : Int))
      obtain ⟨W6, hW6⟩ : ∃ x, x = ((wr.setCell ⟨V, 12, none⟩ (.int .u32 (Y12.toNat : Int))).setCell ⟨V, 13, none⟩ (.int .u32 (Y13.toNat : Int))).setCell ⟨V, 14, none⟩ (.int .u32 (Y14.toNat : Int)) := ⟨_, rfl⟩
      rw [← hW6] at B13 S13
      rw [u32s_set, u32s_set, u32s_set, SPEC.out] at B13
      have HW6 := Lib.hid hW6
      have HB6 := Lib.hid B13
      have HS6 := Lib.hid S13
      clear hW6 B12 B13 S13
      go_upto_region 13 with (fail)
      rw [← HW6.out]
      clear x12 x13 x14 f12 f13 f14 r12 r13 r14 HW6
      have LV : Hid ((startL h n true).length = 16) := startL_len h n true HL.out
      obtain ⟨v00, hv00⟩ : ∃ x, startL h n true = x := ⟨_, rfl⟩
      have HV00 := Lib.hid hv00
      rw [hv00] at LV HB6
      clear hv00
      have BEL6 : Hid (Below V W4 W6) := (HS6.out.below (((Below.refl V W4).drew).trans HL5.out) (Nat.le_refl _))
      have C16 : Hid (Blk W6 1 t1 (u8s permB)) := C1.out.below BEL6.out (by have := HVM.out; have := HMN.out; omega)
      have M6 : Hid (Blk W6 w2.heap.size 71 (u32s (wordsL b))) := BM.out.below BEL6.out (by have := HVM.out; omega)
      have VS : V < W6.heap.size := lt_of_block HB6.out
      go_wp2_with (refine ld_row rfl 74 (.global 1) rfl 10 73 ar74 sz74 1 t1 (u8s permB) rfl C16.out (by rw [u8s_len]; exact permB_len) ?_)
      go_loopw [50] (fun i wr => ∃ r : Nat, r ≤ 10 ∧ i = .int .i64 r ∧ Blk wr V 71 (u32s (roundsL (wordsL b) v00 r)) ∧ Below V W6 wr ∧ V < wr.heap.size) (fun i _ => 10 - (intOf i).toNat)
      case atStart => exact ⟨0, by omega, rfl, HB6.out, Below.refl _ _, VS⟩
      case round =>
        obtain ⟨r, hr10, rfl, hbv, hbe, hsz⟩ := hrel
        have HBV := Lib.hid hbv
        have HBE := Lib.hid hbe
        clear hbv hbe
        by_cases hr : r < 10
        · have r0 : (0 : Int) ≤ (r : Int) := by omega
          have r1 : (r : Int) < 10 := by omega
          have ix := idx_agg 74 73 10 16 ar74 sz73 agg73 (u8s permB).toArray r hr
          rw [permB_row r hr] at ix
          obtain ⟨P, hP⟩ : ∃ P, wr.heap.size = P := ⟨_, rfl⟩
          have bP : Blk (wr.alloc (Obj.cells #[Value.int .u8 0, Value.int .u8 0, Value.int .u8 0, Value.int .u8 0, Value.int .u8 0, Value.int .u8 0, Value.int .u8 0, Value.int .u8 0, Value.int .u8 0, Value.int .u8 0, Value.int .u8 0, Value.int .u8 0, Value.int .u8 0, Value.int .u8 0, Value.int .u8 0, Value.int .u8 0] 73)) P 73 (u8s (List.replicate 16 0)) := by rw [← hP]; exact born73 wr
          have BP := Lib.hid bP
          have HP := Lib.hid hP
          clear bP
          go_wp2_with (refine st_row rfl 73 (.tmp 14) (.tmp 52) rfl 16 sz73 P 73 (u8s (List.replicate 16 0)) (u8s (permR r)) rfl rfl BP.out (by rw [u8s_len]; exact permR_len r hr) (by rfl) (u8s_one _) ?_; intro w7 hM7 hs7; have HM7 := Lib.hid hM7; have HS7 := Lib.hid hs7; clear hM7 hs7)
          clear hP ix
          have hVP : V < P := by have := HP.out; omega
          have HP0 := HM7
          have HV0' : Hid (Blk w7 V 71 (u32s (roundsL (wordsL b) v00 r))) := (HBV.out.later _).sole HS7.out (by omega)
          have HM0 : Hid (Blk w7 w2.heap.size 71 (u32s (wordsL b))) := ((M6.out.below HBE.out (by have := HVM.out; omega)).later _).sole HS7.out (by have := HVM.out; omega)
          have BE7 : Hid (Below V W6 w7) := HS7.out.below (HBE.out.alloc (by omega) _) (by omega)
          have SZ7 : Hid (V < w7.heap.size) := by have := HS7.out.size; have h2 := HP.out; show V < w7.heap.size; rw [this]; simp; omega
          obtain ⟨v0, hv0⟩ : ∃ x, roundsL (wordsL b) v00 r = x := ⟨_, rfl⟩
          have HVV := Lib.hid hv0
          have LV0 : Hid (v0.length = 16) := by rw [← hv0, roundsL_len _ _ _ (by omega)]; exact LV.out
          rw [hv0] at HV0'
          clear hv0 HV0
          have HV0 := HV0'
          clear HV0'
          have cA := perm_cell HP0.out hr 0 (by omega)
          have cB := perm_cell HP0.out hr 1 (by omega)
          obtain ⟨pA, hpA⟩ : ∃ x, (perms.getD r []).getD 0 0 = x := ⟨_, rfl⟩
          obtain ⟨pB, hpB⟩ : ∃ x, (perms.getD r []).getD 1 0 = x := ⟨_, rfl⟩
          rw [hpA] at cA
          rw [hpB] at cB
          have lA : pA < 16 := by rw [← hpA]; exact (permR_at r hr 0 (by omega)).2
          have lB : pB < 16 := by rw [← hpB]; exact (permR_at r hr 1 (by omega)).2
          have mA := u32s_at HM0.out (i := pA) (by show pA < (wpart b 64).length; rw [wpart_len]; exact lA)
          have mB := u32s_at HM0.out (i := pB) (by show pB < (wpart b 64).length; rw [wpart_len]; exact lB)
          obtain ⟨XA, hXA⟩ : ∃ x, wat (wordsL b) pA = x := ⟨_, rfl⟩
          obtain ⟨XB, hXB⟩ : ∃ x, wat (wordsL b) pB = x := ⟨_, rfl⟩
          rw [hXA] at mA
          rw [hXB] at mB
          have i0 : (0 : Int) ≤ (pA : Int) := by omega
          have i1 : (pA : Int) < 16 := by omega
          have i2 : (0 : Int) ≤ (pB : Int) := by omega
          have i3 : (pB : Int) < 16 := by omega
          obtain ⟨v1, hv1⟩ : ∃ x, mixL v0 0 4 8 12 XA XB = x := ⟨_, rfl⟩
          have EV1 : Hid (stepL (wordsL b) (perms.getD r []) v0 0 = v1) := by
            show mixL v0 0 4 8 12 (wat (wordsL b) ((perms.getD r []).getD 0 0)) (wat (wordsL b) ((perms.getD r []).getD 1 0)) = v1
            rw [hpA, hpB, hXA, hXB, hv1]
          have LV1 : Hid (v1.length = 16) := by rw [← hv1, mixL_len, LV0.out]; exact rfl
          have hmix := mix_walk V 0 4 8 12 v0 XA XB w7.drew HV0.out LV0.out (by omega) (by omega) (by omega) (by omega) (by omega) (by omega) (by omega) (by omega) (by omega) (by omega)
          rw [hv1] at hmix
          clear hv1 hpA hpB hXA hXB
          have HMIX := Lib.hid hmix
          clear hmix
          go_still_tail 8, (by kernel_rfl)
          change wpList _ _ _ _ _ w7.drew
          clear cA cB mA mB
          go_wp2_with fail
          refine HMIX.out.mono ?_
          rintro e u1 ⟨rfl, _, rfl, hb, hs⟩
          have HV1 := Lib.hid hb
          have SO1 : Hid (Sole V w7 u1) := ((Sole.refl V w7).drew.trans hs)
          clear hb hs
          go_wp2_with fail
          have HP1 : Hid (Blk u1 P 73 (u8s (permR r))) := HP0.out.sole SO1.out (by omega)
          have HM1 : Hid (Blk u1 w2.heap.size 71 (u32s (wordsL b))) := HM0.out.sole SO1.out (by have := HVM.out; omega)
          clear HMIX i0 i1 i2 i3 lA lB
          have cA := perm_cell HP1.out hr 2 (by omega)
          have cB := perm_cell HP1.out hr 3 (by omega)
          obtain ⟨pA, hpA⟩ : ∃ x, (perms.getD r []).getD 2 0 = x := ⟨_, rfl⟩
          obtain ⟨pB, hpB⟩ : ∃ x, (perms.getD r []).getD 3 0 = x := ⟨_, rfl⟩
          rw [hpA] at cA
          rw [hpB] at cB
          have lA : pA < 16 := by rw [← hpA]; exact (permR_at r hr 2 (by omega)).2
          have lB : pB < 16 := by rw [← hpB]; exact (permR_at r hr 3 (by omega)).2
          have mA := u32s_at HM1.out (i := pA) (by show pA < (wpart b 64).length; rw [wpart_len]; exact lA)
          have mB := u32s_at HM1.out (i := pB) (by show pB < (wpart b 64).length; rw [wpart_len]; exact lB)
          obtain ⟨XA, hXA⟩ : ∃ x, wat (wordsL b) pA = x := ⟨_, rfl⟩
          obtain ⟨XB, hXB⟩ : ∃ x, wat (wordsL b) pB = x := ⟨_, rfl⟩
          rw [hXA] at mA
          rw [hXB] at mB
          have i0 : (0 : Int) ≤ (pA : Int) := by omega
          have i1 : (pA : Int) < 16 := by omega
          have i2 : (0 : Int) ≤ (pB : Int) := by omega
          have i3 : (pB : Int) < 16 := by omega
          obtain ⟨v2, hv2⟩ : ∃ x, mixL v1 1 5 9 13 XA XB = x := ⟨_, rfl⟩
          have EV2 : Hid (stepL (wordsL b) (perms.getD r []) v1 1 = v2) := by
            show mixL v1 1 5 9 13 (wat (wordsL b) ((perms.getD r []).getD 2 0)) (wat (wordsL b) ((perms.getD r []).getD 3 0)) = v2
            rw [hpA, hpB, hXA, hXB, hv2]
          have LV2 : Hid (v2.length = 16) := by rw [← hv2, mixL_len, LV1.out]; exact rfl
          have hmix := mix_walk V 1 5 9 13 v1 XA XB u1.drew HV1.out LV1.out (by omega) (by omega) (by omega) (by omega) (by omega) (by omega) (by omega) (by omega) (by omega) (by omega)
          rw [hv2] at hmix
          clear hv2 hpA hpB hXA hXB
          have HMIX := Lib.hid hmix
          clear hmix
          go_still_tail 8, (by kernel_rfl)
          change wpList _ _ _ _ _ u1.drew
          clear cA cB mA mB
          go_wp2_with fail
          refine HMIX.out.mono ?_
          rintro e u2 ⟨rfl, _, rfl, hb, hs⟩
          have HV2 := Lib.hid hb
          have SO2 : Hid (Sole V w7 u2) := (SO1.out.drew.trans hs)
          clear hb hs
          go_wp2_with fail
          have HP2 : Hid (Blk u2 P 73 (u8s (permR r))) := HP0.out.sole SO2.out (by omega)
          have HM2 : Hid (Blk u2 w2.heap.size 71 (u32s (wordsL b))) := HM0.out.sole SO2.out (by have := HVM.out; omega)
          clear HMIX i0 i1 i2 i3 lA lB
          have cA := perm_cell HP2.out hr 4 (by omega)
          have cB := perm_cell HP2.out hr 5 (by omega)
          obtain ⟨pA, hpA⟩ : ∃ x, (perms.getD r []).getD 4 0 = x := ⟨_, rfl⟩
          obtain ⟨pB, hpB⟩ : ∃ x, (perms.getD r []).getD 5 0 = x := ⟨_, rfl⟩
          rw [hpA] at cA
          rw [hpB] at cB
          have lA : pA < 16 := by rw [← hpA]; exact (permR_at r hr 4 (by omega)).2
          have lB : pB < 16 := by rw [← hpB]; exact (permR_at r hr 5 (by omega)).2
          have mA := u32s_at HM2.out (i := pA) (by show pA < (wpart b 64).length; rw [wpart_len]; exact lA)
          have mB := u32s_at HM2.out (i := pB) (by show pB < (wpart b 64).length; rw [wpart_len]; exact lB)
          obtain ⟨XA, hXA⟩ : ∃ x, wat (wordsL b) pA = x := ⟨_, rfl⟩
          obtain ⟨XB, hXB⟩ : ∃ x, wat (wordsL b) pB = x := ⟨_, rfl⟩
          rw [hXA] at mA
          rw [hXB] at mB
          have i0 : (0 : Int) ≤ (pA : Int) := by omega
          have i1 : (pA : Int) < 16 := by omega
          have i2 : (0 : Int) ≤ (pB : Int) := by omega
          have i3 : (pB : Int) < 16 := by omega
          obtain ⟨v3, hv3⟩ : ∃ x, mixL v2 2 6 10 14 XA XB = x := ⟨_, rfl⟩
          have EV3 : Hid (stepL (wordsL b) (perms.getD r []) v2 2 = v3) := by
            show mixL v2 2 6 10 14 (wat (wordsL b) ((perms.getD r []).getD 4 0)) (wat (wordsL b) ((perms.getD r []).getD 5 0)) = v3
            rw [hpA, hpB, hXA, hXB, hv3]
          have LV3 : Hid (v3.length = 16) := by rw [← hv3, mixL_len, LV2.out]; exact rfl
          have hmix := mix_walk V 2 6 10 14 v2 XA XB u2.drew HV2.out LV2.out (by omega) (by omega) (by omega) (by omega) (by omega) (by omega) (by omega) (by omega) (by omega) (by omega)
          rw [hv3] at hmix
          clear hv3 hpA hpB hXA hXB
          have HMIX := Lib.hid hmix
          clear hmix
          go_still_tail 8, (by kernel_rfl)
          change wpList _ _ _ _ _ u2.drew
          clear cA cB mA mB
          go_wp2_with fail
          refine HMIX.out.mono ?_
          rintro e u3 ⟨rfl, _, rfl, hb, hs⟩
          have HV3 := Lib.hid hb
          have SO3 : Hid (Sole V w7 u3) := (SO2.out.drew.trans hs)
          clear hb hs
          go_wp2_with fail
          have HP3 : Hid (Blk u3 P 73 (u8s (permR r))) := HP0.out.sole SO3.out (by omega)
          have HM3 : Hid (Blk u3 w2.heap.size 71 (u32s (wordsL b))) := HM0.out.sole SO3.out (by have := HVM.out; omega)
          clear HMIX i0 i1 i2 i3 lA lB
          have cA := perm_cell HP3.out hr 6 (by omega)
          have cB := perm_cell HP3.out hr 7 (by omega)
          obtain ⟨pA, hpA⟩ : ∃ x, (perms.getD r []).getD 6 0 = x := ⟨_, rfl⟩
          obtain ⟨pB, hpB⟩ : ∃ x, (perms.getD r []).getD 7 0 = x := ⟨_, rfl⟩
          rw [hpA] at cA
          rw [hpB] at cB
          have lA : pA < 16 := by rw [← hpA]; exact (permR_at r hr 6 (by omega)).2
          have lB : pB < 16 := by rw [← hpB]; exact (permR_at r hr 7 (by omega)).2
          have mA := u32s_at HM3.out (i := pA) (by show pA < (wpart b 64).length; rw [wpart_len]; exact lA)
          have mB := u32s_at HM3.out (i := pB) (by show pB < (wpart b 64).length; rw [wpart_len]; exact lB)
          obtain ⟨XA, hXA⟩ : ∃ x, wat (wordsL b) pA = x := ⟨_, rfl⟩
          obtain ⟨XB, hXB⟩ : ∃ x, wat (wordsL b) pB = x := ⟨_, rfl⟩
          rw [hXA] at mA
          rw [hXB] at mB
          have i0 : (0 : Int) ≤ (pA : Int) := by omega
          have i1 : (pA : Int) < 16 := by omega
          have i2 : (0 : Int) ≤ (pB : Int) := by omega
          have i3 : (pB : Int) < 16 := by omega
          obtain ⟨v4, hv4⟩ : ∃ x, mixL v3 3 7 11 15 XA XB = x := ⟨_, rfl⟩
          have EV4 : Hid (stepL (wordsL b) (perms.getD r []) v3 3 = v4) := by
            show mixL v3 3 7 11 15 (wat (wordsL b) ((perms.getD r []).getD 6 0)) (wat (wordsL b) ((perms.getD r []).getD 7 0)) = v4
            rw [hpA, hpB, hXA, hXB, hv4]
          have LV4 : Hid (v4.length = 16) := by rw [← hv4, mixL_len, LV3.out]; exact rfl
          have hmix := mix_walk V 3 7 11 15 v3 XA XB u3.drew HV3.out LV3.out (by omega) (by omega) (by omega) (by omega) (by omega) (by omega) (by omega) (by omega) (by omega) (by omega)
          rw [hv4] at hmix
          clear hv4 hpA hpB hXA hXB
          have HMIX := Lib.hid hmix
          clear hmix
          go_still_tail 8, (by kernel_rfl)
          change wpList _ _ _ _ _ u3.drew
          clear cA cB mA mB
          go_wp2_with fail
          refine HMIX.out.mono ?_
          rintro e u4 ⟨rfl, _, rfl, hb, hs⟩
          have HV4 := Lib.hid hb
          have SO4 : Hid (Sole V w7 u4) := (SO3.out.drew.trans hs)
          clear hb hs
          go_wp2_with fail
          have HP4 : Hid (Blk u4 P 73 (u8s (permR r))) := HP0.out.sole SO4.out (by omega)
          have HM4 : Hid (Blk u4 w2.heap.size 71 (u32s (wordsL b))) := HM0.out.sole SO4.out (by have := HVM.out; omega)
          clear HMIX i0 i1 i2 i3 lA lB
          have cA := perm_cell HP4.out hr 8 (by omega)
          have cB := perm_cell HP4.out hr 9 (by omega)
          obtain ⟨pA, hpA⟩ : ∃ x, (perms.getD r []).getD 8 0 = x := ⟨_, rfl⟩
          obtain ⟨pB, hpB⟩ : ∃ x, (perms.getD r []).getD 9 0 = x := ⟨_, rfl⟩
          rw [hpA] at cA
          rw [hpB] at cB
          have lA : pA < 16 := by rw [← hpA]; exact (permR_at r hr 8 (by omega)).2
          have lB : pB < 16 := by rw [← hpB]; exact (permR_at r hr 9 (by omega)).2
          have mA := u32s_at HM4.out (i := pA) (by show pA < (wpart b 64).length; rw [wpart_len]; exact lA)
          have mB := u32s_at HM4.out (i := pB) (by show pB < (wpart b 64).length; rw [wpart_len]; exact lB)
          obtain ⟨XA, hXA⟩ : ∃ x, wat (wordsL b) pA = x := ⟨_, rfl⟩
          obtain ⟨XB, hXB⟩ : ∃ x, wat (wordsL b) pB = x := ⟨_, rfl⟩
          rw [hXA] at mA
          rw [hXB] at mB
          have i0 : (0 : Int) ≤ (pA : Int) := by omega
          have i1 : (pA : Int) < 16 := by omega
          have i2 : (0 : Int) ≤ (pB : Int) := by omega
          have i3 : (pB : Int) < 16 := by omega
          obtain ⟨v5, hv5⟩ : ∃ x, mixL v4 0 5 10 15 XA XB = x := ⟨_, rfl⟩
          have EV5 : Hid (stepL (wordsL b) (perms.getD r []) v4 4 = v5) := by
            show mixL v4 0 5 10 15 (wat (wordsL b) ((perms.getD r []).getD 8 0)) (wat (wordsL b) ((perms.getD r []).getD 9 0)) = v5
            rw [hpA, hpB, hXA, hXB, hv5]
          have LV5 : Hid (v5.length = 16) := by rw [← hv5, mixL_len, LV4.out]; exact rfl
          have hmix := mix_walk V 0 5 10 15 v4 XA XB u4.drew HV4.out LV4.out (by omega) (by omega) (by omega) (by omega) (by omega) (by omega) (by omega) (by omega) (by omega) (by omega)
          rw [hv5] at hmix
          clear hv5 hpA hpB hXA hXB
          have HMIX := Lib.hid hmix
          clear hmix
          go_still_tail 8, (by kernel_rfl)
          change wpList _ _ _ _ _ u4.drew
          clear cA cB mA mB
          go_wp2_with fail
          refine HMIX.out.mono ?_
          rintro e u5 ⟨rfl, _, rfl, hb, hs⟩
          have HV5 := Lib.hid hb
          have SO5 : Hid (Sole V w7 u5) := (SO4.out.drew.trans hs)
          clear hb hs
          go_wp2_with fail
          have HP5 : Hid (Blk u5 P 73 (u8s (permR r))) := HP0.out.sole SO5.out (by omega)
          have HM5 : Hid (Blk u5 w2.heap.size 71 (u32s (wordsL b))) := HM0.out.sole SO5.out (by have := HVM.out; omega)
          clear HMIX i0 i1 i2 i3 lA lB
          have cA := perm_cell HP5.out hr 10 (by omega)
          have cB := perm_cell HP5.out hr 11 (by omega)
          obtain ⟨pA, hpA⟩ : ∃ x, (perms.getD r []).getD 10 0 = x := ⟨_, rfl⟩
          obtain ⟨pB, hpB⟩ : ∃ x, (perms.getD r []).getD 11 0 = x := ⟨_, rfl⟩
          rw [hpA] at cA
          rw [hpB] at cB
          have lA : pA < 16 := by rw [← hpA]; exact (permR_at r hr 10 (by omega)).2
          have lB : pB < 16 := by rw [← hpB]; exact (permR_at r hr 11 (by omega)).2
          have mA := u32s_at HM5.out (i := pA) (by show pA < (wpart b 64).length; rw [wpart_len]; exact lA)
          have mB := u32s_at HM5.out (i := pB) (by show pB < (wpart b 64).length; rw [wpart_len]; exact lB)
          obtain ⟨XA, hXA⟩ : ∃ x, wat (wordsL b) pA = x := ⟨_, rfl⟩
          obtain ⟨XB, hXB⟩ : ∃ x, wat (wordsL b) pB = x := ⟨_, rfl⟩
          rw [hXA] at mA
          rw [hXB] at mB
          have i0 : (0 : Int) ≤ (pA : Int) := by omega
          have i1 : (pA : Int) < 16 := by omega
          have i2 : (0 : Int) ≤ (pB : Int) := by omega
          have i3 : (pB : Int) < 16 := by omega
          obtain ⟨v6, hv6⟩ : ∃ x, mixL v5 1 6 11 12 XA XB = x := ⟨_, rfl⟩
          have EV6 : Hid (stepL (wordsL b) (perms.getD r []) v5 5 = v6) := by
            show mixL v5 1 6 11 12 (wat (wordsL b) ((perms.getD r []).getD 10 0)) (wat (wordsL b) ((perms.getD r []).getD 11 0)) = v6
            rw [hpA, hpB, hXA, hXB, hv6]
          have LV6 : Hid (v6.length = 16) := by rw [← hv6, mixL_len, LV5.out]; exact rfl
          have hmix := mix_walk V 1 6 11 12 v5 XA XB u5.drew HV5.out LV5.out (by omega) (by omega) (by omega) (by omega) (by omega) (by omega) (by omega) (by omega) (by omega) (by omega)
          rw [hv6] at hmix
          clear hv6 hpA hpB hXA hXB
          have HMIX := Lib.hid hmix
          clear hmix
          go_still_tail 8, (by kernel_rfl)
          change wpList _ _ _ _ _ u5.drew
          clear cA cB mA mB
          go_wp2_with fail
          refine HMIX.out.mono ?_
          rintro e u6 ⟨rfl, _, rfl, hb, hs⟩
          have HV6 := Lib.hid hb
          have SO6 : Hid (Sole V w7 u6) := (SO5.out.drew.trans hs)
          clear hb hs
          go_wp2_with fail
          have HP6 : Hid (Blk u6 P 73 (u8s (permR r))) := HP0.out.sole SO6.out (by omega)
          have HM6 : Hid (Blk u6 w2.heap.size 71 (u32s (wordsL b))) := HM0.out.sole SO6.out (by have := HVM.out; omega)
          clear HMIX i0 i1 i2 i3 lA lB
          have cA := perm_cell HP6.out hr 12 (by omega)
          have cB := perm_cell HP6.out hr 13 (by omega)
          obtain ⟨pA, hpA⟩ : ∃ x, (perms.getD r []).getD 12 0 = x := ⟨_, rfl⟩
          obtain ⟨pB, hpB⟩ : ∃ x, (perms.getD r []).getD 13 0 = x := ⟨_, rfl⟩
          rw [hpA] at cA
          rw [hpB] at cB
          have lA : pA < 16 := by rw [← hpA]; exact (permR_at r hr 12 (by omega)).2
          have lB : pB < 16 := by rw [← hpB]; exact (permR_at r hr 13 (by omega)).2
          have mA := u32s_at HM6.out (i := pA) (by show pA < (wpart b 64).length; rw [wpart_len]; exact lA)
          have mB := u32s_at HM6.out (i := pB) (by show pB < (wpart b 64).length; rw [wpart_len]; exact lB)
          obtain ⟨XA, hXA⟩ : ∃ x, wat (wordsL b) pA = x := ⟨_, rfl⟩
          obtain ⟨XB, hXB⟩ : ∃ x, wat (wordsL b) pB = x := ⟨_, rfl⟩
          rw [hXA] at mA
          rw [hXB] at mB
          have i0 : (0 : Int) ≤ (pA : Int) := by omega
          have i1 : (pA : Int) < 16 := by omega
          have i2 : (0 : Int) ≤ (pB : Int) := by omega
          have i3 : (pB : Int) < 16 := by omega
          obtain ⟨v7, hv7⟩ : ∃ x, mixL v6 2 7 8 13 XA XB = x := ⟨_, rfl⟩
          have EV7 : Hid (stepL (wordsL b) (perms.getD r []) v6 6 = v7) := by
            show mixL v6 2 7 8 13 (wat (wordsL b) ((perms.getD r []).getD 12 0)) (wat (wordsL b) ((perms.getD r []).getD 13 0)) = v7
            rw [hpA, hpB, hXA, hXB, hv7]
          have LV7 : Hid (v7.length = 16) := by rw [← hv7, mixL_len, LV6.out]; exact rfl
          have hmix := mix_walk V 2 7 8 13 v6 XA XB u6.drew HV6.out LV6.out (by omega) (by omega) (by omega) (by omega) (by omega) (by omega) (by omega) (by omega) (by omega) (by omega)
          rw [hv7] at hmix
          clear hv7 hpA hpB hXA hXB
          have HMIX := Lib.hid hmix
          clear hmix
          go_still_tail 8, (by kernel_rfl)
          change wpList _ _ _ _ _ u6.drew
          clear cA cB mA mB
          go_wp2_with fail
          refine HMIX.out.mono ?_
          rintro e u7 ⟨rfl, _, rfl, hb, hs⟩
          have HV7 := Lib.hid hb
          have SO7 : Hid (Sole V w7 u7) := (SO6.out.drew.trans hs)
          clear hb hs
          go_wp2_with fail
          have HP7 : Hid (Blk u7 P 73 (u8s (permR r))) := HP0.out.sole SO7.out (by omega)
          have HM7 : Hid (Blk u7 w2.heap.size 71 (u32s (wordsL b))) := HM0.out.sole SO7.out (by have := HVM.out; omega)
          clear HMIX i0 i1 i2 i3 lA lB
          have cA := perm_cell HP7.out hr 14 (by omega)
          have cB := perm_cell HP7.out hr 15 (by omega)
          obtain ⟨pA, hpA⟩ : ∃ x, (perms.getD r []).getD 14 0 = x := ⟨_, rfl⟩
          obtain ⟨pB, hpB⟩ : ∃ x, (perms.getD r []).getD 15 0 = x := ⟨_, rfl⟩
          rw [hpA] at cA
          rw [hpB] at cB
          have lA : pA < 16 := by rw [← hpA]; exact (permR_at r hr 14 (by omega)).2
          have lB : pB < 16 := by rw [← hpB]; exact (permR_at r hr 15 (by omega)).2
          have mA := u32s_at HM7.out (i := pA) (by show pA < (wpart b 64).length; rw [wpart_len]; exact lA)
          have mB := u32s_at HM7.out (i := pB) (by show pB < (wpart b 64).length; rw [wpart_len]; exact lB)
          obtain ⟨XA, hXA⟩ : ∃ x, wat (wordsL b) pA = x := ⟨_, rfl⟩
          obtain ⟨XB, hXB⟩ : ∃ x, wat (wordsL b) pB = x := ⟨_, rfl⟩
          rw [hXA] at mA
          rw [hXB] at mB
          have i0 : (0 : Int) ≤ (pA : Int) := by omega
          have i1 : (pA : Int) < 16 := by omega
          have i2 : (0 : Int) ≤ (pB : Int) := by omega
          have i3 : (pB : Int) < 16 := by omega
          obtain ⟨v8, hv8⟩ : ∃ x, mixL v7 3 4 9 14 XA XB = x := ⟨_, rfl⟩
          have EV8 : Hid (stepL (wordsL b) (perms.getD r []) v7 7 = v8) := by
            show mixL v7 3 4 9 14 (wat (wordsL b) ((perms.getD r []).getD 14 0)) (wat (wordsL b) ((perms.getD r []).getD 15 0)) = v8
            rw [hpA, hpB, hXA, hXB, hv8]
          have LV8 : Hid (v8.length = 16) := by rw [← hv8, mixL_len, LV7.out]; exact rfl
          have hmix := mix_walk V 3 4 9 14 v7 XA XB u7.drew HV7.out LV7.out (by omega) (by omega) (by omega) (by omega) (by omega) (by omega) (by omega) (by omega) (by omega) (by omega)
          rw [hv8] at hmix
          clear hv8 hpA hpB hXA hXB
          have HMIX := Lib.hid hmix
          clear hmix
          go_still_tail 8, (by kernel_rfl)
          change wpList _ _ _ _ _ u7.drew
          clear cA cB mA mB
          go_wp2_with fail
          refine HMIX.out.mono ?_
          rintro e u8 ⟨rfl, _, rfl, hb, hs⟩
          have HV8 := Lib.hid hb
          have SO8 : Hid (Sole V w7 u8) := (SO7.out.drew.trans hs)
          clear hb hs
          go_wp2_with fail
          have HP8 : Hid (Blk u8 P 73 (u8s (permR r))) := HP0.out.sole SO8.out (by omega)
          have HM8 : Hid (Blk u8 w2.heap.size 71 (u32s (wordsL b))) := HM0.out.sole SO8.out (by have := HVM.out; omega)
          clear HMIX i0 i1 i2 i3 lA lB
          refine ⟨⟨r + 1, by omega, by go_num, ?_, SO8.out.below BE7.out (Nat.le_refl _), by rw [SO8.out.size]; exact SZ7.out⟩, by simp [intOf]; omega⟩
          have hfin : roundsL (wordsL b) v00 (r + 1) = v8 := by
            rw [roundsL_succ _ _ _ hr, HVV.out, round8, EV1.out, EV2.out, EV3.out, EV4.out, EV5.out, EV6.out, EV7.out, EV8.out]
          rw [hfin]
          exact HV8.out
        · have hr10' : r = 10 := by omega
          subst hr10'
          have hBN : Hid (Blk wr w.heap.size 62 (u32s h)) := (BHH.out.below BEL6.out (by have := HVM.out; have := HMN.out; omega)).below HBE.out (by have := HVM.out; have := HMN.out; omega)
          have hBR : Hid (Blk wr (w.heap.size + 1 + 1) 62 (u32s zero8)) := (BRR.out.below BEL6.out (by have := HVM.out; have := HMN.out; omega)).below HBE.out (by have := HVM.out; have := HMN.out; omega)
          have hBEL : Hid (Below w.heap.size w wr) := (CB.out.trans (BEL6.out.mono (by have := HVM.out; have := HMN.out; omega))).trans (HBE.out.mono (by have := HVM.out; have := HMN.out; omega))
          obtain ⟨v9, hv9⟩ : ∃ x, roundsL (wordsL b) v00 10 = x := ⟨_, rfl⟩
          have lv9 : v9.length = 16 := by rw [← hv9, roundsL_len _ _ _ (by omega)]; exact LV.out
          have LV9 := Lib.hid lv9
          have HV9 := Lib.hid hv9
          rw [hv9] at HBV
          clear hv9 lv9
          have hNV : w.heap.size ≠ V := by have := HVM.out; have := HMN.out; omega
          obtain ⟨wo, hwo⟩ : ∃ x, wr = x := ⟨_, rfl⟩
          rw [hwo] at hBN hBR hBEL HBV
          go_upto_region 25 with (fail)
          clear hwo HBE hsz HB6 VS M6 C16 BEL6 HS6 HV HX12 HX13 HX14 HSO
          go_wp2
          go_loopw [126] (fun i wr => ∃ k : Nat, k ≤ 8 ∧ i = .int .i64 k ∧ Blk wr w.heap.size 62 (u32s (hpart h v9 k)) ∧ Sole w.heap.size wo wr) (fun i _ => 8 - (intOf i).toNat)
          case atStart => exact ⟨0, by omega, rfl, by rw [hpart_zero h v9 HL.out]; exact hBN.out, Sole.refl _ _⟩
          case round =>
            obtain ⟨k, hk, rfl, hh, hso⟩ := hrel
            have HH := Lib.hid hh
            have HSO := Lib.hid hso
            clear hh hso
            by_cases hlt : k < 8
            · have k0 : (0 : Int) ≤ (k : Int) := by omega
              have k1 : (k : Int) < 8 := by omega
              have k2 : (k : Int) < 16 := by omega
              obtain ⟨k8, hk8⟩ : ∃ x, k + 8 = x := ⟨_, rfl⟩
              have k3 : (0 : Int) ≤ (k8 : Int) := by omega
              have k4 : (k8 : Int) < 16 := by omega
              have e1 : IntKind.i64.wrap ((k : Int) + 8) = (k8 : Int) := by rw [IntWalk.i64_in _ (by omega)]; omega
              have bv := HBV.out.sole HSO.out hNV.symm
              have cA := u32s_at HH.out (i := k) (by rw [hpart_len]; omega)
              rw [hpart_at h v9 k hlt] at cA
              have fA := HH.out.free k
              have cB := u32s_at bv (i := k) (by rw [LV9.out]; omega)
              have cC := u32s_at bv (i := k8) (by rw [LV9.out]; omega)
              obtain ⟨XA, hXA⟩ : ∃ x, wat h k = x := ⟨_, rfl⟩
              obtain ⟨XB, hXB⟩ : ∃ x, wat v9 k = x := ⟨_, rfl⟩
              obtain ⟨XC, hXC⟩ : ∃ x, wat v9 k8 = x := ⟨_, rfl⟩
              rw [hXA] at cA
              rw [hXB] at cB
              rw [hXC] at cC
              obtain ⟨Y1, hY1⟩ : ∃ x, XB ^^^ XC = x := ⟨_, rfl⟩
              obtain ⟨Y2, hY2⟩ : ∃ x, XA ^^^ Y1 = x := ⟨_, rfl⟩
              have r1 := bits_xor32 XB XC
              rw [hY1] at r1
              have r2 := bits_xor32 XA Y1
              rw [hY2] at r2
              have hst := HH.out.store k (.int .u32 (Y2.toNat : Int))
              rw [u32s_set, ← hY2, ← hY1, ← hXA, ← hXB, ← hXC, ← hk8, hpart_succ h v9 k hlt, hk8, hXA, hXB, hXC, hY1, hY2] at hst
              have HST := Lib.hid hst
              clear hst hY1 hY2 hXA hXB hXC hk8 bv
              go_wp2
              go_still_tail 13, (by kernel_rfl)
              change wpList _ _ _ _ _ wr.drew
              go_wp2_with fail
              go_roundw
              case rel =>
                first | exact ⟨k + 1, by omega, by go_num, HST.out, (HSO.out.setCell k _).drew⟩ | ((repeat apply Exists.intro); exact ⟨⟨k + 1, by omega, by go_num, HST.out, (HSO.out.setCell k _).drew⟩, rfl⟩)
              case measure => simp [intOf]; omega
            · have hk8 : k = 8 := by omega
              subst hk8
              have fh : hpart h v9 8 = blockL h b n true := by rw [← hpart_full, HV00.out, HV9.out]
              rw [fh] at HH
              have bl8 : (blockL h b n true).length = 8 := by rw [← fh, hpart_len]
              have BL8 := Lib.hid bl8
              clear fh bl8
              have HR : Hid (Blk wr (w.heap.size + 1 + 1) 62 (u32s zero8)) := hBR.out.sole HSO.out (by omega)
              go_wp2_with (first | (refine ld_row rfl 62 (.tmp 4) rfl 8 60 ar62 sz62 w.heap.size 62 (u32s (blockL h b n true)) rfl HH.out (by rw [u32s_len]; exact BL8.out) ?_) | (refine st_row rfl 62 (.tmp 8) (.tmp 143) rfl 8 sz62 (w.heap.size + 1 + 1) 62 (u32s zero8) (u32s (blockL h b n true)) rfl rfl HR.out (by rw [u32s_len]; exact BL8.out) (by rfl) (u32s_one _) ?_; intro w9 hg9 hs9; have HG := Lib.hid hg9; have HS := Lib.hid hs9; clear hg9 hs9))
              exact bodyPost_ret (v := .agg (u32s (blockL h b n true)).toArray) (results_cell_row Tryd.results35 _ _ (w.heap.size + 1 + 1) 62 _ (0, 0) (.array 8 60) rfl HG.out ar62 rfl (by rw [sz62]; simp [u32s_len, BL8.out])) rfl ⟨rfl, HS.out.below (HSO.out.below hBEL.out (Nat.le_refl _)) (by omega)⟩

set_option maxHeartbeats 8000000 in
set_option maxRecDepth 100000 in
theorem mixed_false (h : List W32) (b : List UInt8) (n : Nat) (w : World) (hl : h.length = 8) (bl : b.length = 64) (hn : n < 18446744073709551616) {t0 t1 : TypeId} (g0 : Blk w 0 t0 (u32s ivs)) (g1 : Blk w 1 t1 (u8s permB)) :
    Calls Tryd.prog 35 #[.agg (u32s h).toArray, .agg (u8s b).toArray, .int .u64 (n : Int), .bool false] w fun e w' => e = .returned (.agg (u32s (blockL h b n false)).toArray) ∧ Below w.heap.size w w' := by
  have HL := Lib.hid hl
  have BL := Lib.hid bl
  have G0 := Lib.hid g0
  have G1 := Lib.hid g1
  have sz2 := lt_of_block g1
  clear hl bl g0 g1
  have bh : Blk (((w.alloc (Obj.cells (u32s h).toArray 62)).alloc (Obj.cells (u8s b).toArray 63)).alloc (Obj.cells #[Value.int .u32 0, Value.int .u32 0, Value.int .u32 0, Value.int .u32 0, Value.int .u32 0, Value.int .u32 0, Value.int .u32 0, Value.int .u32 0] 62)) w.heap.size 62 (u32s h) := ((Blk.born w 62 (u32s h)).later _).later _
  have bb : Blk (((w.alloc (Obj.cells (u32s h).toArray 62)).alloc (Obj.cells (u8s b).toArray 63)).alloc (Obj.cells #[Value.int .u32 0, Value.int .u32 0, Value.int .u32 0, Value.int .u32 0, Value.int .u32 0, Value.int .u32 0, Value.int .u32 0, Value.int .u32 0] 62)) (w.heap.size + 1) 63 (u8s b) := by
    have := (Blk.born (w.alloc (Obj.cells (u32s h).toArray 62)) 63 (u8s b)).later (Obj.cells #[Value.int .u32 0, Value.int .u32 0, Value.int .u32 0, Value.int .u32 0, Value.int .u32 0, Value.int .u32 0, Value.int .u32 0, Value.int .u32 0] 62)
    simpa using this
  have br : Blk (((w.alloc (Obj.cells (u32s h).toArray 62)).alloc (Obj.cells (u8s b).toArray 63)).alloc (Obj.cells #[Value.int .u32 0, Value.int .u32 0, Value.int .u32 0, Value.int .u32 0, Value.int .u32 0, Value.int .u32 0, Value.int .u32 0, Value.int .u32 0] 62)) (w.heap.size + 1 + 1) 62 (u32s zero8) := by
    have := born8 ((w.alloc (Obj.cells (u32s h).toArray 62)).alloc (Obj.cells (u8s b).toArray 63))
    simpa using this
  have hbel : Below w.heap.size w (((w.alloc (Obj.cells (u32s h).toArray 62)).alloc (Obj.cells (u8s b).toArray 63)).alloc (Obj.cells #[Value.int .u32 0, Value.int .u32 0, Value.int .u32 0, Value.int .u32 0, Value.int .u32 0, Value.int .u32 0, Value.int .u32 0, Value.int .u32 0] 62)) := (((Below.refl _ _).alloc (Nat.le_refl _) _).alloc (by simp) _).alloc (by simp; omega) _
  obtain ⟨W0, hW0⟩ : ∃ W0, W0 = (((w.alloc (Obj.cells (u32s h).toArray 62)).alloc (Obj.cells (u8s b).toArray 63)).alloc (Obj.cells #[Value.int .u32 0, Value.int .u32 0, Value.int .u32 0, Value.int .u32 0, Value.int .u32 0, Value.int .u32 0, Value.int .u32 0, Value.int .u32 0] 62)) := ⟨_, rfl⟩
  rw [← hW0] at bh bb br hbel
  have s0 : W0.heap.size = w.heap.size + 1 + 1 + 1 := by rw [hW0]; simp
  have HW0 := Lib.hid hW0
  have BH := Lib.hid bh
  have BB := Lib.hid bb
  have BR := Lib.hid br
  have BEL := Lib.hid hbel
  have S0 := Lib.hid s0
  clear hW0 bh bb br hbel s0
  have hwords := words_any b W0 BL.out
  have s0 := S0.out
  go_enter Tryd.func35, Tryd.ntmps35
  go_upto_region 1 with (fail)

  rw [← HW0.out]
  go_wp2_with (first | (refine ld_row rfl 63 (.tmp 5) rfl 64 5 ar63 sz63 (w.heap.size + 1) 63 (u8s b) rfl BB.out (by rw [u8s_len, BL.out]) ?_) | (go_at_call 44; refine hwords.mono ?_; rintro e w2 ⟨rfl, hb2⟩; have HB2 := Lib.hid hb2; clear hb2) | (refine st_row rfl 71 (.tmp 9) (.tmp 17) rfl 16 sz71 w2.heap.size 71 (u32s zero16) (u32s (wordsL b)) rfl rfl (born71 w2) (by rw [u32s_len]; exact wpart_len _ _) (by rfl) (u32s_one _) ?_; intro w3 hM hs3; have HM3 := Lib.hid hM; have HS3 := Lib.hid hs3; clear hM hs3))

  obtain ⟨V, hV⟩ : ∃ V, w3.heap.size = V := ⟨_, rfl⟩
  obtain ⟨M, hM⟩ : ∃ M, w2.heap.size = M := ⟨_, rfl⟩
  obtain ⟨N, hN⟩ : ∃ N, w.heap.size = N := ⟨_, rfl⟩
  have hVM : V = M + 1 := by rw [← hV, ← hM, HS3.out.size]; simp
  have hMN : N + 3 ≤ M := by have := HB2.out.size; omega
  have HB3 : Hid (Below M w2 w3) := by
    rw [← hM]
    exact HS3.out.below ((Below.refl _ _).alloc (Nat.le_refl _) _) (Nat.le_refl _)
  have HBA : Hid (Below N W0 w3) := (HB2.out.mono (by omega)).trans (HB3.out.mono (by omega))
  have HBN : Hid (Below N w w3) := by have := BEL.out; rw [hN] at this; exact this.trans HBA.out
  have HB0 : Hid (Below (N + 3) W0 w3) := (HB2.out.mono (by omega)).trans (HB3.out.mono (by omega))
  obtain ⟨W4, hW4⟩ : ∃ W4, W4 = w3.alloc (Obj.cells #[Value.int .u32 0, Value.int .u32 0, Value.int .u32 0, Value.int .u32 0, Value.int .u32 0, Value.int .u32 0, Value.int .u32 0, Value.int .u32 0, Value.int .u32 0, Value.int .u32 0, Value.int .u32 0, Value.int .u32 0, Value.int .u32 0, Value.int .u32 0, Value.int .u32 0, Value.int .u32 0] 71) := ⟨_, rfl⟩
  have bv : Blk W4 V 71 (u32s zero16) := by rw [hW4, ← hV]; exact born71 w3
  have bm : Blk W4 M 71 (u32s (wordsL b)) := by rw [hW4]; have := HM3.out.later (Obj.cells #[Value.int .u32 0, Value.int .u32 0, Value.int .u32 0, Value.int .u32 0, Value.int .u32 0, Value.int .u32 0, Value.int .u32 0, Value.int .u32 0, Value.int .u32 0, Value.int .u32 0, Value.int .u32 0, Value.int .u32 0, Value.int .u32 0, Value.int .u32 0, Value.int .u32 0, Value.int .u32 0] 71); rw [hM] at this; exact this
  have bh : Blk W4 N 62 (u32s h) := by rw [hW4]; have := BH.out; rw [hN] at this; exact (this.below HB0.out (by omega)).later _
  have br : Blk W4 (N + 1 + 1) 62 (u32s zero8) := by rw [hW4]; have := BR.out; rw [hN] at this; exact (this.below HB0.out (by omega)).later _
  have c0 : Blk W4 0 t0 (u32s ivs) := by rw [hW4]; exact (G0.out.below HBN.out (by omega)).later _
  have c1 : Blk W4 1 t1 (u8s permB) := by rw [hW4]; exact (G1.out.below HBN.out (by omega)).later _
  have cb : Below N w W4 := by rw [hW4]; exact HBN.out.alloc (by omega) _
  rw [← hW4]
  have BV := Lib.hid bv
  have BM := Lib.hid bm
  have BHH := Lib.hid bh
  have BRR := Lib.hid br
  have C0 := Lib.hid c0
  have C1 := Lib.hid c1
  have CB := Lib.hid cb
  have HVM := Lib.hid hVM
  have HMN := Lib.hid hMN
  have hN2 : 2 ≤ N := by omega
  have HN2 := Lib.hid hN2
  clear bv bm bh br c0 c1 cb hW4 hVM hMN hN2 HB3 HBA HBN HB0 HM3 HS3 HB2 hwords s0 sz2 S0 BEL BR BB BH HW0
  subst hM hN
  rw [hV]
  clear hV
  have sl1 := fun w' => sl_to 71 60 16 ar71 u32_size (by omega) V 8 (by omega) w'
  have sl2 := fun w' => sl_all 62 60 8 ar62 u32_size (by omega) w.heap.size w'
  go_still_tail 2, (by kernel_rfl)
  change wpList _ _ _ _ _ W4.drew
  go_wp2_with (first | (refine cp_blk rfl (.tmp 18) (.tmp 19) 66 60 Tryd.underlying66 u32_size rfl _ _ _ _ _ _ rfl rfl V 0 71 (u32s zero16) (u32s h) BV.out (by rw [u32s_len, HL.out]; rfl) (fun _ => ⟨rfl, _, rfl, Blk.news (w := W4.drew) BHH.out⟩) (by rw [u32s_len, HL.out]; decide) (u32s_one _) ?_; intro w5 hb5 hl5; have HB5 := Lib.hid hb5; have HL5 := Lib.hid hl5; clear hb5 hl5; have C05 : Hid (Blk w5 0 t0 (u32s ivs)) := Blk.below (w := W4.drew) C0.out HL5.out (by have := HVM.out; have := HMN.out; omega)) | (refine ld_row rfl 61 (.global 0) rfl 8 60 ar61 sz61 0 t0 (u32s ivs) rfl C05.out (by rfl) ?_))
  have hv0 := HB5.out
  rw [u32s_splice, vinit_zero h HL.out] at hv0
  have HV0 := Lib.hid hv0
  clear hv0 HB5 sl1 sl2
  go_loopw [22] (fun i wr => ∃ k : Nat, k ≤ 8 ∧ i = .int .i64 k ∧ Blk wr V 71 (u32s (vinit h k)) ∧ Sole V w5 wr) (fun i _ => 8 - (intOf i).toNat)
  case atStart => exact ⟨0, by omega, rfl, HV0.out, Sole.refl _ _⟩
  case round =>
    obtain ⟨k, hk, rfl, hv, hso⟩ := hrel
    have HV := Lib.hid hv
    have HSO := Lib.hid hso
    clear hv hso
    by_cases hlt : k < 8
    · have k0 : (0 : Int) ≤ (k : Int) := by omega
      have k1 : (k : Int) < 8 := by omega
      have ix := idx_row 61 60 8 ar61 u32_size u32_agg (u32s ivs) rfl k hlt _ (u32s_get (by exact hlt))
      have cf := HV.out.free (8 + k)
      have cc := u32s_at HV.out (i := 8 + k) (by rw [vinit_len h HL.out k hk]; omega)
      obtain ⟨x, hx⟩ : ∃ x, wat ivs k = x := ⟨_, rfl⟩
      rw [hx] at ix
      have HX := Lib.hid hx
      clear hx
      go_wp2
      go_roundw
      case rel =>
        refine ⟨k + 1, by omega, by go_num, ?_, HSO.out.setCell _ _⟩
        have := HV.out.store (8 + k) (.int .u32 (x.toNat : Int))
        rw [u32s_set, ← HX.out, vinit_succ h HL.out k hlt, HX.out] at this
        exact this
      case measure => simp [intOf]; omega
    · have hk8 : k = 8 := by omega
      subst hk8
      have x12 := u32s_at HV.out (i := 12) (by rw [vinit_len h HL.out 8 hk]; omega)
      have f12 := HV.out.free 12
      obtain ⟨X12, hX12⟩ : ∃ x, wat (vinit h 8) 12 = x := ⟨_, rfl⟩
      rw [hX12] at x12
      have x13 := u32s_at HV.out (i := 13) (by rw [vinit_len h HL.out 8 hk]; omega)
      have f13 := HV.out.free 13
      obtain ⟨X13, hX13⟩ : ∃ x, wat (vinit h 8) 13 = x := ⟨_, rfl⟩
      rw [hX13] at x13
      have x14 := u32s_at HV.out (i := 14) (by rw [vinit_len h HL.out 8 hk]; omega)
      have f14 := HV.out.free 14
      obtain ⟨X14, hX14⟩ : ∃ x, wat (vinit h 8) 14 = x := ⟨_, rfl⟩
      rw [hX14] at x14
      have HX12 := Lib.hid hX12
      have HX13 := Lib.hid hX13
      have HX14 := Lib.hid hX14
      clear hX12 hX13 hX14
      have n0 : (0 : Int) ≤ (n : Int) := by omega
      have n1 : (n : Int) ≤ 18446744073709551615 := by omega
      obtain ⟨Y12, hY12⟩ : ∃ x, X12 ^^^ loW n = x := ⟨_, rfl⟩
      obtain ⟨Y13, hY13⟩ : ∃ x, X13 ^^^ hiW n = x := ⟨_, rfl⟩
      obtain ⟨Y14, hY14⟩ : ∃ x, ~~~ X14 = x := ⟨_, rfl⟩
      have r12 := lo_xor X12 n
      rw [hY12] at r12
      have r13 := hi_xor X13 n hn
      rw [hY13] at r13
      have r14 := not_xor X14
      rw [hY14] at r14
      have SPEC : Hid (((vinit h 8).set 12 Y12).set 13 Y13 = startL h n false) := by
        have := startL_false h n HL.out
        rw [HX12.out, HX13.out,  hY12, hY13] at this
        exact this.symm
      clear hY12 hY13 hY14
      have B12 := HV.out.store 12 (.int .u32 (Y12.toNat : Int))
      have B13 := B12.store 13 (.int .u32 (Y13.toNat : Int))
      have S13 := (HSO.out.setCell 12 (.int .u32 (Y12.toNat : Int))).setCell 13 (.int .u32 (Y13.toNat : Int))

      obtain ⟨W6, hW6⟩ : ∃ x, x = (wr.setCell ⟨V, 12, none⟩ (.int .u32 (Y12.toNat : Int))).setCell ⟨V, 13, none⟩ (.int .u32 (Y13.toNat : Int)) := ⟨_, rfl⟩
      rw [← hW6] at B13 S13
      rw [u32s_set, u32s_set, SPEC.out] at B13
      have HW6 := Lib.hid hW6
      have HB6 := Lib.hid B13
      have HS6 := Lib.hid S13
      clear hW6 B12 B13 S13
      go_upto_region 13 with (fail)
      rw [← HW6.out]
      clear x12 x13 x14 f12 f13 f14 r12 r13 r14 HW6
      have LV : Hid ((startL h n false).length = 16) := startL_len h n false HL.out
      obtain ⟨v00, hv00⟩ : ∃ x, startL h n false = x := ⟨_, rfl⟩
      have HV00 := Lib.hid hv00
      rw [hv00] at LV HB6
      clear hv00
      have BEL6 : Hid (Below V W4 W6) := (HS6.out.below (((Below.refl V W4).drew).trans HL5.out) (Nat.le_refl _))
      have C16 : Hid (Blk W6 1 t1 (u8s permB)) := C1.out.below BEL6.out (by have := HVM.out; have := HMN.out; omega)
      have M6 : Hid (Blk W6 w2.heap.size 71 (u32s (wordsL b))) := BM.out.below BEL6.out (by have := HVM.out; omega)
      have VS : V < W6.heap.size := lt_of_block HB6.out
      go_wp2_with (refine ld_row rfl 74 (.global 1) rfl 10 73 ar74 sz74 1 t1 (u8s permB) rfl C16.out (by rw [u8s_len]; exact permB_len) ?_)
      go_loopw [50] (fun i wr => ∃ r : Nat, r ≤ 10 ∧ i = .int .i64 r ∧ Blk wr V 71 (u32s (roundsL (wordsL b) v00 r)) ∧ Below V W6 wr ∧ V < wr.heap.size) (fun i _ => 10 - (intOf i).toNat)
      case atStart => exact ⟨0, by omega, rfl, HB6.out, Below.refl _ _, VS⟩
      case round =>
        obtain ⟨r, hr10, rfl, hbv, hbe, hsz⟩ := hrel
        have HBV := Lib.hid hbv
        have HBE := Lib.hid hbe
        clear hbv hbe
        by_cases hr : r < 10
        · have r0 : (0 : Int) ≤ (r : Int) := by omega
          have r1 : (r : Int) < 10 := by omega
          have ix := idx_agg 74 73 10 16 ar74 sz73 agg73 (u8s permB).toArray r hr
          rw [permB_row r hr] at ix
          obtain ⟨P, hP⟩ : ∃ P, wr.heap.size = P := ⟨_, rfl⟩
          have bP : Blk (wr.alloc (Obj.cells #[Value.int .u8 0, Value.int .u8 0, Value.int .u8 0, Value.int .u8 0, Value.int .u8 0, Value.int .u8 0, Value.int .u8 0, Value.int .u8 0, Value.int .u8 0, Value.int .u8 0, Value.int .u8 0, Value.int .u8 0, Value.int .u8 0, Value.int .u8 0, Value.int .u8 0, Value.int .u8 0] 73)) P 73 (u8s (List.replicate 16 0)) := by rw [← hP]; exact born73 wr
          have BP := Lib.hid bP
          have HP := Lib.hid hP
          clear bP
          go_wp2_with (refine st_row rfl 73 (.tmp 14) (.tmp 52) rfl 16 sz73 P 73 (u8s (List.replicate 16 0)) (u8s (permR r)) rfl rfl BP.out (by rw [u8s_len]; exact permR_len r hr) (by rfl) (u8s_one _) ?_; intro w7 hM7 hs7; have HM7 := Lib.hid hM7; have HS7 := Lib.hid hs7; clear hM7 hs7)
          clear hP ix
          have hVP : V < P := by have := HP.out; omega
          have HP0 := HM7
          have HV0' : Hid (Blk w7 V 71 (u32s (roundsL (wordsL b) v00 r))) := (HBV.out.later _).sole HS7.out (by omega)
          have HM0 : Hid (Blk w7 w2.heap.size 71 (u32s (wordsL b))) := ((M6.out.below HBE.out (by have := HVM.out; omega)).later _).sole HS7.out (by have := HVM.out; omega)
          have BE7 : Hid (Below V W6 w7) := HS7.out.below (HBE.out.alloc (by omega) _) (by omega)
          have SZ7 : Hid (V < w7.heap.size) := by have := HS7.out.size; have h2 := HP.out; show V < w7.heap.size; rw [this]; simp; omega
          obtain ⟨v0, hv0⟩ : ∃ x, roundsL (wordsL b) v00 r = x := ⟨_, rfl⟩
          have HVV := Lib.hid hv0
          have LV0 : Hid (v0.length = 16) := by rw [← hv0, roundsL_len _ _ _ (by omega)]; exact LV.out
          rw [hv0] at HV0'
          clear hv0 HV0
          have HV0 := HV0'
          clear HV0'
          have cA := perm_cell HP0.out hr 0 (by omega)
          have cB := perm_cell HP0.out hr 1 (by omega)
          obtain ⟨pA, hpA⟩ : ∃ x, (perms.getD r []).getD 0 0 = x := ⟨_, rfl⟩
          obtain ⟨pB, hpB⟩ : ∃ x, (perms.getD r []).getD 1 0 = x := ⟨_, rfl⟩
          rw [hpA] at cA
          rw [hpB] at cB
          have lA : pA < 16 := by rw [← hpA]; exact (permR_at r hr 0 (by omega)).2
          have lB : pB < 16 := by rw [← hpB]; exact (permR_at r hr 1 (by omega)).2
          have mA := u32s_at HM0.out (i := pA) (by show pA < (wpart b 64).length; rw [wpart_len]; exact lA)
          have mB := u32s_at HM0.out (i := pB) (by show pB < (wpart b 64).length; rw [wpart_len]; exact lB)
          obtain ⟨XA, hXA⟩ : ∃ x, wat (wordsL b) pA = x := ⟨_, rfl⟩
          obtain ⟨XB, hXB⟩ : ∃ x, wat (wordsL b) pB = x := ⟨_, rfl⟩
          rw [hXA] at mA
          rw [hXB] at mB
          have i0 : (0 : Int) ≤ (pA : Int) := by omega
          have i1 : (pA : Int) < 16 := by omega
          have i2 : (0 : Int) ≤ (pB : Int) := by omega
          have i3 : (pB : Int) < 16 := by omega
          obtain ⟨v1, hv1⟩ : ∃ x, mixL v0 0 4 8 12 XA XB = x := ⟨_, rfl⟩
          have EV1 : Hid (stepL (wordsL b) (perms.getD r []) v0 0 = v1) := by
            show mixL v0 0 4 8 12 (wat (wordsL b) ((perms.getD r []).getD 0 0)) (wat (wordsL b) ((perms.getD r []).getD 1 0)) = v1
            rw [hpA, hpB, hXA, hXB, hv1]
          have LV1 : Hid (v1.length = 16) := by rw [← hv1, mixL_len, LV0.out]; exact rfl
          have hmix := mix_walk V 0 4 8 12 v0 XA XB w7.drew HV0.out LV0.out (by omega) (by omega) (by omega) (by omega) (by omega) (by omega) (by omega) (by omega) (by omega) (by omega)
          rw [hv1] at hmix
          clear hv1 hpA hpB hXA hXB
          have HMIX := Lib.hid hmix
          clear hmix
          go_still_tail 8, (by kernel_rfl)
          change wpList _ _ _ _ _ w7.drew
          clear cA cB mA mB
          go_wp2_with fail
          refine HMIX.out.mono ?_
          rintro e u1 ⟨rfl, _, rfl, hb, hs⟩
          have HV1 := Lib.hid hb
          have SO1 : Hid (Sole V w7 u1) := ((Sole.refl V w7).drew.trans hs)
          clear hb hs
          go_wp2_with fail
          have HP1 : Hid (Blk u1 P 73 (u8s (permR r))) := HP0.out.sole SO1.out (by omega)
          have HM1 : Hid (Blk u1 w2.heap.size 71 (u32s (wordsL b))) := HM0.out.sole SO1.out (by have := HVM.out; omega)
          clear HMIX i0 i1 i2 i3 lA lB
          have cA := perm_cell HP1.out hr 2 (by omega)
          have cB := perm_cell HP1.out hr 3 (by omega)
          obtain ⟨pA, hpA⟩ : ∃ x, (perms.getD r []).getD 2 0 = x := ⟨_, rfl⟩
          obtain ⟨pB, hpB⟩ : ∃ x, (perms.getD r []).getD 3 0 = x := ⟨_, rfl⟩
          rw [hpA] at cA
          rw [hpB] at cB
          have lA : pA < 16 := by rw [← hpA]; exact (permR_at r hr 2 (by omega)).2
          have lB : pB < 16 := by rw [← hpB]; exact (permR_at r hr 3 (by omega)).2
          have mA := u32s_at HM1.out (i := pA) (by show pA < (wpart b 64).length; rw [wpart_len]; exact lA)
          have mB := u32s_at HM1.out (i := pB) (by show pB < (wpart b 64).length; rw [wpart_len]; exact lB)
          obtain ⟨XA, hXA⟩ : ∃ x, wat (wordsL b) pA = x := ⟨_, rfl⟩
          obtain ⟨XB, hXB⟩ : ∃ x, wat (wordsL b) pB = x := ⟨_, rfl⟩
          rw [hXA] at mA
          rw [hXB] at mB
          have i0 : (0 : Int) ≤ (pA : Int) := by omega
          have i1 : (pA : Int) < 16 := by omega
          have i2 : (0 : Int) ≤ (pB : Int) := by omega
          have i3 : (pB : Int) < 16 := by omega
          obtain ⟨v2, hv2⟩ : ∃ x, mixL v1 1 5 9 13 XA XB = x := ⟨_, rfl⟩
          have EV2 : Hid (stepL (wordsL b) (perms.getD r []) v1 1 = v2) := by
            show mixL v1 1 5 9 13 (wat (wordsL b) ((perms.getD r []).getD 2 0)) (wat (wordsL b) ((perms.getD r []).getD 3 0)) = v2
            rw [hpA, hpB, hXA, hXB, hv2]
          have LV2 : Hid (v2.length = 16) := by rw [← hv2, mixL_len, LV1.out]; exact rfl
          have hmix := mix_walk V 1 5 9 13 v1 XA XB u1.drew HV1.out LV1.out (by omega) (by omega) (by omega) (by omega) (by omega) (by omega) (by omega) (by omega) (by omega) (by omega)
          rw [hv2] at hmix
          clear hv2 hpA hpB hXA hXB
          have HMIX := Lib.hid hmix
          clear hmix
          go_still_tail 8, (by kernel_rfl)
          change wpList _ _ _ _ _ u1.drew
          clear cA cB mA mB
          go_wp2_with fail
          refine HMIX.out.mono ?_
          rintro e u2 ⟨rfl, _, rfl, hb, hs⟩
          have HV2 := Lib.hid hb
          have SO2 : Hid (Sole V w7 u2) := (SO1.out.drew.trans hs)
          clear hb hs
          go_wp2_with fail
          have HP2 : Hid (Blk u2 P 73 (u8s (permR r))) := HP0.out.sole SO2.out (by omega)
          have HM2 : Hid (Blk u2 w2.heap.size 71 (u32s (wordsL b))) := HM0.out.sole SO2.out (by have := HVM.out; omega)
          clear HMIX i0 i1 i2 i3 lA lB
          have cA := perm_cell HP2.out hr 4 (by omega)
          have cB := perm_cell HP2.out hr 5 (by omega)
          obtain ⟨pA, hpA⟩ : ∃ x, (perms.getD r []).getD 4 0 = x := ⟨_, rfl⟩
          obtain ⟨pB, hpB⟩ : ∃ x, (perms.getD r []).getD 5 0 = x := ⟨_, rfl⟩
          rw [hpA] at cA
          rw [hpB] at cB
          have lA : pA < 16 := by rw [← hpA]; exact (permR_at r hr 4 (by omega)).2
          have lB : pB < 16 := by rw [← hpB]; exact (permR_at r hr 5 (by omega)).2
          have mA := u32s_at HM2.out (i := pA) (by show pA < (wpart b 64).length; rw [wpart_len]; exact lA)
          have mB := u32s_at HM2.out (i := pB) (by show pB < (wpart b 64).length; rw [wpart_len]; exact lB)
          obtain ⟨XA, hXA⟩ : ∃ x, wat (wordsL b) pA = x := ⟨_, rfl⟩
          obtain ⟨XB, hXB⟩ : ∃ x, wat (wordsL b) pB = x := ⟨_, rfl⟩
          rw [hXA] at mA
          rw [hXB] at mB
          have i0 : (0 : Int) ≤ (pA : Int) := by omega
          have i1 : (pA : Int) < 16 := by omega
          have i2 : (0 : Int) ≤ (pB : Int) := by omega
          have i3 : (pB : Int) < 16 := by omega
          obtain ⟨v3, hv3⟩ : ∃ x, mixL v2 2 6 10 14 XA XB = x := ⟨_, rfl⟩
          have EV3 : Hid (stepL (wordsL b) (perms.getD r []) v2 2 = v3) := by
            show mixL v2 2 6 10 14 (wat (wordsL b) ((perms.getD r []).getD 4 0)) (wat (wordsL b) ((perms.getD r []).getD 5 0)) = v3
            rw [hpA, hpB, hXA, hXB, hv3]
          have LV3 : Hid (v3.length = 16) := by rw [← hv3, mixL_len, LV2.out]; exact rfl
          have hmix := mix_walk V 2 6 10 14 v2 XA XB u2.drew HV2.out LV2.out (by omega) (by omega) (by omega) (by omega) (by omega) (by omega) (by omega) (by omega) (by omega) (by omega)
          rw [hv3] at hmix
          clear hv3 hpA hpB hXA hXB
          have HMIX := Lib.hid hmix
          clear hmix
          go_still_tail 8, (by kernel_rfl)
          change wpList _ _ _ _ _ u2.drew
          clear cA cB mA mB
          go_wp2_with fail
          refine HMIX.out.mono ?_
          rintro e u3 ⟨rfl, _, rfl, hb, hs⟩
          have HV3 := Lib.hid hb
          have SO3 : Hid (Sole V w7 u3) := (SO2.out.drew.trans hs)
          clear hb hs
          go_wp2_with fail
          have HP3 : Hid (Blk u3 P 73 (u8s (permR r))) := HP0.out.sole SO3.out (by omega)
          have HM3 : Hid (Blk u3 w2.heap.size 71 (u32s (wordsL b))) := HM0.out.sole SO3.out (by have := HVM.out; omega)
          clear HMIX i0 i1 i2 i3 lA lB
          have cA := perm_cell HP3.out hr 6 (by omega)
          have cB := perm_cell HP3.out hr 7 (by omega)
          obtain ⟨pA, hpA⟩ : ∃ x, (perms.getD r []).getD 6 0 = x := ⟨_, rfl⟩
          obtain ⟨pB, hpB⟩ : ∃ x, (perms.getD r []).getD 7 0 = x := ⟨_, rfl⟩
          rw [hpA] at cA
          rw [hpB] at cB
          have lA : pA < 16 := by rw [← hpA]; exact (permR_at r hr 6 (by omega)).2
          have lB : pB < 16 := by rw [← hpB]; exact (permR_at r hr 7 (by omega)).2
          have mA := u32s_at HM3.out (i := pA) (by show pA < (wpart b 64).length; rw [wpart_len]; exact lA)
          have mB := u32s_at HM3.out (i := pB) (by show pB < (wpart b 64).length; rw [wpart_len]; exact lB)
          obtain ⟨XA, hXA⟩ : ∃ x, wat (wordsL b) pA = x := ⟨_, rfl⟩
          obtain ⟨XB, hXB⟩ : ∃ x, wat (wordsL b) pB = x := ⟨_, rfl⟩
          rw [hXA] at mA
          rw [hXB] at mB
          have i0 : (0 : Int) ≤ (pA : Int) := by omega
          have i1 : (pA : Int) < 16 := by omega
          have i2 : (0 : Int) ≤ (pB : Int) := by omega
          have i3 : (pB : Int) < 16 := by omega
          obtain ⟨v4, hv4⟩ : ∃ x, mixL v3 3 7 11 15 XA XB = x := ⟨_, rfl⟩
          have EV4 : Hid (stepL (wordsL b) (perms.getD r []) v3 3 = v4) := by
            show mixL v3 3 7 11 15 (wat (wordsL b) ((perms.getD r []).getD 6 0)) (wat (wordsL b) ((perms.getD r []).getD 7 0)) = v4
            rw [hpA, hpB, hXA, hXB, hv4]
          have LV4 : Hid (v4.length = 16) := by rw [← hv4, mixL_len, LV3.out]; exact rfl
          have hmix := mix_walk V 3 7 11 15 v3 XA XB u3.drew HV3.out LV3.out (by omega) (by omega) (by omega) (by omega) (by omega) (by omega) (by omega) (by omega) (by omega) (by omega)
          rw [hv4] at hmix
          clear hv4 hpA hpB hXA hXB
          have HMIX := Lib.hid hmix
          clear hmix
          go_still_tail 8, (by kernel_rfl)
          change wpList _ _ _ _ _ u3.drew
          clear cA cB mA mB
          go_wp2_with fail
          refine HMIX.out.mono ?_
          rintro e u4 ⟨rfl, _, rfl, hb, hs⟩
          have HV4 := Lib.hid hb
          have SO4 : Hid (Sole V w7 u4) := (SO3.out.drew.trans hs)
          clear hb hs
          go_wp2_with fail
          have HP4 : Hid (Blk u4 P 73 (u8s (permR r))) := HP0.out.sole SO4.out (by omega)
          have HM4 : Hid (Blk u4 w2.heap.size 71 (u32s (wordsL b))) := HM0.out.sole SO4.out (by have := HVM.out; omega)
          clear HMIX i0 i1 i2 i3 lA lB
          have cA := perm_cell HP4.out hr 8 (by omega)
          have cB := perm_cell HP4.out hr 9 (by omega)
          obtain ⟨pA, hpA⟩ : ∃ x, (perms.getD r []).getD 8 0 = x := ⟨_, rfl⟩
          obtain ⟨pB, hpB⟩ : ∃ x, (perms.getD r []).getD 9 0 = x := ⟨_, rfl⟩
          rw [hpA] at cA
          rw [hpB] at cB
          have lA : pA < 16 := by rw [← hpA]; exact (permR_at r hr 8 (by omega)).2
          have lB : pB < 16 := by rw [← hpB]; exact (permR_at r hr 9 (by omega)).2
          have mA := u32s_at HM4.out (i := pA) (by show pA < (wpart b 64).length; rw [wpart_len]; exact lA)
          have mB := u32s_at HM4.out (i := pB) (by show pB < (wpart b 64).length; rw [wpart_len]; exact lB)
          obtain ⟨XA, hXA⟩ : ∃ x, wat (wordsL b) pA = x := ⟨_, rfl⟩
          obtain ⟨XB, hXB⟩ : ∃ x, wat (wordsL b) pB = x := ⟨_, rfl⟩
          rw [hXA] at mA
          rw [hXB] at mB
          have i0 : (0 : Int) ≤ (pA : Int) := by omega
          have i1 : (pA : Int) < 16 := by omega
          have i2 : (0 : Int) ≤ (pB : Int) := by omega
          have i3 : (pB : Int) < 16 := by omega
          obtain ⟨v5, hv5⟩ : ∃ x, mixL v4 0 5 10 15 XA XB = x := ⟨_, rfl⟩
          have EV5 : Hid (stepL (wordsL b) (perms.getD r []) v4 4 = v5) := by
            show mixL v4 0 5 10 15 (wat (wordsL b) ((perms.getD r []).getD 8 0)) (wat (wordsL b) ((perms.getD r []).getD 9 0)) = v5
            rw [hpA, hpB, hXA, hXB, hv5]
          have LV5 : Hid (v5.length = 16) := by rw [← hv5, mixL_len, LV4.out]; exact rfl
          have hmix := mix_walk V 0 5 10 15 v4 XA XB u4.drew HV4.out LV4.out (by omega) (by omega) (by omega) (by omega) (by omega) (by omega) (by omega) (by omega) (by omega) (by omega)
          rw [hv5] at hmix
          clear hv5 hpA hpB hXA hXB
          have HMIX := Lib.hid hmix
          clear hmix
          go_still_tail 8, (by kernel_rfl)
          change wpList _ _ _ _ _ u4.drew
          clear cA cB mA mB
          go_wp2_with fail
          refine HMIX.out.mono ?_
          rintro e u5 ⟨rfl, _, rfl, hb, hs⟩
          have HV5 := Lib.hid hb
          have SO5 : Hid (Sole V w7 u5) := (SO4.out.drew.trans hs)
          clear hb hs
          go_wp2_with fail
          have HP5 : Hid (Blk u5 P 73 (u8s (permR r))) := HP0.out.sole SO5.out (by omega)
          have HM5 : Hid (Blk u5 w2.heap.size 71 (u32s (wordsL b))) := HM0.out.sole SO5.out (by have := HVM.out; omega)
          clear HMIX i0 i1 i2 i3 lA lB
          have cA := perm_cell HP5.out hr 10 (by omega)
          have cB := perm_cell HP5.out hr 11 (by omega)
          obtain ⟨pA, hpA⟩ : ∃ x, (perms.getD r []).getD 10 0 = x := ⟨_, rfl⟩
          obtain ⟨pB, hpB⟩ : ∃ x, (perms.getD r []).getD 11 0 = x := ⟨_, rfl⟩
          rw [hpA] at cA
          rw [hpB] at cB
          have lA : pA < 16 := by rw [← hpA]; exact (permR_at r hr 10 (by omega)).2
          have lB : pB < 16 := by rw [← hpB]; exact (permR_at r hr 11 (by omega)).2
          have mA := u32s_at HM5.out (i := pA) (by show pA < (wpart b 64).length; rw [wpart_len]; exact lA)
          have mB := u32s_at HM5.out (i := pB) (by show pB < (wpart b 64).length; rw [wpart_len]; exact lB)
          obtain ⟨XA, hXA⟩ : ∃ x, wat (wordsL b) pA = x := ⟨_, rfl⟩
          obtain ⟨XB, hXB⟩ : ∃ x, wat (wordsL b) pB = x := ⟨_, rfl⟩
          rw [hXA] at mA
          rw [hXB] at mB
          have i0 : (0 : Int) ≤ (pA : Int) := by omega
          have i1 : (pA : Int) < 16 := by omega
          have i2 : (0 : Int) ≤ (pB : Int) := by omega
          have i3 : (pB : Int) < 16 := by omega
          obtain ⟨v6, hv6⟩ : ∃ x, mixL v5 1 6 11 12 XA XB = x := ⟨_, rfl⟩
          have EV6 : Hid (stepL (wordsL b) (perms.getD r []) v5 5 = v6) := by
            show mixL v5 1 6 11 12 (wat (wordsL b) ((perms.getD r []).getD 10 0)) (wat (wordsL b) ((perms.getD r []).getD 11 0)) = v6
            rw [hpA, hpB, hXA, hXB, hv6]
          have LV6 : Hid (v6.length = 16) := by rw [← hv6, mixL_len, LV5.out]; exact rfl
          have hmix := mix_walk V 1 6 11 12 v5 XA XB u5.drew HV5.out LV5.out (by omega) (by omega) (by omega) (by omega) (by omega) (by omega) (by omega) (by omega) (by omega) (by omega)
          rw [hv6] at hmix
          clear hv6 hpA hpB hXA hXB
          have HMIX := Lib.hid hmix
          clear hmix
          go_still_tail 8, (by kernel_rfl)
          change wpList _ _ _ _ _ u5.drew
          clear cA cB mA mB
          go_wp2_with fail
          refine HMIX.out.mono ?_
          rintro e u6 ⟨rfl, _, rfl, hb, hs⟩
          have HV6 := Lib.hid hb
          have SO6 : Hid (Sole V w7 u6) := (SO5.out.drew.trans hs)
          clear hb hs
          go_wp2_with fail
          have HP6 : Hid (Blk u6 P 73 (u8s (permR r))) := HP0.out.sole SO6.out (by omega)
          have HM6 : Hid (Blk u6 w2.heap.size 71 (u32s (wordsL b))) := HM0.out.sole SO6.out (by have := HVM.out; omega)
          clear HMIX i0 i1 i2 i3 lA lB
          have cA := perm_cell HP6.out hr 12 (by omega)
          have cB := perm_cell HP6.out hr 13 (by omega)
          obtain ⟨pA, hpA⟩ : ∃ x, (perms.getD r []).getD 12 0 = x := ⟨_, rfl⟩
          obtain ⟨pB, hpB⟩ : ∃ x, (perms.getD r []).getD 13 0 = x := ⟨_, rfl⟩
          rw [hpA] at cA
          rw [hpB] at cB
          have lA : pA < 16 := by rw [← hpA]; exact (permR_at r hr 12 (by omega)).2
          have lB : pB < 16 := by rw [← hpB]; exact (permR_at r hr 13 (by omega)).2
          have mA := u32s_at HM6.out (i := pA) (by show pA < (wpart b 64).length; rw [wpart_len]; exact lA)
          have mB := u32s_at HM6.out (i := pB) (by show pB < (wpart b 64).length; rw [wpart_len]; exact lB)
          obtain ⟨XA, hXA⟩ : ∃ x, wat (wordsL b) pA = x := ⟨_, rfl⟩
          obtain ⟨XB, hXB⟩ : ∃ x, wat (wordsL b) pB = x := ⟨_, rfl⟩
          rw [hXA] at mA
          rw [hXB] at mB
          have i0 : (0 : Int) ≤ (pA : Int) := by omega
          have i1 : (pA : Int) < 16 := by omega
          have i2 : (0 : Int) ≤ (pB : Int) := by omega
          have i3 : (pB : Int) < 16 := by omega
          obtain ⟨v7, hv7⟩ : ∃ x, mixL v6 2 7 8 13 XA XB = x := ⟨_, rfl⟩
          have EV7 : Hid (stepL (wordsL b) (perms.getD r []) v6 6 = v7) := by
            show mixL v6 2 7 8 13 (wat (wordsL b) ((perms.getD r []).getD 12 0)) (wat (wordsL b) ((perms.getD r []).getD 13 0)) = v7
            rw [hpA, hpB, hXA, hXB, hv7]
          have LV7 : Hid (v7.length = 16) := by rw [← hv7, mixL_len, LV6.out]; exact rfl
          have hmix := mix_walk V 2 7 8 13 v6 XA XB u6.drew HV6.out LV6.out (by omega) (by omega) (by omega) (by omega) (by omega) (by omega) (by omega) (by omega) (by omega) (by omega)
          rw [hv7] at hmix
          clear hv7 hpA hpB hXA hXB
          have HMIX := Lib.hid hmix
          clear hmix
          go_still_tail 8, (by kernel_rfl)
          change wpList _ _ _ _ _ u6.drew
          clear cA cB mA mB
          go_wp2_with fail
          refine HMIX.out.mono ?_
          rintro e u7 ⟨rfl, _, rfl, hb, hs⟩
          have HV7 := Lib.hid hb
          have SO7 : Hid (Sole V w7 u7) := (SO6.out.drew.trans hs)
          clear hb hs
          go_wp2_with fail
          have HP7 : Hid (Blk u7 P 73 (u8s (permR r))) := HP0.out.sole SO7.out (by omega)
          have HM7 : Hid (Blk u7 w2.heap.size 71 (u32s (wordsL b))) := HM0.out.sole SO7.out (by have := HVM.out; omega)
          clear HMIX i0 i1 i2 i3 lA lB
          have cA := perm_cell HP7.out hr 14 (by omega)
          have cB := perm_cell HP7.out hr 15 (by omega)
          obtain ⟨pA, hpA⟩ : ∃ x, (perms.getD r []).getD 14 0 = x := ⟨_, rfl⟩
          obtain ⟨pB, hpB⟩ : ∃ x, (perms.getD r []).getD 15 0 = x := ⟨_, rfl⟩
          rw [hpA] at cA
          rw [hpB] at cB
          have lA : pA < 16 := by rw [← hpA]; exact (permR_at r hr 14 (by omega)).2
          have lB : pB < 16 := by rw [← hpB]; exact (permR_at r hr 15 (by omega)).2
          have mA := u32s_at HM7.out (i := pA) (by show pA < (wpart b 64).length; rw [wpart_len]; exact lA)
          have mB := u32s_at HM7.out (i := pB) (by show pB < (wpart b 64).length; rw [wpart_len]; exact lB)
          obtain ⟨XA, hXA⟩ : ∃ x, wat (wordsL b) pA = x := ⟨_, rfl⟩
          obtain ⟨XB, hXB⟩ : ∃ x, wat (wordsL b) pB = x := ⟨_, rfl⟩
          rw [hXA] at mA
          rw [hXB] at mB
          have i0 : (0 : Int) ≤ (pA : Int) := by omega
          have i1 : (pA : Int) < 16 := by omega
          have i2 : (0 : Int) ≤ (pB : Int) := by omega
          have i3 : (pB : Int) < 16 := by omega
          obtain ⟨v8, hv8⟩ : ∃ x, mixL v7 3 4 9 14 XA XB = x := ⟨_, rfl⟩
          have EV8 : Hid (stepL (wordsL b) (perms.getD r []) v7 7 = v8) := by
            show mixL v7 3 4 9 14 (wat (wordsL b) ((perms.getD r []).getD 14 0)) (wat (wordsL b) ((perms.getD r []).getD 15 0)) = v8
            rw [hpA, hpB, hXA, hXB, hv8]
          have LV8 : Hid (v8.length = 16) := by rw [← hv8, mixL_len, LV7.out]; exact rfl
          have hmix := mix_walk V 3 4 9 14 v7 XA XB u7.drew HV7.out LV7.out (by omega) (by omega) (by omega) (by omega) (by omega) (by omega) (by omega) (by omega) (by omega) (by omega)
          rw [hv8] at hmix
          clear hv8 hpA hpB hXA hXB
          have HMIX := Lib.hid hmix
          clear hmix
          go_still_tail 8, (by kernel_rfl)
          change wpList _ _ _ _ _ u7.drew
          clear cA cB mA mB
          go_wp2_with fail
          refine HMIX.out.mono ?_
          rintro e u8 ⟨rfl, _, rfl, hb, hs⟩
          have HV8 := Lib.hid hb
          have SO8 : Hid (Sole V w7 u8) := (SO7.out.drew.trans hs)
          clear hb hs
          go_wp2_with fail
          have HP8 : Hid (Blk u8 P 73 (u8s (permR r))) := HP0.out.sole SO8.out (by omega)
          have HM8 : Hid (Blk u8 w2.heap.size 71 (u32s (wordsL b))) := HM0.out.sole SO8.out (by have := HVM.out; omega)
          clear HMIX i0 i1 i2 i3 lA lB
          refine ⟨⟨r + 1, by omega, by go_num, ?_, SO8.out.below BE7.out (Nat.le_refl _), by rw [SO8.out.size]; exact SZ7.out⟩, by simp [intOf]; omega⟩
          have hfin : roundsL (wordsL b) v00 (r + 1) = v8 := by
            rw [roundsL_succ _ _ _ hr, HVV.out, round8, EV1.out, EV2.out, EV3.out, EV4.out, EV5.out, EV6.out, EV7.out, EV8.out]
          rw [hfin]
          exact HV8.out
        · have hr10' : r = 10 := by omega
          subst hr10'
          have hBN : Hid (Blk wr w.heap.size 62 (u32s h)) := (BHH.out.below BEL6.out (by have := HVM.out; have := HMN.out; omega)).below HBE.out (by have := HVM.out; have := HMN.out; omega)
          have hBR : Hid (Blk wr (w.heap.size + 1 + 1) 62 (u32s zero8)) := (BRR.out.below BEL6.out (by have := HVM.out; have := HMN.out; omega)).below HBE.out (by have := HVM.out; have := HMN.out; omega)
          have hBEL : Hid (Below w.heap.size w wr) := (CB.out.trans (BEL6.out.mono (by have := HVM.out; have := HMN.out; omega))).trans (HBE.out.mono (by have := HVM.out; have := HMN.out; omega))
          obtain ⟨v9, hv9⟩ : ∃ x, roundsL (wordsL b) v00 10 = x := ⟨_, rfl⟩
          have lv9 : v9.length = 16 := by rw [← hv9, roundsL_len _ _ _ (by omega)]; exact LV.out
          have LV9 := Lib.hid lv9
          have HV9 := Lib.hid hv9
          rw [hv9] at HBV
          clear hv9 lv9
          have hNV : w.heap.size ≠ V := by have := HVM.out; have := HMN.out; omega
          obtain ⟨wo, hwo⟩ : ∃ x, wr = x := ⟨_, rfl⟩
          rw [hwo] at hBN hBR hBEL HBV
          go_upto_region 25 with (fail)
          clear hwo HBE hsz HB6 VS M6 C16 BEL6 HS6 HV HX12 HX13 HX14 HSO
          go_wp2
          go_loopw [126] (fun i wr => ∃ k : Nat, k ≤ 8 ∧ i = .int .i64 k ∧ Blk wr w.heap.size 62 (u32s (hpart h v9 k)) ∧ Sole w.heap.size wo wr) (fun i _ => 8 - (intOf i).toNat)
          case atStart => exact ⟨0, by omega, rfl, by rw [hpart_zero h v9 HL.out]; exact hBN.out, Sole.refl _ _⟩
          case round =>
            obtain ⟨k, hk, rfl, hh, hso⟩ := hrel
            have HH := Lib.hid hh
            have HSO := Lib.hid hso
            clear hh hso
            by_cases hlt : k < 8
            · have k0 : (0 : Int) ≤ (k : Int) := by omega
              have k1 : (k : Int) < 8 := by omega
              have k2 : (k : Int) < 16 := by omega
              obtain ⟨k8, hk8⟩ : ∃ x, k + 8 = x := ⟨_, rfl⟩
              have k3 : (0 : Int) ≤ (k8 : Int) := by omega
              have k4 : (k8 : Int) < 16 := by omega
              have e1 : IntKind.i64.wrap ((k : Int) + 8) = (k8 : Int) := by rw [IntWalk.i64_in _ (by omega)]; omega
              have bv := HBV.out.sole HSO.out hNV.symm
              have cA := u32s_at HH.out (i := k) (by rw [hpart_len]; omega)
              rw [hpart_at h v9 k hlt] at cA
              have fA := HH.out.free k
              have cB := u32s_at bv (i := k) (by rw [LV9.out]; omega)
              have cC := u32s_at bv (i := k8) (by rw [LV9.out]; omega)
              obtain ⟨XA, hXA⟩ : ∃ x, wat h k = x := ⟨_, rfl⟩
              obtain ⟨XB, hXB⟩ : ∃ x, wat v9 k = x := ⟨_, rfl⟩
              obtain ⟨XC, hXC⟩ : ∃ x, wat v9 k8 = x := ⟨_, rfl⟩
              rw [hXA] at cA
              rw [hXB] at cB
              rw [hXC] at cC
              obtain ⟨Y1, hY1⟩ : ∃ x, XB ^^^ XC = x := ⟨_, rfl⟩
              obtain ⟨Y2, hY2⟩ : ∃ x, XA ^^^ Y1 = x := ⟨_, rfl⟩
              have r1 := bits_xor32 XB XC
              rw [hY1] at r1
              have r2 := bits_xor32 XA Y1
              rw [hY2] at r2
              have hst := HH.out.store k (.int .u32 (Y2.toNat : Int))
              rw [u32s_set, ← hY2, ← hY1, ← hXA, ← hXB, ← hXC, ← hk8, hpart_succ h v9 k hlt, hk8, hXA, hXB, hXC, hY1, hY2] at hst
              have HST := Lib.hid hst
              clear hst hY1 hY2 hXA hXB hXC hk8 bv
              go_wp2
              go_still_tail 13, (by kernel_rfl)
              change wpList _ _ _ _ _ wr.drew
              go_wp2_with fail
              go_roundw
              case rel =>
                first | exact ⟨k + 1, by omega, by go_num, HST.out, (HSO.out.setCell k _).drew⟩ | ((repeat apply Exists.intro); exact ⟨⟨k + 1, by omega, by go_num, HST.out, (HSO.out.setCell k _).drew⟩, rfl⟩)
              case measure => simp [intOf]; omega
            · have hk8 : k = 8 := by omega
              subst hk8
              have fh : hpart h v9 8 = blockL h b n false := by rw [← hpart_full, HV00.out, HV9.out]
              rw [fh] at HH
              have bl8 : (blockL h b n false).length = 8 := by rw [← fh, hpart_len]
              have BL8 := Lib.hid bl8
              clear fh bl8
              have HR : Hid (Blk wr (w.heap.size + 1 + 1) 62 (u32s zero8)) := hBR.out.sole HSO.out (by omega)
              go_wp2_with (first | (refine ld_row rfl 62 (.tmp 4) rfl 8 60 ar62 sz62 w.heap.size 62 (u32s (blockL h b n false)) rfl HH.out (by rw [u32s_len]; exact BL8.out) ?_) | (refine st_row rfl 62 (.tmp 8) (.tmp 143) rfl 8 sz62 (w.heap.size + 1 + 1) 62 (u32s zero8) (u32s (blockL h b n false)) rfl rfl HR.out (by rw [u32s_len]; exact BL8.out) (by rfl) (u32s_one _) ?_; intro w9 hg9 hs9; have HG := Lib.hid hg9; have HS := Lib.hid hs9; clear hg9 hs9))
              exact bodyPost_ret (v := .agg (u32s (blockL h b n false)).toArray) (results_cell_row Tryd.results35 _ _ (w.heap.size + 1 + 1) 62 _ (0, 0) (.array 8 60) rfl HG.out ar62 rfl (by rw [sz62]; simp [u32s_len, BL8.out])) rfl ⟨rfl, HS.out.below (HSO.out.below hBEL.out (Nat.le_refl _)) (by omega)⟩

end Go.Proofs.YtcnnijhfliahgaaDoor