/- The walk of the document's block (38). -/
import Derived.Test.YtcnnijhfliahgaaDoorHaI
namespace Go.Proofs.YtcnnijhfliahgaaDoor
open Go.RowKit
set_option linter.unusedVariables false

theorem exec_ld2 {o : Oper} {ev : Operand → Value} {w : World} (ty : TypeId) (x : Operand) (ho : o.op = .load ty x) (n : Nat) (e : TypeId)
    (hu : Tryd.prog.underlying ty = some (.array n e)) {m : Nat} (hi : (Tryd.prog.info? ty).map (·.size) = some m) (g : Nat) (t : TypeId) (cs : List Value) (hx : ev x = .pointer (some ⟨g, 0, none⟩)) (hg : Blk w g t cs) (hl : cs.length = m) :
    (execOp ev o).run Tryd.prog w = .ok (.value (.agg cs.toArray)) w := by
  unfold execOp
  simp only [ho, hx, Instr.loadAt, Instr.sureAddr, Sem.run_bind, Sem.run_pure, Result.andThen_ok, run_loadVar_row w g t ty cs.toArray (0, 0) (.array n e) hg hu rfl (by rw [hi, ← hl]; simp)]
theorem born861 (w : World) : Blk (w.alloc (Obj.cells #[Value.int .u32 0, Value.int .u32 0, Value.int .u32 0, Value.int .u32 0, Value.int .u32 0, Value.int .u32 0, Value.int .u32 0, Value.int .u32 0] 61)) w.heap.size 61 (u32s zero8) := heap_alloc_new w _
def vini (h : List W32) (k : Nat) : List W32 := (h.take k ++ List.replicate (8 - k) 0) ++ (ivs.take k ++ List.replicate (8 - k) 0)
theorem vini_zero (h : List W32) : vini h 0 = zero16 := rfl
theorem vini_len (h : List W32) (hl : h.length = 8) (k : Nat) (hk : k ≤ 8) : (vini h k).length = 16 := by
  have : ivs.length = 8 := rfl
  simp [vini, hl, this]; omega
theorem vini_full (h : List W32) (hl : h.length = 8) : vini h 8 = vinit h 8 := by
  obtain ⟨a0, a1, a2, a3, a4, a5, a6, a7, rfl⟩ := list8 hl
  rfl
theorem vini_succ (h : List W32) (hl : h.length = 8) (k : Nat) (hk : k < 8) : ((vini h k).set k (wat h k)).set (8 + k) (wat ivs k) = vini h (k + 1) := by
  obtain ⟨a0, a1, a2, a3, a4, a5, a6, a7, rfl⟩ := list8 hl
  obtain rfl | rfl | rfl | rfl | rfl | rfl | rfl | rfl : k = 0 ∨ k = 1 ∨ k = 2 ∨ k = 3 ∨ k = 4 ∨ k = 5 ∨ k = 6 ∨ k = 7 := by omega
  all_goals rfl
theorem not_xor2 (X : W32) : bits .xor .u32 (X.toNat : Int) 4294967295 = ((~~~ X).toNat : Int) := by
  have h := bits_xor32 X (BitVec.allOnes 32)
  rw [BitVec.xor_allOnes] at h
  exact h
theorem ord_size : ∀ r < 10, (ordS r).size = 16 := by decide +kernel
theorem ord_byte0 : ∀ r < 10, ∀ j < 16, ((ordS r).data.toList.getD j 0).toNat = 97 + (perms.getD r []).getD j 0 := by decide +kernel
theorem ord_byte (r : Nat) (hr : r < 10) (j : Nat) (hj : j < 16) : (((ordS r).data.toList.getD j 0).toNat : Int) = 97 + (((perms.getD r []).getD j 0 : Nat) : Int) := by
  rw [ord_byte0 r hr j hj]; omega

set_option maxHeartbeats 8000000 in
set_option maxRecDepth 100000 in
theorem rblock_true (h : List W32) (A : Option Addr) (cap : Nat) (b : List UInt8) (n : Nat) (w : World) (hl : h.length = 8) (bl : b.length = 64) (hn : n < 18446744073709551616) (hby : Byt w A b) :
    Calls Tryd.prog 38 #[.agg (u32s h).toArray, .slice A 64 cap, .int .u64 (n : Int), .bool true] w fun e w' => e = .returned (.agg (u32s (blockL h b n true)).toArray) ∧ Below w.heap.size w w' := by
  obtain ⟨bb, bo, rfl, hcell0⟩ := hby 0 (by omega)
  clear hcell0
  obtain ⟨N, hN⟩ : ∃ N, w.heap.size = N := ⟨_, rfl⟩
  have HL := Lib.hid hl
  have BL := Lib.hid bl
  have HBY := Lib.hid hby
  obtain ⟨W0, hW0⟩ : ∃ x, x = ((w.alloc (Obj.cells (u32s h).toArray 61)).alloc (Obj.cells #[Value.int .u32 0, Value.int .u32 0, Value.int .u32 0, Value.int .u32 0, Value.int .u32 0, Value.int .u32 0, Value.int .u32 0, Value.int .u32 0] 61)) := ⟨_, rfl⟩
  have bh : Blk W0 N 61 (u32s h) := by rw [hW0, ← hN]; exact (Blk.born w 61 (u32s h)).later _
  have br : Blk W0 (N + 1) 61 (u32s zero8) := by
    have := born861 (w.alloc (Obj.cells (u32s h).toArray 61))
    rw [hW0]; simpa [hN] using this
  have bel0 : Below N w W0 := by rw [hW0, ← hN]; exact ((Below.refl _ _).alloc (Nat.le_refl _) _).alloc (by simp) _
  have s0 : W0.heap.size = N + 1 + 1 := by rw [hW0]; simp [hN]
  have HW0 := Lib.hid hW0
  have BH0 := Lib.hid bh
  have BR0 := Lib.hid br
  have BEL0 := Lib.hid bel0
  have S0 := Lib.hid s0
  have HN := Lib.hid hN
  clear hl bl hby hW0 bh br bel0 s0
  go_enter Tryd.func38, Tryd.ntmps38
  go_upto_region 1 with (fail)
  rw [← HW0.out]
  go_wp2_with (go_at_call 37; refine (words37 _).mono ?_; rintro e w2 ⟨rfl, hb2, hl2⟩; have HS2 := Lib.hid hb2; have HL2 := Lib.hid hl2; clear hb2 hl2)
  obtain ⟨M, hM⟩ : ∃ M, w2.heap.size = M := ⟨_, rfl⟩
  have hMN : N + 3 ≤ M := by
    have h1 := lt_of_block HS2.out
    have h2 := S0.out
    omega
  obtain ⟨W1, hW1⟩ : ∃ x, x = w2.alloc (Obj.cells #[Value.int .u32 0, Value.int .u32 0, Value.int .u32 0, Value.int .u32 0, Value.int .u32 0, Value.int .u32 0, Value.int .u32 0, Value.int .u32 0, Value.int .u32 0, Value.int .u32 0, Value.int .u32 0, Value.int .u32 0, Value.int .u32 0, Value.int .u32 0, Value.int .u32 0, Value.int .u32 0] 71) := ⟨_, rfl⟩
  have bm : Blk W1 M 71 (u32s zero16) := by rw [hW1, ← hM]; exact born71 w2
  have bs : Blk W1 (N + 1 + 1) 60 (u32s ivs) := by rw [hW1]; have := HS2.out; rw [S0.out] at this; exact this.later _
  have bh : Blk W1 N 61 (u32s h) := by rw [hW1]; exact (BH0.out.below HL2.out (by rw [S0.out]; omega)).later _
  have br : Blk W1 (N + 1) 61 (u32s zero8) := by rw [hW1]; exact (BR0.out.below HL2.out (by rw [S0.out]; omega)).later _
  have bel : Below N w W1 := by rw [hW1]; exact (BEL0.out.trans (HL2.out.mono (by rw [S0.out]; omega))).alloc (by omega) _
  have s1 : W1.heap.size = M + 1 := by rw [hW1]; simp [hM]
  rw [← hW1]
  have hS0' := S0.out
  rw [hS0']
  have BM1 := Lib.hid bm
  have BS1 := Lib.hid bs
  have BH1 := Lib.hid bh
  have BR1 := Lib.hid br
  have BEL1 := Lib.hid bel
  have S1 := Lib.hid s1
  have HMN := Lib.hid hMN
  rw [hM]
  try rw [hN]
  clear hW1 bm bs bh br bel s1 hMN HW0 BH0 BR0 BEL0 S0 hS0' HS2 HL2 hM
  go_loopw [11] (fun i wr => ∃ k : Nat, k ≤ 64 ∧ i = .int .i64 k ∧ Blk wr M 71 (u32s (wpart b k)) ∧ Sole M W1 wr) (fun i _ => 64 - (intOf i).toNat)
  case atStart => exact ⟨0, by omega, rfl, by rw [wpart_zero]; exact BM1.out, Sole.refl _ _⟩
  case round =>
    obtain ⟨k, hk, rfl, hm, hso⟩ := hrel
    have HM := Lib.hid hm
    have HSO := Lib.hid hso
    clear hm hso
    by_cases hlt : k < 64
    · obtain ⟨q, hq⟩ : ∃ q, k / 4 = q := ⟨_, rfl⟩
      obtain ⟨r, hr⟩ : ∃ r, k % 4 = r := ⟨_, rfl⟩
      obtain ⟨s, hs⟩ : ∃ s, 8 * r = s := ⟨_, rfl⟩
      have k0 : (0 : Int) ≤ (k : Int) := by omega
      have k1 : (k : Int) < 64 := by omega
      have q0 : (0 : Int) ≤ (q : Int) := by omega
      have q1 : (q : Int) < 16 := by omega
      have r0 : (0 : Int) ≤ (r : Int) := by omega
      have r1 : (r : Int) < 4 := by omega
      have s0 : (0 : Int) ≤ (s : Int) := by omega
      have s1 : (s : Int) < 32 := by omega
      have hbyr : Byt wr (some ⟨bb, bo, none⟩) b := HBY.out.keep (by rw [HN.out]; exact HSO.out.below BEL1.out (by have := HMN.out; omega))
      obtain ⟨bb', bo', eb, cb⟩ := hbyr k (by rw [BL.out]; exact hlt)
      obtain ⟨rfl, rfl⟩ : bb = bb' ∧ bo = bo' := by simpa using eb
      have hgd : b.getD k 0 = b[k]'(by rw [BL.out]; exact hlt) := by simp [List.getD, List.getElem?_eq_getElem (show k < b.length by rw [BL.out]; exact hlt)]
      rw [← hgd] at cb
      obtain ⟨c, hcc⟩ : ∃ c, b.getD k 0 = c := ⟨_, rfl⟩
      rw [hcc] at cb
      have hcl := c.toNat_lt
      have HC := Lib.hid hcc
      have cm := u32s_at HM.out (i := q) (by rw [wpart_len]; omega)
      have cf := HM.out.free q
      obtain ⟨m, hmm⟩ : ∃ m, wat (wpart b k) q = m := ⟨_, rfl⟩
      rw [hmm] at cm
      have HMM := Lib.hid hmm
      have e1 : IntKind.i64.wrap ((k : Int) / 4) = (q : Int) := by rw [IntWalk.i64_in _ (by omega)]; omega
      have e2 : (k : Int).tmod 4 = (r : Int) := by rw [Int.tmod_eq_emod_of_nonneg (by omega)]; omega
      have e3 : IntKind.i64.wrap (8 * (r : Int)) = (s : Int) := by rw [IntWalk.i64_in _ (by omega)]; omega
      obtain ⟨cw, hcw⟩ : ∃ cw : W32, BitVec.ofNat 32 c.toNat = cw := ⟨_, rfl⟩
      have e4 : IntKind.u32.wrap (c.toNat : Int) = (cw.toNat : Int) := by rw [IntKind.wrap_u32', ← hcw, BitVec.toNat_ofNat]; omega
      obtain ⟨sw, hsw⟩ : ∃ sw : W32, cw <<< s = sw := ⟨_, rfl⟩
      have e5 : IntKind.u32.wrap ((cw.toNat : Int) * 2 ^ s) = (sw.toNat : Int) := by rw [IntKind.wrap_u32', ← hsw]; exact shl_bv cw s _ (by simp)
      obtain ⟨nw, hnw⟩ : ∃ nw : W32, m + sw = nw := ⟨_, rfl⟩
      have e6 := addw m sw
      rw [hnw] at e6
      obtain ⟨e6, e7⟩ := e6
      have hst := HM.out.store q (.int .u32 (nw.toNat : Int))
      have ee : wpart b (k + 1) = (wpart b k).set q nw := by
        rw [wpart_succ b k hlt, hq, hr]
        congr 1
        have := word_add b k hlt c HC.out
        rw [hq, hr, hs, hcw, hsw] at this
        rw [← this, ← hnw, ← HMM.out]
        have h2 := wpart_at b k hlt
        rw [hq, hr] at h2
        rw [h2]
      rw [u32s_set, ← ee] at hst
      have HST := Lib.hid hst
      clear hq hr hs hcw hsw hnw hst ee hcc hmm hgd eb hbyr
      go_wp2
      go_still_tail 17, (by kernel_rfl)
      change wpList _ _ _ _ _ wr.drew
      go_wp2
      go_roundw
      case rel => exact ⟨k + 1, by omega, by go_num, HST.out, (HSO.out.setCell q _).drew⟩
      case measure => simp [intOf]; omega
    · have hk64 : k = 64 := by omega
      subst hk64
      go_upto_region 7 with (fail)
      obtain ⟨V, hV⟩ : ∃ V, wr.heap.size = V := ⟨_, rfl⟩
      have hVM : V = M + 1 := by rw [← hV, HSO.out.size, S1.out]
      obtain ⟨W2, hW2⟩ : ∃ x, x = wr.alloc (Obj.cells #[Value.int .u32 0, Value.int .u32 0, Value.int .u32 0, Value.int .u32 0, Value.int .u32 0, Value.int .u32 0, Value.int .u32 0, Value.int .u32 0, Value.int .u32 0, Value.int .u32 0, Value.int .u32 0, Value.int .u32 0, Value.int .u32 0, Value.int .u32 0, Value.int .u32 0, Value.int .u32 0] 71) := ⟨_, rfl⟩
      have bv : Blk W2 V 71 (u32s zero16) := by rw [hW2, ← hV]; exact born71 wr
      have hMN := HMN.out
      have bm : Blk W2 M 71 (u32s (wordsL b)) := by rw [hW2]; exact HM.out.later _
      have bs : Blk W2 (N + 1 + 1) 60 (u32s ivs) := by rw [hW2]; exact (BS1.out.sole HSO.out (by omega)).later _
      have bh : Blk W2 N 61 (u32s h) := by rw [hW2]; exact (BH1.out.sole HSO.out (by omega)).later _
      have br : Blk W2 (N + 1) 61 (u32s zero8) := by rw [hW2]; exact (BR1.out.sole HSO.out (by omega)).later _
      have bel : Below N w W2 := by rw [hW2]; exact (HSO.out.below BEL1.out (by omega)).alloc (by omega) _
      have s2 : W2.heap.size = V + 1 := by rw [hW2]; simp [hV]
      have BV2 := Lib.hid bv
      have BM2 := Lib.hid bm
      have BS2 := Lib.hid bs
      have BH2 := Lib.hid bh
      have BR2 := Lib.hid br
      have BEL2 := Lib.hid bel
      have S2 := Lib.hid s2
      have HW2 := Lib.hid hW2
      have HVM := Lib.hid hVM
      clear bv bm bs bh br bel s2 hW2 hVM hMN
      go_upto_region 8 with (fail)
      rw [← HW2.out]
      try rw [hV]
      clear hV HW2 HM HSO BM1 BS1 BH1 BR1 BEL1 S1
      go_wp2
      go_loopw [13] (fun i wr => ∃ k : Nat, k ≤ 8 ∧ i = .int .i64 k ∧ Blk wr V 71 (u32s (vini h k)) ∧ Sole V W2 wr) (fun i _ => 8 - (intOf i).toNat)
      case atStart => exact ⟨0, by omega, rfl, BV2.out, Sole.refl _ _⟩
      case round =>
        obtain ⟨k, hk, rfl, hv, hso⟩ := hrel
        have HV := Lib.hid hv
        have HSO := Lib.hid hso
        clear hv hso
        by_cases hlt : k < 8
        · have k0 : (0 : Int) ≤ (k : Int) := by omega
          have k1 : (k : Int) < 8 := by omega
          have k2 : (k : Int) < 16 := by omega
          have ch := u32s_at (BH2.out.sole HSO.out (by have := HVM.out; have := HMN.out; omega)) (i := k) (by rw [HL.out]; exact hlt)
          have cs := u32s_at (BS2.out.sole HSO.out (by have := HVM.out; have := HMN.out; omega)) (i := k) (by exact hlt)
          have f1 := HV.out.free k
          have f2 := HV.out.free (8 + k)
          have c1 := u32s_at HV.out (i := k) (by rw [vini_len h HL.out k hk]; omega)
          have c2 := u32s_at HV.out (i := 8 + k) (by rw [vini_len h HL.out k hk]; omega)
          obtain ⟨x, hx⟩ : ∃ x, wat h k = x := ⟨_, rfl⟩
          obtain ⟨y, hy⟩ : ∃ y, wat ivs k = y := ⟨_, rfl⟩
          rw [hx] at ch
          rw [hy] at cs
          have hst := (HV.out.store k (.int .u32 (x.toNat : Int))).store (8 + k) (.int .u32 (y.toNat : Int))
          rw [u32s_set, u32s_set, ← hx, ← hy, vini_succ h HL.out k hlt, hx, hy] at hst
          have HST := Lib.hid hst
          have hNV : N ≠ V := by have := HVM.out; have := HMN.out; omega
          have hSV : N + 1 + 1 ≠ V := by have := HVM.out; have := HMN.out; omega
          have hk8 : ¬ (8 + k = k) := by omega
          clear hst hx hy
          go_wp2
          go_roundw
          case rel => exact ⟨k + 1, by omega, by go_num, HST.out, (HSO.out.setCell k _).setCell (8 + k) _⟩
          case measure => simp [intOf]; omega
        · have hk8 : k = 8 := by omega
          subst hk8
          rw [vini_full h HL.out] at HV
          have x12 := u32s_at HV.out (i := 12) (by rw [vinit_len h HL.out 8 hk]; omega)
          have f12 := HV.out.free 12
          obtain ⟨X12, hX12⟩ : ∃ x, wat (vinit h 8) 12 = x := ⟨_, rfl⟩
          rw [hX12] at x12
          have x13 := u32s_at HV.out (i := 13) (by rw [vinit_len h HL.out 8 hk]; omega)
          have f13 := HV.out.free 13
          obtain ⟨X13, hX13⟩ : ∃ x, wat (vinit h 8) 13 = x := ⟨_, rfl⟩
          rw [hX13] at x13
          have x14 := u32s_at HV.out (i := 14) (by rw [vinit_len h HL.out 8 hk]; omega)
          have f14 := HV.out.free 14
          obtain ⟨X14, hX14⟩ : ∃ x, wat (vinit h 8) 14 = x := ⟨_, rfl⟩
          rw [hX14] at x14
          have HX12 := Lib.hid hX12
          have HX13 := Lib.hid hX13
          have HX14 := Lib.hid hX14
          clear hX12 hX13 hX14
          have n0 : (0 : Int) ≤ (n : Int) := by omega
          have n1 : (n : Int) ≤ 18446744073709551615 := by omega
          obtain ⟨Y12, hY12⟩ : ∃ x, X12 ^^^ loW n = x := ⟨_, rfl⟩
          obtain ⟨Y13, hY13⟩ : ∃ x, X13 ^^^ hiW n = x := ⟨_, rfl⟩
          obtain ⟨Y14, hY14⟩ : ∃ x, ~~~ X14 = x := ⟨_, rfl⟩
          have r12 := lo_xor X12 n
          rw [hY12] at r12
          have r13 := hi_xor X13 n hn
          rw [hY13] at r13
          have r14 := not_xor2 X14
          rw [hY14] at r14
          have SPEC : Hid (((((vinit h 8).set 12 Y12).set 13 Y13).set 14 Y14) = startL h n true) := by
            have := startL_true h n HL.out
            rw [HX12.out, HX13.out, HX14.out, hY12, hY13, hY14] at this
            exact this.symm
          clear hY12 hY13 hY14
          have B12 := HV.out.store 12 (.int .u32 (Y12.toNat : Int))
          have B13 := B12.store 13 (.int .u32 (Y13.toNat : Int))
          have S13 := (HSO.out.setCell 12 (.int .u32 (Y12.toNat : Int))).setCell 13 (.int .u32 (Y13.toNat : Int))
          have B13 := B13.store 14 (.int .u32 (Y14.toNat : Int))
          have S13 := S13.setCell 14 (.int .u32 (Y14.toNat : Int))
          obtain ⟨W6, hW6⟩ : ∃ x, x = ((wr.setCell ⟨V, 12, none⟩ (.int .u32 (Y12.toNat : Int))).setCell ⟨V, 13, none⟩ (.int .u32 (Y13.toNat : Int))).setCell ⟨V, 14, none⟩ (.int .u32 (Y14.toNat : Int)) := ⟨_, rfl⟩
          rw [← hW6] at B13 S13
          rw [u32s_set, u32s_set, u32s_set, SPEC.out] at B13
          have HW6 := Lib.hid hW6
          have HB6 := Lib.hid B13
          have HS6 := Lib.hid S13
          clear hW6 B12 B13 S13
          go_upto_region 17 with (fail)
          rw [← HW6.out]
          clear x12 x13 x14 f12 f13 f14 r12 r13 r14 HW6 HV HSO HX12 HX13 HX14
          have LV : Hid ((startL h n true).length = 16) := startL_len h n true HL.out
          obtain ⟨v00, hv00⟩ : ∃ x, startL h n true = x := ⟨_, rfl⟩
          have HV00 := Lib.hid hv00
          rw [hv00] at LV HB6
          clear hv00
          obtain ⟨B0, hB0⟩ : ∃ B0, W2.heap.size = B0 := ⟨_, rfl⟩
          have hB01 : V + 1 = B0 := by rw [← hB0, S2.out]
          have HB01 := Lib.hid hB01
          have SZ6 : Hid (W6.heap.size = B0) := by rw [← hB0]; exact HS6.out.size
          have M6 : Hid (Blk W6 M 71 (u32s (wordsL b))) := BM2.out.sole HS6.out (by have := HVM.out; omega)
          have hMV : Hid (M < B0 ∧ M ≠ V) := ⟨by have := HVM.out; omega, by have := HVM.out; omega⟩
          clear hB0 hB01
          go_wp2
          go_loopw [14] (fun i wr => ∃ r : Nat, r ≤ 10 ∧ i = .int .i64 r ∧ Blk wr V 71 (u32s (roundsL (wordsL b) v00 r)) ∧ SB V B0 W6 wr) (fun i _ => 10 - (intOf i).toNat)
          case atStart => exact ⟨0, by omega, rfl, HB6.out, SB.refl _ _ _⟩
          case round =>
            obtain ⟨r, hr10, rfl, hbv, hbe⟩ := hrel
            have HBV := Lib.hid hbv
            have HBE := Lib.hid hbe
            clear hbv hbe
            by_cases hr : r < 10
            · have r0 : (0 : Int) ≤ (r : Int) := by omega
              have r1 : (r : Int) < 10 := by omega
              have hBw : B0 ≤ wr.heap.size := by rw [← SZ6.out]; exact HBE.out.size
              have hVB : V < B0 := by have := HB01.out; omega
              go_wp2_with (go_at_call 46; refine (order46 r hr _).mono ?_; rintro e w7 ⟨rfl, hb7⟩; have HB7 := Lib.hid hb7; clear hb7)
              have HV7 : Hid (Blk w7 V 71 (u32s (roundsL (wordsL b) v00 r))) := HBV.out.below HB7.out (by omega)
              have HE7 : Hid (SB V B0 W6 w7) := HBE.out.below HB7.out hBw
              obtain ⟨vr, hvr⟩ : ∃ x, roundsL (wordsL b) v00 r = x := ⟨_, rfl⟩
              rw [hvr] at HV7
              have HVR := Lib.hid hvr
              have LVR : Hid (vr.length = 16) := by rw [← hvr, roundsL_len _ _ _ (by omega)]; exact LV.out
              clear hvr
              have os := ord_size r hr
              have OS := Lib.hid os
              have HR := Lib.hid hr
              clear os
              obtain ⟨so, hso⟩ : ∃ so, ordS r = so := ⟨_, rfl⟩
              have HSO := Lib.hid hso
              rw [hso] at OS ⊢
              clear hso
              go_loopw [16] (fun i wr => ∃ k : Nat, k ≤ 8 ∧ i = .int .i64 k ∧ Blk wr V 71 (u32s (stepsL (wordsL b) (perms.getD r []) vr k)) ∧ SB V B0 W6 wr) (fun i _ => 8 - (intOf i).toNat)
              case atStart => exact ⟨0, by omega, rfl, HV7.out, HE7.out⟩
              case round =>
                obtain ⟨k, hk, rfl, hbv, hbe⟩ := hrel
                have HBV2 := Lib.hid hbv
                have HBE2 := Lib.hid hbe
                clear hbv hbe
                by_cases hlt : k < 8
                · have k0 : (0 : Int) ≤ (k : Int) := by omega
                  have k1 : (k : Int) < 8 := by omega
                  have hBw2 : B0 ≤ wr.heap.size := by rw [← SZ6.out]; exact HBE2.out.size
                  have xa := fun w' => idx_str so (2 * k) (by rw [OS.out]; omega) w'
                  have xb := fun w' => idx_str so (2 * k + 1) (by rw [OS.out]; omega) w'
                  have oa := ord_byte r HR.out (2 * k) (by omega)
                  have ob := ord_byte r HR.out (2 * k + 1) (by omega)
                  rw [HSO.out] at oa ob
                  have lA := (permR_at r HR.out (2 * k) (by omega)).2
                  have lB := (permR_at r HR.out (2 * k + 1) (by omega)).2
                  rw [oa] at xa
                  rw [ob] at xb
                  have hstep := refstep (wordsL b) (perms.getD r []) (stepsL (wordsL b) (perms.getD r []) vr k) k hlt (by rw [stepsL_len]; exact LVR.out)
                  rw [← stepsL_succ] at hstep
                  obtain ⟨pA, hpA⟩ : ∃ x, (perms.getD r []).getD (2 * k) 0 = x := ⟨_, rfl⟩
                  obtain ⟨pB, hpB⟩ : ∃ x, (perms.getD r []).getD (2 * k + 1) 0 = x := ⟨_, rfl⟩
                  rw [hpA] at xa lA hstep
                  rw [hpB] at xb lB hstep
                  have e1 : ((2 * k : Nat) : Int) = 2 * (k : Int) := by omega
                  have e2 : ((2 * k + 1 : Nat) : Int) = 2 * (k : Int) + 1 := by omega
                  rw [e1] at xa
                  rw [e2] at xb
                  have i0 : (0 : Int) ≤ (pA : Int) := by omega
                  have i1 : (pA : Int) < 16 := by omega
                  have i2 : (0 : Int) ≤ (pB : Int) := by omega
                  have i3 : (pB : Int) < 16 := by omega
                  have m1 : IntKind.i64.wrap (2 * (k : Int)) = 2 * (k : Int) := IntWalk.i64_in _ (by omega)
                  have m2 : IntKind.i64.wrap (2 * (k : Int) + 1) = 2 * (k : Int) + 1 := IntWalk.i64_in _ (by omega)
                  have m3 : IntKind.u8.wrap (97 + (pA : Int) - 97) = (pA : Int) := by rw [IntKind.wrap_u8']; omega
                  have m4 : IntKind.u8.wrap (97 + (pB : Int) - 97) = (pB : Int) := by rw [IntKind.wrap_u8']; omega
                  have m5 : (97 : Int) + (pA : Int) - 97 = (pA : Int) := by omega
                  have m6 : (97 : Int) + (pB : Int) - 97 = (pB : Int) := by omega
                  have m7 : IntKind.u8.wrap (pA : Int) = (pA : Int) := by rw [IntKind.wrap_u8']; omega
                  have m8 : IntKind.u8.wrap (pB : Int) = (pB : Int) := by rw [IntKind.wrap_u8']; omega
                  have hMB : ∀ W, SB V B0 wr W → Blk W M 71 (u32s (wordsL b)) := fun W hW => (M6.out.sb HBE2.out hMV.out.1 hMV.out.2).sb hW hMV.out.1 hMV.out.2
                  have cAW : ∀ W, SB V B0 wr W → W.cell? ⟨M, pA, none⟩ = some (.int .u32 ((wat (wordsL b) pA).toNat : Int)) := fun W hW => u32s_at (hMB W hW) (by show pA < (wpart b 64).length; rw [wpart_len]; exact lA)
                  have cBW : ∀ W, SB V B0 wr W → W.cell? ⟨M, pB, none⟩ = some (.int .u32 ((wat (wordsL b) pB).toNat : Int)) := fun W hW => u32s_at (hMB W hW) (by show pB < (wpart b 64).length; rw [wpart_len]; exact lB)
                  obtain ⟨XA, hXA⟩ : ∃ x, wat (wordsL b) pA = x := ⟨_, rfl⟩
                  obtain ⟨XB, hXB⟩ : ∃ x, wat (wordsL b) pB = x := ⟨_, rfl⟩
                  rw [hXA] at cAW hstep
                  rw [hXB] at cBW hstep
                  obtain ⟨vk, hvk⟩ : ∃ x, stepsL (wordsL b) (perms.getD r []) vr k = x := ⟨_, rfl⟩
                  obtain ⟨vk1, hvk1⟩ : ∃ x, stepsL (wordsL b) (perms.getD r []) vr (k + 1) = x := ⟨_, rfl⟩
                  have LVK : Hid (vk.length = 16) := by rw [← hvk, stepsL_len]; exact LVR.out
                  have LVK1 : Hid (vk1.length = 16) := by rw [← hvk1, stepsL_len]; exact LVR.out
                  rw [hvk] at HBV2 hstep
                  rw [hvk1] at hstep
                  have HVK1 := Lib.hid hvk1
                  have HCA := Lib.hid cAW
                  have HCB := Lib.hid cBW
                  have HSTEP := Lib.hid hstep
                  have hbvd : ∀ W, Below wr.drew.heap.size wr.drew W → Blk W V 71 (u32s vk) := fun W hW => Blk.below (w := wr.drew) HBV2.out hW (lt_of_block HBV2.out)
                  have HBVD := Lib.hid hbvd
                  clear hvk hvk1 hXA hXB hpA hpB e1 e2 oa ob lA lB cAW cBW hMB hstep hbvd
                  go_wp2
                  have hS0 : SB V B0 wr wr.drew := (SB.refl _ _ _).drew
                  refine wpS_start (fun W => SB V B0 wr W) 20 (by kernel_rfl) rfl (fun RG HG => ?_)
                  refine wpS_take HG (i := 1) rfl (by decide +kernel) (by decide +kernel) (by decide +kernel) (fun _ _ _ h => h) (by rfl) hS0 (fun W hW => by rfl) ?_
                  go_simp
                  refine wpS_take HG (i := 3) rfl (by decide +kernel) (by decide +kernel) (by decide +kernel) (fun _ _ _ h => h) (by rfl) hS0 (fun W hW => by rfl) ?_
                  go_simp
                  refine wpS_take HG (i := 4) rfl (by decide +kernel) (by decide +kernel) (by decide +kernel) (fun _ _ _ h => h) (by rfl) hS0 (fun W hW => by rfl) ?_
                  go_simp
                  refine wpS_take HG (i := 5) (v := .int .i64 (2 * (k : Int))) rfl (by decide +kernel) (by decide +kernel) (by decide +kernel) (fun _ _ _ h => h) (by rfl) hS0 (fun W hW => by go_simp) ?_
                  go_simp
                  refine wpS_take HG (i := 6) (v := .int .u8 (97 + (pA : Int))) rfl (by decide +kernel) (by decide +kernel) (by decide +kernel) (fun _ _ _ h => h) (by rfl) hS0 (fun W hW => by go_simp) ?_
                  go_simp
                  refine wpS_take HG (i := 7) (v := .int .u8 (pA : Int)) rfl (by decide +kernel) (by decide +kernel) (by decide +kernel) (fun _ _ _ h => h) (by rfl) hS0 (fun W hW => by go_simp) ?_
                  go_simp
                  refine wpS_take HG (i := 8) (v := .pointer (some ⟨M, pA, none⟩)) rfl (by decide +kernel) (by decide +kernel) (by decide +kernel) (fun _ _ _ h => h) (by rfl) hS0 (fun W hW => by go_simp) ?_
                  go_simp
                  refine wpS_take HG (i := 9) (v := .int .u32 (XA.toNat : Int)) rfl (by decide +kernel) (by decide +kernel) (by decide +kernel) (fun _ _ _ h => h) (by rfl) hS0 (fun W hW => by have q := HCA.out W hW; go_simp) ?_
                  go_simp
                  refine wpS_take HG (i := 10) rfl (by decide +kernel) (by decide +kernel) (by decide +kernel) (fun _ _ _ h => h) (by rfl) hS0 (fun W hW => by rfl) ?_
                  go_simp
                  refine wpS_take HG (i := 11) rfl (by decide +kernel) (by decide +kernel) (by decide +kernel) (fun _ _ _ h => h) (by rfl) hS0 (fun W hW => by rfl) ?_
                  go_simp
                  refine wpS_take HG (i := 12) (v := .int .i64 (2 * (k : Int))) rfl (by decide +kernel) (by decide +kernel) (by decide +kernel) (fun _ _ _ h => h) (by rfl) hS0 (fun W hW => by go_simp) ?_
                  go_simp
                  refine wpS_take HG (i := 13) (v := .int .i64 (2 * (k : Int) + 1)) rfl (by decide +kernel) (by decide +kernel) (by decide +kernel) (fun _ _ _ h => h) (by rfl) hS0 (fun W hW => by go_simp) ?_
                  go_simp
                  refine wpS_take HG (i := 14) (v := .int .u8 (97 + (pB : Int))) rfl (by decide +kernel) (by decide +kernel) (by decide +kernel) (fun _ _ _ h => h) (by rfl) hS0 (fun W hW => by go_simp) ?_
                  go_simp
                  refine wpS_take HG (i := 15) (v := .int .u8 (pB : Int)) rfl (by decide +kernel) (by decide +kernel) (by decide +kernel) (fun _ _ _ h => h) (by rfl) hS0 (fun W hW => by go_simp) ?_
                  go_simp
                  refine wpS_take HG (i := 16) (v := .pointer (some ⟨M, pB, none⟩)) rfl (by decide +kernel) (by decide +kernel) (by decide +kernel) (fun _ _ _ h => h) (by rfl) hS0 (fun W hW => by go_simp) ?_
                  go_simp
                  refine wpS_take HG (i := 17) (v := .int .u32 (XB.toNat : Int)) rfl (by decide +kernel) (by decide +kernel) (by decide +kernel) (fun _ _ _ h => h) (by rfl) hS0 (fun W hW => by have q := HCB.out W hW; go_simp) ?_
                  go_simp
                  refine wpS_rc HG (i := 0) (k := 2) (v1 := .agg (u32s vk).toArray) rfl rfl (by decide +kernel) (by decide +kernel) (by decide +kernel) (by rfl) (by rfl) (by rfl) (fun _ => by rfl) hS0 (exec_ld2 71 (.tmp 12) rfl 16 60 ar71 sz71 V 71 (u32s vk) rfl (HBVD.out _ (Below.refl _ _)) (by rw [u32s_len]; exact LVK.out)) (by go_simp; exact ⟨rfl, rfl⟩) (by go_simp) (fun v W hW => exec_ld2 71 (.tmp 12) rfl 16 60 ar71 sz71 V 71 (u32s vk) rfl (HBVD.out _ hW) (by rw [u32s_len]; exact LVK.out)) (fun _ => by rfl) (by rfl) ?_
                  refine (places48 k hlt _).mono ?_; rintro e w8 ⟨rfl, hb8⟩; refine ⟨_, rfl, hb8, hS0.below hb8 (by exact hBw2), ?_⟩
                  have hS8 : SB V B0 wr w8 := hS0.below hb8 (by exact hBw2)
                  have HV8 : Hid (Blk w8 V 71 (u32s vk)) := HBVD.out _ hb8
                  have hB8 : B0 ≤ w8.heap.size := Nat.le_trans hBw2 hS8.size
                  clear hb8
                  go_simp
                  refine wpS_call HG (i := 18) rfl (by decide +kernel) (by rfl) (by go_simp; exact ⟨rfl, rfl⟩) ?_
                  refine (HSTEP.out _).mono ?_; rintro e w9 ⟨rfl, hb9⟩; refine ⟨_, rfl, hS8.below hb9 hB8, ?_⟩
                  have hS9 : SB V B0 wr w9 := hS8.below hb9 hB8
                  have HV9 : Hid (Blk w9 V 71 (u32s vk)) := HV8.out.below hb9 (lt_of_block HV8.out)
                  clear hb9
                  go_simp
                  refine wpS_one HG (i := 19) rfl (by decide +kernel) rfl ?_
                  intro K hK; refine st_row rfl 71 (.tmp 12) (.tmp 103) rfl 16 sz71 V 71 (u32s vk) (u32s vk1) rfl rfl HV9.out (by rw [u32s_len]; exact LVK1.out) (by rw [u32s_len]; exact LVK.out) (u32s_one _) ?_; intro w10 hg10 hs10; refine wpList_nil (hK _ _ (hS9.sole hs10) ?_); clear hK K
                  have HG10 := Lib.hid hg10
                  have HE10 : Hid (SB V B0 W6 w10) := HBE2.out.trans (hS9.sole hs10)
                  clear hg10 hs10 hS9 hS8 hS0
                  refine wpS_done HG (by decide +kernel) ?_
                  clear HG RG
                  go_wp2_with fail
                  go_roundw
                  case rel => exact ⟨k + 1, by omega, by go_num, by rw [HVK1.out]; exact HG10.out, HE10.out⟩
                  case measure => simp [intOf]; omega
                · have hk8 : k = 8 := by omega
                  subst hk8
                  have hfin : roundsL (wordsL b) v00 (r + 1) = stepsL (wordsL b) (perms.getD r []) vr 8 := by rw [roundsL_succ _ _ _ HR.out, HVR.out]; exact rfl
                  have HF := Lib.hid hfin
                  clear hfin
                  go_wp2_with fail
                  go_roundw
                  case rel =>
                    first | exact ⟨r + 1, HR.out, by go_num, by rw [HF.out]; exact HBV2.out, HBE2.out⟩ | ((repeat apply Exists.intro); exact ⟨⟨r + 1, HR.out, by go_num, by rw [HF.out]; exact HBV2.out, HBE2.out⟩, rfl⟩)
                  case measure => simp [intOf]; omega
            · have hr10' : r = 10 := by omega
              subst hr10'
              have hMN := HMN.out
              have hVM := HVM.out
              have hBB := HB01.out
              have hBN : Hid (Blk wr N 61 (u32s h)) := (BH2.out.sole HS6.out (by omega)).sb HBE.out (by omega) (by omega)
              have hBR : Hid (Blk wr (N + 1) 61 (u32s zero8)) := (BR2.out.sole HS6.out (by omega)).sb HBE.out (by omega) (by omega)
              have hBEL : Hid (Below N w wr) := HBE.out.to (HS6.out.below BEL2.out (by omega)) (by omega) (by omega)
              obtain ⟨v9, hv9⟩ : ∃ x, roundsL (wordsL b) v00 10 = x := ⟨_, rfl⟩
              have LV9 : Hid (v9.length = 16) := by rw [← hv9, roundsL_len _ _ _ (by omega)]; exact LV.out
              have HV9 := Lib.hid hv9
              rw [hv9] at HBV
              have hNV : N ≠ V := by omega
              clear hv9 hMN hVM hBB HBE HB6 M6 HS6 BH2 BR2 BEL2 BS2 BM2 BV2 S2
              obtain ⟨wo, hwo⟩ : ∃ x, wr = x := ⟨_, rfl⟩
              rw [hwo] at hBN hBR hBEL HBV
              go_upto_region 25 with (fail)
              clear hwo
              go_wp2
              go_loopw [17] (fun i wr => ∃ k : Nat, k ≤ 8 ∧ i = .int .i64 k ∧ Blk wr N 61 (u32s (hpart h v9 k)) ∧ Sole N wo wr) (fun i _ => 8 - (intOf i).toNat)
              case atStart => exact ⟨0, by omega, rfl, by rw [hpart_zero h v9 HL.out]; exact hBN.out, Sole.refl _ _⟩
              case round =>
                obtain ⟨k, hk, rfl, hh, hso⟩ := hrel
                have HH := Lib.hid hh
                have HSO := Lib.hid hso
                clear hh hso
                by_cases hlt : k < 8
                · have k0 : (0 : Int) ≤ (k : Int) := by omega
                  have k1 : (k : Int) < 8 := by omega
                  have k2 : (k : Int) < 16 := by omega
                  obtain ⟨k8, hk8⟩ : ∃ x, k + 8 = x := ⟨_, rfl⟩
                  have k3 : (0 : Int) ≤ (k8 : Int) := by omega
                  have k4 : (k8 : Int) < 16 := by omega
                  have e1 : IntKind.i64.wrap (8 + (k : Int)) = (k8 : Int) := by rw [IntWalk.i64_in _ (by omega)]; omega
                  have bv := HBV.out.sole HSO.out hNV.symm
                  have cA := u32s_at HH.out (i := k) (by rw [hpart_len]; omega)
                  rw [hpart_at h v9 k hlt] at cA
                  have fA := HH.out.free k
                  have cB := u32s_at bv (i := k) (by rw [LV9.out]; omega)
                  have cC := u32s_at bv (i := k8) (by rw [LV9.out]; omega)
                  obtain ⟨XA, hXA⟩ : ∃ x, wat h k = x := ⟨_, rfl⟩
                  obtain ⟨XB, hXB⟩ : ∃ x, wat v9 k = x := ⟨_, rfl⟩
                  obtain ⟨XC, hXC⟩ : ∃ x, wat v9 k8 = x := ⟨_, rfl⟩
                  rw [hXA] at cA
                  rw [hXB] at cB
                  rw [hXC] at cC
                  obtain ⟨Y1, hY1⟩ : ∃ x, XA ^^^ XB = x := ⟨_, rfl⟩
                  obtain ⟨Y2, hY2⟩ : ∃ x, Y1 ^^^ XC = x := ⟨_, rfl⟩
                  have r1 := bits_xor32 XA XB
                  rw [hY1] at r1
                  have r2 := bits_xor32 Y1 XC
                  rw [hY2] at r2
                  have hst := HH.out.store k (.int .u32 (Y2.toNat : Int))
                  have hsu := hpart_succ h v9 k hlt
                  rw [hk8, hXA, hXB, hXC, ← BitVec.xor_assoc, hY1, hY2] at hsu
                  rw [u32s_set, hsu] at hst
                  have HST := Lib.hid hst
                  clear hst hY1 hY2 hXA hXB hXC hk8 bv hsu
                  go_wp2
                  go_still_tail 14, (by kernel_rfl)
                  change wpList _ _ _ _ _ wr.drew
                  go_wp2_with fail
                  go_roundw
                  case rel =>
                    first | exact ⟨k + 1, by omega, by go_num, HST.out, (HSO.out.setCell k _).drew⟩ | ((repeat apply Exists.intro); exact ⟨⟨k + 1, by omega, by go_num, HST.out, (HSO.out.setCell k _).drew⟩, rfl⟩)
                  case measure => simp [intOf]; omega
                · have hk8 : k = 8 := by omega
                  subst hk8
                  have fh : hpart h v9 8 = blockL h b n true := by rw [← hpart_full, HV00.out, HV9.out]
                  rw [fh] at HH
                  have bl8 : (blockL h b n true).length = 8 := blockL_len _ _ _ _
                  have BL8 := Lib.hid bl8
                  clear fh bl8
                  have HR : Hid (Blk wr (N + 1) 61 (u32s zero8)) := hBR.out.sole HSO.out (by omega)
                  go_wp2_with (first | (refine ld_row rfl 61 (.tmp 4) rfl 8 60 ar61 sz61 N 61 (u32s (blockL h b n true)) rfl HH.out (by rw [u32s_len]; exact BL8.out) ?_) | (refine st_row rfl 61 (.tmp 8) (.tmp 122) rfl 8 sz61 (N + 1) 61 (u32s zero8) (u32s (blockL h b n true)) rfl rfl HR.out (by rw [u32s_len]; exact BL8.out) (by rfl) (u32s_one _) ?_; intro w9 hg9 hs9; have HG := Lib.hid hg9; have HS := Lib.hid hs9; clear hg9 hs9))
                  exact bodyPost_ret (v := .agg (u32s (blockL h b n true)).toArray) (results_cell_row Tryd.results38 _ _ (N + 1) 61 _ (0, 0) (.array 8 60) rfl HG.out ar61 rfl (by rw [sz61]; simp [u32s_len, BL8.out])) rfl ⟨rfl, by rw [HN.out]; exact HS.out.below (HSO.out.below hBEL.out (Nat.le_refl _)) (by omega)⟩

set_option maxHeartbeats 8000000 in
set_option maxRecDepth 100000 in
theorem rblock_false (h : List W32) (A : Option Addr) (cap : Nat) (b : List UInt8) (n : Nat) (w : World) (hl : h.length = 8) (bl : b.length = 64) (hn : n < 18446744073709551616) (hby : Byt w A b) :
    Calls Tryd.prog 38 #[.agg (u32s h).toArray, .slice A 64 cap, .int .u64 (n : Int), .bool false] w fun e w' => e = .returned (.agg (u32s (blockL h b n false)).toArray) ∧ Below w.heap.size w w' := by
  obtain ⟨bb, bo, rfl, hcell0⟩ := hby 0 (by omega)
  clear hcell0
  obtain ⟨N, hN⟩ : ∃ N, w.heap.size = N := ⟨_, rfl⟩
  have HL := Lib.hid hl
  have BL := Lib.hid bl
  have HBY := Lib.hid hby
  obtain ⟨W0, hW0⟩ : ∃ x, x = ((w.alloc (Obj.cells (u32s h).toArray 61)).alloc (Obj.cells #[Value.int .u32 0, Value.int .u32 0, Value.int .u32 0, Value.int .u32 0, Value.int .u32 0, Value.int .u32 0, Value.int .u32 0, Value.int .u32 0] 61)) := ⟨_, rfl⟩
  have bh : Blk W0 N 61 (u32s h) := by rw [hW0, ← hN]; exact (Blk.born w 61 (u32s h)).later _
  have br : Blk W0 (N + 1) 61 (u32s zero8) := by
    have := born861 (w.alloc (Obj.cells (u32s h).toArray 61))
    rw [hW0]; simpa [hN] using this
  have bel0 : Below N w W0 := by rw [hW0, ← hN]; exact ((Below.refl _ _).alloc (Nat.le_refl _) _).alloc (by simp) _
  have s0 : W0.heap.size = N + 1 + 1 := by rw [hW0]; simp [hN]
  have HW0 := Lib.hid hW0
  have BH0 := Lib.hid bh
  have BR0 := Lib.hid br
  have BEL0 := Lib.hid bel0
  have S0 := Lib.hid s0
  have HN := Lib.hid hN
  clear hl bl hby hW0 bh br bel0 s0
  go_enter Tryd.func38, Tryd.ntmps38
  go_upto_region 1 with (fail)
  rw [← HW0.out]
  go_wp2_with (go_at_call 37; refine (words37 _).mono ?_; rintro e w2 ⟨rfl, hb2, hl2⟩; have HS2 := Lib.hid hb2; have HL2 := Lib.hid hl2; clear hb2 hl2)
  obtain ⟨M, hM⟩ : ∃ M, w2.heap.size = M := ⟨_, rfl⟩
  have hMN : N + 3 ≤ M := by
    have h1 := lt_of_block HS2.out
    have h2 := S0.out
    omega
  obtain ⟨W1, hW1⟩ : ∃ x, x = w2.alloc (Obj.cells #[Value.int .u32 0, Value.int .u32 0, Value.int .u32 0, Value.int .u32 0, Value.int .u32 0, Value.int .u32 0, Value.int .u32 0, Value.int .u32 0, Value.int .u32 0, Value.int .u32 0, Value.int .u32 0, Value.int .u32 0, Value.int .u32 0, Value.int .u32 0, Value.int .u32 0, Value.int .u32 0] 71) := ⟨_, rfl⟩
  have bm : Blk W1 M 71 (u32s zero16) := by rw [hW1, ← hM]; exact born71 w2
  have bs : Blk W1 (N + 1 + 1) 60 (u32s ivs) := by rw [hW1]; have := HS2.out; rw [S0.out] at this; exact this.later _
  have bh : Blk W1 N 61 (u32s h) := by rw [hW1]; exact (BH0.out.below HL2.out (by rw [S0.out]; omega)).later _
  have br : Blk W1 (N + 1) 61 (u32s zero8) := by rw [hW1]; exact (BR0.out.below HL2.out (by rw [S0.out]; omega)).later _
  have bel : Below N w W1 := by rw [hW1]; exact (BEL0.out.trans (HL2.out.mono (by rw [S0.out]; omega))).alloc (by omega) _
  have s1 : W1.heap.size = M + 1 := by rw [hW1]; simp [hM]
  rw [← hW1]
  have hS0' := S0.out
  rw [hS0']
  have BM1 := Lib.hid bm
  have BS1 := Lib.hid bs
  have BH1 := Lib.hid bh
  have BR1 := Lib.hid br
  have BEL1 := Lib.hid bel
  have S1 := Lib.hid s1
  have HMN := Lib.hid hMN
  rw [hM]
  try rw [hN]
  clear hW1 bm bs bh br bel s1 hMN HW0 BH0 BR0 BEL0 S0 hS0' HS2 HL2 hM
  go_loopw [11] (fun i wr => ∃ k : Nat, k ≤ 64 ∧ i = .int .i64 k ∧ Blk wr M 71 (u32s (wpart b k)) ∧ Sole M W1 wr) (fun i _ => 64 - (intOf i).toNat)
  case atStart => exact ⟨0, by omega, rfl, by rw [wpart_zero]; exact BM1.out, Sole.refl _ _⟩
  case round =>
    obtain ⟨k, hk, rfl, hm, hso⟩ := hrel
    have HM := Lib.hid hm
    have HSO := Lib.hid hso
    clear hm hso
    by_cases hlt : k < 64
    · obtain ⟨q, hq⟩ : ∃ q, k / 4 = q := ⟨_, rfl⟩
      obtain ⟨r, hr⟩ : ∃ r, k % 4 = r := ⟨_, rfl⟩
      obtain ⟨s, hs⟩ : ∃ s, 8 * r = s := ⟨_, rfl⟩
      have k0 : (0 : Int) ≤ (k : Int) := by omega
      have k1 : (k : Int) < 64 := by omega
      have q0 : (0 : Int) ≤ (q : Int) := by omega
      have q1 : (q : Int) < 16 := by omega
      have r0 : (0 : Int) ≤ (r : Int) := by omega
      have r1 : (r : Int) < 4 := by omega
      have s0 : (0 : Int) ≤ (s : Int) := by omega
      have s1 : (s : Int) < 32 := by omega
      have hbyr : Byt wr (some ⟨bb, bo, none⟩) b := HBY.out.keep (by rw [HN.out]; exact HSO.out.below BEL1.out (by have := HMN.out; omega))
      obtain ⟨bb', bo', eb, cb⟩ := hbyr k (by rw [BL.out]; exact hlt)
      obtain ⟨rfl, rfl⟩ : bb = bb' ∧ bo = bo' := by simpa using eb
      have hgd : b.getD k 0 = b[k]'(by rw [BL.out]; exact hlt) := by simp [List.getD, List.getElem?_eq_getElem (show k < b.length by rw [BL.out]; exact hlt)]
      rw [← hgd] at cb
      obtain ⟨c, hcc⟩ : ∃ c, b.getD k 0 = c := ⟨_, rfl⟩
      rw [hcc] at cb
      have hcl := c.toNat_lt
      have HC := Lib.hid hcc
      have cm := u32s_at HM.out (i := q) (by rw [wpart_len]; omega)
      have cf := HM.out.free q
      obtain ⟨m, hmm⟩ : ∃ m, wat (wpart b k) q = m := ⟨_, rfl⟩
      rw [hmm] at cm
      have HMM := Lib.hid hmm
      have e1 : IntKind.i64.wrap ((k : Int) / 4) = (q : Int) := by rw [IntWalk.i64_in _ (by omega)]; omega
      have e2 : (k : Int).tmod 4 = (r : Int) := by rw [Int.tmod_eq_emod_of_nonneg (by omega)]; omega
      have e3 : IntKind.i64.wrap (8 * (r : Int)) = (s : Int) := by rw [IntWalk.i64_in _ (by omega)]; omega
      obtain ⟨cw, hcw⟩ : ∃ cw : W32, BitVec.ofNat 32 c.toNat = cw := ⟨_, rfl⟩
      have e4 : IntKind.u32.wrap (c.toNat : Int) = (cw.toNat : Int) := by rw [IntKind.wrap_u32', ← hcw, BitVec.toNat_ofNat]; omega
      obtain ⟨sw, hsw⟩ : ∃ sw : W32, cw <<< s = sw := ⟨_, rfl⟩
      have e5 : IntKind.u32.wrap ((cw.toNat : Int) * 2 ^ s) = (sw.toNat : Int) := by rw [IntKind.wrap_u32', ← hsw]; exact shl_bv cw s _ (by simp)
      obtain ⟨nw, hnw⟩ : ∃ nw : W32, m + sw = nw := ⟨_, rfl⟩
      have e6 := addw m sw
      rw [hnw] at e6
      obtain ⟨e6, e7⟩ := e6
      have hst := HM.out.store q (.int .u32 (nw.toNat : Int))
      have ee : wpart b (k + 1) = (wpart b k).set q nw := by
        rw [wpart_succ b k hlt, hq, hr]
        congr 1
        have := word_add b k hlt c HC.out
        rw [hq, hr, hs, hcw, hsw] at this
        rw [← this, ← hnw, ← HMM.out]
        have h2 := wpart_at b k hlt
        rw [hq, hr] at h2
        rw [h2]
      rw [u32s_set, ← ee] at hst
      have HST := Lib.hid hst
      clear hq hr hs hcw hsw hnw hst ee hcc hmm hgd eb hbyr
      go_wp2
      go_still_tail 17, (by kernel_rfl)
      change wpList _ _ _ _ _ wr.drew
      go_wp2
      go_roundw
      case rel => exact ⟨k + 1, by omega, by go_num, HST.out, (HSO.out.setCell q _).drew⟩
      case measure => simp [intOf]; omega
    · have hk64 : k = 64 := by omega
      subst hk64
      go_upto_region 7 with (fail)
      obtain ⟨V, hV⟩ : ∃ V, wr.heap.size = V := ⟨_, rfl⟩
      have hVM : V = M + 1 := by rw [← hV, HSO.out.size, S1.out]
      obtain ⟨W2, hW2⟩ : ∃ x, x = wr.alloc (Obj.cells #[Value.int .u32 0, Value.int .u32 0, Value.int .u32 0, Value.int .u32 0, Value.int .u32 0, Value.int .u32 0, Value.int .u32 0, Value.int .u32 0, Value.int .u32 0, Value.int .u32 0, Value.int .u32 0, Value.int .u32 0, Value.int .u32 0, Value.int .u32 0, Value.int .u32 0, Value.int .u32 0] 71) := ⟨_, rfl⟩
      have bv : Blk W2 V 71 (u32s zero16) := by rw [hW2, ← hV]; exact born71 wr
      have hMN := HMN.out
      have bm : Blk W2 M 71 (u32s (wordsL b)) := by rw [hW2]; exact HM.out.later _
      have bs : Blk W2 (N + 1 + 1) 60 (u32s ivs) := by rw [hW2]; exact (BS1.out.sole HSO.out (by omega)).later _
      have bh : Blk W2 N 61 (u32s h) := by rw [hW2]; exact (BH1.out.sole HSO.out (by omega)).later _
      have br : Blk W2 (N + 1) 61 (u32s zero8) := by rw [hW2]; exact (BR1.out.sole HSO.out (by omega)).later _
      have bel : Below N w W2 := by rw [hW2]; exact (HSO.out.below BEL1.out (by omega)).alloc (by omega) _
      have s2 : W2.heap.size = V + 1 := by rw [hW2]; simp [hV]
      have BV2 := Lib.hid bv
      have BM2 := Lib.hid bm
      have BS2 := Lib.hid bs
      have BH2 := Lib.hid bh
      have BR2 := Lib.hid br
      have BEL2 := Lib.hid bel
      have S2 := Lib.hid s2
      have HW2 := Lib.hid hW2
      have HVM := Lib.hid hVM
      clear bv bm bs bh br bel s2 hW2 hVM hMN
      go_upto_region 8 with (fail)
      rw [← HW2.out]
      try rw [hV]
      clear hV HW2 HM HSO BM1 BS1 BH1 BR1 BEL1 S1
      go_wp2
      go_loopw [13] (fun i wr => ∃ k : Nat, k ≤ 8 ∧ i = .int .i64 k ∧ Blk wr V 71 (u32s (vini h k)) ∧ Sole V W2 wr) (fun i _ => 8 - (intOf i).toNat)
      case atStart => exact ⟨0, by omega, rfl, BV2.out, Sole.refl _ _⟩
      case round =>
        obtain ⟨k, hk, rfl, hv, hso⟩ := hrel
        have HV := Lib.hid hv
        have HSO := Lib.hid hso
        clear hv hso
        by_cases hlt : k < 8
        · have k0 : (0 : Int) ≤ (k : Int) := by omega
          have k1 : (k : Int) < 8 := by omega
          have k2 : (k : Int) < 16 := by omega
          have ch := u32s_at (BH2.out.sole HSO.out (by have := HVM.out; have := HMN.out; omega)) (i := k) (by rw [HL.out]; exact hlt)
          have cs := u32s_at (BS2.out.sole HSO.out (by have := HVM.out; have := HMN.out; omega)) (i := k) (by exact hlt)
          have f1 := HV.out.free k
          have f2 := HV.out.free (8 + k)
          have c1 := u32s_at HV.out (i := k) (by rw [vini_len h HL.out k hk]; omega)
          have c2 := u32s_at HV.out (i := 8 + k) (by rw [vini_len h HL.out k hk]; omega)
          obtain ⟨x, hx⟩ : ∃ x, wat h k = x := ⟨_, rfl⟩
          obtain ⟨y, hy⟩ : ∃ y, wat ivs k = y := ⟨_, rfl⟩
          rw [hx] at ch
          rw [hy] at cs
          have hst := (HV.out.store k (.int .u32 (x.toNat : Int))).store (8 + k) (.int .u32 (y.toNat : Int))
          rw [u32s_set, u32s_set, ← hx, ← hy, vini_succ h HL.out k hlt, hx, hy] at hst
          have HST := Lib.hid hst
          have hNV : N ≠ V := by have := HVM.out; have := HMN.out; omega
          have hSV : N + 1 + 1 ≠ V := by have := HVM.out; have := HMN.out; omega
          have hk8 : ¬ (8 + k = k) := by omega
          clear hst hx hy
          go_wp2
          go_roundw
          case rel => exact ⟨k + 1, by omega, by go_num, HST.out, (HSO.out.setCell k _).setCell (8 + k) _⟩
          case measure => simp [intOf]; omega
        · have hk8 : k = 8 := by omega
          subst hk8
          rw [vini_full h HL.out] at HV
          have x12 := u32s_at HV.out (i := 12) (by rw [vinit_len h HL.out 8 hk]; omega)
          have f12 := HV.out.free 12
          obtain ⟨X12, hX12⟩ : ∃ x, wat (vinit h 8) 12 = x := ⟨_, rfl⟩
          rw [hX12] at x12
          have x13 := u32s_at HV.out (i := 13) (by rw [vinit_len h HL.out 8 hk]; omega)
          have f13 := HV.out.free 13
          obtain ⟨X13, hX13⟩ : ∃ x, wat (vinit h 8) 13 = x := ⟨_, rfl⟩
          rw [hX13] at x13
          have x14 := u32s_at HV.out (i := 14) (by rw [vinit_len h HL.out 8 hk]; omega)
          have f14 := HV.out.free 14
          obtain ⟨X14, hX14⟩ : ∃ x, wat (vinit h 8) 14 = x := ⟨_, rfl⟩
          rw [hX14] at x14
          have HX12 := Lib.hid hX12
          have HX13 := Lib.hid hX13
          have HX14 := Lib.hid hX14
          clear hX12 hX13 hX14
          have n0 : (0 : Int) ≤ (n : Int) := by omega
          have n1 : (n : Int) ≤ 18446744073709551615 := by omega
          obtain ⟨Y12, hY12⟩ : ∃ x, X12 ^^^ loW n = x := ⟨_, rfl⟩
          obtain ⟨Y13, hY13⟩ : ∃ x, X13 ^^^ hiW n = x := ⟨_, rfl⟩
          obtain ⟨Y14, hY14⟩ : ∃ x, ~~~ X14 = x := ⟨_, rfl⟩
          have r12 := lo_xor X12 n
          rw [hY12] at r12
          have r13 := hi_xor X13 n hn
          rw [hY13] at r13
          have r14 := not_xor2 X14
          rw [hY14] at r14
          have SPEC : Hid ((((vinit h 8).set 12 Y12).set 13 Y13) = startL h n false) := by
            have := startL_false h n HL.out
            rw [HX12.out, HX13.out,  hY12, hY13] at this
            exact this.symm
          clear hY12 hY13 hY14
          have B12 := HV.out.store 12 (.int .u32 (Y12.toNat : Int))
          have B13 := B12.store 13 (.int .u32 (Y13.toNat : Int))
          have S13 := (HSO.out.setCell 12 (.int .u32 (Y12.toNat : Int))).setCell 13 (.int .u32 (Y13.toNat : Int))
          obtain ⟨W6, hW6⟩ : ∃ x, x = (wr.setCell ⟨V, 12, none⟩ (.int .u32 (Y12.toNat : Int))).setCell ⟨V, 13, none⟩ (.int .u32 (Y13.toNat : Int)) := ⟨_, rfl⟩
          rw [← hW6] at B13 S13
          rw [u32s_set, u32s_set, SPEC.out] at B13
          have HW6 := Lib.hid hW6
          have HB6 := Lib.hid B13
          have HS6 := Lib.hid S13
          clear hW6 B12 B13 S13
          go_upto_region 17 with (fail)
          rw [← HW6.out]
          clear x12 x13 x14 f12 f13 f14 r12 r13 r14 HW6 HV HSO HX12 HX13 HX14
          have LV : Hid ((startL h n false).length = 16) := startL_len h n false HL.out
          obtain ⟨v00, hv00⟩ : ∃ x, startL h n false = x := ⟨_, rfl⟩
          have HV00 := Lib.hid hv00
          rw [hv00] at LV HB6
          clear hv00
          obtain ⟨B0, hB0⟩ : ∃ B0, W2.heap.size = B0 := ⟨_, rfl⟩
          have hB01 : V + 1 = B0 := by rw [← hB0, S2.out]
          have HB01 := Lib.hid hB01
          have SZ6 : Hid (W6.heap.size = B0) := by rw [← hB0]; exact HS6.out.size
          have M6 : Hid (Blk W6 M 71 (u32s (wordsL b))) := BM2.out.sole HS6.out (by have := HVM.out; omega)
          have hMV : Hid (M < B0 ∧ M ≠ V) := ⟨by have := HVM.out; omega, by have := HVM.out; omega⟩
          clear hB0 hB01
          go_wp2
          go_loopw [14] (fun i wr => ∃ r : Nat, r ≤ 10 ∧ i = .int .i64 r ∧ Blk wr V 71 (u32s (roundsL (wordsL b) v00 r)) ∧ SB V B0 W6 wr) (fun i _ => 10 - (intOf i).toNat)
          case atStart => exact ⟨0, by omega, rfl, HB6.out, SB.refl _ _ _⟩
          case round =>
            obtain ⟨r, hr10, rfl, hbv, hbe⟩ := hrel
            have HBV := Lib.hid hbv
            have HBE := Lib.hid hbe
            clear hbv hbe
            by_cases hr : r < 10
            · have r0 : (0 : Int) ≤ (r : Int) := by omega
              have r1 : (r : Int) < 10 := by omega
              have hBw : B0 ≤ wr.heap.size := by rw [← SZ6.out]; exact HBE.out.size
              have hVB : V < B0 := by have := HB01.out; omega
              go_wp2_with (go_at_call 46; refine (order46 r hr _).mono ?_; rintro e w7 ⟨rfl, hb7⟩; have HB7 := Lib.hid hb7; clear hb7)
              have HV7 : Hid (Blk w7 V 71 (u32s (roundsL (wordsL b) v00 r))) := HBV.out.below HB7.out (by omega)
              have HE7 : Hid (SB V B0 W6 w7) := HBE.out.below HB7.out hBw
              obtain ⟨vr, hvr⟩ : ∃ x, roundsL (wordsL b) v00 r = x := ⟨_, rfl⟩
              rw [hvr] at HV7
              have HVR := Lib.hid hvr
              have LVR : Hid (vr.length = 16) := by rw [← hvr, roundsL_len _ _ _ (by omega)]; exact LV.out
              clear hvr
              have os := ord_size r hr
              have OS := Lib.hid os
              have HR := Lib.hid hr
              clear os
              obtain ⟨so, hso⟩ : ∃ so, ordS r = so := ⟨_, rfl⟩
              have HSO := Lib.hid hso
              rw [hso] at OS ⊢
              clear hso
              go_loopw [16] (fun i wr => ∃ k : Nat, k ≤ 8 ∧ i = .int .i64 k ∧ Blk wr V 71 (u32s (stepsL (wordsL b) (perms.getD r []) vr k)) ∧ SB V B0 W6 wr) (fun i _ => 8 - (intOf i).toNat)
              case atStart => exact ⟨0, by omega, rfl, HV7.out, HE7.out⟩
              case round =>
                obtain ⟨k, hk, rfl, hbv, hbe⟩ := hrel
                have HBV2 := Lib.hid hbv
                have HBE2 := Lib.hid hbe
                clear hbv hbe
                by_cases hlt : k < 8
                · have k0 : (0 : Int) ≤ (k : Int) := by omega
                  have k1 : (k : Int) < 8 := by omega
                  have hBw2 : B0 ≤ wr.heap.size := by rw [← SZ6.out]; exact HBE2.out.size
                  have xa := fun w' => idx_str so (2 * k) (by rw [OS.out]; omega) w'
                  have xb := fun w' => idx_str so (2 * k + 1) (by rw [OS.out]; omega) w'
                  have oa := ord_byte r HR.out (2 * k) (by omega)
                  have ob := ord_byte r HR.out (2 * k + 1) (by omega)
                  rw [HSO.out] at oa ob
                  have lA := (permR_at r HR.out (2 * k) (by omega)).2
                  have lB := (permR_at r HR.out (2 * k + 1) (by omega)).2
                  rw [oa] at xa
                  rw [ob] at xb
                  have hstep := refstep (wordsL b) (perms.getD r []) (stepsL (wordsL b) (perms.getD r []) vr k) k hlt (by rw [stepsL_len]; exact LVR.out)
                  rw [← stepsL_succ] at hstep
                  obtain ⟨pA, hpA⟩ : ∃ x, (perms.getD r []).getD (2 * k) 0 = x := ⟨_, rfl⟩
                  obtain ⟨pB, hpB⟩ : ∃ x, (perms.getD r []).getD (2 * k + 1) 0 = x := ⟨_, rfl⟩
                  rw [hpA] at xa lA hstep
                  rw [hpB] at xb lB hstep
                  have e1 : ((2 * k : Nat) : Int) = 2 * (k : Int) := by omega
                  have e2 : ((2 * k + 1 : Nat) : Int) = 2 * (k : Int) + 1 := by omega
                  rw [e1] at xa
                  rw [e2] at xb
                  have i0 : (0 : Int) ≤ (pA : Int) := by omega
                  have i1 : (pA : Int) < 16 := by omega
                  have i2 : (0 : Int) ≤ (pB : Int) := by omega
                  have i3 : (pB : Int) < 16 := by omega
                  have m1 : IntKind.i64.wrap (2 * (k : Int)) = 2 * (k : Int) := IntWalk.i64_in _ (by omega)
                  have m2 : IntKind.i64.wrap (2 * (k : Int) + 1) = 2 * (k : Int) + 1 := IntWalk.i64_in _ (by omega)
                  have m3 : IntKind.u8.wrap (97 + (pA : Int) - 97) = (pA : Int) := by rw [IntKind.wrap_u8']; omega
                  have m4 : IntKind.u8.wrap (97 + (pB : Int) - 97) = (pB : Int) := by rw [IntKind.wrap_u8']; omega
                  have m5 : (97 : Int) + (pA : Int) - 97 = (pA : Int) := by omega
                  have m6 : (97 : Int) + (pB : Int) - 97 = (pB : Int) := by omega
                  have m7 : IntKind.u8.wrap (pA : Int) = (pA : Int) := by rw [IntKind.wrap_u8']; omega
                  have m8 : IntKind.u8.wrap (pB : Int) = (pB : Int) := by rw [IntKind.wrap_u8']; omega
                  have hMB : ∀ W, SB V B0 wr W → Blk W M 71 (u32s (wordsL b)) := fun W hW => (M6.out.sb HBE2.out hMV.out.1 hMV.out.2).sb hW hMV.out.1 hMV.out.2
                  have cAW : ∀ W, SB V B0 wr W → W.cell? ⟨M, pA, none⟩ = some (.int .u32 ((wat (wordsL b) pA).toNat : Int)) := fun W hW => u32s_at (hMB W hW) (by show pA < (wpart b 64).length; rw [wpart_len]; exact lA)
                  have cBW : ∀ W, SB V B0 wr W → W.cell? ⟨M, pB, none⟩ = some (.int .u32 ((wat (wordsL b) pB).toNat : Int)) := fun W hW => u32s_at (hMB W hW) (by show pB < (wpart b 64).length; rw [wpart_len]; exact lB)
                  obtain ⟨XA, hXA⟩ : ∃ x, wat (wordsL b) pA = x := ⟨_, rfl⟩
                  obtain ⟨XB, hXB⟩ : ∃ x, wat (wordsL b) pB = x := ⟨_, rfl⟩
                  rw [hXA] at cAW hstep
                  rw [hXB] at cBW hstep
                  obtain ⟨vk, hvk⟩ : ∃ x, stepsL (wordsL b) (perms.getD r []) vr k = x := ⟨_, rfl⟩
                  obtain ⟨vk1, hvk1⟩ : ∃ x, stepsL (wordsL b) (perms.getD r []) vr (k + 1) = x := ⟨_, rfl⟩
                  have LVK : Hid (vk.length = 16) := by rw [← hvk, stepsL_len]; exact LVR.out
                  have LVK1 : Hid (vk1.length = 16) := by rw [← hvk1, stepsL_len]; exact LVR.out
                  rw [hvk] at HBV2 hstep
                  rw [hvk1] at hstep
                  have HVK1 := Lib.hid hvk1
                  have HCA := Lib.hid cAW
                  have HCB := Lib.hid cBW
                  have HSTEP := Lib.hid hstep
                  have hbvd : ∀ W, Below wr.drew.heap.size wr.drew W → Blk W V 71 (u32s vk) := fun W hW => Blk.below (w := wr.drew) HBV2.out hW (lt_of_block HBV2.out)
                  have HBVD := Lib.hid hbvd
                  clear hvk hvk1 hXA hXB hpA hpB e1 e2 oa ob lA lB cAW cBW hMB hstep hbvd
                  go_wp2
                  have hS0 : SB V B0 wr wr.drew := (SB.refl _ _ _).drew
                  refine wpS_start (fun W => SB V B0 wr W) 20 (by kernel_rfl) rfl (fun RG HG => ?_)
                  refine wpS_take HG (i := 1) rfl (by decide +kernel) (by decide +kernel) (by decide +kernel) (fun _ _ _ h => h) (by rfl) hS0 (fun W hW => by rfl) ?_
                  go_simp
                  refine wpS_take HG (i := 3) rfl (by decide +kernel) (by decide +kernel) (by decide +kernel) (fun _ _ _ h => h) (by rfl) hS0 (fun W hW => by rfl) ?_
                  go_simp
                  refine wpS_take HG (i := 4) rfl (by decide +kernel) (by decide +kernel) (by decide +kernel) (fun _ _ _ h => h) (by rfl) hS0 (fun W hW => by rfl) ?_
                  go_simp
                  refine wpS_take HG (i := 5) (v := .int .i64 (2 * (k : Int))) rfl (by decide +kernel) (by decide +kernel) (by decide +kernel) (fun _ _ _ h => h) (by rfl) hS0 (fun W hW => by go_simp) ?_
                  go_simp
                  refine wpS_take HG (i := 6) (v := .int .u8 (97 + (pA : Int))) rfl (by decide +kernel) (by decide +kernel) (by decide +kernel) (fun _ _ _ h => h) (by rfl) hS0 (fun W hW => by go_simp) ?_
                  go_simp
                  refine wpS_take HG (i := 7) (v := .int .u8 (pA : Int)) rfl (by decide +kernel) (by decide +kernel) (by decide +kernel) (fun _ _ _ h => h) (by rfl) hS0 (fun W hW => by go_simp) ?_
                  go_simp
                  refine wpS_take HG (i := 8) (v := .pointer (some ⟨M, pA, none⟩)) rfl (by decide +kernel) (by decide +kernel) (by decide +kernel) (fun _ _ _ h => h) (by rfl) hS0 (fun W hW => by go_simp) ?_
                  go_simp
                  refine wpS_take HG (i := 9) (v := .int .u32 (XA.toNat : Int)) rfl (by decide +kernel) (by decide +kernel) (by decide +kernel) (fun _ _ _ h => h) (by rfl) hS0 (fun W hW => by have q := HCA.out W hW; go_simp) ?_
                  go_simp
                  refine wpS_take HG (i := 10) rfl (by decide +kernel) (by decide +kernel) (by decide +kernel) (fun _ _ _ h => h) (by rfl) hS0 (fun W hW => by rfl) ?_
                  go_simp
                  refine wpS_take HG (i := 11) rfl (by decide +kernel) (by decide +kernel) (by decide +kernel) (fun _ _ _ h => h) (by rfl) hS0 (fun W hW => by rfl) ?_
                  go_simp
                  refine wpS_take HG (i := 12) (v := .int .i64 (2 * (k : Int))) rfl (by decide +kernel) (by decide +kernel) (by decide +kernel) (fun _ _ _ h => h) (by rfl) hS0 (fun W hW => by go_simp) ?_
                  go_simp
                  refine wpS_take HG (i := 13) (v := .int .i64 (2 * (k : Int) + 1)) rfl (by decide +kernel) (by decide +kernel) (by decide +kernel) (fun _ _ _ h => h) (by rfl) hS0 (fun W hW => by go_simp) ?_
                  go_simp
                  refine wpS_take HG (i := 14) (v := .int .u8 (97 + (pB : Int))) rfl (by decide +kernel) (by decide +kernel) (by decide +kernel) (fun _ _ _ h => h) (by rfl) hS0 (fun W hW => by go_simp) ?_
                  go_simp
                  refine wpS_take HG (i := 15) (v := .int .u8 (pB : Int)) rfl (by decide +kernel) (by decide +kernel) (by decide +kernel) (fun _ _ _ h => h) (by rfl) hS0 (fun W hW => by go_simp) ?_
                  go_simp
                  refine wpS_take HG (i := 16) (v := .pointer (some ⟨M, pB, none⟩)) rfl (by decide +kernel) (by decide +kernel) (by decide +kernel) (fun _ _ _ h => h) (by rfl) hS0 (fun W hW => by go_simp) ?_
                  go_simp
                  refine wpS_take HG (i := 17) (v := .int .u32 (XB.toNat : Int)) rfl (by decide +kernel) (by decide +kernel) (by decide +kernel) (fun _ _ _ h => h) (by rfl) hS0 (fun W hW => by have q := HCB.out W hW; go_simp) ?_
                  go_simp
                  refine wpS_rc HG (i := 0) (k := 2) (v1 := .agg (u32s vk).toArray) rfl rfl (by decide +kernel) (by decide +kernel) (by decide +kernel) (by rfl) (by rfl) (by rfl) (fun _ => by rfl) hS0 (exec_ld2 71 (.tmp 12) rfl 16 60 ar71 sz71 V 71 (u32s vk) rfl (HBVD.out _ (Below.refl _ _)) (by rw [u32s_len]; exact LVK.out)) (by go_simp; exact ⟨rfl, rfl⟩) (by go_simp) (fun v W hW => exec_ld2 71 (.tmp 12) rfl 16 60 ar71 sz71 V 71 (u32s vk) rfl (HBVD.out _ hW) (by rw [u32s_len]; exact LVK.out)) (fun _ => by rfl) (by rfl) ?_
                  refine (places48 k hlt _).mono ?_; rintro e w8 ⟨rfl, hb8⟩; refine ⟨_, rfl, hb8, hS0.below hb8 (by exact hBw2), ?_⟩
                  have hS8 : SB V B0 wr w8 := hS0.below hb8 (by exact hBw2)
                  have HV8 : Hid (Blk w8 V 71 (u32s vk)) := HBVD.out _ hb8
                  have hB8 : B0 ≤ w8.heap.size := Nat.le_trans hBw2 hS8.size
                  clear hb8
                  go_simp
                  refine wpS_call HG (i := 18) rfl (by decide +kernel) (by rfl) (by go_simp; exact ⟨rfl, rfl⟩) ?_
                  refine (HSTEP.out _).mono ?_; rintro e w9 ⟨rfl, hb9⟩; refine ⟨_, rfl, hS8.below hb9 hB8, ?_⟩
                  have hS9 : SB V B0 wr w9 := hS8.below hb9 hB8
                  have HV9 : Hid (Blk w9 V 71 (u32s vk)) := HV8.out.below hb9 (lt_of_block HV8.out)
                  clear hb9
                  go_simp
                  refine wpS_one HG (i := 19) rfl (by decide +kernel) rfl ?_
                  intro K hK; refine st_row rfl 71 (.tmp 12) (.tmp 103) rfl 16 sz71 V 71 (u32s vk) (u32s vk1) rfl rfl HV9.out (by rw [u32s_len]; exact LVK1.out) (by rw [u32s_len]; exact LVK.out) (u32s_one _) ?_; intro w10 hg10 hs10; refine wpList_nil (hK _ _ (hS9.sole hs10) ?_); clear hK K
                  have HG10 := Lib.hid hg10
                  have HE10 : Hid (SB V B0 W6 w10) := HBE2.out.trans (hS9.sole hs10)
                  clear hg10 hs10 hS9 hS8 hS0
                  refine wpS_done HG (by decide +kernel) ?_
                  clear HG RG
                  go_wp2_with fail
                  go_roundw
                  case rel => exact ⟨k + 1, by omega, by go_num, by rw [HVK1.out]; exact HG10.out, HE10.out⟩
                  case measure => simp [intOf]; omega
                · have hk8 : k = 8 := by omega
                  subst hk8
                  have hfin : roundsL (wordsL b) v00 (r + 1) = stepsL (wordsL b) (perms.getD r []) vr 8 := by rw [roundsL_succ _ _ _ HR.out, HVR.out]; exact rfl
                  have HF := Lib.hid hfin
                  clear hfin
                  go_wp2_with fail
                  go_roundw
                  case rel =>
                    first | exact ⟨r + 1, HR.out, by go_num, by rw [HF.out]; exact HBV2.out, HBE2.out⟩ | ((repeat apply Exists.intro); exact ⟨⟨r + 1, HR.out, by go_num, by rw [HF.out]; exact HBV2.out, HBE2.out⟩, rfl⟩)
                  case measure => simp [intOf]; omega
            · have hr10' : r = 10 := by omega
              subst hr10'
              have hMN := HMN.out
              have hVM := HVM.out
              have hBB := HB01.out
              have hBN : Hid (Blk wr N 61 (u32s h)) := (BH2.out.sole HS6.out (by omega)).sb HBE.out (by omega) (by omega)
              have hBR : Hid (Blk wr (N + 1) 61 (u32s zero8)) := (BR2.out.sole HS6.out (by omega)).sb HBE.out (by omega) (by omega)
              have hBEL : Hid (Below N w wr) := HBE.out.to (HS6.out.below BEL2.out (by omega)) (by omega) (by omega)
              obtain ⟨v9, hv9⟩ : ∃ x, roundsL (wordsL b) v00 10 = x := ⟨_, rfl⟩
              have LV9 : Hid (v9.length = 16) := by rw [← hv9, roundsL_len _ _ _ (by omega)]; exact LV.out
              have HV9 := Lib.hid hv9
              rw [hv9] at HBV
              have hNV : N ≠ V := by omega
              clear hv9 hMN hVM hBB HBE HB6 M6 HS6 BH2 BR2 BEL2 BS2 BM2 BV2 S2
              obtain ⟨wo, hwo⟩ : ∃ x, wr = x := ⟨_, rfl⟩
              rw [hwo] at hBN hBR hBEL HBV
              go_upto_region 25 with (fail)
              clear hwo
              go_wp2
              go_loopw [17] (fun i wr => ∃ k : Nat, k ≤ 8 ∧ i = .int .i64 k ∧ Blk wr N 61 (u32s (hpart h v9 k)) ∧ Sole N wo wr) (fun i _ => 8 - (intOf i).toNat)
              case atStart => exact ⟨0, by omega, rfl, by rw [hpart_zero h v9 HL.out]; exact hBN.out, Sole.refl _ _⟩
              case round =>
                obtain ⟨k, hk, rfl, hh, hso⟩ := hrel
                have HH := Lib.hid hh
                have HSO := Lib.hid hso
                clear hh hso
                by_cases hlt : k < 8
                · have k0 : (0 : Int) ≤ (k : Int) := by omega
                  have k1 : (k : Int) < 8 := by omega
                  have k2 : (k : Int) < 16 := by omega
                  obtain ⟨k8, hk8⟩ : ∃ x, k + 8 = x := ⟨_, rfl⟩
                  have k3 : (0 : Int) ≤ (k8 : Int) := by omega
                  have k4 : (k8 : Int) < 16 := by omega
                  have e1 : IntKind.i64.wrap (8 + (k : Int)) = (k8 : Int) := by rw [IntWalk.i64_in _ (by omega)]; omega
                  have bv := HBV.out.sole HSO.out hNV.symm
                  have cA := u32s_at HH.out (i := k) (by rw [hpart_len]; omega)
                  rw [hpart_at h v9 k hlt] at cA
                  have fA := HH.out.free k
                  have cB := u32s_at bv (i := k) (by rw [LV9.out]; omega)
                  have cC := u32s_at bv (i := k8) (by rw [LV9.out]; omega)
                  obtain ⟨XA, hXA⟩ : ∃ x, wat h k = x := ⟨_, rfl⟩
                  obtain ⟨XB, hXB⟩ : ∃ x, wat v9 k = x := ⟨_, rfl⟩
                  obtain ⟨XC, hXC⟩ : ∃ x, wat v9 k8 = x := ⟨_, rfl⟩
                  rw [hXA] at cA
                  rw [hXB] at cB
                  rw [hXC] at cC
                  obtain ⟨Y1, hY1⟩ : ∃ x, XA ^^^ XB = x := ⟨_, rfl⟩
                  obtain ⟨Y2, hY2⟩ : ∃ x, Y1 ^^^ XC = x := ⟨_, rfl⟩
                  have r1 := bits_xor32 XA XB
                  rw [hY1] at r1
                  have r2 := bits_xor32 Y1 XC
                  rw [hY2] at r2
                  have hst := HH.out.store k (.int .u32 (Y2.toNat : Int))
                  have hsu := hpart_succ h v9 k hlt
                  rw [hk8, hXA, hXB, hXC, ← BitVec.xor_assoc, hY1, hY2] at hsu
                  rw [u32s_set, hsu] at hst
                  have HST := Lib.hid hst
                  clear hst hY1 hY2 hXA hXB hXC hk8 bv hsu
                  go_wp2
                  go_still_tail 14, (by kernel_rfl)
                  change wpList _ _ _ _ _ wr.drew
                  go_wp2_with fail
                  go_roundw
                  case rel =>
                    first | exact ⟨k + 1, by omega, by go_num, HST.out, (HSO.out.setCell k _).drew⟩ | ((repeat apply Exists.intro); exact ⟨⟨k + 1, by omega, by go_num, HST.out, (HSO.out.setCell k _).drew⟩, rfl⟩)
                  case measure => simp [intOf]; omega
                · have hk8 : k = 8 := by omega
                  subst hk8
                  have fh : hpart h v9 8 = blockL h b n false := by rw [← hpart_full, HV00.out, HV9.out]
                  rw [fh] at HH
                  have bl8 : (blockL h b n false).length = 8 := blockL_len _ _ _ _
                  have BL8 := Lib.hid bl8
                  clear fh bl8
                  have HR : Hid (Blk wr (N + 1) 61 (u32s zero8)) := hBR.out.sole HSO.out (by omega)
                  go_wp2_with (first | (refine ld_row rfl 61 (.tmp 4) rfl 8 60 ar61 sz61 N 61 (u32s (blockL h b n false)) rfl HH.out (by rw [u32s_len]; exact BL8.out) ?_) | (refine st_row rfl 61 (.tmp 8) (.tmp 122) rfl 8 sz61 (N + 1) 61 (u32s zero8) (u32s (blockL h b n false)) rfl rfl HR.out (by rw [u32s_len]; exact BL8.out) (by rfl) (u32s_one _) ?_; intro w9 hg9 hs9; have HG := Lib.hid hg9; have HS := Lib.hid hs9; clear hg9 hs9))
                  exact bodyPost_ret (v := .agg (u32s (blockL h b n false)).toArray) (results_cell_row Tryd.results38 _ _ (N + 1) 61 _ (0, 0) (.array 8 60) rfl HG.out ar61 rfl (by rw [sz61]; simp [u32s_len, BL8.out])) rfl ⟨rfl, by rw [HN.out]; exact HS.out.below (HSO.out.below hBEL.out (Nat.le_refl _)) (by omega)⟩
end Go.Proofs.YtcnnijhfliahgaaDoor
