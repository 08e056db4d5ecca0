/- The walk of hash.words (44). -/
import Derived.Test.YtcnnijhfliahgaaDoorHaL
namespace Go.Proofs.YtcnnijhfliahgaaDoor
open Go.RowKit
set_option linter.unusedVariables false

def zero16 : List W32 := List.replicate 16 0
theorem born16 (w : World) : Blk (w.alloc (Obj.cells #[Value.int .u32 0, Value.int .u32 0, Value.int .u32 0, Value.int .u32 0, Value.int .u32 0, Value.int .u32 0, Value.int .u32 0, Value.int .u32 0, Value.int .u32 0, Value.int .u32 0, Value.int .u32 0, Value.int .u32 0, Value.int .u32 0, Value.int .u32 0, Value.int .u32 0, Value.int .u32 0] 71)) w.heap.size 71 (u32s zero16) := heap_alloc_new w _

set_option maxHeartbeats 4000000 in
set_option maxRecDepth 100000 in
theorem words_any (b : List UInt8) (w : World) (hl : b.length = 64) :
    Calls Tryd.prog 44 #[.agg (u8s b).toArray] w fun e w' => e = .returned (.agg (u32s (wordsL b)).toArray) ∧ Below w.heap.size w w' := by
  have hb := (((Blk.born w 63 (u8s b)).later (Obj.cells #[Value.int .u32 0, Value.int .u32 0, Value.int .u32 0, Value.int .u32 0, Value.int .u32 0, Value.int .u32 0, Value.int .u32 0, Value.int .u32 0, Value.int .u32 0, Value.int .u32 0, Value.int .u32 0, Value.int .u32 0, Value.int .u32 0, Value.int .u32 0, Value.int .u32 0, Value.int .u32 0] 71))).later (Obj.cells #[Value.int .u32 0, Value.int .u32 0, Value.int .u32 0, Value.int .u32 0, Value.int .u32 0, Value.int .u32 0, Value.int .u32 0, Value.int .u32 0, Value.int .u32 0, Value.int .u32 0, Value.int .u32 0, Value.int .u32 0, Value.int .u32 0, Value.int .u32 0, Value.int .u32 0, Value.int .u32 0] 71)
  have HB := Lib.hid hb
  clear hb
  have hul : (u8s b).length = 64 := by rw [u8s_len, hl]
  have HUL := Lib.hid hul
  have HL := Lib.hid hl
  clear hul hl
  go_enter Tryd.func44, Tryd.ntmps44
  go_wp2_with (refine ld_row rfl 63 _ rfl 64 5 ar63 sz63 w.heap.size 63 (u8s b) rfl HB.out HUL.out ?_)
  have h16 := born16 ((w.alloc (Obj.cells (u8s b).toArray 63)).alloc (Obj.cells #[Value.int .u32 0, Value.int .u32 0, Value.int .u32 0, Value.int .u32 0, Value.int .u32 0, Value.int .u32 0, Value.int .u32 0, Value.int .u32 0, Value.int .u32 0, Value.int .u32 0, Value.int .u32 0, Value.int .u32 0, Value.int .u32 0, Value.int .u32 0, Value.int .u32 0, Value.int .u32 0] 71))
  have h15 := (born16 (w.alloc (Obj.cells (u8s b).toArray 63))).later (Obj.cells #[Value.int .u32 0, Value.int .u32 0, Value.int .u32 0, Value.int .u32 0, Value.int .u32 0, Value.int .u32 0, Value.int .u32 0, Value.int .u32 0, Value.int .u32 0, Value.int .u32 0, Value.int .u32 0, Value.int .u32 0, Value.int .u32 0, Value.int .u32 0, Value.int .u32 0, Value.int .u32 0] 71)
  simp only [World.size_alloc] at h16 h15
  have hbel : Below w.heap.size w (((w.alloc (Obj.cells (u8s b).toArray 63)).alloc (Obj.cells #[Value.int .u32 0, Value.int .u32 0, Value.int .u32 0, Value.int .u32 0, Value.int .u32 0, Value.int .u32 0, Value.int .u32 0, Value.int .u32 0, Value.int .u32 0, Value.int .u32 0, Value.int .u32 0, Value.int .u32 0, Value.int .u32 0, Value.int .u32 0, Value.int .u32 0, Value.int .u32 0] 71)).alloc (Obj.cells #[Value.int .u32 0, Value.int .u32 0, Value.int .u32 0, Value.int .u32 0, Value.int .u32 0, Value.int .u32 0, Value.int .u32 0, Value.int .u32 0, Value.int .u32 0, Value.int .u32 0, Value.int .u32 0, Value.int .u32 0, Value.int .u32 0, Value.int .u32 0, Value.int .u32 0, Value.int .u32 0] 71)) := (((Below.refl _ _).alloc (Nat.le_refl _) _).alloc (by simp) _).alloc (by simp; omega) _
  generalize hW : ((w.alloc (Obj.cells (u8s b).toArray 63)).alloc (Obj.cells #[Value.int .u32 0, Value.int .u32 0, Value.int .u32 0, Value.int .u32 0, Value.int .u32 0, Value.int .u32 0, Value.int .u32 0, Value.int .u32 0, Value.int .u32 0, Value.int .u32 0, Value.int .u32 0, Value.int .u32 0, Value.int .u32 0, Value.int .u32 0, Value.int .u32 0, Value.int .u32 0] 71)).alloc (Obj.cells #[Value.int .u32 0, Value.int .u32 0, Value.int .u32 0, Value.int .u32 0, Value.int .u32 0, Value.int .u32 0, Value.int .u32 0, Value.int .u32 0, Value.int .u32 0, Value.int .u32 0, Value.int .u32 0, Value.int .u32 0, Value.int .u32 0, Value.int .u32 0, Value.int .u32 0, Value.int .u32 0] 71) = W at h16 h15 hbel ⊢
  clear hW HB
  go_loopw [7] (fun i wr => ∃ k : Nat, k ≤ 64 ∧ i = .int .i64 k ∧ Blk wr (w.heap.size + 1 + 1) 71 (u32s (wpart b k)) ∧ Blk wr (w.heap.size + 1) 71 (u32s zero16) ∧ Below w.heap.size w wr) (fun i _ => 64 - (intOf i).toNat)
  case atStart => exact ⟨0, by omega, rfl, by rw [wpart_zero]; exact h16, h15, hbel⟩
  case round =>
    obtain ⟨k, hk, rfl, hm, hr, hB⟩ := hrel
    have HM := Lib.hid hm
    have HR := Lib.hid hr
    have HBel := Lib.hid hB
    clear hm hr hB h16 h15 hbel
    by_cases hlt : k < 64
    · have k0 : (0 : Int) ≤ (k : Int) := by omega
      have k1 : (k : Int) < 64 := by omega
      obtain ⟨q, hq⟩ : ∃ q, k / 4 = q := ⟨_, rfl⟩
      obtain ⟨r, hr⟩ : ∃ r, k % 4 = r := ⟨_, rfl⟩
      obtain ⟨s, hs⟩ : ∃ s, 8 * r = s := ⟨_, rfl⟩
      have q0 : (0 : Int) ≤ (q : Int) := by omega
      have q1 : (q : Int) < 16 := by omega
      have r0 : (0 : Int) ≤ (r : Int) := by omega
      have r1 : (r : Int) < 4 := by omega
      have s0 : (0 : Int) ≤ (s : Int) := by omega
      have s1 : (s : Int) < 32 := by omega
      have hcl := (b.getD k 0).toNat_lt
      have ix := idx_row 63 5 64 ar63 u8_size u8_agg (u8s b) HUL.out k hlt _ (u8s_at (by rw [HL.out]; exact hlt))
      obtain ⟨c, hcc⟩ : ∃ c, b.getD k 0 = c := ⟨_, rfl⟩
      rw [hcc] at ix hcl
      have HC := Lib.hid hcc
      clear hcc
      have cm := u32s_at HM.out (i := q) (by rw [wpart_len]; omega)
      have cf := HM.out.free q
      obtain ⟨m, hmm⟩ : ∃ m, wat (wpart b k) q = m := ⟨_, rfl⟩
      rw [hmm] at cm
      have HMM := Lib.hid hmm
      clear hmm
      have e1 : IntKind.i64.wrap ((k : Int) / 4) = (q : Int) := by rw [IntWalk.i64_in _ (by omega)]; omega
      have e2 : (k : Int).tmod 4 = (r : Int) := by rw [Int.tmod_eq_emod_of_nonneg (by omega)]; omega
      obtain ⟨cw, hcw⟩ : ∃ cw : W32, BitVec.ofNat 32 c.toNat = cw := ⟨_, rfl⟩
      have e4 : IntKind.u32.wrap (c.toNat : Int) = (cw.toNat : Int) := by rw [IntKind.wrap_u32', ← hcw, BitVec.toNat_ofNat]; omega
      have e3 : IntKind.i64.wrap (8 * (r : Int)) = (s : Int) := by rw [IntWalk.i64_in _ (by omega)]; omega
      obtain ⟨sw, hsw⟩ : ∃ sw : W32, cw <<< s = sw := ⟨_, rfl⟩
      have e5 : IntKind.u32.wrap ((cw.toNat : Int) * 2 ^ s) = (sw.toNat : Int) := by rw [IntKind.wrap_u32', ← hsw]; exact shl_bv cw s _ (by simp)
      obtain ⟨nw, hnw⟩ : ∃ nw : W32, m ||| sw = nw := ⟨_, rfl⟩
      have e6 : bits .or .u32 (m.toNat : Int) (sw.toNat : Int) = (nw.toNat : Int) := by rw [bits_or32, hnw]
      have HSW := Lib.hid hsw
      have HNW := Lib.hid hnw
      clear hsw hnw
      have HQ := Lib.hid hq
      have HRR := Lib.hid hr
      have HS := Lib.hid hs
      have HCW := Lib.hid hcw
      clear hq hr hs hcw
      go_wp2
      go_still_tail 12, (by kernel_rfl)
      change wpList _ _ _ _ _ wr.drew
      go_wp2
      go_roundw
      case rel =>
        refine ⟨k + 1, by omega, by go_num, ?_, HR.out.sole (((Sole.refl (w.heap.size + 1 + 1) wr).setCell q _).drew) (by omega), ((HBel.out.setCell (p := ⟨w.heap.size + 1 + 1, q, none⟩) (by simp; omega) _).drew)⟩
        have hst := HM.out.store q (.int .u32 (nw.toNat : Int))
        rw [u32s_set] at hst
        have e : wpart b (k + 1) = (wpart b k).set q nw := by
          rw [wpart_succ b k hlt, HQ.out, HRR.out]
          congr 1
          have := word_or b k hlt c HC.out
          rw [HQ.out, HRR.out, HS.out, HCW.out, HSW.out] at this
          rw [← this, ← HNW.out, ← HMM.out]
          have h2 := wpart_at b k hlt
          rw [HQ.out, HRR.out] at h2
          rw [h2]
        rw [e]
        exact hst
      case measure => simp [intOf]; omega
    · have hk64 : k = 64 := by omega
      subst hk64
      go_wp2_with (first | (refine ld_row rfl 71 _ rfl 16 60 ar71 sz71 _ 71 (u32s (wpart b 64)) rfl HM.out (by rw [u32s_len, wpart_len]) ?_) | (refine st_row rfl 71 _ _ rfl 16 sz71 _ 71 (u32s zero16) (u32s (wpart b 64)) rfl rfl HR.out (by rw [u32s_len, wpart_len]) (by rfl) (u32s_one _) ?_; intro w9 hg9 hs9; have HG := Lib.hid hg9; clear hg9))
      exact bodyPost_ret (v := .agg (u32s (wpart b 64)).toArray) (results_cell_row Tryd.results44 _ _ (w.heap.size + 1) 71 _ (0, 0) (.array 16 60) rfl HG.out ar71 rfl (by rw [sz71]; simp [u32s_len, wpart_len])) rfl ⟨rfl, hs9.below HBel.out (by omega)⟩
end Go.Proofs.YtcnnijhfliahgaaDoor
