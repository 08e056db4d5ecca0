/- The walk of the document's Unpack (21). -/
import Derived.Test.YtdchaojgldfagaaDoorPbR
import Derived.Test.YtdchaojgldfagaaDoorPaW
namespace Go.Proofs.YtdchaojgldfagaaDoor
open Go.RowKit
set_option linter.unusedVariables false

set_option maxRecDepth 100000 in
set_option maxHeartbeats 2000000 in
theorem refunpack_bad (n w : Int) (A : Option Addr) (cap : Nat) (b : List UInt8) (W : World) (hbad : ¬ (0 ≤ n ∧ n ≤ 4096 ∧ 0 ≤ w ∧ w ≤ 64)) :
    Calls Tryd.prog 52 #[.slice A b.length cap, .int .i64 n, .int .i64 w] W fun e W' => e = .returned (.tuple #[.slice none 0 0, .int .i64 2]) ∧ Below W.heap.size W W' := by
  have hsz := fun W => refsize_any n w W
  rw [sizeR_bad hbad] at hsz
  clear hbad
  go_enter Tryd.func52, Tryd.ntmps52
  go_wp2_with (go_at_call 62; refine (hsz _).mono ?_; rintro e w1 ⟨rfl, rfl⟩)
  go_ret2
  exact ⟨rfl, Below.refl _ _⟩
set_option maxRecDepth 100000 in
set_option maxHeartbeats 2000000 in
theorem refunpack_len (n w : Nat) (A : Option Addr) (cap : Nat) (b : List UInt8) (W : World) (hn : n ≤ 4096) (hw : w ≤ 64) (hlen : b.length ≠ (n * w + 7) / 8) :
    Calls Tryd.prog 52 #[.slice A b.length cap, .int .i64 (n : Int), .int .i64 (w : Int)] W fun e W' => e = .returned (.tuple #[.slice none 0 0, .int .i64 10]) ∧ Below W.heap.size W W' := by
  have hsz := fun W => refsize_any (n : Int) (w : Int) W
  rw [sizeR_good (by omega)] at hsz
  obtain ⟨sz, hs⟩ : ∃ sz, (n * w + 7) / 8 = sz := ⟨_, rfl⟩
  rw [show ((n : Int) * (w : Int) + 7) / 8 = (sz : Int) by rw [← hs]; simp] at hsz
  rw [hs] at hlen
  have hne : ¬ (b.length : Int) = (sz : Int) := by omega
  clear hs hlen
  go_enter Tryd.func52, Tryd.ntmps52
  go_wp2_with (go_at_call 62; refine (hsz _).mono ?_; rintro e w1 ⟨rfl, rfl⟩)
  all_goals first | (exfalso; omega) | skip
  go_ret2
  exact ⟨rfl, Below.refl _ _⟩

theorem str_ne {a b : List UInt8} (h : ¬ a = b) : ((str a).toList == (str b).toList) = false := by
  rw [ByteArray.toList_eq, ByteArray.toList_eq, beq_eq_false_iff_ne]
  exact h
theorem mk_pl22 {ops : Array Oper} {rest : List Oper} {o : Oper} {a : Act} {Q : Exit → Act → World → Prop} {w : World} (hgd : o.guard = none) (l c : Operand)
    (hop : o.op = Op.makeSlice 63 l c) (k : Nat) (hl : a.eval l = .int .i64 (k : Int)) (hc : a.eval c = .int .i64 (k : Int)) (hsz : k ≤ 281474976710)
    (h : wpList Tryd.prog ops Q rest (a.put o.dst (.slice (some ⟨w.heap.size, 0, none⟩) k k)) (w.alloc (.cells (n64s (List.replicate k 0)).toArray 46))) : wpList Tryd.prog ops Q (o :: rest) a w := by
  obtain ⟨i0, hti, hz0, hz1, hz2⟩ := info_parts info52
  have hr := run_make (P := Tryd.prog) w 63 46 i0 (.int .u64 0) Tryd.underlying63 hti hz0 .i64 .i64 k k (by omega) (by omega) (by rw [hz2]; omega) (by omega)
  simp only [Int.toNat_natCast] at hr
  rw [hz1, Nat.mul_one, made_n64] at hr
  refine wpList_plain hgd fun K hK' => ?_
  unfold Oper.wp
  simp [execOp, hop, hl, hc, hr, Result.andThen]
  exact hK' _ _ h
def upB (b : List UInt8) (at' : Nat) (p : Nat) : Bool := decide (p < at') && bitsB b p
theorem upB_no {b : List UInt8} {p : Nat} (h : bitsB b p = false) : upB b (p + 1) = upB b p := by
  funext i
  unfold upB
  by_cases e : i = p
  · subst e; simp [h]
  · have : (i < p + 1) ↔ (i < p) := by omega
    simp [this]
theorem upB_yes {b : List UInt8} {p : Nat} (h : bitsB b p = true) : (fun i => upB b p i || i == p) = upB b (p + 1) := by
  funext i
  unfold upB
  by_cases e : i = p
  · subst e; simp [h]
  · have : (i < p + 1) ↔ (i < p) := by omega
    simp [this, e]
theorem bit_of {b : List UInt8} {p : Nat} (h : p / 8 < b.length) : bitsB b p = decide ((b[p / 8]).toNat / 2 ^ (p % 8) % 2 = 1) := by
  rw [bitsB_eq, decide_eq_true (show p < 8 * b.length by omega), Nat.testBit_eq_decide_div_mod_eq]
  simp [List.getD, h]
theorem and1 : ∀ d < 256, bits .and .u8 ((d : Nat) : Int) 1 = ((d % 2 : Nat) : Int) := by decide +kernel

set_option maxRecDepth 100000 in
set_option maxHeartbeats 4000000 in
theorem refunpack_good (n w : Nat) (A : Option Addr) (cap : Nat) (b : List UInt8) (W : World) (hb : Byt W A b) (hn : n ≤ 4096) (hw : w ≤ 64) (hlen : b.length = (n * w + 7) / 8) :
    Calls Tryd.prog 52 #[.slice A b.length cap, .int .i64 (n : Int), .int .i64 (w : Int)] W (UnR W n w b) := by
  unfold UnR
  obtain ⟨N, hN⟩ : ∃ N, W.heap.size = N := ⟨_, rfl⟩
  rw [hN]
  obtain ⟨M, hM⟩ : ∃ M, n * w = M := ⟨_, rfl⟩
  have hM1 : M ≤ 262144 := by
    rw [← hM]
    have := Nat.mul_le_mul hn hw
    omega
  have hsize := fun W => refsize_any (n : Int) (w : Int) W
  rw [sizeR_good (by omega)] at hsize
  have hcv := conv hb cap
  have hagain := again_iff hw hlen
  obtain ⟨bs, hbs⟩ : ∃ bs, packL b.length (bitsP w (unL w n (bitsB b))) = bs := ⟨_, rfl⟩
  rw [hbs] at hagain
  have hpk := fun (W1 : World) (A1 : Option Addr) (h1 : Num W1 A1 (unL w n (bitsB b))) => refpack_any w A1 n (unL w n (bitsB b)) W1 h1 hw (by rw [unL_len]; exact hn)
  rw [unL_len, ← hlen, hbs] at hpk
  have hwid := width_unL hw n (bitsB b)
  replace hpk := fun (W1 : World) (A1 : Option Addr) (h1 : Num W1 A1 (unL w n (bitsB b))) => (hpk W1 A1 h1).mono (R' := fun e W' => e = .returned (.tuple #[.slice (some ⟨W1.heap.size, 0, none⟩) b.length b.length, .int .i64 0]) ∧ Blk W' W1.heap.size 5 (u8s bs) ∧ Below W1.heap.size W1 W') (fun e W' h => by
    rcases h with ⟨_, h1, h2, h3⟩ | ⟨h1, _⟩
    · exact ⟨h1, h2, h3⟩
    · omega)
  rw [hM] at hagain
  rw [hM]
  obtain ⟨sz, hsz⟩ : ∃ sz, b.length = sz := ⟨_, rfl⟩
  have hszM : sz = (M + 7) / 8 := by rw [← hM, ← hlen, hsz]
  rw [show ((n : Int) * (w : Int) + 7) / 8 = (sz : Int) by rw [hszM, ← hM]; simp] at hsize
  rw [hsz] at hpk hcv
  rw [hsz]
  have hbl : bs.length = sz := by rw [← hbs, packL_len, hsz]
  have hfull : unL w n (upB b (n * w)) = unL w n (bitsB b) := unL_congr fun i hi => by unfold upB; simp [hi]
  rw [hM] at hfull
  have HFULL := Lib.hid hfull
  have HBL := Lib.hid hbl
  have HSZ := Lib.hid hsize
  have HB := Lib.hid hb
  have HM := Lib.hid hM
  have HN := Lib.hid hN
  have HS := Lib.hid hsz
  have HPK := Lib.hid hpk
  have HWID := Lib.hid hwid
  have HAG := Lib.hid hagain
  have HCV := Lib.hid hcv
  have hsz2 : M ≤ 8 * sz := by omega
  have hsz3 : sz ≤ 32769 := by omega
  clear hsize hb hM hsz hpk hwid hagain hlen hszM hbs hbl hfull hcv
  go_enter Tryd.func52, Tryd.ntmps52
  go_wp2_with (first | (go_at_call 62; refine (HSZ.out _).mono ?_; rintro e w1 ⟨rfl, rfl⟩) | (refine mk_pl22 rfl _ _ rfl n rfl rfl (by omega) ?_))
  obtain ⟨W1, hW1⟩ : ∃ x, x = w1.alloc (.cells (n64s (List.replicate n 0#64)).toArray 46) := ⟨_, rfl⟩
  rw [← hW1]
  have b0 : Blk W1 N 46 (n64s (unL w n (upB b 0))) := by
    have e : upB b 0 = fun _ => false := by funext i; simp [upB]
    rw [hW1, e, unL_none, ← HN.out]
    exact Blk.born w1 46 _
  have bel : Below N w1 W1 := by rw [hW1]; exact (Below.refl _ _).alloc (by rw [HN.out]; omega) _
  clear hW1
  go_loopw [11] (fun i wr => ∃ k : Nat, k ≤ n ∧ i = .int .i64 k ∧ Blk wr N 46 (n64s (unL w n (upB b (k * w)))) ∧ Below N w1 wr) (fun i _ => n - (intOf i).toNat)
  case atStart => exact ⟨0, by omega, rfl, by rw [Nat.zero_mul]; exact b0, bel⟩
  case round =>
    obtain ⟨k, hk, rfl, hblk, hbel⟩ := hrel
    have HBLK := Lib.hid hblk
    have HBEL := Lib.hid hbel
    clear hblk hbel
    by_cases hlt : k < n
    · have HK : Hid (k < n) := hlt
      go_wp2
      go_loopw [12] (fun kk wr => ∃ m : Nat, m ≤ w ∧ kk = .int .i64 m ∧ Blk wr N 46 (n64s (unL w n (upB b (k * w + m)))) ∧ Below N w1 wr) (fun kk _ => w - (intOf kk).toNat)
      case atStart => exact ⟨0, by omega, rfl, HBLK.out, HBEL.out⟩
      case round =>
        obtain ⟨m, hm, rfl, hblk, hbel⟩ := hrel
        by_cases hmw : m < w
        · have HM2 : Hid (m < w) := hmw
          obtain ⟨q, hq⟩ : ∃ q, k * w = q := ⟨_, rfl⟩
          have eq1 : (k : Int) * (w : Int) = (q : Int) := by rw [← hq]; simp
          have hqM : q + w ≤ M := by
            have h1 : (k + 1) * w ≤ n * w := Nat.mul_le_mul_right w HK.out
            rw [HM.out, Nat.add_mul, Nat.one_mul, hq] at h1
            exact h1
          rw [hq] at hblk
          have HQ := Lib.hid hq
          obtain ⟨p, hp⟩ : ∃ p, q + m = p := ⟨_, rfl⟩
          have eq2 : (q : Int) + (m : Int) = (p : Int) := by rw [← hp]; simp
          rw [hp] at hblk
          have hp1 : p < M := by omega
          have HP := Lib.hid hp
          have hwq : IntKind.i64.wrap (q : Int) = (q : Int) := wrap_i64_of (by omega) (by omega)
          have hwp : IntKind.i64.wrap (p : Int) = (p : Int) := wrap_i64_of (by omega) (by omega)
          obtain ⟨j, hj⟩ : ∃ j, p / 8 = j := ⟨_, rfl⟩
          obtain ⟨r, hr⟩ : ∃ r, p % 8 = r := ⟨_, rfl⟩
          have hj8 : p / 8 < b.length := by rw [HS.out]; omega
          have hbit := bit_of hj8
          obtain ⟨bb, o, rfl, hc⟩ := HB.out (p / 8) hj8
          have hcx := (hbel.cell (p := ⟨bb, o + p / 8, none⟩) (by have := World.block_lt_of_cell? w1 _ hc; rw [HN.out] at this; exact this)).trans hc
          generalize b[p / 8] = c at hcx hbit
          have hc8 := c.toNat_lt
          rw [hr] at hbit
          rw [hj] at hcx
          generalize c.toNat = y at hcx hbit hc8
          have HBIT := Lib.hid hbit
          have hjs : j < sz := by rw [← HS.out, ← hj]; exact hj8
          have hr8 : r < 8 := by omega
          have d0 : (0 : Int) ≤ (p : Int) := by omega
          have d1 : (p : Int) / 8 = (j : Int) := by omega
          have d2 : (p : Int) % 8 = (r : Int) := by omega
          have d3 : (p : Int).tmod 8 = (r : Int) := by rw [Int.tmod_eq_emod_of_nonneg d0]; omega
          have j0 : (0 : Int) ≤ (j : Int) := by omega
          have j1 : (j : Int) < (sz : Int) := by omega
          have r0 : (0 : Int) ≤ (r : Int) := by omega
          have r1 : (r : Int) < 8 := by omega
          have HBLK2 := Lib.hid hblk
          have HBEL2 := Lib.hid hbel
          clear hbit hblk hbel hc hq hp hj hr hj8
          by_cases hy1 : y / 2 ^ r % 2 = 1
          · have hb1 := HBIT.out
            rw [decide_eq_true hy1] at hb1
            have hand : bits .and .u8 ((y : Int) / 2 ^ r) 1 = 1 := by
              have e : (y : Int) / 2 ^ r = ((y / 2 ^ r : Nat) : Int) := by simp
              rw [e, and1 _ (Nat.lt_of_le_of_lt (Nat.div_le_self _ _) hc8), hy1]; rfl
            have hset := unL_set (n := n) hw (upB b p) (j := k) (r := m) HK.out HM2.out
            rw [HQ.out, HP.out, upB_yes hb1] at hset
            have hget := unL_get (w := w) (upB b p) HK.out
            have hpl := unL_len w n (upB b p)
            obtain ⟨sh, hsh⟩ : ∃ sh, BitVec.ofNat 64 (2 ^ m) = sh := ⟨_, rfl⟩
            have h2r : 2 ^ m < 2 ^ 64 := Nat.pow_lt_pow_right (by decide) (by omega)
            have hshn : 2 ^ m = sh.toNat := by rw [← hsh, BitVec.toNat_ofNat]; exact (Nat.mod_eq_of_lt h2r).symm
            rw [hsh] at hset
            have hread := HBLK2.out.at_ k
            rw [n64s_at (by rw [hpl]; exact HK.out), hget] at hread
            have hfree := HBLK2.out.free k
            generalize nuP w (upB b p) k = by0 at hread hset
            have hor := bits_or64 by0 sh
            have hshw : IntKind.u64.wrap ((2 : Int) ^ m) = (sh.toNat : Int) := by
              have e : ((2 : Int) ^ m) = ((2 ^ m : Nat) : Int) := by simp
              rw [e, hshn]
              exact wrap_u64_bv sh
            have hst := HBLK2.out.store k (.int .u64 ((by0 ||| sh).toNat : Int))
            rw [n64s_set, hset, BitVec.toNat_or] at hst
            have HST := Lib.hid hst
            clear hst hset hget hpl hsh h2r hshn hb1 hy1
            go_wp2
            go_region
            go_wp2
            go_roundw
            case rel => exact ⟨m + 1, HM2.out, by go_num, by rw [HQ.out, show q + (m + 1) = p + 1 by rw [← HP.out]; omega]; exact HST.out, (HBEL2.out.setCell (p := ⟨N, k, none⟩) (Nat.le_refl _) _).drew⟩
            case measure => have := HM2.out; simp [intOf]; omega
          · have hb1 := HBIT.out
            rw [decide_eq_false hy1] at hb1
            have hand : bits .and .u8 ((y : Int) / 2 ^ r) 1 = 0 := by
              have e : (y : Int) / 2 ^ r = ((y / 2 ^ r : Nat) : Int) := by simp
              rw [e, and1 _ (Nat.lt_of_le_of_lt (Nat.div_le_self _ _) hc8), show y / 2 ^ r % 2 = 0 by omega]; rfl
            have HNO := Lib.hid (upB_no hb1)
            clear hb1 hy1
            go_wp2
            go_roundw
            case rel => exact ⟨m + 1, HM2.out, by go_num, by rw [HQ.out, show q + (m + 1) = p + 1 by rw [← HP.out]; omega, HNO.out]; exact HBLK2.out, HBEL2.out⟩
            case measure => have := HM2.out; simp [intOf]; omega
        · obtain rfl : m = w := by omega
          have HBLK2 := Lib.hid hblk
          have HBEL2 := Lib.hid hbel
          clear hblk hbel
          go_wp2
          go_roundw
          case rel => exact ⟨k + 1, HK.out, by go_num, by rw [Nat.add_mul, Nat.one_mul]; exact HBLK2.out, HBEL2.out⟩
          case measure => have := HK.out; simp [intOf]; omega
    · obtain rfl : k = n := by omega
      rw [HM.out, HFULL.out] at HBLK
      have hnum : Num wr (some ⟨N, 0, none⟩) (unL w k (bitsB b)) := by
        intro i hi
        refine ⟨N, 0, rfl, ?_⟩
        rw [Nat.zero_add, HBLK.out.at_ i, n64s_at hi]
        simp [List.getD, hi]
      have HSW : Hid (N ≤ wr.heap.size) := by
        show N ≤ wr.heap.size
        have := HBEL.out.size
        rw [HN.out] at this
        exact this
      by_cases hf : fitB M b = true
      · have hbb := HAG.out.2 hf
        subst hbb
        have HF := Lib.hid hf
        clear hf
        go_wp2_with (go_at_call 58; refine (HPK.out wr _ hnum).mono ?_; rintro e w4 ⟨rfl, hblk4, hbel4⟩; have HB4 := Lib.hid (HBEL.out.trans (hbel4.mono HSW.out)); have HK4 := Lib.hid (HBLK.out.below hbel4 (lt_of_block HBLK.out)); have hc1 := conv hblk4.byt sz; rw [HBL.out] at hc1; have hc2 := conv (HB.out.keep (show Below w1.heap.size w1 w4 by rw [HN.out]; exact HB4.out)) cap; rw [HS.out] at hc2; clear hblk4 hbel4 hnum)
        go_ret2
        exact .inl ⟨HF.out, _, rfl, Nat.le_refl _, HK4.out, HB4.out⟩
      · have hne : ¬ bs = b := fun h => hf (HAG.out.1 h)
        have hs2 := str_ne hne
        have HF : Hid (fitB M b = false) := by show fitB M b = false; simpa using hf
        clear hf hne
        go_wp2_with (go_at_call 58; refine (HPK.out wr _ hnum).mono ?_; rintro e w4 ⟨rfl, hblk4, hbel4⟩; have HB4 := Lib.hid (HBEL.out.trans (hbel4.mono HSW.out)); have HK4 := Lib.hid (HBLK.out.below hbel4 (lt_of_block HBLK.out)); have hc1 := conv hblk4.byt sz; rw [HBL.out] at hc1; have hc2 := conv (HB.out.keep (show Below w1.heap.size w1 w4 by rw [HN.out]; exact HB4.out)) cap; rw [HS.out] at hc2; clear hblk4 hbel4 hnum)
        go_ret2
        exact .inr ⟨HF.out, rfl, HB4.out⟩
end Go.Proofs.YtdchaojgldfagaaDoor
