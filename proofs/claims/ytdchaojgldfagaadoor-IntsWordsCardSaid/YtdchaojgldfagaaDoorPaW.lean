/- The walk of the document's Pack (19). -/
import Derived.Test.YtdchaojgldfagaaDoorPaS
namespace Go.Proofs.YtdchaojgldfagaaDoor
open Go.RowKit
set_option linter.unusedVariables false

theorem mk_pl {ops : Array Oper} {rest : List Oper} {o : Oper} {a : Act} {Q : Exit → Act → World → Prop} {w : World} (hgd : o.guard = none) (l c : Operand)
    (hop : o.op = Op.makeSlice 24 l c) (k : Nat) (hl : a.eval l = .int .i64 (k : Int)) (hc : a.eval c = .int .i64 (k : Int)) (hsz : k ≤ 281474976710656)
    (h : wpList Tryd.prog ops Q rest (a.put o.dst (.slice (some ⟨w.heap.size, 0, none⟩) k k)) (w.alloc (.cells (u8s (List.replicate k 0)).toArray 5))) : wpList Tryd.prog ops Q (o :: rest) a w := by
  obtain ⟨i0, hti, hz0, hz1, hz2⟩ := info_parts Tryd.info5
  have hr := run_make (P := Tryd.prog) w 24 5 i0 (.int .u8 0) Tryd.underlying24 hti hz0 .i64 .i64 k k (by omega) (by omega) (by rw [hz2]; omega) (by omega)
  simp only [Int.toNat_natCast] at hr
  rw [hz1, Nat.mul_one, made_u8s] at hr
  refine wpList_plain hgd fun K hK' => ?_
  unfold Oper.wp
  simp [execOp, hop, hl, hc, hr, Result.andThen]
  exact hK' _ _ h
def bitG (w : Nat) (ls : List W64) (p : Nat) : Bool := (ls.getD (p / w) 0).toNat.testBit (p % w)
theorem bitG_at {w : Nat} {ls : List W64} {i k : Nat} (hi : i < ls.length) (hk : k < w) : bitG w ls (i * w + k) = decide ((ls[i]).toNat / 2 ^ k % 2 = 1) := by
  unfold bitG
  have e1 : (i * w + k) / w = i := by rw [Nat.add_comm, Nat.add_mul_div_right _ _ (by omega), Nat.div_eq_of_lt hk, Nat.zero_add]
  have e2 : (i * w + k) % w = k := by rw [Nat.add_comm, Nat.add_mul_mod_self_right, Nat.mod_eq_of_lt hk]
  rw [e1, e2, Nat.testBit_eq_decide_div_mod_eq]
  simp only [List.getD, List.getElem?_eq_getElem hi, Option.getD_some]
def upP (w : Nat) (ls : List W64) (at' : Nat) (p : Nat) : Bool := decide (p < at') && bitG w ls p
theorem upP_no {w : Nat} {ls : List W64} {p : Nat} (h : bitG w ls p = false) : upP w ls (p + 1) = upP w ls p := by
  funext i
  unfold upP
  by_cases e : i = p
  · subst e; simp [h]
  · have : (i < p + 1) ↔ (i < p) := by omega
    simp [this]
theorem upP_yes {w : Nat} {ls : List W64} {p : Nat} (h : bitG w ls p = true) : (fun i => upP w ls p i || i == p) = upP w ls (p + 1) := by
  funext i
  unfold upP
  by_cases e : i = p
  · subst e; simp [h]
  · have : (i < p + 1) ↔ (i < p) := by omega
    simp [this, e]

set_option maxRecDepth 100000 in
set_option maxHeartbeats 2000000 in
theorem refpack_bad (w : Int) (A : Option Addr) (cap : Nat) (ls : List W64) (W : World) (hbad : ¬ (0 ≤ w ∧ w ≤ 64 ∧ ls.length ≤ 4096)) :
    Calls Tryd.prog 58 #[.int .i64 w, .slice A ls.length cap] W fun e W' => e = .returned (.tuple #[.slice none 0 0, .int .i64 2]) ∧ W' = W := by
  have hsz := refsize_any (ls.length : Int) w W
  rw [sizeR_bad (by omega)] at hsz
  clear hbad
  go_enter Tryd.func58, Tryd.ntmps58
  go_wp2_with (go_at_call 62; refine hsz.mono ?_; rintro e w1 ⟨rfl, rfl⟩)
  go_ret2
  exact ⟨rfl, rfl⟩

set_option maxRecDepth 100000 in
set_option maxHeartbeats 4000000 in
theorem refpack_any (w : Nat) (A : Option Addr) (cap : Nat) (ls : List W64) (W : World) (hl : Num W A ls) (hw : w ≤ 64) (hlen : ls.length ≤ 4096) :
    Calls Tryd.prog 58 #[.int .i64 (w : Int), .slice A ls.length cap] W fun e W' =>
      (widL ls ≤ w ∧ e = .returned (.tuple #[.slice (some ⟨W.heap.size, 0, none⟩) ((ls.length * w + 7) / 8) ((ls.length * w + 7) / 8), .int .i64 0]) ∧ Blk W' W.heap.size 5 (u8s (packL ((ls.length * w + 7) / 8) (bitsP w ls))) ∧ Below W.heap.size W W') ∨
      (w < widL ls ∧ e = .returned (.tuple #[.slice none 0 0, .int .i64 2]) ∧ Below W.heap.size W W') := by
  obtain ⟨N, hN⟩ : ∃ N, W.heap.size = N := ⟨_, rfl⟩
  rw [hN]
  obtain ⟨M, hM⟩ : ∃ M, ls.length * w = M := ⟨_, rfl⟩
  have hM1 : M ≤ 262144 := by
    rw [← hM]
    have := Nat.mul_le_mul hlen hw
    omega
  have hsize := refsize_any (ls.length : Int) (w : Int) W
  rw [sizeR_good (by omega)] at hsize
  rw [hM]
  obtain ⟨sz, hsz⟩ : ∃ sz, (M + 7) / 8 = sz := ⟨_, rfl⟩
  rw [show ((ls.length : Int) * (w : Int) + 7) / 8 = (sz : Int) by rw [← hsz, ← hM]; simp] at hsize
  rw [hsz]
  have hsz2 : M ≤ 8 * sz := by omega
  have hsz3 : sz ≤ 32768 := by omega
  have HSZ := Lib.hid hsize
  have HL := Lib.hid hl
  have HM := Lib.hid hM
  have HN := Lib.hid hN
  have hgoodw := of_width (l := ls) hw
  have HG := Lib.hid hgoodw
  clear hsize hl hM hsz hgoodw
  go_enter Tryd.func58, Tryd.ntmps58
  go_wp2_with (first | (go_at_call 62; refine HSZ.out.mono ?_; rintro e w1 ⟨rfl, rfl⟩) | (refine mk_pl rfl _ _ rfl sz rfl rfl (by omega) ?_))
  obtain ⟨W1, hW1⟩ : ∃ x, x = w1.alloc (.cells (u8s (List.replicate sz 0)).toArray 5) := ⟨_, rfl⟩
  rw [← hW1]
  have b0 : Blk W1 N 5 (u8s (packL sz (upP w ls 0))) := by
    have e : upP w ls 0 = fun _ => false := by funext i; simp [upP]
    rw [hW1, e, packL_none, ← HN.out]
    exact Blk.born w1 5 _
  have bel : Below N w1 W1 := by rw [hW1]; exact (Below.refl _ _).alloc (by rw [HN.out]; omega) _
  clear hW1
  go_loopw [9] (fun i wr => ∃ k : Nat, k ≤ ls.length ∧ i = .int .i64 k ∧ (∀ j (h : j < ls.length), j < k → (ls[j]).toNat < 2 ^ w) ∧ Blk wr N 5 (u8s (packL sz (upP w ls (k * w)))) ∧ Below N w1 wr) (fun i _ => ls.length - (intOf i).toNat)
  case atStart => exact ⟨0, by omega, rfl, fun j _ h => by omega, by rw [Nat.zero_mul]; exact b0, bel⟩
  case round =>
    obtain ⟨k, hk, rfl, hof, hblk, hbel⟩ := hrel
    have HOF := Lib.hid hof
    have HBLK := Lib.hid hblk
    have HBEL := Lib.hid hbel
    clear hof hblk hbel
    by_cases hlt : k < ls.length
    · obtain ⟨b, o, rfl, hc⟩ := HL.out k hlt
      have hcx := (HBEL.out.cell (p := ⟨b, o + k, none⟩) (by have := World.block_lt_of_cell? w1 _ hc; rw [HN.out] at this; exact this)).trans hc
      have hbg := fun m (hm : m < w) => bitG_at (w := w) (ls := ls) hlt hm
      have hof1 := of_any (ls[k]) w (by omega) wr
      have HW2 := Lib.hid (fun (h : widL ls ≤ w) => HG.out.1 h k hlt)
      have HNX : Hid ((ls[k]).toNat < 2 ^ w → ∀ j (h : j < ls.length), j < k + 1 → (ls[j]).toNat < 2 ^ w) := fun hx j h hj => by
        by_cases e : j = k
        · subst e; exact hx
        · exact HOF.out j h (by omega)
      have hx := (ls[k]).isLt
      generalize (ls[k]).toNat = y at hcx hbg hof1 hx HW2 HNX
      have HBG := Lib.hid hbg
      clear hbg hc
      by_cases hyw : y < 2 ^ w
      · rw [decide_eq_true hyw] at hof1
        have HO := Lib.hid hof1
        have HYW := Lib.hid hyw
        clear hof1 hyw
        have HK : Hid (k < ls.length) := hlt
        go_wp2_with (go_at_call 65; refine HO.out.mono ?_; rintro e w2 ⟨rfl, rfl⟩)
        go_loopw [11, 12] (fun x kk wr => ∃ m z : Nat, m ≤ w ∧ kk = .int .i64 m ∧ x = .int .u64 (z : Int) ∧ z = y / 2 ^ m ∧ z ≤ y ∧ Blk wr N 5 (u8s (packL sz (upP w ls (k * w + m)))) ∧ Below N w1 wr) (fun _ kk _ => w - (intOf kk).toNat)
        case atStart => exact ⟨0, y, by omega, rfl, rfl, by simp, Nat.le_refl _, HBLK.out, HBEL.out⟩
        case round =>
          obtain ⟨m, z, hm, rfl, rfl, hz, hzy, hblk, hbel⟩ := hrel
          by_cases hmw : m < w
          · have hb := HBG.out m hmw
            rw [← hz] at hb
            have HZ := Lib.hid hz
            have HM2 : Hid (m < w) := hmw
            obtain ⟨q, hq⟩ : ∃ q, k * w = q := ⟨_, rfl⟩
            have eq1 : (k : Int) * (w : Int) = (q : Int) := by rw [← hq]; simp
            have hqM : q + w ≤ M := by
              have h1 : (k + 1) * w ≤ ls.length * w := Nat.mul_le_mul_right w HK.out
              rw [HM.out, Nat.add_mul, Nat.one_mul, hq] at h1
              exact h1
            rw [hq] at hb hblk
            have HQ := Lib.hid hq
            obtain ⟨p, hp⟩ : ∃ p, q + m = p := ⟨_, rfl⟩
            have eq2 : (q : Int) + (m : Int) = (p : Int) := by rw [← hp]; simp
            rw [hp] at hb hblk
            have hp1 : p < M := by omega
            have HP := Lib.hid hp
            have hwq : IntKind.i64.wrap (q : Int) = (q : Int) := wrap_i64_of (by omega) (by omega)
            have hwp : IntKind.i64.wrap (p : Int) = (p : Int) := wrap_i64_of (by omega) (by omega)
            obtain ⟨z2, hz2⟩ : ∃ z2, z / 2 = z2 := ⟨_, rfl⟩
            have e2 : (z : Int) / 2 = (z2 : Int) := by omega
            have hz2y : z2 ≤ y := by omega
            have HZ2 := Lib.hid hz2
            have HZ3 : Hid (z2 = y / 2 ^ (m + 1)) := by show z2 = y / 2 ^ (m + 1); rw [← HZ2.out, HZ.out, Nat.div_div_eq_div_mul, Nat.pow_succ]
            have HBEL2 := Lib.hid hbel
            clear hz hq hp hz2 hbel
            by_cases hbit : z % 2 = 1
            · rw [decide_eq_true hbit] at hb
              have t1 : (z : Int) % 2 = 1 := by omega
              obtain ⟨j, hj⟩ : ∃ j, p / 8 = j := ⟨_, rfl⟩
              obtain ⟨r, hr⟩ : ∃ r, p % 8 = r := ⟨_, rfl⟩
              have hjs : j < sz := by omega
              have hr8 : r < 8 := by omega
              have hset := packL_set (n := sz) (upP w ls p) hjs hr8
              rw [show 8 * j + r = p by omega, upP_yes hb] at hset
              have hget := packL_get (n := sz) (upP w ls p) hjs
              have hpl := packL_len sz (upP w ls p)
              obtain ⟨sh, hsh⟩ : ∃ sh, UInt8.ofNat (2 ^ r) = sh := ⟨_, rfl⟩
              have h2r : 2 ^ r < 256 := by
                have := Nat.pow_lt_pow_right (a := 2) (by decide) hr8
                simpa using this
              have hshn : 2 ^ r = sh.toNat := by rw [← hsh, UInt8.toNat_ofNat']; exact (Nat.mod_eq_of_lt h2r).symm
              rw [hsh] at hset
              have hread := hblk.at_ j
              rw [u8s_at (by rw [hpl]; exact hjs), hget] at hread
              have hfree := hblk.free j
              generalize byP (upP w ls p) j = by0 at hread hset
              have hor := bits_or8 by0 sh
              have hshw : IntKind.u8.wrap ((2 : Int) ^ r) = (sh.toNat : Int) := by
                have e : ((2 : Int) ^ r) = ((2 ^ r : Nat) : Int) := by simp
                rw [e, hshn]
                have := sh.toNat_lt
                simp [IntKind.wrap, IntKind.signed, IntKind.bits]
                omega
              have hst := hblk.store j (.int .u8 ((by0 ||| sh).toNat : Int))
              rw [u8s_set, hset, UInt8.toNat_or] at hst
              have HST := Lib.hid hst
              have d0 : (0 : Int) ≤ (p : Int) := by omega
              have d1 : (p : Int) / 8 = (j : Int) := by omega
              have d2 : (p : Int) % 8 = (r : Int) := by omega
              have d3 : (p : Int).tmod 8 = (r : Int) := by rw [Int.tmod_eq_emod_of_nonneg d0]; omega
              have hwj : IntKind.i64.wrap (j : Int) = (j : Int) := wrap_i64_of (by omega) (by omega)
              have j0 : (0 : Int) ≤ (j : Int) := by omega
              have j1 : (j : Int) < (sz : Int) := by omega
              have r0 : (0 : Int) ≤ (r : Int) := by omega
              have r1 : (r : Int) < 8 := by omega
              clear hst hset hget hpl hsh h2r hshn hj hr hblk hb hbit hjs hr8
              go_wp2
              go_region
              go_wp2
              go_roundw
              case rel => exact ⟨m + 1, z2, HM2.out, by go_num, rfl, HZ3.out, hz2y, by rw [HQ.out, show q + (m + 1) = p + 1 by rw [← HP.out]; omega]; exact HST.out, (HBEL2.out.setCell (p := ⟨N, j, none⟩) (Nat.le_refl _) _).drew⟩
              case measure => have := HM2.out; simp [intOf]; omega
            · rw [decide_eq_false hbit] at hb
              have t1 : (z : Int) % 2 = 0 := by omega
              have HNO := Lib.hid (upP_no hb)
              have HBLK2 := Lib.hid hblk
              clear hb hbit hblk
              go_wp2
              go_roundw
              case rel => exact ⟨m + 1, z2, HM2.out, by go_num, rfl, HZ3.out, hz2y, by rw [HQ.out, show q + (m + 1) = p + 1 by rw [← HP.out]; omega, HNO.out]; exact HBLK2.out, HBEL2.out⟩
              case measure => have := HM2.out; simp [intOf]; omega
          · obtain rfl : m = w := by omega
            have HBLK2 := Lib.hid hblk
            have HBEL2 := Lib.hid hbel
            clear hz hblk hbel
            go_wp2
            go_roundw
            case rel => exact ⟨k + 1, HK.out, by go_num, HNX.out HYW.out, by rw [Nat.add_mul, Nat.one_mul]; exact HBLK2.out, HBEL2.out⟩
            case measure => have := HK.out; simp [intOf]; omega
      · rw [decide_eq_false hyw] at hof1
        have HO := Lib.hid hof1
        have hbadw : w < widL ls := by
          apply Nat.lt_of_not_le
          intro h
          exact hyw (HW2.out h)
        have HBW := Lib.hid hbadw
        clear hof1 hyw hbadw
        go_wp2_with (go_at_call 65; refine HO.out.mono ?_; rintro e w2 ⟨rfl, rfl⟩)
        go_ret2
        exact .inr ⟨HBW.out, rfl, HBEL.out⟩
    · obtain rfl : k = ls.length := by omega
      have hwd : widL ls ≤ w := HG.out.2 fun j h => HOF.out j h h
      have hfin : packL sz (upP w ls (ls.length * w)) = packL sz (bitsP w ls) := by
        apply packL_congr
        intro i _
        rw [bitsP_eq (HG.out.1 hwd)]
        rfl
      rw [hfin] at HBLK
      have HWD := Lib.hid hwd
      clear hwd hfin
      go_wp2
      go_ret2
      exact .inl ⟨HWD.out, rfl, HBLK.out, HBEL.out⟩
end Go.Proofs.YtdchaojgldfagaaDoor
