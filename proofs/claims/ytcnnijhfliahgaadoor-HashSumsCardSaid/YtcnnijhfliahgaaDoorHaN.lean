/- The walks of the document's Sum (25) and of stackyardlaw03.HashSums (9). -/
import Derived.Test.YtcnnijhfliahgaaDoorHaJ
namespace Go.Proofs.YtcnnijhfliahgaaDoor
open Go.RowKit
set_option linter.unusedVariables false

theorem rblock_any (h : List W32) (A : Option Addr) (cap : Nat) (b : List UInt8) (n : Nat) (last : Bool) (w : World) (hl : h.length = 8) (bl : b.length = 64) (hn : n < 18446744073709551616) (hby : Byt w A b) :
    Calls Tryd.prog 38 #[.agg (u32s h).toArray, .slice A 64 cap, .int .u64 (n : Int), .bool last] w fun e w' => e = .returned (.agg (u32s (blockL h b n last)).toArray) ∧ Below w.heap.size w w' := by
  cases last with
  | true => exact rblock_true h A cap b n w hl bl hn hby
  | false => exact rblock_false h A cap b n w hl bl hn hby
theorem mk_64 {ops : Array Oper} {rest : List Oper} {o : Oper} {a : Act} {Q : Exit → Act → World → Prop} {w : World} (hgd : o.guard = none) (hop : o.op = Op.makeSlice 30 (.const (.int .i64 64)) (.const (.int .i64 64)))
    (h : ∀ w', Blk w' w.heap.size 5 (u8s zero64) → Below w.heap.size w w' → wpList Tryd.prog ops Q rest (a.put o.dst (.slice (some ⟨w.heap.size, 0, none⟩) 64 64)) w') : wpList Tryd.prog ops Q (o :: rest) a w := by
  refine mk_row w hgd (.const (.int .i64 64)) (.const (.int .i64 64)) hop 64 64 64 64 rfl rfl rfl rfl (Nat.le_refl _) (by omega) (Below.refl _ _) ?_
  intro w' hown hb
  obtain ⟨g, c, cs, e, hB, hlc, hcm, hblk, hcl, htk⟩ := hown.blk (by simp)
  simp only [Value.slice.injEq, Option.some.injEq, Addr.mk.injEq] at e
  obtain ⟨⟨rfl, _⟩, _, rfl⟩ := e
  have e2 : cs = u8s zero64 := by
    rw [List.take_of_length_le (by rw [hcl]; simp)] at htk
    exact htk
  rw [e2] at hblk
  exact h w' hblk hb
def wordP (k : Nat) : List W32 := ivs.take k ++ List.replicate (8 - k) 0
theorem wordP_succ : ∀ k < 8, (wordP k).set k (wat ivs k) = wordP (k + 1) := by decide +kernel
theorem wordP_len : ∀ k ≤ 8, (wordP k).length = 8 := by decide +kernel
def outQ (h : List W32) (k : Nat) : List UInt8 := (List.range 32).map fun i => if i < k then byW (wat h (i / 4)) (i % 4) else 0
theorem outQ_len (h : List W32) (k : Nat) : (outQ h k).length = 32 := by simp [outQ]
theorem outQ_zero (h : List W32) : outQ h 0 = zero32 := outP_zero h
theorem outQ_full (h : List W32) : outQ h 32 = outL h := by
  apply List.map_congr_left
  intro i hi
  rw [if_pos (by simpa using hi)]
  rfl
theorem outQ_succ (h : List W32) (k : Nat) (hk : k < 32) : (outQ h k).set k (byW (wat h (k / 4)) (k % 4)) = outQ h (k + 1) := by
  apply List.ext_getElem?
  intro i
  rw [List.getElem?_set]
  simp only [outQ, List.length_map, List.length_range, List.getElem?_map]
  by_cases hi : i < 32
  · rw [List.getElem?_range hi]
    simp only [Option.map_some]
    by_cases e : k = i
    · subst e; rw [if_pos rfl, if_pos hk, if_pos (by omega)]
    · rw [if_neg e]
      by_cases e2 : i < k
      · rw [if_pos e2, if_pos (by omega)]
      · rw [if_neg e2, if_neg (by omega)]
  · rw [List.getElem?_eq_none (by simp; omega), if_neg (by omega)]
    rfl
theorem born42 (w : World) : Blk (w.alloc (Obj.cells #[Value.int .u8 0, Value.int .u8 0, Value.int .u8 0, Value.int .u8 0, Value.int .u8 0, Value.int .u8 0, Value.int .u8 0, Value.int .u8 0, Value.int .u8 0, Value.int .u8 0, Value.int .u8 0, Value.int .u8 0, Value.int .u8 0, Value.int .u8 0, Value.int .u8 0, Value.int .u8 0, Value.int .u8 0, Value.int .u8 0, Value.int .u8 0, Value.int .u8 0, Value.int .u8 0, Value.int .u8 0, Value.int .u8 0, Value.int .u8 0, Value.int .u8 0, Value.int .u8 0, Value.int .u8 0, Value.int .u8 0, Value.int .u8 0, Value.int .u8 0, Value.int .u8 0, Value.int .u8 0] 42)) w.heap.size 42 (u8s zero32) := heap_alloc_new w _

set_option maxHeartbeats 8000000 in
set_option maxRecDepth 100000 in
theorem refsum_walk (A : Option Addr) (cap : Nat) (b : List UInt8) (w : World) (hb : Byt w A b) (hc : b.length ≤ cap) (hA : A = none → cap = 0) (hl : b.length ≤ 4611686018427387904) :
    Calls Tryd.prog 25 #[.slice A b.length cap] w fun e w' => e = .returned (.agg (u8s (sumD b)).toArray) ∧ Below w.heap.size w w' := by
  obtain ⟨N, hN⟩ : ∃ N, w.heap.size = N := ⟨_, rfl⟩
  have HB := Lib.hid hb
  have HA := Lib.hid hA
  have HC := Lib.hid hc
  have HN := Lib.hid hN
  obtain ⟨W0, hW0⟩ : ∃ x, x = w.alloc (Obj.cells #[Value.int .u8 0, Value.int .u8 0, Value.int .u8 0, Value.int .u8 0, Value.int .u8 0, Value.int .u8 0, Value.int .u8 0, Value.int .u8 0, Value.int .u8 0, Value.int .u8 0, Value.int .u8 0, Value.int .u8 0, Value.int .u8 0, Value.int .u8 0, Value.int .u8 0, Value.int .u8 0, Value.int .u8 0, Value.int .u8 0, Value.int .u8 0, Value.int .u8 0, Value.int .u8 0, Value.int .u8 0, Value.int .u8 0, Value.int .u8 0, Value.int .u8 0, Value.int .u8 0, Value.int .u8 0, Value.int .u8 0, Value.int .u8 0, Value.int .u8 0, Value.int .u8 0, Value.int .u8 0] 42) := ⟨_, rfl⟩
  have br : Blk W0 N 42 (u8s zero32) := by rw [hW0, ← hN]; exact born42 w
  have bel0 : Below N w W0 := by rw [hW0, ← hN]; exact (Below.refl _ _).alloc (Nat.le_refl _) _
  have s0 : W0.heap.size = N + 1 := by rw [hW0]; simp [hN]
  have HW0 := Lib.hid hW0
  have BR0 := Lib.hid br
  have BEL0 := Lib.hid bel0
  have S0 := Lib.hid s0
  clear hb hA hc hW0 br bel0 s0
  go_enter Tryd.func25, Tryd.ntmps25
  go_upto_region 1 with (fail)
  rw [← HW0.out]
  go_upto_region 2 with (go_at_call 37; refine (words37 _).mono ?_; rintro e w2 ⟨rfl, hb2, hl2⟩; have HS2 := Lib.hid hb2; have HL2 := Lib.hid hl2; clear hb2 hl2)
  obtain ⟨H, hH⟩ : ∃ H, w2.heap.size = H := ⟨_, rfl⟩
  have hHN : N + 2 ≤ H := by
    have h1 := lt_of_block HS2.out
    have h2 := S0.out
    omega
  obtain ⟨W1, hW1⟩ : ∃ x, x = w2.alloc (Obj.cells #[Value.int .u32 0, Value.int .u32 0, Value.int .u32 0, Value.int .u32 0, Value.int .u32 0, Value.int .u32 0, Value.int .u32 0, Value.int .u32 0] 61) := ⟨_, rfl⟩
  have bh : Blk W1 H 61 (u32s zero8) := by rw [hW1, ← hH]; exact born861 w2
  have bs : Blk W1 (N + 1) 60 (u32s ivs) := by rw [hW1]; have := HS2.out; rw [S0.out] at this; exact this.later _
  have br : Blk W1 N 42 (u8s zero32) := by rw [hW1]; exact (BR0.out.below HL2.out (by rw [S0.out]; omega)).later _
  have bel : Below N w W1 := by rw [hW1]; exact (BEL0.out.trans (HL2.out.mono (by rw [S0.out]; omega))).alloc (by omega) _
  have s1 : W1.heap.size = H + 1 := by rw [hW1]; simp [hH]
  have HW1 := Lib.hid hW1
  have BH1 := Lib.hid bh
  have BS1 := Lib.hid bs
  have BR1 := Lib.hid br
  have BEL1 := Lib.hid bel
  have S1 := Lib.hid s1
  have HHN := Lib.hid hHN
  clear hW1 bh bs br bel s1 hHN
  go_upto_region 3 with (fail)
  rw [← HW1.out]
  have hS0' := S0.out
  rw [hS0']
  try rw [hH]
  try rw [hN]
  clear HW1 HW0 BR0 BEL0 hS0' S0 HS2 HL2 hH
  go_wp2
  go_loopw [5] (fun i wr => ∃ k : Nat, k ≤ 8 ∧ i = .int .i64 k ∧ Blk wr H 61 (u32s (wordP k)) ∧ Sole H W1 wr) (fun i _ => 8 - (intOf i).toNat)
  case atStart => exact ⟨0, by omega, rfl, BH1.out, Sole.refl _ _⟩
  case round =>
    obtain ⟨k, hk, rfl, hm, hso⟩ := hrel
    have HM := Lib.hid hm
    have HSO := Lib.hid hso
    clear hm hso
    by_cases hlt : k < 8
    · have k0 : (0 : Int) ≤ (k : Int) := by omega
      have k1 : (k : Int) < 8 := by omega
      have cs := u32s_at (BS1.out.sole HSO.out (by have := HHN.out; omega)) (i := k) (by exact hlt)
      have ch := u32s_at HM.out (i := k) (by rw [wordP_len k hk]; exact hlt)
      have fh := HM.out.free k
      obtain ⟨x, hx⟩ : ∃ x, wat ivs k = x := ⟨_, rfl⟩
      rw [hx] at cs
      have hst := HM.out.store k (.int .u32 (x.toNat : Int))
      rw [u32s_set, ← hx, wordP_succ k hlt, hx] at hst
      have HST := Lib.hid hst
      clear hst hx
      go_wp2
      go_roundw
      case rel => exact ⟨k + 1, by omega, by go_num, HST.out, HSO.out.setCell k _⟩
      case measure => simp [intOf]; omega
    · have hk8 : k = 8 := by omega
      subst hk8
      have e8 : wordP 8 = ivs := rfl
      rw [e8] at HM
      clear e8
      have c0 := u32s_at HM.out (i := 0) (by decide)
      have f0 := HM.out.free 0
      have hx0 := h0_xor
      have hst := HM.out.store 0 (.int .u32 ((wat h0 0).toNat : Int))
      rw [u32s_set] at hst
      have hst2 : Blk (wr.setCell ⟨H, 0, none⟩ (.int .u32 ((wat h0 0).toNat : Int))) H 61 (u32s h0) := hst
      generalize wat ivs 0 = x0 at c0 hx0
      generalize wat h0 0 = x1 at hx0 hst2
      obtain ⟨W2, hW2⟩ : ∃ x, x = wr.setCell ⟨H, 0, none⟩ (.int .u32 (x1.toNat : Int)) := ⟨_, rfl⟩
      rw [← hW2] at hst2
      have so2 : Sole H W1 W2 := by rw [hW2]; exact HSO.out.setCell 0 _
      have hHN := HHN.out
      have BH2 := Lib.hid hst2
      have BR2 : Hid (Blk W2 N 42 (u8s zero32)) := BR1.out.sole so2 (by omega)
      have BEL2 : Hid (Below N w W2) := so2.below BEL1.out (by omega)
      have S2 : Hid (W2.heap.size = H + 1) := by show W2.heap.size = H + 1; rw [so2.size, S1.out]
      have HW2 := Lib.hid hW2
      clear hst hst2 hW2 so2 hHN
      go_upto_region 8 with (fail)
      rw [← HW2.out]
      clear HW2 c0 f0 hx0 HM HSO BH1 BS1 BR1 BEL1 S1
      go_wp2
      go_loopw [6] (fun i wr => ∃ k : Nat, i = .int .i64 ((64 * k : Nat) : Int) ∧ 64 * k ≤ b.length ∧ (k = 0 ∨ 64 * k < b.length) ∧ Blk wr H 61 (u32s (hsL b k)) ∧ Blk wr N 42 (u8s zero32) ∧ Below N w wr ∧ H < wr.heap.size) (fun i _ => b.length - (intOf i).toNat)
      case atStart => exact ⟨0, rfl, by omega, .inl rfl, BH2.out, BR2.out, BEL2.out, by rw [S2.out]; omega⟩
      case round =>
        obtain ⟨k, rfl, hk, hk0, hh, hr, hbel, hsz⟩ := hrel
        have HH := Lib.hid hh
        have HR := Lib.hid hr
        have HBEL := Lib.hid hbel
        have HK := Lib.hid hk0
        clear hh hr hbel hk0
        obtain ⟨A2, hcut, hby2, hna2⟩ := cut_byt (n := 64 * k) HB.out hk HC.out HA.out
        obtain ⟨T, hT⟩ : ∃ T, 64 * k = T := ⟨_, rfl⟩
        rw [hT] at hcut hby2 hk ⊢
        have HT := Lib.hid hT
        obtain ⟨q, hq⟩ : ∃ q, b.drop T = q := ⟨_, rfl⟩
        rw [hq] at hcut hby2
        have hql : q.length = b.length - T := by rw [← hq]; simp
        obtain ⟨n, hn⟩ : ∃ n, Nat.min q.length 64 = n := ⟨_, rfl⟩
        have hn1 : n ≤ q.length := by rw [← hn]; exact Nat.min_le_left _ _
        have hn2 : n ≤ 64 := by rw [← hn]; exact Nat.min_le_right _ _
        obtain ⟨Q, hQ⟩ : ∃ Q, q.take n = Q := ⟨_, rfl⟩
        have hQl : (u8s Q).length = n := by rw [u8s_len, ← hQ]; simp; omega
        have hby2r : Byt wr A2 q := hby2.keep (by rw [HN.out]; exact HBEL.out)
        have HBQ : Hid (Byt wr A2 Q) := by rw [← hQ]; exact hby2r.cut n
        have hQn : Q.length = n := by rw [u8s_len] at hQl; exact hQl
        have hpad : splice zero64 0 Q = pad Q := by
          have hz : ∀ m, zero64.drop m = List.replicate (64 - m) 0 := fun m => by unfold zero64; rw [List.drop_replicate]
          simp only [splice, pad, List.take_zero, List.nil_append, Nat.zero_add, hz]
        have hpl : (pad Q).length = 64 := by simp [pad, hQn]; omega
        have HPAD := Lib.hid hpad
        have HPL := Lib.hid hpl
        have HQT := Lib.hid hQ
        have HQN := Lib.hid hQn
        have HQLEN := Lib.hid hql
        have HNN := Lib.hid hn
        have HQ := Lib.hid hq
        have T0 : (0 : Int) ≤ (T : Int) := by omega
        have T1 : (T : Int) ≤ 4611686018427387904 := by omega
        have n0 : (0 : Int) ≤ (n : Int) := by omega
        have n1 : (n : Int) ≤ 64 := by omega
        clear hpad hn hq hT hby2 hby2r hQ hpl hQn hql
        have hPH : H < wr.heap.size := hsz
        have hNH : N < H := by have := HHN.out; omega
        by_cases hlast : T + n = b.length
        · have hmix := fun w4 => rblock_any (hsL b k) (some ⟨wr.heap.size, 0, none⟩) 64 (pad Q) b.length true w4 (hsL_len _ _) HPL.out (by omega)
          have hQq : Q = q := by rw [← HQT.out]; exact List.take_of_length_le (by have := HQLEN.out; omega)
          have hE : blockL (hsL b k) (pad Q) b.length true = endL b ((b.length - 1) / 64) := by
            have hkk : (b.length - 1) / 64 = k := by have := HT.out; have := HK.out; omega
            rw [hkk, hQq, ← HQ.out, ← HT.out]; rfl
          rw [hE] at hmix
          have hsum : sumD b = outL (endL b ((b.length - 1) / 64)) := rfl
          have hEl : (endL b ((b.length - 1) / 64)).length = 8 := blockL_len _ _ _ _
          generalize endL b ((b.length - 1) / 64) = E at hmix hsum hEl
          have HMIX := Lib.hid hmix
          have HSUM := Lib.hid hsum
          have HEL := Lib.hid hEl
          have r2 : (T : Int) + (n : Int) = (b.length : Int) := by omega
          clear hmix hsum hEl hE hQq hlast
          go_wp2_with (first | (refine mk_64 rfl rfl ?_; intro w3 hp3 hb3; have HP3 := Lib.hid hp3; have HB3 := Lib.hid hb3; have HBQ3 : Hid (Byt w3 A2 Q) := HBQ.out.keep hb3; clear hp3 hb3) | (refine cp_blk rfl (.tmp 28) (.tmp 31) 30 5 Tryd.underlying30 u8_size rfl _ _ _ _ _ _ rfl rfl wr.heap.size 0 5 (u8s zero64) (u8s Q) HP3.out (by rw [hQl]; exact HNN.out.symm) (fun hp0 => ⟨rfl, by rw [hQl] at hp0; obtain ⟨b1, o1, e1, _⟩ := HBQ3.out 0 (by rw [HQN.out]; exact hp0); exact ⟨_, e1, by have hx := HBQ3.out; rw [e1] at hx; exact hx.news⟩⟩) (by rw [hQl, u8s_len]; show 0 + n ≤ 64; omega) (u8s_one _) ?_; intro w4 hb4 hl4; rw [u8s_splice, HPAD.out] at hb4; have HB4 := Lib.hid hb4; have HL4 := Lib.hid hl4; have HH4 : Hid (Blk w4 H 61 (u32s (hsL b k))) := (HH.out.below HB3.out hPH).below hl4 hPH; have HR4 : Hid (Blk w4 N 42 (u8s zero32)) := (HR.out.below HB3.out (by omega)).below hl4 (by omega); have BEL4 : Hid (Below N w w4) := (HBEL.out.trans (HB3.out.mono (by omega))).trans (hl4.mono (by omega)); have SZ4 : Hid (H < w4.heap.size) := (show H < w4.heap.size from lt_of_block HH4.out); clear hb4 hl4) | (refine ld_row rfl 61 (.tmp 4) rfl 8 60 ar61 sz61 H 61 (u32s (hsL b k)) rfl HH4.out (by rw [u32s_len]; exact hsL_len _ _) ?_) | (go_at_call 38; refine (HMIX.out w4 HB4.out.byt).mono ?_; rintro e w5 ⟨rfl, hb5⟩; have HH5 : Hid (Blk w5 H 61 (u32s (hsL b k))) := HH4.out.below hb5 (lt_of_block HH4.out); have HR5 : Hid (Blk w5 N 42 (u8s zero32)) := HR4.out.below hb5 (lt_of_block HR4.out); have BEL5 : Hid (Below N w w5) := BEL4.out.trans (hb5.mono (by have := SZ4.out; omega)); clear hb5) | (refine st_row rfl 61 (.tmp 4) (.tmp 45) rfl 8 sz61 H 61 (u32s (hsL b k)) (u32s E) rfl rfl HH5.out (by rw [u32s_len]; exact HEL.out) (by rw [u32s_len]; exact hsL_len _ _) (u32s_one _) ?_; intro w6 hg6 hs6; have HG6 := Lib.hid hg6; have HR6 : Hid (Blk w6 N 42 (u8s zero32)) := HR5.out.sole hs6 (by omega); have BEL6 : Hid (Below N w w6) := hs6.below BEL5.out (by omega); clear hg6 hs6))
          have s6 := lt_of_block HG6.out
          obtain ⟨O, hO⟩ : ∃ O, w6.heap.size = O := ⟨_, rfl⟩
          obtain ⟨W7, hW7⟩ : ∃ x, x = w6.alloc (Obj.cells #[Value.int .u8 0, Value.int .u8 0, Value.int .u8 0, Value.int .u8 0, Value.int .u8 0, Value.int .u8 0, Value.int .u8 0, Value.int .u8 0, Value.int .u8 0, Value.int .u8 0, Value.int .u8 0, Value.int .u8 0, Value.int .u8 0, Value.int .u8 0, Value.int .u8 0, Value.int .u8 0, Value.int .u8 0, Value.int .u8 0, Value.int .u8 0, Value.int .u8 0, Value.int .u8 0, Value.int .u8 0, Value.int .u8 0, Value.int .u8 0, Value.int .u8 0, Value.int .u8 0, Value.int .u8 0, Value.int .u8 0, Value.int .u8 0, Value.int .u8 0, Value.int .u8 0, Value.int .u8 0] 42) := ⟨_, rfl⟩
          have bo : Blk W7 O 42 (u8s zero32) := by rw [hW7, ← hO]; exact born42 w6
          have hh7 : Blk W7 H 61 (u32s E) := by rw [hW7]; exact HG6.out.later _
          have hr7 : Blk W7 N 42 (u8s zero32) := by rw [hW7]; exact HR6.out.later _
          have bel7 : Below N w W7 := by rw [hW7]; exact BEL6.out.alloc (by omega) _
          rw [hO] at s6
          rw [← hW7]
          try rw [hO]
          have BO := Lib.hid bo
          have HH7 := Lib.hid hh7
          have HR7 := Lib.hid hr7
          have BEL7 := Lib.hid bel7
          have hOH : O ≠ H := by omega
          have hNO : N < O := by omega
          clear bo hh7 hr7 bel7 hW7 hO
          go_loopw [11] (fun i wr => ∃ j : Nat, j ≤ 32 ∧ i = .int .i64 j ∧ Blk wr O 42 (u8s (outQ E j)) ∧ Sole O W7 wr) (fun i _ => 32 - (intOf i).toNat)
          case atStart => exact ⟨0, by omega, rfl, by rw [outQ_zero]; exact BO.out, Sole.refl _ _⟩
          case round =>
            obtain ⟨j, hj, rfl, ho, hso⟩ := hrel
            have HO := Lib.hid ho
            have HSO := Lib.hid hso
            clear ho hso
            by_cases hlt : j < 32
            · obtain ⟨qq, hqq⟩ : ∃ q, j / 4 = q := ⟨_, rfl⟩
              obtain ⟨rr, hrr⟩ : ∃ r, j % 4 = r := ⟨_, rfl⟩
              obtain ⟨ss, hss⟩ : ∃ s, 8 * rr = s := ⟨_, rfl⟩
              have j0 : (0 : Int) ≤ (j : Int) := by omega
              have j1 : (j : Int) < 32 := by omega
              have q0 : (0 : Int) ≤ (qq : Int) := by omega
              have q1 : (qq : Int) < 8 := by omega
              have u0 : (0 : Int) ≤ (rr : Int) := by omega
              have u1 : (rr : Int) < 4 := by omega
              have v0 : (0 : Int) ≤ (ss : Int) := by omega
              have v1 : (ss : Int) < 32 := by omega
              have hh := HH7.out.sole HSO.out (fun e => hOH e.symm)
              have ch := u32s_at hh (i := qq) (by rw [HEL.out]; omega)
              have fo := HO.out.free j
              have co := HO.out.at_ j
              rw [u8s_at (by rw [outQ_len]; exact hlt)] at co
              generalize (outQ E j).getD j 0 = y0 at co
              have hsu := outQ_succ E j hlt
              rw [hqq, hrr] at hsu
              obtain ⟨x, hx⟩ : ∃ x, wat E qq = x := ⟨_, rfl⟩
              rw [hx] at ch hsu
              have e1 : (j : Int) / 4 = (qq : Int) := by omega
              have e2 : (j : Int) % 4 = (rr : Int) := by omega
              have e3 : 8 * (rr : Int) = (ss : Int) := by omega
              have bw := byW_val x rr
              rw [hss] at bw
              obtain ⟨y, hy⟩ : ∃ y, byW x rr = y := ⟨_, rfl⟩
              rw [hy] at hsu bw
              have bw2 : (x.toNat : Int) / 2 ^ ss % 256 = (y.toNat : Int) := by rw [bw]; simp
              have hst := HO.out.store j (.int .u8 (y.toNat : Int))
              rw [u8s_set, hsu] at hst
              have HST := Lib.hid hst
              clear hst hsu hx hy hqq hrr hss hh bw
              go_wp2
              refine ⟨⟨j + 1, by omega, by go_num, HST.out, HSO.out.setCell j _⟩, by simp [intOf]; omega⟩
            · have hj32 : j = 32 := by omega
              subst hj32
              rw [outQ_full] at HO
              have HR9 : Hid (Blk wr N 42 (u8s zero32)) := HR7.out.sole HSO.out (by omega)
              have BEL9 : Hid (Below N w wr) := HSO.out.below BEL7.out (by omega)
              go_wp2_with (first | (refine ld_row rfl 42 (.tmp 10) rfl 32 5 ar42 sz42 O 42 (u8s (outL E)) rfl HO.out (by rw [u8s_len]; exact outL_len _) ?_) | (refine st_row rfl 42 (.tmp 2) (.tmp 62) rfl 32 sz42 N 42 (u8s zero32) (u8s (outL E)) rfl rfl HR9.out (by rw [u8s_len]; exact outL_len _) (by rfl) (u8s_one _) ?_; intro w9 hg9 hs9; have HG9 := Lib.hid hg9; have HS9 := Lib.hid hs9; clear hg9 hs9))
              rw [HSUM.out]
              exact bodyPost_ret (v := .agg (u8s (outL E)).toArray) (results_cell_row Tryd.results25 _ _ N 42 _ (0, 0) (.array 32 5) rfl HG9.out ar42 rfl (by rw [sz42]; simp [u8s_len, outL_len])) rfl ⟨rfl, by rw [HN.out]; exact HS9.out.below BEL9.out (Nat.le_refl _)⟩
        · have hn64 : n = 64 := by
            have h1 := HNN.out
            have h2 := HQLEN.out
            rcases Nat.le_total q.length 64 with h | h
            · have h3 : n = q.length := by rw [← h1]; exact Nat.min_eq_left h
              omega
            · rw [← h1]; exact Nat.min_eq_right h
          have hlt : T + 64 < b.length := by have := HQLEN.out; omega
          obtain ⟨T2, hT2⟩ : ∃ x, T + n = x := ⟨_, rfl⟩
          have hT2k : T2 = 64 * (k + 1) := by have := HT.out; omega
          have hmix := fun w4 => rblock_any (hsL b k) (some ⟨wr.heap.size, 0, none⟩) 64 (pad Q) T2 false w4 (hsL_len _ _) HPL.out (by omega)
          have hpQ : pad Q = (b.drop (64 * k)).take 64 := by
            rw [HT.out, HQ.out, ← hn64, HQT.out]
            simp [pad, HQN.out, hn64]
          have hE : blockL (hsL b k) (pad Q) T2 false = hsL b (k + 1) := by rw [hpQ, hT2k]; rfl
          rw [hE] at hmix
          have hEl : (hsL b (k + 1)).length = 8 := hsL_len _ _
          have HEV : ∃ E, hsL b (k + 1) = E := ⟨_, rfl⟩
          obtain ⟨E, hEE⟩ := HEV
          rw [hEE] at hmix hEl
          have HEE := Lib.hid hEE
          have HMIX := Lib.hid hmix
          have HEL := Lib.hid hEl
          have HT2K := Lib.hid hT2k
          have r2 : (T : Int) + (n : Int) = (T2 : Int) := by omega
          have t0 : (0 : Int) ≤ (T2 : Int) := by omega
          have t1 : (T2 : Int) ≤ 4611686018427387904 := by omega
          have tne : ((T2 : Int) == (b.length : Int)) = false := by rw [beq_eq_false_iff_ne]; omega
          have TNE := Lib.hid tne
          clear tne
          have tle : T2 ≤ b.length := by omega
          have tlt : T2 < b.length := by omega
          clear hmix hEl hE hpQ hlast hEE hT2 hT2k hn64
          go_wp2_with (first | (refine mk_64 rfl rfl ?_; intro w3 hp3 hb3; have HP3 := Lib.hid hp3; have HB3 := Lib.hid hb3; have HBQ3 : Hid (Byt w3 A2 Q) := HBQ.out.keep hb3; clear hp3 hb3) | (refine cp_blk rfl (.tmp 28) (.tmp 31) 30 5 Tryd.underlying30 u8_size rfl _ _ _ _ _ _ rfl rfl wr.heap.size 0 5 (u8s zero64) (u8s Q) HP3.out (by rw [hQl]; exact HNN.out.symm) (fun hp0 => ⟨rfl, by rw [hQl] at hp0; obtain ⟨b1, o1, e1, _⟩ := HBQ3.out 0 (by rw [HQN.out]; exact hp0); exact ⟨_, e1, by have hx := HBQ3.out; rw [e1] at hx; exact hx.news⟩⟩) (by rw [hQl, u8s_len]; show 0 + n ≤ 64; omega) (u8s_one _) ?_; intro w4 hb4 hl4; rw [u8s_splice, HPAD.out] at hb4; have HB4 := Lib.hid hb4; have HL4 := Lib.hid hl4; have HH4 : Hid (Blk w4 H 61 (u32s (hsL b k))) := (HH.out.below HB3.out hPH).below hl4 hPH; have HR4 : Hid (Blk w4 N 42 (u8s zero32)) := (HR.out.below HB3.out (by omega)).below hl4 (by omega); have BEL4 : Hid (Below N w w4) := (HBEL.out.trans (HB3.out.mono (by omega))).trans (hl4.mono (by omega)); have SZ4 : Hid (H < w4.heap.size) := (show H < w4.heap.size from lt_of_block HH4.out); clear hb4 hl4) | (refine ld_row rfl 61 (.tmp 4) rfl 8 60 ar61 sz61 H 61 (u32s (hsL b k)) rfl HH4.out (by rw [u32s_len]; exact hsL_len _ _) ?_) | (go_at_call 38; rw [TNE.out]; refine (HMIX.out w4 HB4.out.byt).mono ?_; rintro e w5 ⟨rfl, hb5⟩; have HH5 : Hid (Blk w5 H 61 (u32s (hsL b k))) := HH4.out.below hb5 (lt_of_block HH4.out); have HR5 : Hid (Blk w5 N 42 (u8s zero32)) := HR4.out.below hb5 (lt_of_block HR4.out); have BEL5 : Hid (Below N w w5) := BEL4.out.trans (hb5.mono (by have := SZ4.out; omega)); clear hb5) | (refine st_row rfl 61 (.tmp 4) (.tmp 45) rfl 8 sz61 H 61 (u32s (hsL b k)) (u32s E) rfl rfl HH5.out (by rw [u32s_len]; exact HEL.out) (by rw [u32s_len]; exact hsL_len _ _) (u32s_one _) ?_; intro w6 hg6 hs6; have HG6 := Lib.hid hg6; have HR6 : Hid (Blk w6 N 42 (u8s zero32)) := HR5.out.sole hs6 (by omega); have BEL6 : Hid (Below N w w6) := hs6.below BEL5.out (by omega); clear hg6 hs6))
          have s6 := lt_of_block HG6.out
          go_roundw
          case rel =>
           refine ⟨_, _, _, _, _, _, _, _, _, _, _, _, _, _, _, _, _, _, _, _, _, _, _, _, ?_, rfl⟩
           exact ⟨k + 1, by rw [← HT2K.out], by rw [← HT2K.out]; exact tle, .inr (by rw [← HT2K.out]; exact tlt), by rw [HEE.out]; exact HG6.out, HR6.out, BEL6.out, s6⟩
          case measure =>
           have h1 := HT2K.out
           have h2 := HT.out
           clear HMIX TNE
           simp [intOf]
           omega
end Go.Proofs.YtcnnijhfliahgaaDoor
