/- The iterator over the places of the bits of bytes (43): its contract. -/
import Derived.Test.YtdchaojgldfagaaDoorPaP
namespace Go.Proofs.YtdchaojgldfagaaDoor
open Go.RowKit Go.Shelf
set_option linter.unusedVariables false
attribute [local go_sem] Oper.semAt_some

def bytAt (W : World) (B n₀ : Nat) (A : Option Addr) (l : List UInt8) : Prop :=
  ∀ k (h : k < l.length), ∃ b o, A = some ⟨b, o, none⟩ ∧ b < n₀ ∧ b ≠ B ∧ W.cell? ⟨b, o + k, none⟩ = some (.int .u8 ((l[k]).toNat : Int))

set_option maxRecDepth 100000 in
set_option maxHeartbeats 2000000 in
theorem ones43 (n : Nat) (hn : 1 ≤ n) (l Bl Bw B n₀ : Nat) (A : Option Addr) (cap w M : Nat) (ls : List UInt8) (xs : List (Fin M)) (hxs : xs.map Fin.val = posAt w 0 (ls.map UInt8.toNat)) (hw : w ≤ 64) (hlen : ls.length ≤ 40000) (hM : M ≤ 1000000)
    (J Jx : List (Fin M) → World → Prop) (hJd : ∀ pre W, J pre W → J pre W.drew)
    (hY : ∀ pre x W, J pre W → pre.length < xs.length → YieldAt Fence.wide (n - 1) Tryd.prog l #[.int .i64 (x.val : Int)] W fun e W' =>
      (e = .returned (.bool true) ∧ J (pre ++ [x]) W' ∧ Kept B n₀ W W') ∨ (e = .returned (.bool false) ∧ Jx (pre ++ [x]) W'))
    (W : World) (hBl : W.cell? ⟨Bl, 0, none⟩ = some (.slice A ls.length cap)) (hBw : W.cell? ⟨Bw, 0, none⟩ = some (.int .i64 (w : Int))) (lBw : Bw < n₀) (nBw : Bw ≠ B) (hN : bytAt W B n₀ A ls) (hT : TabAt W) (l2 : 0 < n₀) (n2 : 0 ≠ B) (h0 : J [] W) :
    CallsIn Fence.wide n Tryd.prog 68 #[.func (.yield l) #[] #[], .pointer (some ⟨Bl, 0, none⟩), .pointer (some ⟨Bw, 0, none⟩)] W fun e W' => (∃ v, e = .returned v) ∧
      ((∃ ys, ys = xs ∧ J ys W') ∨ (∃ pre, pre <+: xs ∧ Jx pre W')) := by
  have HN := Lib.hid hN
  have HT := Lib.hid hT
  have HXS := Lib.hid hxs
  have HY := Lib.hid hY
  have HBW := Lib.hid hBw
  have HJD := Lib.hid hJd
  clear hN hT hxs hY hBw hJd
  refine callsIn_of_wp Tryd.func68 rfl trivial ?_ rfl
  simp only [Tryd.ntmps68, List.size_toArray, List.length_cons, List.length_nil, Nat.reduceAdd, Nat.reduceSub, Array.replicate_succ, Array.replicate_zero, List.push_toArray, List.append_toArray, List.nil_append, List.cons_append]
  gi_wp2
  gi_loopw [9] (fun i wr => ∃ k m : Nat, k ≤ ls.length ∧ i = .int .i64 k ∧ m ≤ xs.length ∧ (xs.drop m).map Fin.val = posAt w k ((ls.drop k).map UInt8.toNat) ∧ J (xs.take m) wr ∧ Kept B n₀ W wr)
    (fun i _ => ls.length - (intOf i).toNat)
  case atStart => exact ⟨0, 0, Nat.zero_le _, rfl, Nat.zero_le _, HXS.out, h0, Kept.refl _ _ _⟩
  case round =>
    obtain ⟨k, m, hk, rfl, hm, hd, hJs, hke⟩ := hrel
    have HJ := Lib.hid hJs
    have HKE := Lib.hid hke
    have HD := Lib.hid hd
    clear hJs hke hd
    by_cases hlt : k < ls.length
    · obtain ⟨b, o, rfl, hb1, hb2, hc⟩ := HN.out k hlt
      have hcx := (HKE.out.cell (p := ⟨b, o + k, none⟩) hb1 hb2).trans hc
      have hD2 := HD.out
      rw [List.drop_eq_getElem_cons hlt, List.map_cons, posAt] at hD2
      generalize ls[k] = x at hc hcx hD2
      have hx := x.toNat_lt
      generalize x.toNat = y at hcx hD2 hx hc
      have HD2 := Lib.hid hD2
      have HK : Hid (k < ls.length) := hlt
      clear hD2 hc HD
      gi_wp2
      gi_loopw [6] (fun r wr2 => ∃ z m2 : Nat, r = .int .u64 (z : Int) ∧ z ≤ y ∧ m2 ≤ xs.length ∧ (xs.drop m2).map Fin.val = (bitsW z).map (k * w + ·) ++ posAt w (k + 1) ((ls.drop (k + 1)).map UInt8.toNat) ∧ J (xs.take m2) wr2 ∧ Kept B n₀ W wr2)
        (fun r _ => (intOf r).toNat)
      case atStart => exact ⟨y, m, rfl, Nat.le_refl _, hm, HD2.out, HJ.out, HKE.out⟩
      case round =>
        obtain ⟨z, m2, rfl, hz, hm2, hd2, hJ2, hke2⟩ := hrel
        by_cases hz0 : z = 0
        · subst hz0
          rw [bitsW_zero] at hd2
          simp only [List.map_nil, List.nil_append] at hd2
          gi_wp2
          go_roundw
          case rel => exact ⟨k + 1, m2, HK.out, by go_num, hm2, hd2, hJ2, hke2⟩
          case measure => simp [intOf]; omega
        · rw [bitsW_pos hz0, List.map_cons, List.cons_append] at hd2
          have hm4 : m2 < xs.length := by
            apply Nat.lt_of_not_le
            intro h
            rw [List.drop_of_length_le h] at hd2
            simp at hd2
          rw [List.drop_eq_getElem_cons hm4, List.map_cons] at hd2
          injection hd2 with hd3 hd4
          obtain ⟨x, hxx⟩ : ∃ x, xs[m2] = x := ⟨_, rfl⟩
          have htk : xs.take (m2 + 1) = xs.take m2 ++ [x] := by rw [List.take_succ_eq_append_getElem hm4, hxx]
          rw [hxx] at hd3
          have hxM := x.isLt
          obtain ⟨q, hq⟩ : ∃ q, k * w = q := ⟨_, rfl⟩
          obtain ⟨t, ht⟩ : ∃ t, Lib.ctz 64 z = t := ⟨_, rfl⟩
          obtain ⟨z2, hz2⟩ : ∃ z2, z &&& (z - 1) = z2 := ⟨_, rfl⟩
          rw [hz2] at hd4
          have hz2l : z2 < z := by have := @Nat.and_le_right z (z - 1); omega
          have eq1 : (k : Int) * (w : Int) = (q : Int) := by rw [← hq]; simp
          have hq1 : q ≤ 1000000 := by rw [hq] at hd3; omega
          have hjd := HJD.out _ _ hJ2
          obtain ⟨fn, tmps, assign, body, hy, hR⟩ := HY.out (xs.take m2) x wr.drew hjd (by rw [List.length_take]; omega)
          obtain ⟨p, hp⟩ : ∃ p, q + t = p := ⟨_, rfl⟩
          rw [hd3] at hy
          simp only [hq, ht, hp] at hy hd3
          have hp1 : p ≤ 1000000 := by omega
          have eq2 : (q : Int) + (t : Int) = (p : Int) := by rw [← hp]; simp
          have hwq : IntKind.i64.wrap (q : Int) = (q : Int) := wrap_i64_of (by omega) (by omega)
          have hwp : IntKind.i64.wrap (p : Int) = (p : Int) := wrap_i64_of (by omega) (by omega)
          have hTZ := tz64_any z (by omega) hz0 wr.drew (fun j hj => (hke2.cell (p := ⟨0, j, none⟩) l2 n2).trans (HT.out j hj))
          have hw2 := (hke2.cell (p := ⟨Bw, 0, none⟩) lBw nBw).trans HBW.out
          rw [ht] at hTZ
          have hTZ' := (callsIn_wide (n := n - 1)).2 hTZ
          have hand : bits .and .u64 (z : Int) ((z : Int) - 1) = (z2 : Int) := by rw [show (z : Int) - 1 = ((z - 1 : Nat) : Int) by omega, bits_and_u64_nat z _ (by omega) (by omega), hz2]
          have hR2 := RoundIn.mono hR (R' := fun e W' => ∃ bb : Bool, e = Ending.returned (.bool bb) ∧ ((bb = true ∧ J (xs.take m2 ++ [x]) W' ∧ Kept B n₀ wr.drew W') ∨ (bb = false ∧ Jx (xs.take m2 ++ [x]) W'))) (by
            rintro e W' (⟨rfl, h1, h2⟩ | ⟨rfl, h1⟩)
            · exact ⟨true, rfl, .inl ⟨rfl, h1, h2⟩⟩
            · exact ⟨false, rfl, .inr ⟨rfl, h1⟩⟩)
          have hmx : Tryd.prog.follows .mixedOrders = true := by kernel_rfl
          clear hR
          gi_wp2
          gi_region_with_o (first | (refine ⟨trivial, ?_⟩; gi_at_call 64; refine hTZ'.mono ?_; rintro e w' ⟨rfl, rfl⟩) | (refine hR2.mono ?_; rintro e W3 ⟨bb, rfl, h3⟩))
          all_goals rcases h3 with ⟨rfl, hj3, hk3⟩ | ⟨rfl, hx3⟩
          all_goals gi_wp2
          all_goals first
            | (refine bodyPost_ret (results_none rfl _ _ _) rfl ?_
               exact ⟨⟨_, rfl⟩, .inr ⟨_, by rw [← htk]; exact List.take_prefix _ _, hx3⟩⟩)
            | (go_roundw
               case rel => exact ⟨z2, m2 + 1, rfl, by omega, hm4, hd4, by rw [htk]; exact hj3, fun i hi hB => (hk3 i hi hB).trans (hke2 i hi hB)⟩
               case measure => simp [intOf]; omega)
    · obtain rfl : k = ls.length := by omega
      have hd := HD.out
      rw [List.drop_length] at hd
      have hm3 : m = xs.length := by
        have := congrArg List.length hd
        simp [posAt] at this
        omega
      subst hm3
      have hJ := HJ.out
      rw [List.take_length] at hJ
      gi_wp2
      go_end0
      exact ⟨⟨_, rfl⟩, .inl ⟨_, rfl, hJ⟩⟩
end Go.Proofs.YtdchaojgldfagaaDoor
