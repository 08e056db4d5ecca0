/- The document's Encode: form 1. -/
import Derived.Test.YtjmkipbolldhgaaDoorDcQ
namespace Go.Proofs.YtjmkipbolldhgaaDoor
open Go.RowKit
set_option linter.unusedVariables false

theorem num_oneD (w : World) (t : TypeId) (x : Int) (s : W64) (hx : x = (s.toNat : Int)) : Num (w.alloc (.cells #[Value.int .u64 x] t)) (some ⟨w.heap.size, 0, none⟩) [s] := by
  subst hx
  intro i hi
  have h0 : i = 0 := by simpa using hi
  subst h0
  exact ⟨w.heap.size, 0, rfl, (Blk.born w t [Value.int .u64 (s.toNat : Int)]).at_ 0⟩

theorem own_below {w w' : World} {B : Nat} {v : Value} {l : List W64} (h : OwnN w B v l) (hb : Below w.heap.size w w') : OwnN w' B v l := by
  refine ⟨h.1, ?_⟩
  rcases h.2 with hn | ⟨g, cap, cur, rfl, hg0, hg, rest⟩
  · exact .inl hn
  · exact .inr ⟨g, cap, cur, rfl, hg0, (hb.block g (lt_of_block hg)).trans hg, rest⟩
set_option maxRecDepth 100000 in
set_option maxHeartbeats 1000000 in
theorem renc1_any (A : Option Addr) (cap : Nat) (l : List Tx) (W : World) (hl : Strs W A l) (hr : rightT l) :
    Calls Tryd.prog 9 #[.int .i64 1, .slice A l.length cap] W (LaidT W (encT 1 l)) := by
  have his := refright7_any A cap l W hl (by have := hr.1; omega) (fun x hx => by have := hr.2 x hx; omega)
  rw [decide_eq_true hr] at his
  have HIS := Lib.hid his
  have HRIS := Lib.hid (fun (w1 : World) (h : Below W.heap.size W w1) => rising_any A cap l w1 (hl.keep h) hr)
  have hrr := rise_right hr
  obtain ⟨R, hR⟩ : ∃ R, riseL l = R := ⟨_, rfl⟩
  obtain ⟨D, hD⟩ : ∃ D, l.map (plW R) = D := ⟨_, rfl⟩
  have hDl : D.length = l.length := by rw [← hD, List.length_map]
  have hDs : ∀ k (h : k < l.length), D.take (k + 1) = D.take k ++ [plW R l[k]] := fun k h => by
    rw [List.take_succ_eq_append_getElem (by rw [hDl]; exact h)]; subst hD; simp
  have hri : Rise R := by rw [← hR]; exact rise_rise l
  have hfin : encT 1 l = (([1] ++ num R.length ++ R.flatMap txt) ++ [UInt8.ofNat (widL D)]) ++ pkB (widL D : Int) D := by
    rw [← hD, ← hR]
    show UInt8.ofNat 1 :: (num (riseL l).length ++ (riseL l).flatMap txt ++ packD (l.map (plW (riseL l)))) = _
    unfold packD
    simp
  have htot := encT_len (f := 1) hr
  rw [hfin] at htot ⊢
  rw [hR] at hrr HRIS
  have hwl := widL_le D
  have hd96 : D.length ≤ 4096 := by rw [hDl]; exact hr.1
  have HWID := Lib.hid (fun (A : Option Addr) (c : Nat) (w1 : World) (h : Num w1 A D) => refwidth_any A c D w1 h (by omega))
  have HPK : Hid (∀ (A : Option Addr) (c : Nat) (w1 : World), Num w1 A D → Calls Tryd.prog 27 #[.int .i64 (widL D : Int), .slice A D.length c] w1 fun e W' => e = .returned (.tuple #[.slice (some ⟨w1.heap.size, 0, none⟩) (pkB (widL D : Int) D).length (pkB (widL D : Int) D).length, .int .i64 0]) ∧ Blk W' w1.heap.size 5 (u8s (pkB (widL D : Int) D)) ∧ Below w1.heap.size w1 W') := fun A c w1 h => by
    have e : pkB (widL D : Int) D = packL ((D.length * widL D + 7) / 8) (bitsP (widL D) D) := if_pos (pkE_zero.1 (packE_self hd96))
    rw [e, packL_len]
    refine (refpack_any (widL D) A c D w1 h hwl hd96).mono ?_
    rintro x W' (⟨_, h1, h2, h3⟩ | ⟨h, _⟩)
    · exact ⟨h1, h2, h3⟩
    · omega
  have hcv : IntKind.u8.wrap ((widL D : Nat) : Int) = ((UInt8.ofNat (widL D)).toNat : Int) := by rw [IntKind.wrap_u8, UInt8.toNat_ofNat']; omega
  obtain ⟨wc, hwc⟩ : ∃ wc, UInt8.ofNat (widL D) = wc := ⟨_, rfl⟩
  rw [hwc] at hcv htot ⊢
  obtain ⟨pk, hpk⟩ : ∃ pk, pkB (widL D : Int) D = pk := ⟨_, rfl⟩
  rw [hpk] at HPK htot ⊢
  generalize widL D = wd at *
  obtain ⟨b1, hb1⟩ : ∃ x, [1] ++ num R.length = x := ⟨_, rfl⟩
  have hb1l : b1.length ≤ 11 := by rw [← hb1, List.length_append]; have := (num_len R.length).2; simp; omega
  have HNUMB := Lib.hid (fun (A0 : Option Addr) (w1 : World) (h : Byt w1 A0 [1]) (hA : A0 = none → (1 : Nat) = 0) => refnumber_any A0 1 R.length [1] w1 h hA (by simp) (by have := hrr.1; omega))
  rw [hb1] at htot HNUMB ⊢
  obtain ⟨DD, hDD⟩ : ∃ DD : Nat → List UInt8, DD = fun k => b1 ++ (R.take k).flatMap txt := ⟨_, rfl⟩
  have hfn : b1 ++ R.flatMap txt = DD R.length := by rw [hDD]; simp only [List.take_length]
  have hd0 : b1 = DD 0 := by rw [hDD]; simp
  have hst : ∀ k (h : k < R.length), DD (k + 1) = DD k ++ txt R[k] := fun k h => by
    rw [hDD]; simp only [List.take_succ_eq_append_getElem h, List.flatMap_append, List.flatMap_cons, List.flatMap_nil, List.append_nil, List.append_assoc]
  have hdl : ∀ k, (DD k).length ≤ 5000000 := fun k => by
    rw [hDD]
    exact own_app_len (by omega) (fun x hx => hrr.2 x (List.mem_of_mem_take hx)) (Nat.le_trans (List.length_take_le' _ _) hrr.1)
  obtain ⟨b2, hb2⟩ : ∃ x, b1 ++ R.flatMap txt = x := ⟨_, rfl⟩
  rw [hb2] at htot hfn ⊢
  obtain ⟨b3, hb3⟩ : ∃ x, b2 ++ [wc] = x := ⟨_, rfl⟩
  rw [hb3] at htot ⊢
  have HTOT : Hid (b2.length + 1 = b3.length ∧ b3.length + pk.length ≤ 5000000) := by
    refine ⟨by rw [← hb3, List.length_append]; rfl, ?_⟩
    rw [List.length_append] at htot
    exact htot
  have HD0 := Lib.hid hd0
  have HSTEP := Lib.hid hst
  have HDL := Lib.hid hdl
  have HFN := Lib.hid hfn
  have HB3 := Lib.hid hb3
  have HCV := Lib.hid hcv
  have HRR := Lib.hid hrr
  have HDS := Lib.hid hDs
  have HRI := Lib.hid hri
  have HL := Lib.hid hl
  obtain ⟨m, hm⟩ : ∃ x, R.length = x := ⟨_, rfl⟩
  obtain ⟨n, hln⟩ : ∃ x, l.length = x := ⟨_, rfl⟩
  rw [hln] at hDl
  rw [hDl] at HPK HWID
  rw [hm] at HNUMB HFN
  rw [hln] at HIS HRIS ⊢
  obtain ⟨np, hnp⟩ : ∃ x, pk.length = x := ⟨_, rfl⟩
  obtain ⟨n2, hn2⟩ : ∃ x, b2.length = x := ⟨_, rfl⟩
  obtain ⟨n3, hn3⟩ : ∃ x, b3.length = x := ⟨_, rfl⟩
  rw [hnp] at HPK
  have HN2 := Lib.hid hn2
  have HN3 := Lib.hid hn3
  have HNP := Lib.hid hnp
  have HM := Lib.hid hm
  have HLN := Lib.hid hln
  have HDLN := Lib.hid hDl
  have hn96 : n ≤ 4096 := by rw [← hln]; exact hr.1
  have hm96 : m ≤ 4096 := by rw [← hm]; exact hrr.1
  have hmu : IntKind.u64.wrap (m : Int) = (m : Int) := by rw [IntKind.wrap_u64]; omega
  unfold Made at HNUMB
  clear hl hr his hrr hR hD hDl hDs hri hfin htot hwl hd96 hcv hwc hpk hb1 hb1l hDD hfn hd0 hst hdl hb2 hb3 hm hln hnp hn2 hn3
  go_enter Tryd.func9, Tryd.ntmps9
  go_wp2_with (first | (go_at_call 21; refine HIS.out.mono ?_; rintro e w1 ⟨rfl, hb⟩; have HB := Lib.hid hb; clear hb) | (go_at_call 22; refine (HRIS.out _ (HB.out.alloc HB.out.size _)).mono ?_; rintro e w2 ⟨vR, rfl, hoR, hbR⟩; obtain ⟨AR, cR, rfl, hSR, hq1, hq2, hq3⟩ := hoR.form; clear hq1 hq2 hq3; rw [HM.out]; have HSR := Lib.hid hSR; have HY1 : Hid (Byt w2 (some ⟨w1.heap.size, 0, none⟩) [1]) := (byt_one w1 1 _ rfl).keep hbR; have E2 : Hid (Below W.heap.size W w2) := (HB.out.alloc HB.out.size _).trans (hbR.mono (HB.out.alloc HB.out.size _).size); clear hoR hbR hSR) | (go_at_call 23; refine (HNUMB.out _ w2 HY1.out (by simp)).mono ?_; rintro e w3 ⟨v3, rfl, ho3, hb3⟩; rw [HD0.out] at ho3; have O3 := Lib.hid ho3; have E3 := Lib.hid hb3; clear ho3 hb3))
  go_loopw [7, 9] (fun v i wr => ∃ k : Nat, k ≤ m ∧ i = .int .i64 k ∧ Own wr w2.heap.size v (DD k) ∧ Below w2.heap.size w2 wr) (fun _ i _ => m - (intOf i).toNat)
  case atStart => exact ⟨0, by omega, rfl, O3.out, E3.out⟩
  case round =>
    obtain ⟨k, hk, rfl, hown, hbel⟩ := hrel
    obtain ⟨Ab, cb, rfl, _, _, _, _⟩ := hown.form
    obtain ⟨bb, hbb⟩ : ∃ bb, DD k = bb := ⟨_, rfl⟩
    rw [hbb] at hown ⊢
    obtain ⟨nb, hnb⟩ : ∃ nb, bb.length = nb := ⟨_, rfl⟩
    rw [hnb] at hown ⊢
    have HOWN := Lib.hid hown
    have HBEL := Lib.hid hbel
    by_cases hlt : k < m
    · have hk1 : k < R.length := by rw [HM.out]; exact hlt
      obtain ⟨b, o, rfl, hca⟩ := (HSR.out.keep hbel) k hk1
      have hcell := hca
      have hs := HSTEP.out k hk1
      have hbl := HDL.out k
      have hxl := HRR.out.2 _ (List.getElem_mem hk1)
      have hcall := fun w => rtext_call R[k] w hxl
      have htl := txt_len hxl
      generalize txt R[k] = tx at hs hcall htl
      generalize str R[k] = sx at hcell hcall
      rw [hbb] at hs hbl
      unfold MadeT at hcall
      have HCALL := Lib.hid hcall
      have HST := Lib.hid hs
      have HLE : Hid (bb.length + tx.length ≤ 140737488355328) := by show _ ≤ _; omega
      have HK : Hid (k < m) := hlt
      clear hs hcall hown hbel hbb hnb hca hk1 hbl hxl htl
      go_wp2_with (first | (go_at_call 24; refine (HCALL.out _).mono ?_; rintro e w1 ⟨v1, rfl, ho1, hb1⟩; obtain ⟨A1, c1, rfl, hy1, hn1, _, _⟩ := ho1.form; have HY1 := Lib.hid hy1; have HN1 := Lib.hid hn1; have O1 := Lib.hid (HOWN.out.below hb1); have E1 := Lib.hid (HBEL.out.trans (hb1.mono HBEL.out.size)); obtain ⟨n1, hn11⟩ : ∃ x, tx.length = x := ⟨_, rfl⟩; have HN11 := Lib.hid hn11; rw [hn11]; clear ho1 hb1 hy1 hn1 hn11) | (refine app_byt w2 rfl _ _ rfl (.slice Ab nb cb) bb rfl O1.out E1.out A1 n1 c1 tx rfl HN11.out.symm HY1.out HN1.out (by have := HLE.out; omega) ?_; intro v6 w6 hown6 hbel6 _; rw [← HST.out] at hown6; have O6 := Lib.hid hown6; have E6 := Lib.hid hbel6; clear hown6 hbel6))
      go_roundw
      case rel => exact ⟨k + 1, HK.out, by go_num, O6.out, E6.out⟩
      case measure => simp [intOf]; have := HK.out; omega
    · obtain rfl : k = m := by omega
      have hb2e : bb = b2 := hbb.symm.trans HFN.out.symm
      subst hb2e
      have hnbe : nb = n2 := hnb.symm.trans HN2.out
      subst hnbe
      have hSR5 := HSR.out.keep hbel
      have HSR5 := Lib.hid hSR5
      have E5 : Hid (Below W.heap.size W wr) := E2.out.trans (hbel.mono E2.out.size)
      have O5 : Hid (Own wr W.heap.size (.slice Ab nb cb) bb) := hown.base E2.out.size
      clear hown hbel hbb hnb hSR5 HOWN HBEL HSTEP HDL HSR hlt hk
      generalize wr = wm at *
      go_wp2
      go_loopw [12, 13] (fun v i wr => ∃ k : Nat, k ≤ n ∧ i = .int .i64 k ∧ OwnN wr wm.heap.size v (D.take k) ∧ Below wm.heap.size wm wr) (fun _ i _ => n - (intOf i).toNat)
      case atStart => exact ⟨0, by omega, rfl, World.ownsRow_nil wm _ _ _, Below.refl _ _⟩
      case round =>
        obtain ⟨j, hj, rfl, hown, hbel⟩ := hrel
        obtain ⟨AN, cN, rfl, hnum, hc5⟩ := hown.form
        have hkl : (D.take j).length = j := by rw [List.length_take, HDLN.out]; omega
        have HOWN5 := Lib.hid hown
        have HBEL5 := Lib.hid hbel
        by_cases hlt : j < n
        · have hj1 : j < l.length := by rw [HLN.out]; exact hlt
          obtain ⟨b, o, rfl, hca⟩ := HL.out j hj1
          have hcell := cell_lo (E5.out.trans (hbel.mono E5.out.size)) hca
          have hs := HDS.out j hj1
          obtain ⟨x, hx⟩ : ∃ x, l[j] = x := ⟨_, rfl⟩
          rw [hx] at hs hcell
          have hpla := fun (w : World) (h : Strs w AR R) => place_any AR cR R x w h HRI.out (by have := HM.out; omega)
          have hz : ((plc R x : Nat) : Int) = ((plW R x).toNat : Int) := by
            have := plc_le R x
            have := HM.out
            unfold plW; rw [BitVec.toNat_ofNat]; omega
          have hpm : plc R x ≤ 4096 := by have := plc_le R x; have := HM.out; omega
          rw [HM.out] at hpla
          obtain ⟨sw, hsw⟩ : ∃ sw, plW R x = sw := ⟨_, rfl⟩
          rw [hsw] at hs hz
          generalize plc R x = p at *
          have hpw : IntKind.u64.wrap (p : Int) = (p : Int) := by rw [IntKind.wrap_u64]; omega
          generalize decide (x ∈ R) = dd at *
          generalize str x = sx at *
          have HP := Lib.hid hpla
          have HS := Lib.hid hs
          have HZ := Lib.hid hz
          have HK : Hid (j < n) := hlt
          have HKL : Hid ((D.take j).length + 1 ≤ 17000000000000) := by show _ ≤ _; omega
          have HSR6 := Lib.hid (HSR5.out.keep hbel)
          rw [hkl] at HOWN5 ⊢
          clear hs hown hbel hnum hc5 hkl hz hsw hx hca hj1 hpla
          go_wp2_with (first | (go_at_call 25; refine (HP.out _ HSR6.out).mono ?_; rintro e w1 ⟨rfl, hb1⟩; have O1 : Hid (OwnN w1 wm.heap.size (.slice AN j cN) (D.take j)) := own_below HOWN5.out hb1; have E1 := Lib.hid (HBEL5.out.trans (hb1.mono HBEL5.out.size)); clear hb1) | (refine app_num wm rfl _ _ rfl (.slice AN j cN) (D.take j) rfl (World.ownsRow.alloc O1.out _) (E1.out.alloc E1.out.size _) (some ⟨_, 0, none⟩) 1 1 [sw] rfl rfl (num_oneD _ _ _ sw HZ.out) (by simp) HKL.out ?_; intro v6 w6 hown6 hbel6; rw [← HS.out] at hown6; have O6 := Lib.hid hown6; have E6 := Lib.hid hbel6; clear hown6 hbel6))
          go_roundw
          case rel => exact ⟨j + 1, HK.out, by go_num, O6.out, E6.out⟩
          case measure => simp [intOf]; have := HK.out; omega
        · obtain rfl : j = n := by omega
          have hDj : D.take j = D := List.take_of_length_le (by rw [HDLN.out]; exact Nat.le_refl _)
          rw [hDj] at hnum hown hkl ⊢
          have HNUM := Lib.hid hnum
          obtain ⟨X, hX⟩ : ∃ X, wr.heap.size = X := ⟨_, rfl⟩
          have o5 := O5.out.below hbel
          have HNX : Hid ((Value.slice Ab nb cb).ownBlock ≠ some X) := (fun e => by have h1 := (World.ownsRow.lt o5 X e).2; omega)
          have OW := Lib.hid o5
          have EW : Hid (Below W.heap.size W wr) := E5.out.trans (hbel.mono E5.out.size)
          have HXX := Lib.hid hX
          rw [hkl]
          clear hDj hnum hown hbel hc5 o5 hX hkl HOWN5 HBEL5 HSR5 HRI HDS HL
          go_wp2_with (first | (go_at_call 26; refine (HWID.out _ _ _ HNUM.out).mono ?_; rintro e w5 ⟨rfl, rfl⟩) | (go_at_call 27; refine (HPK.out _ _ _ HNUM.out).mono ?_; rintro e w6 ⟨rfl, y6, hb6⟩; have O6 := Lib.hid (OW.out.below hb6); have E6 : Hid (Below W.heap.size W w6) := EW.out.trans (hb6.mono EW.out.size); rw [HXX.out] at y6 ⊢; have Y6 := Lib.hid y6; clear y6 hb6) | (refine app_byt W rfl _ _ rfl (.slice Ab nb cb) bb rfl (O6.out.alloc _) (E6.out.alloc E6.out.size _) (some ⟨w6.heap.size, 0, none⟩) 1 1 [wc] rfl rfl (byt_one w6 wc _ HCV.out) (by simp) (by have := HTOT.out; simp; omega) ?_; intro v7 w7 hown7 hbel7 hg7; rw [HB3.out] at hown7; have Y7 := Lib.hid (blk_grown hg7.1 (Y6.out.later _) HNX.out); obtain ⟨A7, c7, rfl, _, _, _, _⟩ := hown7.form; rw [HN3.out] at hown7 ⊢; have O7 := Lib.hid hown7; have E7 := Lib.hid hbel7; clear hown7 hbel7 hg7) | (refine app_byt W rfl _ _ rfl (.slice A7 n3 c7) b3 rfl O7.out E7.out (some ⟨X, 0, none⟩) np np pk rfl HNP.out.symm Y7.out.byt (by simp) (by have := HTOT.out; omega) ?_; intro v8 w8 hown8 hbel8 _; have O8 := Lib.hid hown8; have E8 := Lib.hid hbel8; clear hown8 hbel8))
          go_ret2
          exact ⟨_, rfl, O8.out, E8.out⟩
end Go.Proofs.YtjmkipbolldhgaaDoor
