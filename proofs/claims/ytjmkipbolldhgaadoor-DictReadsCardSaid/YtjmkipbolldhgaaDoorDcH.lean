/- The walk of stackyardlaw07.DictBack. -/
import Derived.Test.YtjmkipbolldhgaaDoorDcG
namespace Go.Proofs.YtjmkipbolldhgaaDoor
open Go.RowKit
set_option linter.unusedVariables false

/-- A list and whether, handed back. -/
def LsT (W : World) (l : List Tx) (er : Int) (e : Ending) (W' : World) : Prop := ∃ A c, e = .returned (.tuple #[.slice A l.length c, .int .i64 er]) ∧ Strs W' A l ∧ l.length ≤ c ∧ Below W.heap.size W W'
theorem DecTR.some {W : World} {b : List UInt8} {n : Int} {l : List Tx} (hl : decT b n l) {e : Ending} {W' : World} (h : DecTR W b n e W') : LsT W l 0 e W' := by
  obtain ⟨hb, ⟨A, c, l', _, hu, rfl, hi, hc⟩ | ⟨hno, _⟩⟩ := h
  · obtain rfl := hu l hl
    exact ⟨A, c, rfl, hi, hc, hb⟩
  · exact absurd hl (hno l)
theorem DecTR.none {W : World} {b : List UInt8} {n : Int} (hl : ∀ l, ¬ decT b n l) {e : Ending} {W' : World} (h : DecTR W b n e W') : LsT W [] (if n < 0 ∨ 4096 < n then 2 else 70) e W' := by
  obtain ⟨hb, ⟨A, c, l', h1, _⟩ | ⟨_, rfl⟩⟩ := h
  · exact absurd h1 (hl l')
  · exact ⟨Option.none, 0, rfl, fun k hk => absurd hk (by simp), Nat.le_refl _, hb⟩

set_option maxRecDepth 100000 in
set_option maxHeartbeats 2000000 in
theorem same7_any (A B : Option Addr) (cap cap2 : Nat) (l m : List Tx) (W : World) (hl : Strs W A l) (hm : Strs W B m) (hn : l.length ≤ 4000000000000000000) (hn2 : m.length ≤ 4000000000000000000) :
    Calls Tryd.prog 14 #[.slice A l.length cap, .slice B m.length cap2] W fun e W' => e = .returned (.bool (decide (l = m))) ∧ Below W.heap.size W W' := by
  by_cases hlen : l.length = m.length
  · obtain ⟨n, hln⟩ : ∃ n, l.length = n := ⟨_, rfl⟩
    have hmn : m.length = n := by omega
    have HL := Lib.hid hl
    have HM := Lib.hid hm
    have HLN := Lib.hid hln
    have HMN := Lib.hid hmn
    rw [hln, hmn]
    have HREF : Hid (Below W.heap.size W W) := Below.refl _ _
    rw [hln] at hn
    clear hl hm hln hmn hlen hn2
    go_enter Tryd.func14, Tryd.ntmps14
    go_wp2
    go_loopw [5] (fun i wr => ∃ k : Nat, k ≤ n ∧ i = .int .i64 k ∧ l.take k = m.take k ∧ Below W.heap.size W wr) (fun i _ => n - (intOf i).toNat)
    case atStart => exact ⟨0, by omega, rfl, rfl, HREF.out⟩
    case round =>
      obtain ⟨k, hk, rfl, htk, hbel⟩ := hrel
      have HTK := Lib.hid htk
      have HBEL := Lib.hid hbel
      by_cases hlt : k < n
      · have h1 : k < l.length := by rw [HLN.out]; exact hlt
        have h2 : k < m.length := by rw [HMN.out]; exact hlt
        obtain ⟨b1, o1, rfl, hx⟩ := (HL.out.keep hbel) k h1
        obtain ⟨b2, o2, rfl, hy⟩ := (HM.out.keep hbel) k h2
        have hgd : l[k] = m[k] → l.take (k + 1) = m.take (k + 1) := fun e => by
          rw [List.take_succ_eq_append_getElem h1, List.take_succ_eq_append_getElem h2, htk, e]
        have hbd : l[k] ≠ m[k] → ¬ l = m := fun h e => h (by subst e; rfl)
        generalize l[k] = x at hx hgd hbd
        generalize m[k] = y at hy hgd hbd
        have hstr : x ≠ y → ((str x).toList == (str y).toList) = false := fun h => str_ne h
        have HGD := Lib.hid hgd
        have HBD := Lib.hid hbd
        have HK : Hid (k < n) := hlt
        have hki : (k : Int) < (n : Int) := by omega
        clear hgd hbd htk hbel h1 h2
        go_upto_region 6 with (fail)
        by_cases hxy : x = y
        · subst hxy
          have hq : ((str x).toList != (str x).toList) = false := by simp
          go_quiet (fail)
          go_wp2
          go_roundw
          case rel => exact ⟨k + 1, HK.out, by go_num, HGD.out rfl, Below.drewN' HBEL.out _⟩
          case measure => simp [intOf]; have := HK.out; omega
        · have hq := hstr hxy
          have hq2 : ((str x).toList != (str y).toList) = true := by simp only [bne, hq]; rfl
          have HXY : Hid (¬ x = y) := hxy
          go_quiet (fail)
          go_wp2
          go_ret
          exact ⟨congrArg (fun r => Ending.returned (Value.bool r)) (decide_eq_false (HBD.out HXY.out)).symm, Below.drewN' HBEL.out _⟩
      · obtain rfl : k = n := by omega
        have HE : Hid (l = m) := by
          have := HTK.out
          rwa [List.take_of_length_le (by rw [HLN.out]; exact Nat.le_refl _), List.take_of_length_le (by rw [HMN.out]; exact Nat.le_refl _)] at this
        clear htk hbel
        go_wp2
        go_ret
        exact ⟨congrArg (fun r => Ending.returned (Value.bool r)) (decide_eq_true HE.out).symm, HBEL.out⟩
  · rw [decide_eq_false (fun e => hlen (by rw [e]))]
    have hne : ((l.length : Int) == (m.length : Int)) = false := by rw [beq_eq_false_iff_ne]; omega
    have hne2 : ¬ (l.length : Int) = m.length := by omega
    clear hl hm
    generalize l.length = n at *
    generalize m.length = m at *
    go_enter Tryd.func14, Tryd.ntmps14
    go_wp2
    go_ret
    exact ⟨rfl, Below.refl _ _⟩

/-- What was encoded is decoded as it was. -/
theorem tdec_enc (f : Nat) (hf : f < 2) (l : List Tx) (hr : rightT l) (A : Option Addr) (c : Nat) (W : World) (hb : Byt W A (encT f l)) (hA : A = none → c = 0) (hc : (encT f l).length ≤ c) (hm : c ≤ 9223372036854775807) (hT : TabAt W) :
    Calls Tryd.prog 12 #[.slice A (encT f l).length c, .int .i64 (l.length : Int)] W (LsT W l 0) := by
  have hl := encT_len (f := f) hr
  have hn := hr.1
  exact (tdecode_any A c (encT f l) (l.length : Int) W hb hA hc hm (by omega) hT).mono fun e W' h => h.some ⟨f, hf, by omega, by omega, hr, by omega, rfl⟩

theorem cell_lowH {w W : World} {p : Addr} {v : Value} (h : Below w.heap.size w W) (hc : w.cell? p = some v) : W.cell? p = some v := (h.cell (World.block_lt_of_cell? w _ hc)).trans hc
set_option maxRecDepth 100000 in
set_option maxHeartbeats 4000000 in
theorem dback_any (A B : Option Addr) (cap bcap : Nat) (l : List Tx) (b : List UInt8) (n : Int) (W : World) (hl : Strs W A l) (hs : ∀ x ∈ l, x.length ≤ 9223372036854775807) (hn : l.length ≤ 9223372036854775807) (hb : Byt W B b) (hB : B = none → bcap = 0) (hc : b.length ≤ bcap) (hm : bcap ≤ 140737488351232) (hT : TabAt W) :
    Calls Tryd.prog 5 #[.slice A l.length cap, .slice B b.length bcap, .int .i64 n] W fun e W' => e = .returned (.bool true) ∧ Below W.heap.size W W' := by
  have HSH := Lib.hid (shown7_any W hT)
  by_cases hbig : ¬ rightT l
  · have HENC := Lib.hid (fun (w1 : World) (h : Below W.heap.size W w1) => tenc_bad 0 A cap l w1 (hl.keep h) hn hs (.inr hbig))
    clear hl hs hb hT hc hB
    generalize l.length = nl at *
    generalize b.length = nb at *
    go_enter Tryd.func5, Tryd.ntmps5
    go_wp2_with (first | (go_at_call 7; refine HSH.out.mono ?_; rintro e w1 ⟨rfl, hb⟩; have HB := Lib.hid hb; clear hb))
    go_loopw [8] (fun x wr => x = .int .i64 0 ∧ Below W.heap.size W wr) (fun x _ => 0)
    case atStart => exact ⟨rfl, HB.out⟩
    case round =>
      obtain ⟨rfl, hbel⟩ := hrel
      have HBEL := Lib.hid hbel
      clear hbel
      go_wp2_with (go_at_call 8; refine (HENC.out _ HBEL.out).mono ?_; rintro e w2 ⟨rfl, hb2⟩; have HB2 := Lib.hid (HBEL.out.trans (hb2.mono HBEL.out.size)); clear hb2)
      go_ret
      exact ⟨rfl, HB2.out⟩
  · have hbig2 : rightT l := Classical.not_not.1 hbig
    have hn96 : l.length ≤ 4096 := hbig2.1
    have HENC := Lib.hid (fun f (hf : f < 2) (w1 : World) (h : Below W.heap.size W w1) => tenc_any f hf A cap l w1 (hl.keep h) hbig2 (hT.keep h))
    have HDEC := Lib.hid (fun f (hf : f < 2) (A : Option Addr) (c : Nat) (w1 : World) (h : Below W.heap.size W w1) (hy : Byt w1 A (encT f l)) (hA : A = none → c = 0) (hc : (encT f l).length ≤ c) (hm : c ≤ 9223372036854775807) => tdec_enc f hf l hbig2 A c w1 hy hA hc hm (hT.keep h))
    have HSM := Lib.hid (fun (B : Option Addr) (c d : Nat) (w : World) (h : Below W.heap.size W w) (hb : Strs w B l) => same7_any A B c d l l w (hl.keep h) hb (by omega) (by omega))
    simp only [decide_true] at HSM
    have HDB := Lib.hid (fun (w1 : World) (h : Below W.heap.size W w1) => tdecode_any B bcap b n w1 (hb.keep h) hB hc (by omega) (by omega) (hT.keep h))
    have HBY := Lib.hid hb
    have HT := Lib.hid hT
    have HREF : Hid (Below W.heap.size W W) := Below.refl _ _
    unfold LaidT at HENC
    unfold LsT at HDEC
    obtain ⟨nl, hnl⟩ : ∃ nl, l.length = nl := ⟨_, rfl⟩
    rw [hnl] at HENC HDEC HSM ⊢
    obtain ⟨nb, hnb⟩ : ∃ nb, b.length = nb := ⟨_, rfl⟩
    have HNB := Lib.hid hnb
    have HNL := Lib.hid hnl
    rw [hnb] at HDB hc ⊢
    clear hl hs hb hT hB hnl hnb hbig hbig2 hn96 hn
    go_enter Tryd.func5, Tryd.ntmps5
    go_wp2_with (go_at_call 7; refine HSH.out.mono ?_; rintro e w1 ⟨rfl, hb⟩; have HB := Lib.hid hb; clear hb)
    go_loopw [8] (fun x wr => ∃ k : Nat, k ≤ 2 ∧ x = .int .i64 k ∧ Below W.heap.size W wr) (fun x _ => 2 - (intOf x).toNat)
    case atStart => exact ⟨0, by omega, rfl, HB.out⟩
    case round =>
      obtain ⟨k, hk, rfl, hbel⟩ := hrel
      have HBEL := Lib.hid hbel
      clear hbel
      by_cases hlt : k < 2
      · have henc := HENC.out k hlt _ HBEL.out
        have hdec := HDEC.out k hlt
        obtain ⟨eb, heb⟩ : ∃ eb, encT k l = eb := ⟨_, rfl⟩
        rw [heb] at henc hdec
        obtain ⟨ne, hne⟩ : ∃ ne, eb.length = ne := ⟨_, rfl⟩
        rw [hne] at hdec
        have HNE := Lib.hid hne
        have HE := Lib.hid henc
        have HD := Lib.hid hdec
        have HK : Hid (k < 2) := hlt
        clear henc hdec heb hne
        go_wp2_with (first | (go_at_call 8; refine HE.out.mono ?_; rintro e w2 ⟨v2, rfl, ho, hb2⟩; obtain ⟨A2, c2, rfl, hy2, hn2, hl2, hm2⟩ := ho.form; rw [HNE.out] at hl2 ⊢; have HN2 := Lib.hid hn2; have HB2 := Lib.hid (HBEL.out.trans (hb2.mono HBEL.out.size)); have HY2 := Lib.hid hy2; have HL2 := Lib.hid hl2; have HM2 : Hid (c2 ≤ 9223372036854775807) := hm2; clear ho hb2 hy2 hl2 hm2 hn2) | (go_at_call 12; refine (HD.out A2 c2 w2 HB2.out HY2.out HN2.out HL2.out HM2.out).mono ?_; rintro e w3 ⟨A3, c3, rfl, hi3, _, hb3⟩; have HB3 := Lib.hid (HB2.out.trans (hb3.mono HB2.out.size)); have HI3 := Lib.hid hi3; clear hb3 hi3) | (go_at_call 14; refine (HSM.out A3 cap c3 w3 HB3.out HI3.out).mono ?_; rintro e w4 ⟨rfl, hb4⟩; have HB4 := Lib.hid (HB3.out.trans (hb4.mono HB3.out.size)); clear hb4))
        go_roundw
        case rel => exact ⟨k + 1, HK.out, by go_num, HB4.out⟩
        case measure => simp [intOf]; have := HK.out; omega
      · obtain rfl : k = 2 := by omega
        have hdb := HDB.out _ HBEL.out
        by_cases hex : ∃ l0, decT b n l0
        · obtain ⟨l0, hl0⟩ := hex
          have HD := Lib.hid (hdb.mono fun e W' h => h.some hl0)
          obtain ⟨f, hf, hn0, hn1, hr0, hln0, heb⟩ := hl0
          have hbl : 0 < b.length := by rw [← heb]; unfold encT; simp
          obtain ⟨bx, ox, rfl, hca⟩ := HBY.out 0 hbl
          have hcf : (b[0]).toNat = f := by
            subst heb
            show (UInt8.ofNat f).toNat = f
            rw [UInt8.toNat_ofNat']; omega
          rw [hcf] at hca
          have hca0 : W.cell? ⟨bx, ox, none⟩ = some (.int .u8 (f : Int)) := hca
          have HCA := Lib.hid hca0
          obtain ⟨m, hm0⟩ : ∃ m, l0.length = m := ⟨_, rfl⟩
          obtain rfl : n = (m : Int) := by omega
          have HEN := Lib.hid (fun (A : Option Addr) (c : Nat) (w1 : World) (h : Below W.heap.size W w1) (hi : Strs w1 A l0) (hcl : m ≤ c) => tenc_any f hf A c l0 w1 hi hr0 (HT.out.keep h))
          unfold LsT at HD
          unfold LaidT at HEN
          rw [heb, hm0] at HEN
          rw [hm0] at HD
          have hcv : IntKind.i64.wrap (f : Int) = (f : Int) := by rw [IntKind.wrap_i64]; omega
          have h0b : 0 < nb := by rw [← HNB.out]; exact hbl
          have hzb : (0 : Int) < (nb : Int) := by omega
          clear hdb hca hca0 hbl heb hr0 hln0 hcf hm0 hlt
          go_wp2_with (first | (go_at_call 12; refine HD.out.mono ?_; rintro e w2 ⟨A2, c2, rfl, hi2, hc2, hb2⟩; have HB2 := Lib.hid (HBEL.out.trans (hb2.mono HBEL.out.size)); have HI2 := Lib.hid hi2; have HC2 := Lib.hid hc2; have hcw := cell_lowH HB2.out HCA.out; clear hb2 hi2 hc2) | (go_at_call 8; refine (HEN.out A2 c2 w2 HB2.out HI2.out HC2.out).mono ?_; rintro e w3 ⟨v3, rfl, ho, hb3⟩; obtain ⟨A3, c3, rfl, hy3, _, _, _⟩ := ho.form; have HB3 := Lib.hid (HB2.out.trans (hb3.mono HB2.out.size)); have hc1 := conv hy3 c3; have hc2 := conv (HBY.out.keep HB3.out) bcap; rw [HNB.out] at hc1 hc2 ⊢; clear ho hb3 hy3))
          go_ret
          exact ⟨rfl, HB3.out⟩
        · have HD := Lib.hid (hdb.mono fun e W' h => h.none (fun l hl => hex ⟨l, hl⟩))
          unfold LsT at HD
          obtain ⟨er, her⟩ : ∃ er : Int, (if n < 0 ∨ 4096 < n then (2 : Int) else 70) = er := ⟨_, rfl⟩
          rw [her] at HD
          have hez : ¬ er = 0 := by rw [← her]; split <;> decide
          have hei : (er != 0) = true := by simp [hez]
          have hei2 : (er == 0) = false := by simp [hez]
          clear hdb hex her hlt
          go_wp2_with (go_at_call 12; refine HD.out.mono ?_; rintro e w2 ⟨A2, c2, rfl, _, _, hb2⟩; have HB2 := Lib.hid (HBEL.out.trans (hb2.mono HBEL.out.size)); clear hb2)
          go_ret
          exact ⟨rfl, HB2.out⟩
end Go.Proofs.YtjmkipbolldhgaaDoor
