/- The walk of stackyardlaw06.IntsBack. -/
import Derived.Test.YtdchaojgldfagaaDoorInZC
namespace Go.Proofs.YtdchaojgldfagaaDoor
open Go.RowKit
set_option linter.unusedVariables false

/-- What was encoded is decoded as it was. -/
theorem dec_enc (f : Nat) (hf : f < 4) (l : List Int) (h64 : All64 l) (hn : l.length ≤ 4096) (A : Option Addr) (c : Nat) (W : World) (hb : Byt W A (encI f l)) (hc : (encI f l).length ≤ c) (hm : c ≤ 9223372036854775807) (hT : TabAt W) :
    Calls Tryd.prog 14 #[.slice A (encI f l).length c, .int .i64 (l.length : Int)] W (LsE W l 0) := by
  have hl := encB_len (f := f) hn
  have hl2 : (encI f l).length ≤ 100001 := by unfold encI; rw [List.length_cons]; omega
  exact (decode_any A c (encI f l) (l.length : Int) W hb hc hm (by omega) hT).mono fun e W' h => h.some ⟨f, hf, by omega, by omega, h64, by omega, rfl⟩

set_option maxRecDepth 100000 in
set_option maxHeartbeats 4000000 in
theorem iback_any (A B : Option Addr) (cap bcap : Nat) (l : List Int) (b : List UInt8) (n : Int) (W : World) (hl : Ints W A l) (h64 : All64 l) (hn : l.length ≤ 4611686018427387904) (hcap : l.length ≤ cap) (hb : Byt W B b) (hc : b.length ≤ bcap) (hm : bcap ≤ 140737488351232) (hT : TabAt W) :
    Calls Tryd.prog 5 #[.slice A l.length cap, .slice B b.length bcap, .int .i64 n] W fun e W' => e = .returned (.bool true) ∧ Below W.heap.size W W' := by
  have HSH := Lib.hid (shown6_any W hT)
  by_cases hbig : 4096 < l.length
  · have HENC := Lib.hid (fun (w1 : World) => enc_bad 0 A cap l.length w1 hn (.inr (.inr hbig)))
    have hgt : (4096 : Int) < (l.length : Int) := by omega
    clear hl h64 hb hT hc hcap
    generalize l.length = nl at *
    generalize b.length = nb at *
    go_enter Tryd.func5, Tryd.ntmps5
    go_wp2_with (first | (go_at_call 9; refine HSH.out.mono ?_; rintro e w1 ⟨rfl, hb⟩; have HB := Lib.hid hb; clear hb) | (go_at_call 10; refine (HENC.out _).mono ?_; rintro e w2 ⟨rfl, rfl⟩))
    go_loopw [8] (fun x wr => x = .int .i64 0 ∧ Below W.heap.size W wr) (fun x _ => 0)
    case atStart => exact ⟨rfl, HB.out⟩
    case round =>
      obtain ⟨rfl, hbel⟩ := hrel
      have HBEL := Lib.hid hbel
      clear hbel
      go_wp2_with (go_at_call 10; refine (HENC.out _).mono ?_; rintro e w2 ⟨rfl, rfl⟩)
      go_ret
      exact ⟨rfl, HBEL.out⟩
  · have hn96 : l.length ≤ 4096 := by omega
    have HENC := Lib.hid (fun f (hf : f < 4) (w1 : World) (h : Below W.heap.size W w1) => enc_any f hf A cap l w1 (hl.keep h) h64 hn96 hcap (hT.keep h))
    have HDEC := Lib.hid (fun f (hf : f < 4) (A : Option Addr) (c : Nat) (w1 : World) (h : Below W.heap.size W w1) (hy : Byt w1 A (encI f l)) (hc : (encI f l).length ≤ c) (hm : c ≤ 9223372036854775807) => dec_enc f hf l h64 hn96 A c w1 hy hc hm (hT.keep h))
    have HSM := Lib.hid (fun (B : Option Addr) (c d : Nat) (w : World) (h : Below W.heap.size W w) (hb : Ints w B l) => same_any A B c d l l w (hl.keep h) hb (by omega) (by omega))
    simp only [decide_true] at HSM
    have HDB := Lib.hid (fun (w1 : World) (h : Below W.heap.size W w1) => decode_any B bcap b n w1 (hb.keep h) hc (by omega) (by omega) (hT.keep h))
    have HBY := Lib.hid hb
    have HT := Lib.hid hT
    have HREF : Hid (Below W.heap.size W W) := Below.refl _ _
    unfold LaidI at HENC
    unfold LsE at HDEC
    obtain ⟨nl, hnl⟩ : ∃ nl, l.length = nl := ⟨_, rfl⟩
    rw [hnl] at HENC HDEC HSM ⊢
    obtain ⟨nb, hnb⟩ : ∃ nb, b.length = nb := ⟨_, rfl⟩
    have HNB := Lib.hid hnb
    have HNL := Lib.hid hnl
    rw [hnb] at HDB hc ⊢
    clear hl h64 hb hT hcap hnl hnb hbig hn96 hn
    go_enter Tryd.func5, Tryd.ntmps5
    go_wp2_with (go_at_call 9; refine HSH.out.mono ?_; rintro e w1 ⟨rfl, hb⟩; have HB := Lib.hid hb; clear hb)
    go_loopw [8] (fun x wr => ∃ k : Nat, k ≤ 4 ∧ x = .int .i64 k ∧ Below W.heap.size W wr) (fun x _ => 4 - (intOf x).toNat)
    case atStart => exact ⟨0, by omega, rfl, HB.out⟩
    case round =>
      obtain ⟨k, hk, rfl, hbel⟩ := hrel
      have HBEL := Lib.hid hbel
      clear hbel
      by_cases hlt : k < 4
      · have henc := HENC.out k hlt _ HBEL.out
        have hdec := HDEC.out k hlt
        obtain ⟨eb, heb⟩ : ∃ eb, encI k l = eb := ⟨_, rfl⟩
        rw [heb] at henc hdec
        obtain ⟨ne, hne⟩ : ∃ ne, eb.length = ne := ⟨_, rfl⟩
        rw [hne] at hdec
        have HNE := Lib.hid hne
        have HE := Lib.hid henc
        have HD := Lib.hid hdec
        have HK : Hid (k < 4) := hlt
        clear henc hdec heb hne
        go_wp2_with (first | (go_at_call 10; refine HE.out.mono ?_; rintro e w2 ⟨v2, rfl, ho, hb2⟩; obtain ⟨A2, c2, rfl, hy2, _, hl2, hm2⟩ := ho.form; rw [HNE.out] at hl2 ⊢; have HB2 := Lib.hid (HBEL.out.trans (hb2.mono HBEL.out.size)); have HY2 := Lib.hid hy2; have HL2 := Lib.hid hl2; have HM2 : Hid (c2 ≤ 9223372036854775807) := hm2; clear ho hb2 hy2 hl2 hm2) | (go_at_call 14; refine (HD.out A2 c2 w2 HB2.out HY2.out HL2.out HM2.out).mono ?_; rintro e w3 ⟨A3, c3, rfl, hi3, _, hb3⟩; have HB3 := Lib.hid (HB2.out.trans (hb3.mono HB2.out.size)); have HI3 := Lib.hid hi3; clear hb3 hi3) | (go_at_call 16; refine (HSM.out A3 cap c3 w3 HB3.out HI3.out).mono ?_; rintro e w4 ⟨rfl, hb4⟩; have HB4 := Lib.hid (HB3.out.trans (hb4.mono HB3.out.size)); clear hb4))
        go_roundw
        case rel => exact ⟨k + 1, HK.out, by go_num, HB4.out⟩
        case measure => simp [intOf]; have := HK.out; omega
      · obtain rfl : k = 4 := by omega
        have hdb := HDB.out _ HBEL.out
        by_cases hex : ∃ l0, decP b n l0
        · obtain ⟨l0, hl0⟩ := hex
          have HD := Lib.hid (hdb.mono fun e W' h => h.some hl0)
          obtain ⟨f, hf, hn0, hn1, h640, hln0, heb⟩ := hl0
          have hbl : 0 < b.length := by rw [← heb]; unfold encI; simp
          obtain ⟨bx, ox, rfl, hca⟩ := HBY.out 0 hbl
          have hcf : (b[0]).toNat = f := by
            subst heb
            show (UInt8.ofNat f).toNat = f
            rw [UInt8.toNat_ofNat']; omega
          rw [hcf] at hca
          have hca0 : W.cell? ⟨bx, ox, none⟩ = some (.int .u8 (f : Int)) := hca
          have HCA := Lib.hid hca0
          obtain ⟨m, hm0⟩ : ∃ m, l0.length = m := ⟨_, rfl⟩
          obtain rfl : n = (m : Int) := by omega
          have HEN := Lib.hid (fun (A : Option Addr) (c : Nat) (w1 : World) (h : Below W.heap.size W w1) (hi : Ints w1 A l0) (hcl : m ≤ c) => enc_any f hf A c l0 w1 hi h640 (by omega) (by omega) (HT.out.keep h))
          unfold LsE at HD
          unfold LaidI at HEN
          rw [heb, hm0] at HEN
          rw [hm0] at HD
          have hcv : IntKind.i64.wrap (f : Int) = (f : Int) := by rw [IntKind.wrap_i64]; omega
          have h0b : 0 < nb := by rw [← HNB.out]; exact hbl
          have hzb : (0 : Int) < (nb : Int) := by omega
          clear hdb hca hca0 hbl heb h640 hln0 hcf hm0 hlt
          go_wp2_with (first | (go_at_call 14; refine HD.out.mono ?_; rintro e w2 ⟨A2, c2, rfl, hi2, hc2, hb2⟩; have HB2 := Lib.hid (HBEL.out.trans (hb2.mono HBEL.out.size)); have HI2 := Lib.hid hi2; have HC2 := Lib.hid hc2; have hcw := cell_low HB2.out HCA.out; clear hb2 hi2 hc2) | (go_at_call 10; refine (HEN.out A2 c2 w2 HB2.out HI2.out HC2.out).mono ?_; rintro e w3 ⟨v3, rfl, ho, hb3⟩; obtain ⟨A3, c3, rfl, hy3, _, _, _⟩ := ho.form; have HB3 := Lib.hid (HB2.out.trans (hb3.mono HB2.out.size)); have hc1 := conv hy3 c3; have hc2 := conv (HBY.out.keep HB3.out) bcap; rw [HNB.out] at hc1 hc2 ⊢; clear ho hb3 hy3))
          go_ret
          exact ⟨rfl, HB3.out⟩
        · have HD := Lib.hid (hdb.mono fun e W' h => h.none (fun l hl => hex ⟨l, hl⟩))
          unfold LsE at HD
          obtain ⟨er, her⟩ : ∃ er : Int, (if n < 0 ∨ 4096 < n then (2 : Int) else 60) = er := ⟨_, rfl⟩
          rw [her] at HD
          have hez : ¬ er = 0 := by rw [← her]; split <;> decide
          have hei : (er != 0) = true := by simp [hez]
          have hei2 : (er == 0) = false := by simp [hez]
          clear hdb hex her hlt
          go_wp2_with (go_at_call 14; refine HD.out.mono ?_; rintro e w2 ⟨A2, c2, rfl, _, _, hb2⟩; have HB2 := Lib.hid (HBEL.out.trans (hb2.mono HBEL.out.size)); clear hb2)
          go_ret
          exact ⟨rfl, HB2.out⟩
end Go.Proofs.YtdchaojgldfagaaDoor
